/- THE WALKS of larderkeep.has and of the statement Meets. -/
import Derived.Test.YtheichphnppagaaWholeLaw
namespace Go.Proofs.Ytheichphnppagaa
open Go.RowKit

theorem bl_app (s t : ByteArray) : bl (s ++ t) = bl s ++ bl t := by
  unfold bl
  simp [ByteArray.data_append]

def hasB (C : List Nat) (q : Nat) : Bool := decide (q ∈ C)
theorem has_hit {C : List Nat} {q i : Nat} (hi : i < C.length) (h : C.getD i 0 = q) : Ending.returned (.bool true) = .returned (.bool (hasB C q)) := by
  unfold hasB
  have : q ∈ C := by
    rw [← h]
    simp [List.getD_eq_getElem?_getD, hi]
  rw [decide_eq_true this]
theorem has_miss {C : List Nat} {q : Nat} (h : ∀ j, j < C.length → C.getD j 0 ≠ q) : Ending.returned (.bool false) = .returned (.bool (hasB C q)) := by
  unfold hasB
  have : ¬ q ∈ C := by
    intro hm
    obtain ⟨j, hj, e⟩ := List.mem_iff_getElem.1 hm
    exact h j hj (by simp [List.getD_eq_getElem?_getD, hj, e])
  rw [decide_eq_false this]

set_option maxRecDepth 100000 in
set_option maxHeartbeats 1600000 in
theorem has_any (w : World) (g cap : Nat) (C : List Nat) (q : Nat) (Q : Int) (hQ : Q = q) (hl : C.length ≤ 2000) (cell : ∀ j, j < C.length → w.cell? ⟨g, j, none⟩ = some (.int .i64 ((C.getD j 0 : Nat) : Int))) :
    Calls Try.prog 14 #[.slice (some ⟨g, 0, none⟩) C.length cap, .int .i64 Q] w fun e w' => e = .returned (.bool (hasB C q)) ∧ w' = w := by
  subst hQ
  go_enter Try.func14, Try.ntmps14
  go_wp2
  go_loop [5] (fun v5 => ∃ i : Nat, v5 = .int .i64 i ∧ i ≤ C.length ∧ Hid (∀ j, j < i → C.getD j 0 ≠ q)) (fun v5 => C.length - (intOf v5).toNat)
  case atStart => exact ⟨0, rfl, by omega, fun j hj => by omega⟩
  case round =>
    obtain ⟨i, rfl, hi, H⟩ := hrel
    by_cases hlt : (i : Int) < (C.length : Int)
    · have ci := cell i (by omega)
      obtain ⟨y, hy⟩ : ∃ y, C.getD i 0 = y := ⟨_, rfl⟩
      rw [hy] at ci
      have HY : Hid (C.getD i 0 = y) := hy
      clear hy
      by_cases he : ((y : Int) == (q : Int)) = true
      · have e : y = q := by have := beq_iff_eq.1 he; omega
        have EE : Hid (y = q) := e
        clear e
        go_wp2
        go_ret
        exact ⟨has_hit (i := i) (by omega) (by rw [HY.out, EE.out]), rfl⟩
      · have he' : ((y : Int) == (q : Int)) = false := by simpa using he
        have e : y ≠ q := fun e => he (by subst e; simp)
        have H' : Hid (∀ j, j < i + 1 → C.getD j 0 ≠ q) := by
          intro j hj
          by_cases c : j < i
          · exact H.out j c
          · obtain rfl : j = i := by omega
            rw [HY.out]
            exact e
        clear e he
        go_wp2
        exact ⟨⟨i + 1, by go_num, by omega, H'⟩, by simp [intOf]; omega⟩
    · have e : i = C.length := by omega
      have H' := H.out
      rw [e] at H'
      have HH : Hid (∀ j, j < C.length → C.getD j 0 ≠ q) := H'
      clear H' e H
      go_wp2
      go_ret
      exact ⟨has_miss HH.out, rfl⟩

set_option maxRecDepth 100000 in
set_option maxHeartbeats 4000000 in
theorem meets_any (sa sb sm sx sy : ByteArray) (a b c : Int) (w : World) (ha : -9223372036854775808 ≤ a ∧ a ≤ 9223372036854775807) (hb : -9223372036854775808 ≤ b ∧ b ≤ 9223372036854775807) (hc : -9223372036854775808 ≤ c ∧ c ≤ 9223372036854775807) :
    Calls Try.prog 5 #[.string sa, .string sb, .string sm, .string sx, .string sy, .agg #[.int .i64 a, .int .i64 b, .int .i64 c]] w fun e w' => e = .returned (.bool true) ∧ Below w.heap.size w w' := by
  have hB0 : Below w.heap.size w (w.alloc (.cells #[.int .i64 a, .int .i64 b, .int .i64 c] 34)) := (Below.refl _ _).alloc (Nat.le_refl _) _
  go_enter Try.func5, Try.ntmps5
  go_wp2_with fail
  refine (config_any a b c _ ha hb hc).mono ?_
  rintro e w1 ⟨mn, mx, bt, rfl, h1, h2, h3, h4, h5, hB1⟩
  have B1 : Below w.heap.size w w1 := hB0.trans (hB1.mono (by simp))
  clear hB0 hB1
  go_wp2_with fail
  refine (short_eq sa 500 _ _ rfl (by omega)).mono ?_
  rintro e w' ⟨rfl, rfl⟩
  obtain ⟨A, hA⟩ : ∃ A, shortB sa 500 = A := ⟨_, rfl⟩
  have zA : A.size ≤ 500 := by rw [← hA, shortB_size]; omega
  rw [hA]
  clear hA
  go_wp2_with fail
  refine (short_eq sb 500 _ _ rfl (by omega)).mono ?_
  rintro e w' ⟨rfl, rfl⟩
  obtain ⟨D, hD⟩ : ∃ D, shortB sb 500 = D := ⟨_, rfl⟩
  have zD : D.size ≤ 500 := by rw [← hD, shortB_size]; omega
  rw [hD]
  clear hD
  go_wp2_with fail
  refine (short_eq sm 900 _ _ rfl (by omega)).mono ?_
  rintro e w' ⟨rfl, rfl⟩
  have zM := shortB_size sm 900
  go_wp2_with fail
  obtain ⟨M, hM⟩ : ∃ M, shortB sm 900 ++ ⟨#[35]⟩ = M := ⟨_, rfl⟩
  have zM1 : M.size = (shortB sm 900).size + 1 := by rw [← hM]; simp [ByteArray.size_append]; rfl
  have zM2 : 0 < M.size ∧ M.size ≤ 901 := by omega
  clear zM zM1
  rw [hM]
  clear hM
  refine (short_eq sx 500 _ _ rfl (by omega)).mono ?_
  rintro e w' ⟨rfl, rfl⟩
  obtain ⟨X, hX⟩ : ∃ X, shortB sx 500 = X := ⟨_, rfl⟩
  have zX : X.size ≤ 500 := by rw [← hX, shortB_size]; omega
  rw [hX]
  clear hX
  go_wp2_with fail
  refine (short_eq sy 500 _ _ rfl (by omega)).mono ?_
  rintro e w' ⟨rfl, rfl⟩
  obtain ⟨Y, hY⟩ : ∃ Y, shortB sy 500 = Y := ⟨_, rfl⟩
  have zY : Y.size ≤ 500 := by rw [← hY, shortB_size]; omega
  rw [hY]
  clear hY
  have hR := Row.new w1 23 [.int .i64 mn, .int .i64 mx, .int .i64 bt, .int .i64 60000]
  have hok : okB mn mx bt 60000 = true := decide_eq_true (by unfold Ok; omega)
  have hK0 : (A ++ M ++ X).size ≤ 2000 := by simp [ByteArray.size_append]; omega
  have hL0 : (D ++ M ++ Y).size ≤ 2000 := by simp [ByteArray.size_append]; omega
  have hbA := bl_length A
  have hbD := bl_length D
  have hbM := bl_length M
  have eK : bl (A ++ M ++ X) = bl A ++ bl M ++ bl X := by rw [bl_app, bl_app]
  have eL : bl (D ++ M ++ Y) = bl D ++ bl M ++ bl Y := by rw [bl_app, bl_app]
  obtain ⟨nK, _⟩ := cuts_ne (bl A ++ bl M ++ bl X) (bt := bt) (by omega : 1 ≤ mn) h2 (by simp; omega)
  obtain ⟨nL, _⟩ := cuts_ne (bl D ++ bl M ++ bl Y) (bt := bt) (by omega : 1 ≤ mn) h2 (by simp; omega)
  have lK : (cuts (bl A ++ bl M ++ bl X) mn mx bt).length ≤ 2000 := by
    have := cutsF_length (bl A ++ bl M ++ bl X) (mn := mn) (mx := mx) (bits := bt) (bl A ++ bl M ++ bl X).length 0
    rw [← eK, bl_length] at this
    unfold cuts
    rw [← eK, bl_length]
    omega
  have lL : (cuts (bl D ++ bl M ++ bl Y) mn mx bt).length ≤ 2000 := by
    have := cutsF_length (bl D ++ bl M ++ bl Y) (mn := mn) (mx := mx) (bits := bt) (bl D ++ bl M ++ bl Y).length 0
    rw [← eL, bl_length] at this
    unfold cuts
    rw [← eL, bl_length]
    omega
  have meetKL := fun p q => cuts_meet (bl A) (bl D) (bl M) (bl X) (bl Y) (mn := mn) (mx := mx) (bits := bt) h1 h2 p q
  have meetLK := fun p q => cuts_meet (bl D) (bl A) (bl M) (bl Y) (bl X) (mn := mn) (mx := mx) (bits := bt) h1 h2 p q
  rw [hbA, hbD, hbM] at meetKL meetLK
  go_wp2_with fail
  refine (lcuts_ok (A ++ M ++ X) mn mx bt 60000 _ hok hK0).mono ?_
  rintro e w2 ⟨v, rfl, hv, hB2⟩
  rw [eK] at hv
  have hR2 := hR.below hB2 (by simp)
  have B2 : Below w.heap.size w w2 := (B1.alloc B1.size _).trans (hB2.mono (by have := B1.size; simp; omega))
  have k0 : w2.cell? ⟨w1.heap.size, 0, none⟩ = some (.int .i64 mn) := hR2.cell 0
  have k1 : w2.cell? ⟨w1.heap.size, 1, none⟩ = some (.int .i64 mx) := hR2.cell 1
  have k2 : w2.cell? ⟨w1.heap.size, 2, none⟩ = some (.int .i64 bt) := hR2.cell 2
  have k3 : w2.cell? ⟨w1.heap.size, 3, none⟩ = some (.int .i64 60000) := hR2.cell 3
  clear hR hB2 B1 eK hK0
  go_wp2_with fail
  refine (lcuts_ok (D ++ M ++ Y) mn mx bt 60000 _ hok hL0).mono ?_
  rintro e w3 ⟨u, rfl, hu, hB3⟩
  rw [eL] at hu
  have hv := hv.below hB3
  have B3 : Below w.heap.size w w3 := B2.trans (hB3.mono B2.size)
  clear k0 k1 k2 k3 hR2 hB3 B2 eL hL0 hok
  generalize cuts (bl A ++ bl M ++ bl X) mn mx bt = K at *
  generalize cuts (bl D ++ bl M ++ bl Y) mn mx bt = L at *
  obtain ⟨g, cap, rfl⟩ := hv.shape (by rw [ints_length]; exact nK)
  obtain ⟨h, kap, rfl⟩ := hu.shape (by rw [ints_length]; exact nL)
  have cellK : ∀ j, j < K.length → w3.cell? ⟨g, j, none⟩ = some (.int .i64 ((K.getD j 0 : Nat) : Int)) := fun j hj => by
    rw [hv.cell j (by rw [ints_length]; exact hj), ints_getD]
  have cellL : ∀ j, j < L.length → w3.cell? ⟨h, j, none⟩ = some (.int .i64 ((L.getD j 0 : Nat) : Int)) := fun j hj => by
    rw [hu.cell j (by rw [ints_length]; exact hj), ints_getD]
  rw [ints_length, ints_length]
  have eK0 : ((K.length : Int) == 0) = false := beq_eq_false_iff_ne.2 (by omega)
  have eL0 : ((L.length : Int) == 0) = false := beq_eq_false_iff_ne.2 (by omega)
  clear hv hu
  go_wp2_with fail
  go_loop [20, 21, 22, 23] (fun v20 v21 v22 v23 => ∃ (m : Bool) (p : Nat), v20 = .bool m ∧ v21 = .int .i64 p ∧ p ≤ M.size ∧ Hid (m = true → ∃ p0, p0 < p ∧ A.size + p0 ∈ K ∧ D.size + p0 ∈ L)) (fun _ v21 _ _ => M.size - (intOf v21).toNat)
  case atStart => exact ⟨false, 0, rfl, rfl, by omega, fun h => by cases h⟩
  case round =>
    obtain ⟨m, p, rfl, rfl, hp, H⟩ := hrel
    by_cases hlt : (p : Int) < (M.size : Int)
    · go_wp2_with fail
      refine (has_any _ g cap K (A.size + p) _ (by omega) lK cellK).mono ?_
      rintro e w' ⟨rfl, rfl⟩
      go_wp2_with fail
      refine (has_any _ h kap L (D.size + p) _ (by omega) lL cellL).mono ?_
      rintro e w' ⟨rfl, rfl⟩
      have key : m = true → hasB K (A.size + p) = hasB L (D.size + p) := fun hm => by
        obtain ⟨p0, q1, q2, q3⟩ := H.out hm
        unfold hasB
        refine decide_eq_decide.2 ⟨fun x => ?_, fun x => ?_⟩
        · exact meetKL p0 p q1 (by omega) q2 q3 x
        · exact meetLK p0 p q1 (by omega) q3 q2 x
      have hitK : hasB K (A.size + p) = true → A.size + p ∈ K := fun x => of_decide_eq_true x
      have hitL : hasB L (D.size + p) = true → D.size + p ∈ L := fun x => of_decide_eq_true x
      have KEY : Hid (m = true → hasB K (A.size + p) = hasB L (D.size + p)) := key
      have HK : Hid (hasB K (A.size + p) = true → A.size + p ∈ K) := hitK
      have HL : Hid (hasB L (D.size + p) = true → D.size + p ∈ L) := hitL
      clear key hitK hitL
      have grow : Hid (m = true → ∃ p0, p0 < p + 1 ∧ A.size + p0 ∈ K ∧ D.size + p0 ∈ L) := fun x => by
        obtain ⟨p0, q1, q2⟩ := H.out x
        exact ⟨p0, by omega, q2⟩
      generalize hasB K (A.size + p) = i at *
      generalize hasB L (D.size + p) = j at *
      cases m <;> cases i <;> cases j
      · go_wp2
        exact ⟨⟨false, p + 1, rfl, by go_num, by omega, fun x => Bool.noConfusion x⟩, by simp [intOf]; omega⟩
      · go_wp2
        exact ⟨⟨false, p + 1, rfl, by go_num, by omega, fun x => Bool.noConfusion x⟩, by simp [intOf]; omega⟩
      · go_wp2
        exact ⟨⟨false, p + 1, rfl, by go_num, by omega, fun x => Bool.noConfusion x⟩, by simp [intOf]; omega⟩
      · go_wp2
        exact ⟨⟨true, p + 1, rfl, by go_num, by omega, fun _ => ⟨p, by omega, HK.out trivial, HL.out trivial⟩⟩, by simp [intOf]; omega⟩
      · go_wp2
        exact ⟨⟨true, p + 1, rfl, by go_num, by omega, fun _ => grow.out trivial⟩, by simp [intOf]; omega⟩
      · exact absurd (KEY.out rfl) (fun h => Bool.noConfusion h)
      · exact absurd (KEY.out rfl) (fun h => Bool.noConfusion h)
      · go_wp2
        exact ⟨⟨true, p + 1, rfl, by go_num, by omega, fun _ => grow.out trivial⟩, by simp [intOf]; omega⟩
    · go_wp2
      go_ret
      exact ⟨rfl, B3⟩

end Go.Proofs.Ytheichphnppagaa
