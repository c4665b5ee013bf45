/- THE WALK of the statement Whole. -/
import Derived.Test.YtheichphnppagaaConf
namespace Go.Proofs.Ytheichphnppagaa
open Go.RowKit

theorem IBuf.shape {B : Nat} {w : World} {v : Value} {l : List Int} (h : IBuf B w v l) (hl : 0 < l.length) : ∃ g cap, v = .slice (some ⟨g, 0, none⟩) l.length cap := by
  rcases h.form with ⟨rfl, rfl⟩ | ⟨g, cap, rfl, _⟩
  · simp at hl
  · exact ⟨g, cap, rfl⟩

theorem cuts_ne (l : List UInt8) {mn mx bt : Nat} (h1 : 1 ≤ mn) (h2 : mn ≤ mx) (hl : 0 < l.length) : 0 < (cuts l mn mx bt).length ∧ (cuts l mn mx bt).getD ((cuts l mn mx bt).length - 1) 0 = l.length := by
  have h := cutsF_whole l (bits := bt) h1 h2 l.length 0 (by omega) hl
  have e : 0 < (cuts l mn mx bt).length := List.length_pos_iff.2 h.1
  refine ⟨e, ?_⟩
  have h2 := h.2
  rw [List.getLast?_eq_getElem?] at h2
  rw [List.getD_eq_getElem?_getD]
  unfold cuts
  rw [h2]
  rfl

/-- One round of the look through the cuts. -/
theorem whole_step {l : List UInt8} {mn mx bt f last i n : Nat} {C : List Nat} (h1 : 1 ≤ mn) (h2 : mn ≤ mx) (hC : C.drop i = cutsF l mn mx bt f last) (hf : l.length - last ≤ f) (hi : i < C.length) (hn : C.getD i 0 = n) :
    ∃ g, f = g + 1 ∧ last < n ∧ n ≤ last + mx ∧ n ≤ l.length ∧ (i + 1 < C.length → last + mn ≤ n) ∧ C.drop (i + 1) = cutsF l mn mx bt g n := by
  have hd : C.drop i = n :: C.drop (i + 1) := by
    rw [List.drop_eq_getElem_cons hi, ← hn]
    simp [List.getD_eq_getElem?_getD, hi]
  cases f with
  | zero => rw [hd] at hC; simp [cutsF] at hC
  | succ g =>
    rw [hd] at hC
    simp only [cutsF] at hC
    by_cases hl : last < l.length
    · rw [if_pos hl] at hC
      obtain ⟨e1, e2⟩ := List.cons.inj hC
      have a1 := nextCut_gt l (bits := bt) h1 h2 hl
      have a2 := nextCut_le l mn mx bt last
      have a3 := nextCut_min l (bits := bt) (last := last) h2
      rw [← e1] at a1 a2 a3 e2
      refine ⟨g, rfl, a1, by omega, by omega, fun hlt => ?_, e2⟩
      rcases a3 with a3 | a3
      · have hne : C.drop (i + 1) ≠ [] := by
          intro x
          have := congrArg List.length x
          simp at this
          omega
        rw [e2, a3] at hne
        exact absurd (by cases g <;> simp [cutsF]) hne
      · exact a3
    · rw [if_neg hl] at hC
      simp at hC
theorem ints_getD (C : List Nat) (i : Nat) : (ints C).getD i 0 = ((C.getD i 0 : Nat) : Int) := by
  unfold ints
  rw [List.getD_eq_getElem?_getD, List.getD_eq_getElem?_getD, List.getElem?_map]
  cases C[i]? <;> simp

set_option maxRecDepth 100000 in
set_option maxHeartbeats 4000000 in
theorem whole_any (s : ByteArray) (a b c : Int) (w : World) (ha : -9223372036854775808 ≤ a ∧ a ≤ 9223372036854775807) (hb : -9223372036854775808 ≤ b ∧ b ≤ 9223372036854775807) (hc : -9223372036854775808 ≤ c ∧ c ≤ 9223372036854775807) :
    Calls Try.prog 4 #[.string s, .agg #[.int .i64 a, .int .i64 b, .int .i64 c]] w fun e w' => e = .returned (.bool true) ∧ Below w.heap.size w w' := by
  have hB0 : Below w.heap.size w (w.alloc (.cells #[.int .i64 a, .int .i64 b, .int .i64 c] 34)) := (Below.refl _ _).alloc (Nat.le_refl _) _
  go_enter Try.func4, Try.ntmps4
  go_wp2_with fail
  refine (config_any a b c _ ha hb hc).mono ?_
  rintro e w1 ⟨mn, mx, bt, rfl, h1, h2, h3, h4, h5, hB1⟩
  have B1 : Below w.heap.size w w1 := hB0.trans (hB1.mono (by simp))
  clear hB0 hB1
  go_wp2_with fail
  refine (short_eq s 2000 _ _ rfl (by omega)).mono ?_
  rintro e w' ⟨rfl, rfl⟩
  have z1 := shortB_size s 2000
  go_wp2_with fail
  refine (short_eq _ 2000 _ _ rfl (by omega)).mono ?_
  rintro e w' ⟨rfl, rfl⟩
  have z2 := shortB_size (shortB s 2000 ++ ⟨#[46]⟩) 2000
  have z3 : (shortB s 2000 ++ ⟨#[46]⟩).size = (shortB s 2000).size + 1 := by simp [ByteArray.size_append]; rfl
  obtain ⟨t, ht⟩ : ∃ t, shortB (shortB s 2000 ++ ⟨#[46]⟩) 2000 = t := ⟨_, rfl⟩
  rw [ht] at z2
  have t1 : 0 < t.size := by omega
  have t2 : t.size ≤ 2000 := by omega
  clear z1 z2 z3
  rw [ht]
  clear ht
  have hR := Row.new w1 23 [.int .i64 mn, .int .i64 mx, .int .i64 bt, .int .i64 60000]
  have hok : okB mn mx bt 60000 = true := decide_eq_true (by unfold Ok; omega)
  go_wp2_with fail
  refine (lcuts_ok t mn mx bt 60000 _ hok t2).mono ?_
  rintro e w2 ⟨v, rfl, hv, hB2⟩
  have hR2 := hR.below hB2 (by simp)
  have hbl := bl_length t
  obtain ⟨n1, n2⟩ := cuts_ne (bl t) (bt := bt) (by omega : 1 ≤ mn) h2 (by omega)
  obtain ⟨C, hC⟩ : ∃ C, cuts (bl t) mn mx bt = C := ⟨_, rfl⟩
  have hCl : C.length ≤ 2000 := by
    rw [← hC]
    have := cutsF_length (bl t) (mn := mn) (mx := mx) (bits := bt) (bl t).length 0
    unfold cuts
    omega
  have HC : Hid (C.drop 0 = cutsF (bl t) mn mx bt t.size 0) := by
    show _ = _
    rw [← hC, List.drop_zero, ← hbl]
    rfl
  rw [hC] at hv n1 n2
  clear hC
  obtain ⟨g, cap, rfl⟩ := hv.shape (by rw [ints_length]; exact n1)
  rw [ints_length]
  have cell : ∀ j, j < C.length → w2.cell? ⟨g, j, none⟩ = some (.int .i64 ((C.getD j 0 : Nat) : Int)) := fun j hj => by
    rw [hv.cell j (by rw [ints_length]; exact hj), ints_getD]
  obtain ⟨k, hk⟩ : ∃ k, C.length = k + 1 := ⟨C.length - 1, by omega⟩
  have lastc := cell k (by omega)
  rw [hk, Nat.add_sub_cancel] at n2
  rw [n2, hbl] at lastc
  have B2 : Below w.heap.size w w2 := (B1.alloc B1.size _).trans (hB2.mono (by have := B1.size; simp; omega))
  have k0 : w2.cell? ⟨w1.heap.size, 0, none⟩ = some (.int .i64 mn) := hR2.cell 0
  have k1 : w2.cell? ⟨w1.heap.size, 1, none⟩ = some (.int .i64 mx) := hR2.cell 1
  have CK : Hid (C.length = k + 1) := hk
  have hk1 : k < 2000 := by omega
  rw [hk]
  clear hv hB2 hR hR2 hk n1 n2 hCl B1
  go_wp2_with fail
  go_loop [9, 10, 11] (fun v9 v10 v11 => ∃ i last f : Nat, v10 = .int .i64 i ∧ v9 = .int .i64 last ∧ i ≤ k + 1 ∧ last ≤ t.size ∧ t.size - last ≤ f ∧ Hid (C.drop i = cutsF (bl t) mn mx bt f last)) (fun _ v10 _ => 3000 - (intOf v10).toNat)
  case atStart => exact ⟨0, 0, t.size, rfl, rfl, by omega, by omega, by omega, HC⟩
  case round =>
    obtain ⟨i, last, f, rfl, rfl, hi, hla, hf, H⟩ := hrel
    by_cases hlt : (i : Int) < (k : Int) + 1
    · have hk := CK.out
      have ci := cell i (by omega)
      obtain ⟨f', hf', b1, b2, b3, b4, H'⟩ := whole_step (by omega : 1 ≤ mn) h2 H.out (by omega) (by omega) rfl
      have HH : Hid (C.drop (i + 1) = cutsF (bl t) mn mx bt f' (C.getD i 0)) := H'
      generalize C.getD i 0 = nx at *
      have c1 : ¬ ((nx : Int) - (last : Int)) < 1 := by omega
      have c2 : ¬ (mx : Int) < (nx : Int) - (last : Int) := by omega
      by_cases hnext : (i : Int) + 1 < (k : Int) + 1
      · have c3 : ¬ ((nx : Int) - (last : Int)) < (mn : Int) := by have := b4 (by omega); omega
        have hf2 : t.size - nx ≤ f' := by omega
        clear H' b4 hk hf'
        go_wp2
        exact ⟨⟨i + 1, nx, f', by go_num, rfl, by omega, by omega, hf2, HH⟩, by simp [intOf]; omega⟩
      · clear H' b4 hk
        go_wp2
        exact ⟨⟨i + 1, nx, f', by go_num, rfl, by omega, by omega, by omega, HH⟩, by simp [intOf]; omega⟩
    · go_wp2
      go_ret
      exact ⟨rfl, B2⟩

end Go.Proofs.Ytheichphnppagaa
