/- Opens: Vint. -/
import Derived.Test.YtheichphnppagaaGreatOpenMath
import Derived.Test.YtheichphnppagaaGreatRefPlain
import Derived.Test.YtheichphnppagaaGreatCuts0
import Derived.Test.YtheichphnppagaaGreatPush
namespace Go.Proofs.YtheichphnppagaaGreat
open Go.RowKit

/-- Behind k bytes that go on: the number so far is m. -/
def VSt (l : List UInt8) (k m : Nat) : Prop :=
  if k ≤ 3 then vintG true 3 l = (vintG (decide (k = 0)) (3 - k) (l.drop k)).map (fun x => (m + 128 ^ k * x.1, x.2)) else vintG true 3 l = none

theorem VSt.start (l : List UInt8) : VSt l 0 0 := by
  simp only [VSt, Nat.zero_le, if_true, decide_true, List.drop_zero, Nat.zero_add, Nat.pow_zero, Nat.one_mul, Nat.sub_zero]
  cases vintG true 3 l <;> rfl

theorem drop_cons {l : List UInt8} {k : Nat} {c : UInt8} (hk : k < l.length) (hc : l.getD k 0 = c) : l.drop k = c :: l.drop (k + 1) := by
  rw [List.drop_eq_getElem_cons hk, ← hc]
  simp [List.getD_eq_getElem?_getD, hk]

theorem vintG_on {f : Bool} {j : Nat} {b : UInt8} {r : List UInt8} (h : ¬ b.toNat < 128) : vintG f (j + 1) (b :: r) = (vintG false j r).map fun x => (b.toNat - 128 + 128 * x.1, x.2) := by
  simp only [vintG]; rw [if_neg h]
theorem vintG_zero {f : Bool} {b : UInt8} {r : List UInt8} (h : ¬ b.toNat < 128) : vintG f 0 (b :: r) = none := by
  simp only [vintG]; rw [if_neg h]
theorem vintG_end {f : Bool} {j : Nat} {b : UInt8} {r : List UInt8} (h : b.toNat < 128) (h0 : ¬ (b.toNat = 0 ∧ f = false)) : vintG f j (b :: r) = some (b.toNat, r) := by
  cases j <;> simp only [vintG] <;> rw [if_pos h, if_neg h0]
theorem vintG_bad {f : Bool} {j : Nat} {b : UInt8} {r : List UInt8} (h : b.toNat < 128) (h0 : b.toNat = 0 ∧ f = false) : vintG f j (b :: r) = none := by
  cases j <;> simp only [vintG] <;> rw [if_pos h, if_pos h0]

theorem VSt.on {l : List UInt8} {k m : Nat} {c : UInt8} (h : VSt l k m) (hk3 : k ≤ 3) (hk : k < l.length) (hc : l.getD k 0 = c) (h1 : ¬ c.toNat < 128) : VSt l (k + 1) (m + (c.toNat - 128) * 128 ^ k) := by
  simp only [VSt, hk3, if_true] at h
  rw [drop_cons hk hc] at h
  unfold VSt
  by_cases h3 : k + 1 ≤ 3
  · rw [if_pos h3]
    rw [show 3 - k = (3 - (k + 1)) + 1 by omega, vintG_on h1] at h
    rw [h, decide_eq_false (by omega : ¬ k + 1 = 0)]
    cases vintG false (3 - (k + 1)) (l.drop (k + 1)) with
    | none => rfl
    | some x =>
      simp only [Option.map_some, Option.some.injEq, Prod.mk.injEq, and_true]
      rw [Nat.pow_succ, Nat.mul_add, Nat.mul_comm (128 ^ k) (c.toNat - 128), ← Nat.mul_assoc]
      omega
  · rw [if_neg h3]
    rw [show 3 - k = 0 by omega, vintG_zero h1] at h
    rw [h]
    rfl

theorem VSt.done {l : List UInt8} {k m : Nat} {c : UInt8} (h : VSt l k m) (hk3 : k ≤ 3) (hk : k < l.length) (hc : l.getD k 0 = c) (h1 : c.toNat < 128) (h0 : ¬ (c.toNat = 0 ∧ 0 < k)) : vintG true 3 l = some (m + c.toNat * 128 ^ k, l.drop (k + 1)) := by
  simp only [VSt, hk3, if_true] at h
  rw [drop_cons hk hc, vintG_end h1 (by rintro ⟨a, b⟩; simp at b; omega)] at h
  rw [h, Nat.mul_comm]
  rfl
theorem VSt.bad {l : List UInt8} {k m : Nat} {c : UInt8} (h : VSt l k m) (hk3 : k ≤ 3) (hk : k < l.length) (hc : l.getD k 0 = c) (h0 : c.toNat = 0) (h2 : 0 < k) : vintG true 3 l = none := by
  simp only [VSt, hk3, if_true] at h
  rw [drop_cons hk hc, vintG_bad (by omega) ⟨h0, by simp; omega⟩] at h
  exact h
theorem VSt.out {l : List UInt8} {k m : Nat} (h : VSt l k m) (hk : l.length ≤ k ∨ 4 ≤ k) : vintG true 3 l = none := by
  unfold VSt at h
  split at h
  · rw [List.drop_of_length_le (by omega)] at h
    rw [h]
    simp [vintG]
  · exact h

/-- What readVarint answers. -/
def vV (l : List UInt8) : Value := match vintG true 3 l with
  | some (n, r) => .tuple #[.int .i64 (n : Int), .int .i64 ((l.length : Int) - (r.length : Int))]
  | none => .tuple #[.int .i64 0, .int .i64 0]
theorem vV_no {l : List UInt8} (h : vintG true 3 l = none) : Ending.returned (.tuple #[.int .i64 0, .int .i64 0]) = .returned (vV l) := by unfold vV; rw [h]
theorem vV_yes {l r : List UInt8} {n : Nat} {N U : Int} (h : vintG true 3 l = some (n, r)) (hN : N = n) (hU : U = (l.length : Int) - (r.length : Int)) : Ending.returned (.tuple #[.int .i64 N, .int .i64 U]) = .returned (vV l) := by
  unfold vV; rw [h, hN, hU]

theorem sh_eq (m c k : Nat) (hk : k ≤ 3) (hm : m < 128 ^ k) : wrap64 ((m : Int) + wrap64 ((c : Int) % 128 * 2 ^ (7 * k))) = ((m + c % 128 * 128 ^ k : Nat) : Int) ∧ m + c % 128 * 128 ^ k < 128 ^ (k + 1) ∧ m < 2097152 := by
  have h1 : c % 128 < 128 := by omega
  have e1 : (2 : Int) ^ (7 * k) = ((128 ^ k : Nat) : Int) := by rw [Int.pow_mul]; simp
  have e2 : 128 ^ k ≤ 2097152 := by
    rcases (by omega : k = 0 ∨ k = 1 ∨ k = 2 ∨ k = 3) with rfl | rfl | rfl | rfl <;> decide
  have e3 : (c : Int) % 128 = ((c % 128 : Nat) : Int) := by omega
  rw [e1, e3, Nat.pow_succ]
  generalize 128 ^ k = p at *
  generalize c % 128 = d at *
  have h2 : d * p ≤ 127 * p := Nat.mul_le_mul_right p (by omega)
  rw [← Int.natCast_mul]
  generalize d * p = q at *
  unfold wrap64
  omega

set_option maxRecDepth 100000 in
set_option maxHeartbeats 3200000 in
theorem readVarint_any (s : ByteArray) (w : World) (hs : s.size ≤ 70000) :
    Calls Tryz.prog 110 #[.string s] w fun e w' => e = .returned (vV (bl s)) ∧ w' = w := by
  by_cases h4 : (s.size : Int) ≤ 4
  · go_enter Tryz.func110, Tryz.ntmps110
    go_wp2
    go_loop [4, 5, 9] (fun v4 v5 v9 => ∃ k m : Nat, v9 = .int .i64 k ∧ k ≤ 4 ∧ k ≤ s.size ∧ v4 = .int .i64 m ∧ m < 128 ^ k ∧ Hid (VSt (bl s) k m)) (fun _ _ v9 => 4 - (intOf v9).toNat)
    case atStart => exact ⟨0, 0, rfl, by omega, by omega, rfl, by omega, VSt.start _⟩
    case round =>
      obtain ⟨k, m, rfl, hk4, hks, rfl, hm, H⟩ := hrel
      have HM : Hid (m < 128 ^ k) := hm
      clear hm
      by_cases hlt : (k : Int) < (s.size : Int)
      · obtain ⟨c, hc⟩ : ∃ c, (bl s).getD k 0 = c := ⟨_, rfl⟩
        have i1 := index_here s k k c rfl (by omega) hc
        have C : Hid ((bl s).getD k 0 = c) := hc
        clear hc
        have hlc := c.toNat_lt
        have HKL : Hid (k < (bl s).length) := (by rw [bl_length]; omega : k < (bl s).length)
        have SH : Hid _ := sh_eq m c.toNat k (by omega) HM.out
        by_cases hg : (128 : Int) ≤ (c.toNat : Int)
        · go_wp2
          exact ⟨⟨k + 1, m + (c.toNat - 128) * 128 ^ k, by go_num, by omega, by omega, (by rw [SH.out.1, show c.toNat % 128 = c.toNat - 128 by omega]), (by have := SH.out.2.1; rw [show c.toNat % 128 = c.toNat - 128 by omega] at this; exact this), H.out.on (by omega) HKL.out C.out (by omega)⟩, by simp [intOf]; omega⟩
        · by_cases hz : c.toNat = 0
          · have hz1 : ((c.toNat : Int) == 0) = true := beq_iff_eq.2 (by omega)
            by_cases hk0 : (0 : Int) < (k : Int)
            · go_wp2
              go_ret2
              exact ⟨vV_no (H.out.bad (by omega) HKL.out C.out hz (by omega)), rfl⟩
            · go_wp2
              go_ret2
              exact ⟨vV_yes (H.out.done (by omega) HKL.out C.out (by omega) (by omega)) (by have := SH.out.2.2; rw [hz]; unfold wrap64; omega) (by simp [bl_length]; omega), rfl⟩
          · have hz1 : ((c.toNat : Int) == 0) = false := beq_eq_false_iff_ne.2 (by omega)
            go_wp2
            go_ret2
            exact ⟨vV_yes (H.out.done (by omega) HKL.out C.out (by omega) (by omega)) (by rw [SH.out.1, show c.toNat % 128 = c.toNat by omega]) (by simp [bl_length]; omega), rfl⟩
      · go_wp2
        go_ret2
        exact ⟨vV_no (H.out.out (by rw [bl_length]; omega)), rfl⟩
  · go_enter Tryz.func110, Tryz.ntmps110
    go_wp2
    go_loop [4, 5, 9] (fun v4 v5 v9 => ∃ k m : Nat, v9 = .int .i64 k ∧ k ≤ 4 ∧ k ≤ s.size ∧ v4 = .int .i64 m ∧ m < 128 ^ k ∧ Hid (VSt (bl s) k m)) (fun _ _ v9 => 4 - (intOf v9).toNat)
    case atStart => exact ⟨0, 0, rfl, by omega, by omega, rfl, by omega, VSt.start _⟩
    case round =>
      obtain ⟨k, m, rfl, hk4, hks, rfl, hm, H⟩ := hrel
      have HM : Hid (m < 128 ^ k) := hm
      clear hm
      by_cases hlt : (k : Int) < 4
      · obtain ⟨c, hc⟩ : ∃ c, (bl s).getD k 0 = c := ⟨_, rfl⟩
        have i1 := index_here s k k c rfl (by omega) hc
        have C : Hid ((bl s).getD k 0 = c) := hc
        clear hc
        have hlc := c.toNat_lt
        have HKL : Hid (k < (bl s).length) := (by rw [bl_length]; omega : k < (bl s).length)
        have SH : Hid _ := sh_eq m c.toNat k (by omega) HM.out
        by_cases hg : (128 : Int) ≤ (c.toNat : Int)
        · go_wp2
          exact ⟨⟨k + 1, m + (c.toNat - 128) * 128 ^ k, by go_num, by omega, by omega, (by rw [SH.out.1, show c.toNat % 128 = c.toNat - 128 by omega]), (by have := SH.out.2.1; rw [show c.toNat % 128 = c.toNat - 128 by omega] at this; exact this), H.out.on (by omega) HKL.out C.out (by omega)⟩, by simp [intOf]; omega⟩
        · by_cases hz : c.toNat = 0
          · have hz1 : ((c.toNat : Int) == 0) = true := beq_iff_eq.2 (by omega)
            by_cases hk0 : (0 : Int) < (k : Int)
            · go_wp2
              go_ret2
              exact ⟨vV_no (H.out.bad (by omega) HKL.out C.out hz (by omega)), rfl⟩
            · go_wp2
              go_ret2
              exact ⟨vV_yes (H.out.done (by omega) HKL.out C.out (by omega) (by omega)) (by have := SH.out.2.2; rw [hz]; unfold wrap64; omega) (by simp [bl_length]; omega), rfl⟩
          · have hz1 : ((c.toNat : Int) == 0) = false := beq_eq_false_iff_ne.2 (by omega)
            go_wp2
            go_ret2
            exact ⟨vV_yes (H.out.done (by omega) HKL.out C.out (by omega) (by omega)) (by rw [SH.out.1, show c.toNat % 128 = c.toNat by omega]) (by simp [bl_length]; omega), rfl⟩
      · go_wp2
        go_ret2
        exact ⟨vV_no (H.out.out (by rw [bl_length]; omega)), rfl⟩

theorem ints_cons (n : Nat) (l : List Nat) : n :: l = [n] ++ l := rfl
/-- What readVarints answers: numbers, or none. -/
def VRead (B : Nat) (w' : World) (v : Value) (o : Option (List Nat)) : Prop := match o with
  | some l => ∃ u, v = .tuple #[u, .bool true] ∧ IBuf B w' u (l.map fun (n : Nat) => (n : Int))
  | none => v = .tuple #[.slice none 0 0, .bool false]

theorem vints_nil {k f : Nat} {s : List UInt8} (h : s.length = 0) : vintsG k f s = some [] := by cases f <;> simp [vintsG, h]
theorem vints_bad {k f : Nat} {s : List UInt8} (h : s.length ≠ 0) (hv : vintG true k s = none) : vintsG k (f + 1) s = none := by simp [vintsG, h, hv]
theorem vints_go {k f n : Nat} {s r : List UInt8} (h : s.length ≠ 0) (hv : vintG true k s = some (n, r)) : vintsG k (f + 1) s = (vintsG k f r).map (n :: ·) := by simp [vintsG, h, hv]
theorem vintG_drop : ∀ (f : Bool) (k : Nat) (s : List UInt8) (n : Nat) (r : List UInt8), vintG f k s = some (n, r) → r = s.drop (s.length - r.length)
  | _, _, [], _, _, h => by simp [vintG] at h
  | f, 0, b :: t, n, r, h => by
    simp only [vintG] at h
    split at h
    · split at h
      · cases h
      · simp at h; obtain ⟨_, rfl⟩ := h; simp
    · cases h
  | f, k + 1, b :: t, n, r, h => by
    simp only [vintG] at h
    split at h
    · split at h
      · cases h
      · simp at h; obtain ⟨_, rfl⟩ := h; simp
    · simp only [Option.map_eq_some_iff, Prod.mk.injEq, Prod.exists] at h
      obtain ⟨m, r', h, _, rfl⟩ := h
      have h1 := vintG_drop false k t m r' h
      have h2 := vintG_len false k t m r' h
      rw [List.length_cons, show t.length + 1 - r'.length = (t.length - r'.length) + 1 by omega, List.drop_succ_cons]
      exact h1
theorem vintG_lt : ∀ (f : Bool) (k : Nat) (s : List UInt8) (n : Nat) (r : List UInt8), vintG f k s = some (n, r) → n < 128 ^ (k + 1)
  | _, _, [], _, _, h => by simp [vintG] at h
  | f, 0, b :: t, n, r, h => by
    simp only [vintG] at h
    split at h
    · split at h
      · cases h
      · simp at h; obtain ⟨rfl, _⟩ := h; simp; omega
    · cases h
  | f, k + 1, b :: t, n, r, h => by
    have hp : 128 ≤ 128 ^ (k + 1) := by
      have : 1 ≤ 128 ^ k := Nat.pos_of_ne_zero (by simp)
      rw [Nat.pow_succ]; omega
    simp only [vintG] at h
    split at h
    · split at h
      · cases h
      · simp at h; obtain ⟨rfl, _⟩ := h; rw [Nat.pow_succ]; omega
    · simp only [Option.map_eq_some_iff, Prod.mk.injEq, Prod.exists] at h
      obtain ⟨m, r', h, rfl, rfl⟩ := h
      have h1 := vintG_lt false k t m r' h
      have := b.toNat_lt
      rw [Nat.pow_succ]
      omega

def VGo (l : List UInt8) (x : List Nat) (t : List UInt8) (f : Nat) : Prop := vints 3 l = (vintsG 3 f t).map (x ++ ·)
theorem VGo.start (l : List UInt8) : VGo l [] l l.length := by
  unfold VGo vints
  cases vintsG 3 l.length l <;> rfl
theorem VGo.bad {l t : List UInt8} {x : List Nat} {f : Nat} (h : VGo l x t (f + 1)) (h0 : t.length ≠ 0) (hv : vintG true 3 t = none) : vints 3 l = none := by
  unfold VGo at h; rw [h, vints_bad h0 hv]; rfl
theorem VGo.go {l t r : List UInt8} {x : List Nat} {f n : Nat} (h : VGo l x t (f + 1)) (h0 : t.length ≠ 0) (hv : vintG true 3 t = some (n, r)) : VGo l (x ++ [n]) r f := by
  unfold VGo at *
  rw [h, vints_go h0 hv]
  cases vintsG 3 f r <;> simp
theorem VGo.done {l t : List UInt8} {x : List Nat} {f : Nat} (h : VGo l x t f) (h0 : t.length = 0) : vints 3 l = some x := by
  unfold VGo at h; rw [h, vints_nil h0]; simp

set_option maxRecDepth 100000 in
set_option maxHeartbeats 3200000 in
theorem readVarints_any (s : ByteArray) (w : World) (hs : s.size ≤ 70000) :
    Calls Tryz.prog 86 #[.string s] w fun e w' => ∃ v, e = .returned v ∧ VRead w.heap.size w' v (vints 3 (bl s)) ∧ Below w.heap.size w w' := by
  go_enter Tryz.func86, Tryz.ntmps86
  go_wp2
  go_loopw [0, 4] (fun v0 v4 wr => ∃ (t : ByteArray) (x : List Nat) (f : Nat), v0 = .string t ∧ t.size ≤ f ∧ x.length + t.size ≤ 70000 ∧ IBuf w.heap.size wr v4 (x.map fun (n : Nat) => (n : Int)) ∧ Hid (VGo (bl s) x (bl t) f) ∧ Below w.heap.size w wr) (fun v0 _ _ => match v0 with | .string t => t.size | _ => 0)
  case atStart => exact ⟨s, [], s.size, rfl, by omega, by simpa using hs, IBuf.nil _ _, (by have := VGo.start (bl s); rw [bl_length] at this; exact this), Below.refl _ _⟩
  case round =>
    obtain ⟨t, x, f, rfl, hf, hx, hb, H, hbw⟩ := hrel
    have hsz := hbw.size
    by_cases h0 : (0 : Int) < (t.size : Int)
    · obtain ⟨f, rfl⟩ : ∃ g, f = g + 1 := ⟨f - 1, by omega⟩
      have hne : (bl t).length ≠ 0 := by rw [bl_length]; omega
      go_wp2_with fail
      refine (readVarint_any t _ (by omega)).mono ?_
      rintro e w1 ⟨rfl, rfl⟩
      cases hv : vintG true 3 (bl t) with
      | none =>
        have R : Hid (vints 3 (bl s) = none) := H.out.bad hne hv
        unfold vV
        rw [hv]
        clear hv
        simp only
        go_wp2
        go_ret2
        refine ⟨_, rfl, ?_, hbw⟩
        rw [R.out]
        rfl
      | some p =>
        obtain ⟨n, r⟩ := p
        have R : Hid (VGo (bl s) (x ++ [n]) r f) := H.out.go hne hv
        have hr := vintG_len true 3 _ _ _ hv
        have hn := vintG_lt true 3 _ _ _ hv
        have D : Hid (r = (bl t).drop (t.size - r.length)) := by have := vintG_drop true 3 _ _ _ hv; rw [bl_length] at this; exact this
        rw [bl_length] at hr
        have hu : ((t.size : Int) - (r.length : Int) == 0) = false := beq_eq_false_iff_ne.2 (by omega)
        have hu1 : (r.length : Int) < (t.size : Int) := by omega
        have hu2 : ((t.size : Int) - (r.length : Int)).toNat = t.size - r.length := by omega
        unfold vV
        rw [hv, bl_length]
        clear hv
        simp only
        go_wp2_with (at_builtin; refine wpList_append_ibuf rfl (.tmp 17) (.tmp 19) 34 rfl w.heap.size _ _ (x.map fun (n : Nat) => (n : Int)) [(n : Int)] rfl rfl (hb.alloc _) (by simp) (isrc_one _ _) (by simp; omega) (by simp; omega) ?_; intro v2 w2 hb2 hbw2)
        exact ⟨⟨_, x ++ [n], f, rfl, by simp; omega, by simp; omega, by rw [List.map_append]; exact hb2, (by show VGo _ _ _ _; rw [bl_from, ← D.out]; exact R.out), (hbw.alloc (by omega) _).trans hbw2⟩, by simp; omega⟩
    · have R : Hid (vints 3 (bl s) = some x) := H.out.done (by rw [bl_length]; omega)
      go_wp2
      go_ret2
      refine ⟨_, rfl, ?_, hbw⟩
      rw [R.out]
      exact ⟨_, rfl, hb⟩

end Go.Proofs.YtheichphnppagaaGreat
