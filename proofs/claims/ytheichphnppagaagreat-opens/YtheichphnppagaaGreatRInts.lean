/- Opens: RInts. -/
import Derived.Test.YtheichphnppagaaGreatRVar
import Derived.Test.YtheichphnppagaaGreatVint
namespace Go.Proofs.YtheichphnppagaaGreat
open Go.RowKit
attribute [local go_sem ↓] Go.wp_at_zero Go.wp_at_succ

/-- The number of bytes that go on. -/
def mOf : List UInt8 → Nat
  | [] => 0
  | b :: p => (b.toNat - 128) + 128 * mOf p
theorem mOf_snoc : ∀ (p : List UInt8) (b : UInt8), mOf (p ++ [b]) = mOf p + 128 ^ p.length * (b.toNat - 128)
  | [], b => by simp [mOf]
  | a :: p, b => by
    simp only [List.cons_append, mOf, List.length_cons, Nat.pow_succ]
    rw [mOf_snoc p b, Nat.mul_add, Nat.mul_comm (128 ^ p.length) 128, Nat.mul_assoc]
    omega
theorem mOf_lt : ∀ (p : List UInt8), mOf p < 128 ^ p.length
  | [] => by simp [mOf]
  | a :: p => by
    have := mOf_lt p
    have ha := a.toNat_lt
    simp only [mOf, List.length_cons, Nat.pow_succ]
    omega
/-- Bytes that go on, then more. -/
theorem vint_read : ∀ (p : List UInt8) (first : Bool) (k : Nat) (r : List UInt8), p.length ≤ k → (∀ b ∈ p, 128 ≤ b.toNat) → vintG first k (p ++ r) = (vintG (first && p.isEmpty) (k - p.length) r).map fun x => (mOf p + 128 ^ p.length * x.1, x.2)
  | [], first, k, r, _, _ => by
    simp only [List.nil_append, List.isEmpty_nil, Bool.and_true, List.length_nil, Nat.sub_zero, mOf, Nat.pow_zero, Nat.one_mul, Nat.zero_add]
    cases vintG first k r <;> rfl
  | b :: p, first, 0, r, h, _ => by simp at h
  | b :: p, first, k + 1, r, h, hb => by
    have h1 : ¬ b.toNat < 128 := by have := hb b List.mem_cons_self; omega
    have h2 : p.length ≤ k := by simpa using h
    have h3 := vint_read p false k r h2 (fun x hx => hb x (List.mem_cons_of_mem _ hx))
    have e1 : vintG first (k + 1) (b :: p ++ r) = (vintG false k (p ++ r)).map fun x => (b.toNat - 128 + 128 * x.1, x.2) := vintG_on h1
    rw [e1, h3]
    simp only [Bool.false_and, List.isEmpty_cons, Bool.and_false, List.length_cons, Nat.add_sub_add_right]
    cases vintG false (k - p.length) r with
    | none => simp only [Option.map_none]
    | some x =>
      simp only [Option.map_some, Option.some.injEq, Prod.mk.injEq, and_true, mOf, Nat.pow_succ]
      rw [Nat.mul_add, Nat.mul_comm (128 ^ p.length) 128, Nat.mul_assoc]
      omega

/-- The number that bytes tell is told by these bytes, if by none fewer. -/
theorem varL_told : ∀ (p : List UInt8) (c : UInt8), (∀ b ∈ p, 128 ≤ b.toNat) → c.toNat < 128 → (varL (mOf p + 128 ^ p.length * c.toNat) = p ++ [c] ↔ ¬ (c.toNat = 0 ∧ p ≠ []))
  | [], c, _, hc => by
    simp only [mOf, List.length_nil, Nat.pow_zero, Nat.one_mul, Nat.zero_add, List.nil_append, ne_eq, not_true_eq_false, and_false, not_false_eq_true, iff_true]
    rw [varL_small hc]
    simp
  | b :: p, c, hb, hc => by
    have h1 := hb b (by simp)
    have h2 := b.toNat_lt
    have ih := varL_told p c (fun x hx => hb x (by simp [hx])) hc
    have e : mOf (b :: p) + 128 ^ (b :: p).length * c.toNat = (b.toNat - 128) + 128 * (mOf p + 128 ^ p.length * c.toNat) := by
      simp only [mOf, List.length_cons, Nat.pow_succ]
      rw [Nat.mul_add, Nat.mul_comm (128 ^ p.length) 128, Nat.mul_assoc]
      omega
    rw [e]
    have hM : mOf p + 128 ^ p.length * c.toNat = 0 → c.toNat = 0 := by
      intro h0
      have : 128 ^ p.length * c.toNat = 0 := by omega
      rcases Nat.mul_eq_zero.1 this with h | h
      · simp at h
      · exact h
    have hM2 : p = [] → mOf p + 128 ^ p.length * c.toNat = c.toNat := by
      intro hp
      subst hp
      simp [mOf]
    generalize mOf p + 128 ^ p.length * c.toNat = M at *
    by_cases h0 : M = 0
    · rw [h0, Nat.mul_zero, Nat.add_zero, varL_small (by omega)]
      constructor
      · intro h
        have := congrArg List.length h
        simp at this
      · intro h
        exact absurd ⟨hM h0, by simp⟩ h
    · rw [varL_step (by omega), show (b.toNat - 128 + 128 * M) % 128 = b.toNat - 128 by omega, show (b.toNat - 128 + 128 * M) / 128 = M by omega, show 128 + (b.toNat - 128) = b.toNat by omega]
      rw [List.cons_append, List.cons.injEq]
      simp only [UInt8.ofNat_toNat, true_and]
      rw [ih]
      constructor
      · rintro h ⟨c0, _⟩
        have hp : p = [] := Classical.byContradiction fun hp => h ⟨c0, hp⟩
        have := hM2 hp
        omega
      · rintro h ⟨c0, hp⟩
        exact h ⟨c0, by simp⟩

def VG5 (l : List UInt8) (x : List Nat) (t : List UInt8) (f : Nat) : Prop := vints 5 l = (vintsG 5 f t).map (x ++ ·)
theorem VG5.start (l : List UInt8) : VG5 l [] l l.length := by
  unfold VG5 vints
  cases vintsG 5 l.length l <;> rfl
theorem VG5.bad {l t : List UInt8} {x : List Nat} {f : Nat} (h : VG5 l x t (f + 1)) (h0 : t.length ≠ 0) (hv : vintG true 5 t = none) : vints 5 l = none := by
  unfold VG5 at h; rw [h, vints_bad h0 hv]; rfl
theorem VG5.go {l t r : List UInt8} {x : List Nat} {f n : Nat} (h : VG5 l x t (f + 1)) (h0 : t.length ≠ 0) (hv : vintG true 5 t = some (n, r)) : VG5 l (x ++ [n]) r f := by
  unfold VG5 at *
  rw [h, vints_go h0 hv]
  cases vintsG 5 f r <;> simp
theorem VG5.done {l t : List UInt8} {x : List Nat} {f : Nat} (h : VG5 l x t f) (h0 : t.length = 0) : vints 5 l = some x := by
  unfold VG5 at h; rw [h, vints_nil h0]; simp

/-- Behind j bytes that go on, from a place on. -/
structure On (L : List UInt8) (a j m : Nat) : Prop where
  le : j ≤ 5
  all : ∀ b ∈ (L.drop a).take j, 128 ≤ b.toNat
  len : ((L.drop a).take j).length = j
  val : m = mOf ((L.drop a).take j)
theorem On.start (L : List UInt8) (a : Nat) : On L a 0 0 := ⟨by omega, by simp, by simp, by simp [mOf]⟩
theorem On.next {L : List UInt8} {a j m : Nat} {c : UInt8} (h : On L a j m) (hj : j < 5) (hk : a + j < L.length) (hc : L.getD (a + j) 0 = c) (h1 : 128 ≤ c.toNat) : On L a (j + 1) (m + 128 ^ j * (c.toNat - 128)) := by
  have e : (L.drop a).take (j + 1) = (L.drop a).take j ++ [c] := take_snoc_getD _ j c (by simp; omega) (by rw [← hc]; simp [List.getD_eq_getElem?_getD])
  refine ⟨by omega, ?_, ?_, ?_⟩
  · rw [e]
    intro b hb
    rcases List.mem_append.1 hb with hb | hb
    · exact h.all b hb
    · simp only [List.mem_singleton] at hb
      rw [hb]; exact h1
  · rw [e, List.length_append, h.len]; rfl
  · rw [e, mOf_snoc, h.len, ← h.val]
theorem split5 (L : List UInt8) (a j : Nat) : L.drop a = (L.drop a).take j ++ L.drop (a + j) := by
  rw [← List.drop_drop, List.take_append_drop]
theorem On.read {L : List UInt8} {a j m : Nat} (h : On L a j m) : vintG true 5 (L.drop a) = (vintG (decide (j = 0)) (5 - j) (L.drop (a + j))).map fun x => (m + 128 ^ j * x.1, x.2) := by
  have := vint_read ((L.drop a).take j) true 5 (L.drop (a + j)) (by rw [h.len]; exact h.le) h.all
  rw [← split5, h.len, ← h.val] at this
  rw [this]
  congr 2
  simp only [Bool.true_and]
  cases hq : (L.drop a).take j with
  | nil => have := h.len; rw [hq] at this; simp at this; simp [← this]
  | cons b t => have := h.len; rw [hq] at this; simp at this; simp; omega
theorem On.short {L : List UInt8} {a j m : Nat} (h : On L a j m) (hk : L.length ≤ a + j) : vintG true 5 (L.drop a) = none := by
  rw [h.read, List.drop_of_length_le hk]
  simp [vintG]
theorem On.long {L : List UInt8} {a m : Nat} {c : UInt8} (h : On L a 5 m) (hk : a + 5 < L.length) (hc : L.getD (a + 5) 0 = c) (h1 : 128 ≤ c.toNat) : vintG true 5 (L.drop a) = none := by
  rw [h.read, drop_cons hk hc, vintG_zero (by omega)]
  rfl
theorem On.bad {L : List UInt8} {a j m : Nat} {c : UInt8} (h : On L a j m) (hk : a + j < L.length) (hc : L.getD (a + j) 0 = c) (h1 : c.toNat < 128) (h2 : varL (m + 128 ^ j * c.toNat) ≠ (L.drop a).take (j + 1)) : vintG true 5 (L.drop a) = none := by
  have e : (L.drop a).take (j + 1) = (L.drop a).take j ++ [c] := take_snoc_getD _ j c (by simp; omega) (by rw [← hc]; simp [List.getD_eq_getElem?_getD])
  have := varL_told ((L.drop a).take j) c h.all h1
  rw [h.len, ← h.val, ← e] at this
  have h3 := fun h4 => h2 (this.2 h4)
  have h5 := Classical.byContradiction h3
  rw [h.read, drop_cons hk hc, vintG_bad h1 ⟨h5.1, ?_⟩]
  · rfl
  · simp
    intro h0
    subst h0
    simp at h5
theorem On.good {L : List UInt8} {a j m : Nat} {c : UInt8} (h : On L a j m) (hk : a + j < L.length) (hc : L.getD (a + j) 0 = c) (h1 : c.toNat < 128) (h2 : varL (m + 128 ^ j * c.toNat) = (L.drop a).take (j + 1)) : vintG true 5 (L.drop a) = some (m + 128 ^ j * c.toNat, L.drop (a + j + 1)) := by
  have e : (L.drop a).take (j + 1) = (L.drop a).take j ++ [c] := take_snoc_getD _ j c (by simp; omega) (by rw [← hc]; simp [List.getD_eq_getElem?_getD])
  have := varL_told ((L.drop a).take j) c h.all h1
  rw [h.len, ← h.val, ← e] at this
  have h3 := this.1 h2
  rw [h.read, drop_cons hk hc, vintG_end h1 ?_]
  · rfl
  · rintro ⟨a0, b0⟩
    refine h3 ⟨a0, fun h4 => ?_⟩
    have := h.len
    rw [h4] at this
    simp at this b0
    omega

set_option maxRecDepth 100000 in
set_option maxHeartbeats 3200000 in
theorem refInts_any (s : ByteArray) (w : World) (hs : s.size ≤ 70000) :
    Calls Tryz.prog 80 #[.string s] w fun e w' => ∃ v, e = .returned v ∧ VRead w.heap.size w' v (vints 5 (bl s)) ∧ Grow w w' := by
  go_enter Tryz.func80, Tryz.ntmps80
  go_wp2
  go_loopw [4, 5, 6, 7, 8] (fun v4 v5 _ _ _ wr => ∃ (x : List Nat) (a f : Nat), v5 = .int .i64 a ∧ a ≤ s.size ∧ s.size - a ≤ f ∧ x.length ≤ a ∧ IBuf w.heap.size wr v4 (ints x) ∧ Hid (VG5 (bl s) x ((bl s).drop a) f) ∧ Grow w wr) (fun _ v5 _ _ _ _ => s.size - (intOf v5).toNat)
  case atStart => exact ⟨[], 0, s.size, rfl, by omega, by omega, by simp, IBuf.nil _ _, (by have := VG5.start (bl s); rw [bl_length] at this; exact this), Grow.refl _⟩
  case round =>
    obtain ⟨x, a, f, rfl, ha, hf, hx, hb, H, hG⟩ := hrel
    have hz := hG.size
    by_cases h0 : (a : Int) < (s.size : Int)
    · obtain ⟨f, rfl⟩ : ∃ g, f = g + 1 := ⟨f - 1, by omega⟩
      have HNE : Hid (((bl s).drop a).length ≠ 0) := (by rw [List.length_drop, bl_length]; omega : ((bl s).drop a).length ≠ 0)
      go_wp2
      go_loop [5, 7, 8] (fun v5 v7 v8 => ∃ j m : Nat, v5 = .int .i64 ((a + j : Nat) : Int) ∧ j ≤ 5 ∧ a + j ≤ s.size ∧ v7 = .int .i64 m ∧ v8 = .int .i64 (128 ^ j : Nat) ∧ Hid (On (bl s) a j m)) (fun v5 _ _ => s.size - (intOf v5).toNat)
      case atStart => exact ⟨0, 0, rfl, by omega, by omega, rfl, rfl, On.start _ _⟩
      case round =>
        obtain ⟨j, m, rfl, hj, haj, rfl, rfl, O⟩ := hrel
        have hm := mOf_lt (((bl s).drop a).take j)
        rw [← O.out.val, O.out.len] at hm
        have hP : 128 ^ j ≤ 34359738368 := Nat.le_trans (Nat.pow_le_pow_right (by decide) hj) (by decide)
        have HP : Hid (128 * 128 ^ j = 128 ^ (j + 1)) := (by rw [Nat.pow_succ, Nat.mul_comm] : 128 * 128 ^ j = 128 ^ (j + 1))
        obtain ⟨P, hPe⟩ : ∃ P, 128 ^ j = P := ⟨_, rfl⟩
        have PE : Hid (128 ^ j = P) := hPe
        rw [hPe] at hP hm ⊢
        obtain ⟨k, hk⟩ : ∃ k, a + j = k := ⟨_, rfl⟩
        have KE : Hid (a + j = k) := hk
        rw [hk] at haj ⊢
        have hka : (k : Int) - (a : Int) = (j : Int) := by omega
        clear hk hPe
        by_cases h1 : (k : Int) < (s.size : Int)
        · obtain ⟨c, hc⟩ : ∃ c, (bl s).getD k 0 = c := ⟨_, rfl⟩
          have i1 := index_here s k k c rfl (by omega) hc
          have C : Hid ((bl s).getD (a + j) 0 = c) := by show _ = _; rw [KE.out]; exact hc
          have KL : Hid (a + j < (bl s).length) := (by rw [bl_length, KE.out]; omega : a + j < (bl s).length)
          clear hc
          have hlc := c.toNat_lt
          have hlc' : (c.toNat : Int) < 256 := by omega
          by_cases h2 : (128 : Int) ≤ (c.toNat : Int)
          · by_cases h3 : (j : Int) < 5
            · obtain ⟨q, hq⟩ : ∃ q, P * (c.toNat - 128) = q := ⟨_, rfl⟩
              have hq1 : q ≤ 34359738368 * 128 := by rw [← hq]; exact Nat.mul_le_mul hP (by omega)
              have hq2 : (P : Int) * ((c.toNat : Int) - 128) = (q : Int) := by rw [← hq, Int.natCast_mul]; congr 1; omega
              have O' : Hid (On (bl s) a (j + 1) (m + q)) := by
                have := O.out.next (by omega) KL.out C.out (by omega)
                rw [PE.out, hq] at this
                exact this
              clear hq
              go_wp2
              have := KE.out
              exact ⟨⟨j + 1, m + q, by go_num, by omega, by omega, by go_num, by rw [← HP.out, PE.out]; go_num, O'⟩, by simp [intOf]; omega⟩
            · have hj5 : j = 5 := by omega
              have R : Hid (vints 5 (bl s) = none) := H.out.bad HNE.out (by subst hj5; exact O.out.long KL.out C.out (by omega))
              have hne : ((k : Int) == (s.size : Int)) = false := beq_eq_false_iff_ne.2 (by omega)
              go_wp2
              go_ret2
              refine ⟨_, rfl, ?_, hG⟩
              rw [R.out]
              rfl
          · have hne : ((k : Int) == (s.size : Int)) = false := beq_eq_false_iff_ne.2 (by omega)
            obtain ⟨q, hq⟩ : ∃ q, P * c.toNat = q := ⟨_, rfl⟩
            have hq1 : q ≤ 34359738368 * 128 := by rw [← hq]; exact Nat.mul_le_mul hP (by omega)
            have hq2 : (P : Int) * (c.toNat : Int) = (q : Int) := by rw [← hq, Int.natCast_mul]
            obtain ⟨t, ht, hbt, hzt⟩ := str_name (varL (m + q))
            have cc := fun W => refVarint_any (m + q) ((m : Int) + (q : Int)) W (by omega) (by omega)
            rw [ht] at cc
            clear ht hzt
            have hex : bl (s.extract a (k + 1)) = ((bl s).drop a).take (j + 1) := by rw [bl_extract]; congr 1; have := KE.out; omega
            have HX : Hid (bl (s.extract a (k + 1)) = ((bl s).drop a).take (j + 1)) := hex
            have hk1 : ((k : Int) + 1).toNat = k + 1 := by omega
            have wr2 : IntKind.i64.wrap ((k : Int) + 1) = (k : Int) + 1 := by rw [IntKind.wrap_i64]; omega
            have hle : (k : Int) + 1 ≤ (s.size : Int) := by omega
            have hak : (a : Int) ≤ (k : Int) + 1 := by omega
            by_cases he : bl t = bl (s.extract a (k + 1))
            · have q1 : (t.toList == (s.extract a (k + 1)).toList) = true := by rw [toList_bl, toList_bl, he]; simp
              have R : Hid (VG5 (bl s) (x ++ [m + q]) ((bl s).drop (k + 1)) f) := by
                have := O.out.good KL.out C.out (by omega) (by rw [PE.out, hq, ← hbt.out, he, hex])
                rw [PE.out, hq, KE.out] at this
                exact H.out.go HNE.out this
              clear he hq hex
              go_wp2_with fail
              go_region_held3 (fun _ => True) (trivial) ((go_at_call 83; refine (cc _).mono ?_; rintro e w2 ⟨rfl, hG2⟩))
              all_goals
                clear cc
                have hG3 : Grow wr w2 := Grow.trans (Grow.refl wr).drew hG2
                have hb2 := hb.below hG3
                have hz3 := hG3.size
                go_wp2_with (at_builtin; refine wpList_append_ibuf rfl (.tmp 70) (.tmp 72) 34 rfl w.heap.size _ _ (ints x) [(m : Int) + (q : Int)] rfl rfl (hb2.alloc _) (by simp) (isrc_one _ _) (by rw [ints_length]; simp; omega) (by simp; omega) ?_; intro v2 w3 hb3 hbw3)
                exact ⟨⟨x ++ [m + q], k + 1, f, by go_num, by omega, by omega, by have := KE.out; simp; omega, by rw [ints_append]; exact hb3, R, Below.trans (Grow.trans hG (Grow.trans hG3 ((Grow.refl w2).alloc _))) hbw3⟩, by have := KE.out; simp [intOf]; omega⟩
            · have q1 : (t.toList == (s.extract a (k + 1)).toList) = false := by rw [toList_bl, toList_bl]; simpa using he
              have R : Hid (vints 5 (bl s) = none) := H.out.bad HNE.out (O.out.bad KL.out C.out (by omega) (by rw [PE.out, hq, ← hbt.out, ← hex]; exact he))
              clear he hq hex
              go_wp2_with fail
              go_region_held3 (fun _ => True) (trivial) ((go_at_call 83; refine (cc _).mono ?_; rintro e w2 ⟨rfl, hG2⟩))
              all_goals
                clear cc
                go_wp2
                go_ret2
                refine ⟨_, rfl, ?_, Grow.trans hG (Grow.trans (Grow.refl wr).drew hG2)⟩
                rw [R.out]
                rfl
        · have R : Hid (vints 5 (bl s) = none) := H.out.bad HNE.out (O.out.short (by rw [bl_length]; have := KE.out; omega))
          have hne : ((k : Int) == (s.size : Int)) = true := beq_iff_eq.2 (by omega)
          go_wp2
          go_ret2
          refine ⟨_, rfl, ?_, hG⟩
          rw [R.out]
          rfl
    · have R : Hid (vints 5 (bl s) = some x) := H.out.done (by rw [List.length_drop, bl_length]; omega)
      go_wp2
      go_ret2
      refine ⟨_, rfl, ?_, hG⟩
      rw [R.out]
      exact ⟨_, rfl, hb⟩

end Go.Proofs.YtheichphnppagaaGreat
