/- Opens: RefCut. -/
import Derived.Test.YtheichphnppagaaGreatRefMark
import Derived.Test.YtheichphnppagaaGreatCuts0
namespace Go.Proofs.YtheichphnppagaaGreat
open Go.RowKit

/-- The next cut, from the place p on. -/
def from_ (l : List UInt8) (bt E p : Nat) : Nat := if E ≤ p then E else scan l bt (E - p) p
theorem from_start (l : List UInt8) (mn mx bt last : Nat) : from_ l bt (min (last + mx) l.length) (last + mn) = nextCut l mn mx bt last := rfl
theorem from_hit {l : List UInt8} {bt E p m al : Nat} (hp : p < E) (hm : m = markAt l p) (ha : al = 2 ^ bt) (hg : m % al = al - 1) : from_ l bt E p = p := by
  unfold from_
  rw [if_neg (by omega)]
  obtain ⟨j, hj⟩ : ∃ j, E - p = j + 1 := ⟨E - p - 1, by omega⟩
  rw [hj]
  unfold scan
  rw [← hm, ← ha, if_pos hg]
theorem from_miss {l : List UInt8} {bt E p m al : Nat} (hp : p < E) (hm : m = markAt l p) (ha : al = 2 ^ bt) (hg : ¬ m % al = al - 1) : from_ l bt E (p + 1) = from_ l bt E p := by
  unfold from_
  obtain ⟨j, hj⟩ : ∃ j, E - p = j + 1 := ⟨E - p - 1, by omega⟩
  rw [if_neg (by omega : ¬ E ≤ p), hj, scan, ← hm, ← ha, if_neg hg, show E - (p + 1) = j by omega]
  by_cases e : E ≤ p + 1
  · rw [if_pos e]
    obtain rfl : j = 0 := by omega
    unfold scan
    omega
  · rw [if_neg e]
theorem tmodZ (m al : Nat) : (m : Int).tmod (al : Int) = ((m % al : Nat) : Int) := by
  rw [Int.tmod_eq_emod_of_nonneg (by omega)]
  simp

set_option maxRecDepth 100000 in
set_option maxHeartbeats 3200000 in
theorem refcut_any (s : ByteArray) (mn mx bt : Nat) (rm : Int) (w : World) (hs : s.size ≤ 2000) (h1 : 16 ≤ mn) (h2 : mn ≤ mx) (h3 : mx ≤ 200) (h5 : bt ≤ 12) :
    Calls Tryz.prog 103 #[.string s, .agg #[.int .i64 mn, .int .i64 mx, .int .i64 bt, .int .i64 rm]] w fun e w' => ∃ v, e = .returned v ∧ IBuf w.heap.size w' v (ints (cuts (bl s) mn mx bt)) ∧ Below w.heap.size w w' := by
  have hbl := bl_length s
  have hcl : (cuts (bl s) mn mx bt).length ≤ s.size := by rw [← hbl]; exact cutsF_length _ _ _
  obtain ⟨al, hal⟩ : ∃ al, al = 2 ^ bt := ⟨_, rfl⟩
  have hal1 : 1 ≤ al := by rw [hal]; exact Nat.one_le_two_pow
  have hal2 : al ≤ 4096 := by rw [hal]; exact Nat.pow_le_pow_right (n := 2) (by decide) h5
  have AL : Hid (al = 2 ^ bt) := hal
  go_enter Tryz.func103, Tryz.ntmps103
  go_wp2_with fail
  refine (power_any bt _ _ rfl h5).mono ?_
  rintro e w' ⟨rfl, rfl⟩
  rw [← hal]
  clear hal
  obtain ⟨W0, hW0⟩ : ∃ W0, w.alloc (.cells #[.int .i64 mn, .int .i64 mx, .int .i64 bt, .int .i64 rm] 26) = W0 := ⟨_, rfl⟩
  have hz0 : W0.heap.size = w.heap.size + 1 := by rw [← hW0]; simp
  have hR0 : Row W0 w.heap.size 26 [.int .i64 mn, .int .i64 mx, .int .i64 bt, .int .i64 rm] := by rw [← hW0]; exact Row.new w 26 _
  have hB0 : Below w.heap.size w W0 := by rw [← hW0]; exact (Below.refl _ _).alloc (Nat.le_refl _) _
  rw [hW0]
  clear hW0
  go_wp2_with fail
  go_loopw [5, 6, 8, 9] (fun v5 v6 v8 v9 wr => ∃ (x : List Nat) (last f : Nat), v6 = .int .i64 last ∧ last ≤ s.size ∧ s.size - last ≤ f ∧ IBuf W0.heap.size wr v5 (ints x) ∧ Below W0.heap.size W0 wr ∧ Hid (x ++ cutsF (bl s) mn mx bt f last = cuts (bl s) mn mx bt)) (fun _ v6 _ _ _ => s.size - (intOf v6).toNat)
  case atStart => exact ⟨[], 0, s.size, rfl, by omega, by omega, IBuf.nil _ _, Below.refl _ _, (by show _ = _; unfold cuts; rw [hbl]; rfl)⟩
  case round =>
    obtain ⟨x, last, f, rfl, hl, hf, hx, hB, H⟩ := hrel
    have hxl : x.length ≤ 2000 := by
      have e := congrArg List.length H.out
      rw [List.length_append] at e
      omega
    have hR := hR0.below hB (by omega)
    have k0 := hR.cell 0
    have k1 := hR.cell 1
    simp only [List.getElem?_cons_zero, List.getElem?_cons_succ] at k0 k1
    have hz := hB.size
    by_cases hlt : (last : Int) < (s.size : Int)
    · have a1 := nextCut_gt (bl s) (bits := bt) (by omega : 1 ≤ mn) h2 (by omega : last < (bl s).length)
      have a2 := nextCut_le (bl s) mn mx bt last
      have H' : Hid ((x ++ [nextCut (bl s) mn mx bt last]) ++ cutsF (bl s) mn mx bt (f - 1) (nextCut (bl s) mn mx bt last) = cuts (bl s) mn mx bt) := cuts_step (by omega) (by omega) H.out
      have st := from_start (bl s) mn mx bt last
      generalize nextCut (bl s) mn mx bt last = nx at *
      obtain ⟨E, hE⟩ : ∃ E, E = min (last + mx) (bl s).length := ⟨_, rfl⟩
      rw [← hE] at st a2
      have ST : Hid (from_ (bl s) bt E (last + mn) = nx) := st
      have hE1 : E ≤ last + mx := by omega
      have hE2 : E ≤ s.size := by omega
      have hE3 : E = last + mx ∨ E = s.size := by omega
      clear st hE hbl
      go_wp2_with fail
      go_loopw [8, 9] (fun v8 v9 wr' => ∃ p : Nat, v8 = .int .i64 p ∧ (p ≤ E ∨ p = last + mn) ∧ last + mn ≤ p ∧ Hid (from_ (bl s) bt E p = nx) ∧ wr' = wr) (fun v8 _ _ => 3000 - (intOf v8).toNat)
      case atStart => exact ⟨last + mn, by go_num, .inr rfl, Nat.le_refl _, ST, rfl⟩
      case round =>
        obtain ⟨p, rfl, hp1, hp2, HF, rfl⟩ := hrel
        have HE : Hid (p < E ∨ nx = E) := by
          by_cases c : p < E
          · exact .inl c
          · refine .inr ?_
            have := HF.out
            unfold from_ at this
            rw [if_pos (by omega)] at this
            exact this.symm
        by_cases hc1 : (p : Int) < (last : Int) + (mx : Int)
        · by_cases hc2 : (p : Int) < (s.size : Int)
          · have hpE : p < E := by omega
            go_wp2_with fail
            refine (mark_any s p _ _ hs rfl (by omega) (by omega)).mono ?_
            rintro e w' ⟨rfl, rfl⟩
            obtain ⟨m, hm⟩ : ∃ m, m = markAt (bl s) p := ⟨_, rfl⟩
            have hml : m < 2147483648 := by rw [hm]; exact markAt_lt _ _
            rw [← hm]
            have HM : Hid (m = markAt (bl s) p) := hm
            clear hm
            obtain ⟨r, hr⟩ : ∃ r, r = m % al := ⟨_, rfl⟩
            have ht : (m : Int).tmod (al : Int) = (r : Int) := by rw [tmodZ, hr]
            have HR : Hid (r = m % al) := hr
            have al0 : ¬ (al : Int) = 0 := by omega
            clear hr
            by_cases hg : ((r : Int) == (al : Int) - 1) = true
            · have hg2 : r = al - 1 := by have := beq_iff_eq.1 hg; omega
              have EN : Hid (p = nx) := by
                show _ = _
                rw [← HF.out]
                exact (from_hit hpE HM.out AL.out (by rw [← HR.out]; exact hg2)).symm
              clear hg2
              go_wp2_with (at_builtin; refine wpList_append_ibuf rfl (.tmp 50) (.tmp 52) 34 rfl W0.heap.size _ _ (ints x) [(p : Int)] rfl rfl (hx.alloc _) (by simp) (isrc_one _ (p : Int)) (by simp [ints_length]; omega) (by simp; omega) ?_; intro v2 w2 hb2 hbw2)
              have enx := EN.out
              subst enx
              have B2 : Below W0.heap.size W0 w2 := (hB.alloc (by omega) _).trans hbw2
              exact ⟨⟨x ++ [p], p, f - 1, by go_num, by omega, by omega, by rw [ints_append]; exact hb2, B2, H'⟩, by simp [intOf]; omega⟩
            · have hg' : ((r : Int) == (al : Int) - 1) = false := by simpa using hg
              have hg2 : ¬ m % al = al - 1 := by
                rw [← HR.out]
                intro e
                have e2 : (r : Int) = (al : Int) - 1 := by omega
                rw [e2] at hg'
                simp at hg'
              have HF' : Hid (from_ (bl s) bt E (p + 1) = nx) := by
                show _ = _
                rw [from_miss hpE HM.out AL.out hg2]
                exact HF.out
              clear hg2 hg
              go_wp2
              exact ⟨⟨p + 1, by go_num, by omega, by omega, HF', trivial⟩, by simp [intOf]; omega⟩
          · by_cases hgt : (s.size : Int) < (p : Int)
            · have EN : Hid (nx = s.size) := by show _ = _; rcases HE.out with h | h <;> omega
              go_wp2_with (at_builtin; refine wpList_append_ibuf rfl (.tmp 50) (.tmp 52) 34 rfl W0.heap.size _ _ (ints x) [(s.size : Int)] rfl rfl (hx.alloc _) (by simp) (isrc_one _ (s.size : Int)) (by simp [ints_length]; omega) (by simp; omega) ?_; intro v2 w2 hb2 hbw2)
              have enx := EN.out
              subst enx
              have B2 : Below W0.heap.size W0 w2 := (hB.alloc (by omega) _).trans hbw2
              exact ⟨⟨x ++ [s.size], s.size, f - 1, by go_num, by omega, by omega, by rw [ints_append]; exact hb2, B2, H'⟩, by simp [intOf]; omega⟩
            · have EN : Hid (p = nx) := by show _ = _; rcases HE.out with h | h <;> omega
              go_wp2_with (at_builtin; refine wpList_append_ibuf rfl (.tmp 50) (.tmp 52) 34 rfl W0.heap.size _ _ (ints x) [(p : Int)] rfl rfl (hx.alloc _) (by simp) (isrc_one _ (p : Int)) (by simp [ints_length]; omega) (by simp; omega) ?_; intro v2 w2 hb2 hbw2)
              have enx := EN.out
              subst enx
              have B2 : Below W0.heap.size W0 w2 := (hB.alloc (by omega) _).trans hbw2
              exact ⟨⟨x ++ [p], p, f - 1, by go_num, by omega, by omega, by rw [ints_append]; exact hb2, B2, H'⟩, by simp [intOf]; omega⟩
        · by_cases hgt : (s.size : Int) < (p : Int)
          · have EN : Hid (nx = s.size) := by show _ = _; rcases HE.out with h | h <;> omega
            go_wp2_with (at_builtin; refine wpList_append_ibuf rfl (.tmp 50) (.tmp 52) 34 rfl W0.heap.size _ _ (ints x) [(s.size : Int)] rfl rfl (hx.alloc _) (by simp) (isrc_one _ (s.size : Int)) (by simp [ints_length]; omega) (by simp; omega) ?_; intro v2 w2 hb2 hbw2)
            have enx := EN.out
            subst enx
            have B2 : Below W0.heap.size W0 w2 := (hB.alloc (by omega) _).trans hbw2
            exact ⟨⟨x ++ [s.size], s.size, f - 1, by go_num, by omega, by omega, by rw [ints_append]; exact hb2, B2, H'⟩, by simp [intOf]; omega⟩
          · have EN : Hid (p = nx) := by show _ = _; rcases HE.out with h | h <;> omega
            go_wp2_with (at_builtin; refine wpList_append_ibuf rfl (.tmp 50) (.tmp 52) 34 rfl W0.heap.size _ _ (ints x) [(p : Int)] rfl rfl (hx.alloc _) (by simp) (isrc_one _ (p : Int)) (by simp [ints_length]; omega) (by simp; omega) ?_; intro v2 w2 hb2 hbw2)
            have enx := EN.out
            subst enx
            have B2 : Below W0.heap.size W0 w2 := (hB.alloc (by omega) _).trans hbw2
            exact ⟨⟨x ++ [p], p, f - 1, by go_num, by omega, by omega, by rw [ints_append]; exact hb2, B2, H'⟩, by simp [intOf]; omega⟩
    · go_wp2
      go_ret
      have e := cuts_end (by omega) H.out
      rw [e] at hx
      exact ⟨_, rfl, hx.low (by omega), hB0.trans (hB.mono (by omega))⟩

end Go.Proofs.YtheichphnppagaaGreat
