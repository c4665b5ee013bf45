/- Opens: RTake. -/
import Derived.Test.YtheichphnppagaaGreatRTold2
import Derived.Test.YtheichphnppagaaGreatRefUn
namespace Go.Proofs.YtheichphnppagaaGreat
open Go.RowKit
attribute [local go_sem ↓] Go.wp_at_zero Go.wp_at_succ

theorem takeL_none {st : St} {y : List UInt8} (h1 : ∀ c, readC y st.mx = some c → c ∈ st.chunks) (h2 : readS st y = none) : takeL st y = none := by
  unfold takeL
  split
  · rename_i c hc
    rw [if_pos (h1 c hc)]
  · rw [h2]
theorem takeL_some {st : St} {y c : List UInt8} (h1 : readC y st.mx = some c) (h2 : c ∉ st.chunks) : takeL st y = some { st with chunks := st.chunks ++ [c] } := by
  unfold takeL
  rw [h1]
  exact if_neg h2
theorem takeL_strm {st : St} {y : List UInt8} {x : List UInt8 × List Nat} (h1 : readC y st.mx = none) (h2 : readS st y = some x) : takeL st y = some { st with streams := st.streams ++ [x] } := by
  unfold takeL
  rw [h1, h2]
theorem readS_head {st : St} {y : List UInt8} {c : UInt8} (hc : y.getD 0 0 = c) (h : c.toNat ≠ 2) : readS st y = none := by
  apply readS_none
  match y with
  | [] => rfl
  | [a] => rfl
  | a :: b :: t =>
    simp at hc
    subst hc
    simp only [streamRec]
    rw [if_neg (fun hh => h hh.1)]
theorem readC_facts {y c : List UInt8} {mx : Nat} (h : readC y mx = some c) : chunkRec y = some c ∧ 1 ≤ c.length ∧ c.length ≤ mx ∧ writtenL c = y := by
  unfold readC at h
  split at h
  · rename_i c' hc'
    split at h
    · rename_i hh
      obtain rfl := Option.some.inj h
      exact ⟨hc', hh⟩
    · cases h
  · cases h
theorem readC_yes {y c : List UInt8} {mx : Nat} (h : chunkRec y = some c) (h2 : 1 ≤ c.length ∧ c.length ≤ mx ∧ writtenL c = y) : readC y mx = some c := by
  unfold readC
  rw [h]
  exact if_pos h2
theorem readC_no {y : List UInt8} {mx : Nat} (h : chunkRec y = none) : readC y mx = none := by
  unfold readC
  rw [h]
theorem chunkRec_at {y : List UInt8} {c : UInt8} (h : 0 < y.length) (hc : y.getD 0 0 = c) : chunkRec y = if c.toNat = 0 then some (y.drop 1) else if c.toNat = 1 then unp (y.drop 1) else none := by
  match y with
  | [] => simp at h
  | a :: t =>
    simp at hc
    subst hc
    rfl
theorem takeL_short {st : St} {y : List UInt8} (h : y.length < 2) : takeL st y = none := by
  refine takeL_none (fun c hc => ?_) ?_
  · exfalso
    obtain ⟨h1, h2, h3, h4⟩ := readC_facts hc
    match y, h with
    | [], _ => cases h1
    | [a], _ =>
      simp only [chunkRec] at h1
      split at h1
      · obtain rfl := Option.some.inj h1; simp at h2
      · split at h1
        · have := (unp_some h1).2
          have e : c = [] := by
            have h5 := loT_sq c 2000 (unp_some h1).1
            rw [this] at h5
            exact (Option.some.inj h5).symm
          rw [e] at h2
          simp at h2
        · cases h1
  · apply readS_none
    match y, h with
    | [], _ => rfl
    | [a], _ => rfl
theorem takeL_other {st : St} {y : List UInt8} {c : UInt8} (h : 2 ≤ y.length) (hc : y.getD 0 0 = c) (h0 : c.toNat ≠ 0) (h1 : c.toNat ≠ 1) (h2 : c.toNat ≠ 2) : takeL st y = none := by
  refine takeL_none (fun c' hc' => ?_) (readS_head hc h2)
  exfalso
  have := (readC_facts hc').1
  rw [chunkRec_at (by omega) hc, if_neg h0, if_neg h1] at this
  cases this
theorem takeL_plain_yes {st : St} {y : List UInt8} {c : UInt8} (h : 2 ≤ y.length) (hc : y.getD 0 0 = c) (h0 : c.toNat = 0) (hk : KeepOk st (y.drop 1) y) : takeL st y = some { st with chunks := st.chunks ++ [y.drop 1] } :=
  takeL_some (readC_yes (by rw [chunkRec_at (by omega) hc, if_pos h0]) ⟨hk.1, hk.2.1, hk.2.2.1⟩) hk.2.2.2
theorem takeL_plain_no {st : St} {y : List UInt8} {c : UInt8} (h : 2 ≤ y.length) (hc : y.getD 0 0 = c) (h0 : c.toNat = 0) (hk : ¬ KeepOk st (y.drop 1) y) : takeL st y = none := by
  refine takeL_none (fun c' hc' => ?_) (readS_head hc (by omega))
  obtain ⟨a, b, d, e⟩ := readC_facts hc'
  rw [chunkRec_at (by omega) hc, if_pos h0] at a
  obtain rfl := Option.some.inj a
  exact Classical.byContradiction fun hn => hk ⟨b, d, e, hn⟩
theorem written_packed {y t : List UInt8} {c : UInt8} (hc : y.getD 0 0 = c) (h1 : c.toNat = 1) (hw : writtenL t = y) : sq t = y.drop 1 := by
  unfold writtenL at hw
  split at hw
  · rw [← hw]; rfl
  · rw [← hw] at hc
    simp at hc
    rw [← hc] at h1
    simp at h1
theorem takeL_packed_yes {st : St} {y t : List UInt8} {c : UInt8} (h : 2 ≤ y.length) (hc : y.getD 0 0 = c) (h1 : c.toNat = 1) (hm : st.mx ≤ 2000) (hk : KeepOk st t y) : takeL st y = some { st with chunks := st.chunks ++ [t] } := by
  refine takeL_some (readC_yes ?_ ⟨hk.1, hk.2.1, hk.2.2.1⟩) hk.2.2.2
  rw [chunkRec_at (by omega) hc, if_neg (by omega), if_pos h1, ← written_packed hc h1 hk.2.2.1]
  exact unp_sq t (by have := hk.2.1; omega)
theorem takeL_packed_no {st : St} {y : List UInt8} {c : UInt8} (hc : y.getD 0 0 = c) (h1 : c.toNat = 1) (hk : ∀ t, loT st.mx (y.drop 1) [] = some t → ¬ KeepOk st t y) : takeL st y = none := by
  refine takeL_none (fun c' hc' => ?_) (readS_head hc (by omega))
  obtain ⟨a, b, d, e⟩ := readC_facts hc'
  have e2 := written_packed hc h1 e
  have := hk c' (by rw [← e2]; exact loT_sq c' st.mx d)
  exact Classical.byContradiction fun hn => this ⟨b, d, e, hn⟩
theorem readC_two {y : List UInt8} {c : UInt8} {mx : Nat} (h : 2 ≤ y.length) (hc : y.getD 0 0 = c) (h1 : c.toNat = 2) : readC y mx = none :=
  readC_no (by rw [chunkRec_at (by omega) hc, if_neg (by omega), if_neg (by omega)])

def Taken (B : Nat) (w w' : World) (q : Nat) (st : St) (y : List UInt8) (b : Bool) : Prop :=
  Below B w w' ∧ ((b = true ∧ ∃ st', takeL st y = some st' ∧ Rf B w' q st') ∨ (b = false ∧ takeL st y = none ∧ Rf B w' q st))

set_option maxRecDepth 100000 in
set_option maxHeartbeats 3200000 in
theorem refTake_any (y : ByteArray) (B q : Nat) (st : St) (w : World) (h : Rf B w q st) (hB : B ≤ w.heap.size) (hs : Sane st) (hok : Ok st.mn st.mx st.bt st.rm) (hy : y.size ≤ 70000) :
    Calls Tryz.prog 81 #[.pointer (some ⟨q, 0, none⟩), .string y] w fun e w' => ∃ b : Bool, e = .returned (.bool b) ∧ Taken B w w' q st (bl y) b := by
  have hnot := not_law
  have hcnt := hs.count
  have htx := hs.text
  have hrm := hs.room
  have hmx := hs.mx
  have hyl := bl_length y
  by_cases h2 : (y.size : Int) < 2
  · have R : Hid (takeL st (bl y) = none) := takeL_short (by omega)
    go_enter Tryz.func81, Tryz.ntmps81
    go_wp2
    go_ret
    exact ⟨false, rfl, Below.refl _ _, .inr ⟨rfl, R.out, h⟩⟩
  · obtain ⟨c, hc⟩ : ∃ c, (bl y).getD 0 0 = c := ⟨_, rfl⟩
    have C : Hid ((bl y).getD 0 0 = c) := hc
    have i0 := index_here y 0 0 c rfl (by omega) hc
    have L2 : Hid (2 ≤ (bl y).length) := (by omega : 2 ≤ (bl y).length)
    clear hc
    have hcl := c.toNat_lt
    have E1 : Hid (bl (y.extract 1 y.size) = (bl y).drop 1) := bl_from y 1
    by_cases c0 : c.toNat = 0
    · have q0 : ((c.toNat : Int) == 0) = true := beq_iff_eq.2 (by omega)
      go_enter Tryz.func81, Tryz.ntmps81
      go_wp2_with fail
      refine (refKeep_any (y.extract 1 y.size) y B q st _ h hB hmx (by omega)).mono ?_
      rintro e w1 ⟨b, rfl, hB1, hk⟩
      rw [E1.out] at hk
      go_wp2
      go_ret
      refine ⟨b, rfl, hB1, ?_⟩
      rcases hk with ⟨rfl, hk, hr⟩ | ⟨rfl, hk, hr⟩
      · exact .inl ⟨rfl, _, takeL_plain_yes L2.out C.out c0 hk, hr⟩
      · exact .inr ⟨rfl, takeL_plain_no L2.out C.out c0 hk, hr⟩
    · have q0 : ((c.toNat : Int) == 0) = false := beq_eq_false_iff_ne.2 (by omega)
      by_cases c1 : c.toNat = 1
      · have q1 : ((c.toNat : Int) == 1) = true := beq_iff_eq.2 (by omega)
        have hw1 : (1 : Int) ≤ (y.size : Int) := by omega
        obtain ⟨cv, sv, G, h⟩ := h
        have k1 : w.cell? ⟨q, 1, none⟩ = some (.int .i64 st.mx) := h.row.cell 1
        have cL := fun W => loose_any (y.extract 1 y.size) st.mx W (by omega) (by simp; omega)
        rw [E1.out] at cL
        cases ho : loT st.mx ((bl y).drop 1) [] with
        | none =>
          have R : Hid (takeL st (bl y) = none) := takeL_packed_no C.out c1 (fun t ht => by rw [ho] at ht; cases ht)
          rw [ho] at cL
          clear ho
          unfold strO at cL
          simp only [Option.isSome_none] at cL
          go_enter Tryz.func81, Tryz.ntmps81
          go_wp2_with fail
          go_quiet (first | (go_at_call 106; exact Calls.quiet_of_same (cL _)))
          go_wp2
          go_ret
          exact ⟨false, rfl, below_drewN (Below.refl _ _) _, .inr ⟨rfl, R.out, cv, sv, G, h.grow (below_drewN (Below.refl _ _) _)⟩⟩
        | some t =>
          have HO : Hid (loT st.mx ((bl y).drop 1) [] = some t) := ho
          rw [ho] at cL
          clear ho
          unfold strO at cL
          simp only [Option.isSome_some, Option.getD_some] at cL
          obtain ⟨z, hz⟩ : ∃ z : ByteArray, (⟨t.toArray⟩ : ByteArray) = z := ⟨_, rfl⟩
          have Z : Hid (bl z = t) := by show _ = _; rw [← hz]; rfl
          rw [hz] at cL
          clear hz
          go_enter Tryz.func81, Tryz.ntmps81
          go_wp2_with fail
          go_quiet (first | (go_at_call 106; exact Calls.quiet_of_same (cL _)))
          have G0 : Grow w (w.drewN nq) := below_drewN (Below.refl _ _) _
          generalize w.drewN nq = w0 at *
          clear cL k1
          have hz0 := G0.size
          go_wp2_with fail
          refine (refKeep_any z y B q st _ ⟨cv, sv, G, h.grow G0⟩ (by omega) hmx (by omega)).mono ?_
          rintro e w1 ⟨b, rfl, hB1, hk⟩
          rw [Z.out] at hk
          go_wp2
          go_ret
          refine ⟨b, rfl, (G0.low hB).trans hB1, ?_⟩
          rcases hk with ⟨rfl, hk, hr⟩ | ⟨rfl, hk, hr⟩
          · exact .inl ⟨rfl, _, takeL_packed_yes L2.out C.out c1 (by omega) hk, hr⟩
          · exact .inr ⟨rfl, takeL_packed_no C.out c1 (fun t' ht' => by rw [HO.out] at ht'; obtain rfl := Option.some.inj ht'; exact hk), hr⟩
      · have q1 : ((c.toNat : Int) == 1) = false := beq_eq_false_iff_ne.2 (by omega)
        by_cases c2 : c.toNat = 2
        · have q2 : ((c.toNat : Int) == 2) = true := beq_iff_eq.2 (by omega)
          have HY0 : Hid (((bl y).getD 0 0).toNat = 2) := by show _ = _; rw [C.out]; exact c2
          go_enter Tryz.func81, Tryz.ntmps81
          go_wp2_with fail
          refine (refTold_any y B q st _ h hB hs hok hy (by omega) HY0.out).mono ?_
          rintro e w1 ⟨b, rfl, hB1, hk⟩
          go_wp2
          go_ret
          refine ⟨b, rfl, hB1, ?_⟩
          rcases hk with ⟨rfl, x, hk, hr⟩ | ⟨rfl, hk, hr⟩
          · exact .inl ⟨rfl, _, takeL_strm (readC_two L2.out C.out c2) hk, hr⟩
          · exact .inr ⟨rfl, takeL_none (fun c' hc' => by rw [readC_two L2.out C.out c2] at hc'; cases hc') hk, hr⟩
        · have q2 : ((c.toNat : Int) == 2) = false := beq_eq_false_iff_ne.2 (by omega)
          have R : Hid (takeL st (bl y) = none) := takeL_other L2.out C.out c0 c1 c2
          go_enter Tryz.func81, Tryz.ntmps81
          go_wp2
          go_ret
          exact .inl ⟨rfl, Below.refl _ _, .inr ⟨rfl, R.out, h⟩⟩

end Go.Proofs.YtheichphnppagaaGreat
