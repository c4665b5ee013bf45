/- Opens: Rec. -/
import Derived.Test.YtheichphnppagaaGreatPut
namespace Go.Proofs.YtheichphnppagaaGreat
open Go.RowKit

theorem full_one (w : World) (k : Int) (b : UInt8) (hk : k = (b.toNat : Int)) : Full (w.alloc (.cells #[.int .u8 k] 5)) (.slice (some ⟨w.heap.size, 0, none⟩) 1 1) [b] := by
  subst hk
  refine ⟨_, rfl, fun j u hj => ?_⟩
  match j, hj with
  | 0, hj => simp [cellsOfBytes] at hj; subst hj; simp

set_option maxRecDepth 100000 in
theorem tell_rec (k : Int) (b : UInt8) (s : ByteArray) (w : World) (hk : k = (b.toNat : Int)) (hs : 0 < s.size) (hs2 : s.size ≤ 100000) :
    Calls Tryz.prog 151 #[.int .u8 k, .string s] w fun e w' => e = .returned (.string ⟨(b :: bl s).toArray⟩) ∧ Grow w w' := by
  subst hk
  have hf := full_one w _ b rfl
  go_enter Tryz.func151, Tryz.ntmps151
  go_wp2_with (first
    | (at_builtin; refine wpList_append_bufx rfl (.tmp 6) (.tmp 7) 9 rfl w.heap.size _ _ [b] (bl s) rfl rfl (.inr hf) (by rw [bl_length]; omega) (src_string _ _) (by rw [bl_length]; simp; omega) (by simp) ?_; intro v2 w2 hb2 hbw2; have hs := run_string_buf w2 _ _ _ hb2))
  go_ret
  exact ⟨rfl, ((Below.refl _ _).alloc (Nat.le_refl _) _).trans hbw2⟩

/-- A chunk as its frame holds it. -/
def writtenL (c : List UInt8) : List UInt8 := if (sq c).length < c.length then 1 :: sq c else 0 :: c
theorem sq_ne {c : List UInt8} (h : c ≠ []) (h2 : c.length ≤ 2000) : 0 < (sq c).length := by
  cases e : sq c with
  | nil =>
    have := loT_sq c 2000 h2
    rw [e, loT_nil] at this
    exact absurd (Option.some.inj this).symm h
  | cons a r => simp

set_option maxRecDepth 100000 in
theorem chunk_rec (s : ByteArray) (w : World) (hs : 0 < s.size) (hs2 : s.size ≤ 2000) :
    Calls Tryz.prog 122 #[.string s] w fun e w' => e = .returned (.string ⟨(writtenL (bl s)).toArray⟩) ∧ Grow w w' := by
  have hne : bl s ≠ [] := fun e => by have := bl_length s; rw [e] at this; simp at this; omega
  have hq := sq_ne hne (by rw [bl_length]; exact hs2)
  have hql := sq_length (bl s)
  rw [bl_length] at hql
  by_cases h : ((sq (bl s)).length : Int) < (s.size : Int)
  · have W : Hid (writtenL (bl s) = 1 :: sq (bl s)) := by show _ = _; unfold writtenL; rw [if_pos (by rw [bl_length]; omega)]
    go_enter Tryz.func122, Tryz.ntmps122
    go_wp2_with fail
    refine (pack_any s _ hs2).mono ?_
    rintro e w1 ⟨rfl, hB1⟩
    have hz : (ByteArray.mk (sq (bl s)).toArray).size = (sq (bl s)).length := rfl
    go_wp2_with fail
    refine (tell_rec _ 1 ⟨(sq (bl s)).toArray⟩ _ rfl (by rw [hz]; omega) (by rw [hz]; omega)).mono ?_
    rintro e w2 ⟨rfl, hB2⟩
    go_wp2
    go_ret
    exact ⟨ret_of (by rw [W.out]; rfl), Grow.trans hB1 hB2⟩
  · have W : Hid (writtenL (bl s) = 0 :: bl s) := by show _ = _; unfold writtenL; rw [if_neg (by rw [bl_length]; omega)]
    go_enter Tryz.func122, Tryz.ntmps122
    go_wp2_with fail
    refine (pack_any s _ hs2).mono ?_
    rintro e w1 ⟨rfl, hB1⟩
    have hz : (ByteArray.mk (sq (bl s)).toArray).size = (sq (bl s)).length := rfl
    go_wp2_with fail
    refine (tell_rec _ 0 s _ rfl hs (by omega)).mono ?_
    rintro e w2 ⟨rfl, hB2⟩
    go_wp2
    go_ret
    exact ⟨ret_of (by rw [W.out]; rfl), Grow.trans hB1 hB2⟩

/-- The bytes that a record tells. -/
def chunkRec (r : List UInt8) : Option (List UInt8) := match r with
  | [] => none
  | b :: t => if b.toNat = 0 then some t else if b.toNat = 1 then unp t else none
theorem chunkRec_cons {s : ByteArray} {c : UInt8} (h : 0 < s.size) (hc : (bl s).getD 0 0 = c) : chunkRec (bl s) = if c.toNat = 0 then some (bl (s.extract 1 s.size)) else if c.toNat = 1 then unp (bl (s.extract 1 s.size)) else none := by
  rw [bl_cons s h, hc, bl_from]
  rfl
theorem strO_some {o : Option (List UInt8)} {S : ByteArray} (h : o = some (bl S)) : Ending.returned (.tuple #[.string S, .bool true]) = .returned (.tuple #[strO o, .bool o.isSome]) := by
  subst h
  unfold strO
  simp only [Option.getD_some, Option.isSome_some]
  rw [← ba_eq (a := S) rfl]

set_option maxRecDepth 100000 in
theorem chunkOf_any (s : ByteArray) (w : World) (hs : s.size ≤ 70000) :
    Calls Tryz.prog 162 #[.string s] w fun e w' => e = .returned (.tuple #[strO (chunkRec (bl s)), .bool (chunkRec (bl s)).isSome]) ∧ Grow w w' := by
  by_cases h0 : s.size = 0
  · have e0 : s = ⟨#[]⟩ := ba_empty h0
    subst e0
    go_enter Tryz.func162, Tryz.ntmps162
    go_wp2
    go_ret2
    exact ⟨rfl, Grow.refl _⟩
  · obtain ⟨c, hc⟩ : ∃ c, (bl s).getD 0 0 = c := ⟨_, rfl⟩
    have hcr := chunkRec_cons (by omega : 0 < s.size) hc
    have i0 := index_here s 0 0 c rfl (by omega) hc
    have ht := toList_some (t := s) (by omega)
    have hs1 : (1 : Int) ≤ (s.size : Int) := by omega
    have hlc := c.toNat_lt
    clear hc
    by_cases h1 : c.toNat = 0
    · have R : Hid (chunkRec (bl s) = some (bl (s.extract 1 s.size))) := by show _ = _; rw [hcr, if_pos h1]
      have q0 : ((c.toNat : Int) == 0) = true := beq_iff_eq.2 (by omega)
      clear hcr h1
      go_enter Tryz.func162, Tryz.ntmps162
      go_wp2
      go_ret2
      exact ⟨strO_some R.out, Grow.refl _⟩
    · have q0 : ((c.toNat : Int) == 0) = false := beq_eq_false_iff_ne.2 (by omega)
      by_cases h2 : c.toNat = 1
      · have R : Hid (chunkRec (bl s) = unp (bl (s.extract 1 s.size))) := by show _ = _; rw [hcr, if_neg h1, if_pos h2]
        have q1 : ((c.toNat : Int) == 1) = true := beq_iff_eq.2 (by omega)
        clear hcr h1 h2
        go_enter Tryz.func162, Tryz.ntmps162
        go_wp2_with fail
        refine (unpack_any (s.extract 1 s.size) _ (by simp; omega)).mono ?_
        rintro e w1 ⟨rfl, hB1⟩
        generalize unp (bl (s.extract 1 s.size)) = o at *
        unfold strO
        go_wp2
        go_ret2
        exact ⟨ret_of (by rw [R.out]; rfl), hB1⟩
      · have R : Hid (chunkRec (bl s) = none) := by show _ = _; rw [hcr, if_neg h1, if_neg h2]
        have q1 : ((c.toNat : Int) == 1) = false := beq_eq_false_iff_ne.2 (by omega)
        clear hcr h1 h2
        go_enter Tryz.func162, Tryz.ntmps162
        go_wp2
        go_ret2
        exact ⟨read_no R.out, Grow.refl _⟩

/-- The chunk that a record tells, if it is right. -/
def readC (r : List UInt8) (mx : Nat) : Option (List UInt8) := match chunkRec r with
  | some c => if 1 ≤ c.length ∧ c.length ≤ mx ∧ writtenL c = r then some c else none
  | none => none
/-- ReadChunk's answer. -/
def RC (r : List UInt8) (mx : Nat) (v : Value) : Prop := match readC r mx with
  | some c => v = .tuple #[strV c, .bool true]
  | none => ∃ s, v = .tuple #[.string s, .bool false]
theorem RC_no {r : List UInt8} {mx : Nat} (h : readC r mx = none) (s : ByteArray) : RC r mx (.tuple #[.string s, .bool false]) := by unfold RC; rw [h]; exact ⟨_, rfl⟩
theorem RC_yes {r c : List UInt8} {mx : Nat} (h : readC r mx = some c) : RC r mx (.tuple #[strV c, .bool true]) := by unfold RC; rw [h]

set_option maxRecDepth 100000 in
set_option maxHeartbeats 1600000 in
theorem readChunk_any (s : ByteArray) (M : Int) (mx : Nat) (w : World) (hM : M = mx) (hmx : mx ≤ 200) (hs : s.size ≤ 70000) :
    Calls Tryz.prog 129 #[.string s, .int .i64 M] w fun e w' => ∃ v, e = .returned v ∧ RC (bl s) mx v ∧ Grow w w' := by
  subst hM
  have hnot := not_law
  cases hr : chunkRec (bl s) with
  | none =>
    have R : Hid (readC (bl s) mx = none) := by show _ = _; unfold readC; rw [hr]
    go_enter Tryz.func129, Tryz.ntmps129
    go_wp2_with fail
    refine (chunkOf_any s _ hs).mono ?_
    rintro e w1 ⟨rfl, hB1⟩
    rw [hr]
    clear hr
    simp only [strO, Option.getD_none, Option.isSome_none]
    go_wp2
    go_ret2
    exact ⟨_, rfl, RC_no R.out _, hB1⟩
  | some c =>
    by_cases h1 : ((c.length : Nat) : Int) < 1
    · have R : Hid (readC (bl s) mx = none) := by show _ = _; unfold readC; rw [hr]; exact if_neg (by omega)
      have hsz : (ByteArray.mk c.toArray).size = c.length := rfl
      go_enter Tryz.func129, Tryz.ntmps129
      go_wp2_with fail
      refine (chunkOf_any s _ hs).mono ?_
      rintro e w1 ⟨rfl, hB1⟩
      rw [hr]
      clear hr
      simp only [strO, Option.getD_some, Option.isSome_some]
      go_wp2
      go_ret2
      exact ⟨_, rfl, RC_no R.out _, hB1⟩
    · by_cases h2 : (mx : Int) < ((c.length : Nat) : Int)
      · have R : Hid (readC (bl s) mx = none) := by show _ = _; unfold readC; rw [hr]; exact if_neg (by omega)
        have hsz : (ByteArray.mk c.toArray).size = c.length := rfl
        go_enter Tryz.func129, Tryz.ntmps129
        go_wp2_with fail
        refine (chunkOf_any s _ hs).mono ?_
        rintro e w1 ⟨rfl, hB1⟩
        rw [hr]
        clear hr
        simp only [strO, Option.getD_some, Option.isSome_some]
        go_wp2
        go_ret2
        exact ⟨_, rfl, RC_no R.out _, hB1⟩
      · have hsz : (ByteArray.mk c.toArray).size = c.length := rfl
        by_cases hw : writtenL c = bl s
        · have R : Hid (readC (bl s) mx = some c) := by show _ = _; unfold readC; rw [hr]; exact if_pos ⟨by omega, by omega, hw⟩
          have q1 : (writtenL c == s.toList) = true := by rw [toList_bl, hw]; simp
          clear hw
          go_enter Tryz.func129, Tryz.ntmps129
          go_wp2_with fail
          refine (chunkOf_any s _ hs).mono ?_
          rintro e w1 ⟨rfl, hB1⟩
          rw [hr]
          clear hr
          simp only [strO, Option.getD_some, Option.isSome_some]
          go_wp2_with fail
          refine (chunk_rec ⟨c.toArray⟩ _ (by rw [hsz]; omega) (by rw [hsz]; omega)).mono ?_
          rintro e w2 ⟨rfl, hB2⟩
          rw [bl_mk]
          go_wp2
          go_ret2
          exact ⟨_, rfl, RC_yes R.out, Grow.trans hB1 hB2⟩
        · have R : Hid (readC (bl s) mx = none) := by show _ = _; unfold readC; rw [hr]; exact if_neg (fun h => hw h.2.2)
          have q1 : (writtenL c == s.toList) = false := by rw [toList_bl]; simpa using hw
          clear hw
          go_enter Tryz.func129, Tryz.ntmps129
          go_wp2_with fail
          refine (chunkOf_any s _ hs).mono ?_
          rintro e w1 ⟨rfl, hB1⟩
          rw [hr]
          clear hr
          simp only [strO, Option.getD_some, Option.isSome_some]
          go_wp2_with fail
          refine (chunk_rec ⟨c.toArray⟩ _ (by rw [hsz]; omega) (by rw [hsz]; omega)).mono ?_
          rintro e w2 ⟨rfl, hB2⟩
          rw [bl_mk]
          go_wp2
          go_ret2
          exact ⟨_, rfl, RC_no R.out _, Grow.trans hB1 hB2⟩

set_option maxRecDepth 100000 in
set_option maxHeartbeats 1600000 in
theorem takeChunk_any (s : ByteArray) (B p : Nat) (st : St) (wv : Value) (w : World) (h : Stv B w p st wv) (hB : B ≤ w.heap.size) (hs : s.size ≤ 70000) (hcs : st.chunks.length ≤ 100000) :
    Calls Tryz.prog 111 #[.pointer (some ⟨p, 0, none⟩), .string s] w fun e w' =>
      (∃ c, readC (bl s) st.mx = some c ∧ c ∉ st.chunks ∧ e = .returned (.bool true) ∧ Stv B w' p { st with chunks := st.chunks ++ [c] } wv ∧ Below B w w') ∨
      ((∀ c, readC (bl s) st.mx = some c → c ∈ st.chunks) ∧ e = .returned (.bool false) ∧ Grow w w') := by
  have hnot := not_law
  obtain ⟨cb, sb, mb, fb, cv, lf, n1, n2, D1, D2, F, G, h⟩ := h
  have hg := h.good
  unfold Ok at hg
  have k1 : w.cell? ⟨p, 1, none⟩ = some (.int .i64 st.mx) := h.row.cell 1
  obtain ⟨o, hr⟩ : ∃ o, readC (bl s) st.mx = o := ⟨_, rfl⟩
  cases o with
  | none =>
    go_enter Tryz.func111, Tryz.ntmps111
    go_wp2_with fail
    refine (readChunk_any s _ st.mx _ rfl (by omega) hs).mono ?_
    rintro e w1 ⟨v, rfl, hv, hB1⟩
    unfold RC at hv
    rw [hr] at hv
    obtain ⟨t, rfl⟩ := hv
    have RR : Hid (readC (bl s) st.mx = none) := hr
    clear hr
    go_wp2
    go_ret
    exact .inr ⟨fun c hc => (by rw [RR.out] at hc; cases hc), rfl, hB1⟩
  | some c =>
    have hcl : c.length ≤ 200 := by
      unfold readC at hr
      cases e : chunkRec (bl s) with
      | none => rw [e] at hr; cases hr
      | some c' =>
        rw [e] at hr
        simp only at hr
        split at hr
        · rename_i hh
          obtain rfl := Option.some.inj hr
          omega
        · cases hr
    have RR : Hid (readC (bl s) st.mx = some c) := hr
    go_enter Tryz.func111, Tryz.ntmps111
    go_wp2_with fail
    refine (readChunk_any s _ st.mx _ rfl (by omega) hs).mono ?_
    rintro e w1 ⟨v, rfl, hv, hB1⟩
    unfold RC at hv
    rw [hr] at hv
    simp only at hv
    subst hv
    clear hr
    unfold strV
    have h1 := h.grow hB1
    have k5 : w1.cell? ⟨p, 5, none⟩ = some (.pointer (some ⟨sb, 0, none⟩)) := h1.row.cell 5
    go_wp2_with fail
    refine (count_any sb fb B cv st.chunks _ h1.shelf h1.chunks).mono ?_
    rintro e w2 ⟨rfl, rfl⟩
    have hz1 := hB1.size
    go_wp2_with fail
    refine (put_any ⟨c.toArray⟩ h1 (by omega) (by rw [size_mk]; omega) hcs).mono ?_
    rintro e w3 (⟨n, hn, hcn, rfl, hB3⟩ | ⟨hno, rfl, hS3, hB3⟩)
    · have q : ((n : Int) == (st.chunks.length : Int)) = false := beq_eq_false_iff_ne.2 (by omega)
      rw [bl_mk] at hcn
      have HC : Hid (st.chunks.getD n [] = c) := hcn
      clear hcn
      go_wp2
      go_ret
      refine .inr ⟨fun c' hc' => ?_, rfl, Grow.trans hB1 hB3⟩
      rw [RR.out] at hc'
      rw [← Option.some.inj hc', ← HC.out, List.getD_eq_getElem?_getD, List.getElem?_eq_getElem hn]
      exact List.getElem_mem _
    · rw [bl_mk] at hno hS3
      go_wp2
      go_ret
      exact .inl ⟨c, RR.out, hno, rfl, hS3, (hB1.low hB).trans hB3⟩

end Go.Proofs.YtheichphnppagaaGreat
