/- Opens: Shelf, Strm, Find. -/
import Derived.Test.YtheichphnppagaaGreatStore
import Derived.Test.YtheichphnppagaaGreatVint
namespace Go.Proofs.YtheichphnppagaaGreat
open Go.RowKit

theorem count_any (sb fb B : Nat) (cv : Value) (cs : List (List UInt8)) (w : World) (hr : Row w sb 110 [cv, .map (some fb)]) (hc : SBuf B w cv cs) :
    Calls Tryz.prog 34 #[.pointer (some ⟨sb, 0, none⟩)] w fun e w' => e = .returned (.int .i64 (cs.length : Nat)) ∧ w' = w := by
  have k0 : w.cell? ⟨sb, 0, none⟩ = some cv := hr.cell 0
  rcases hc.form with ⟨rfl, rfl⟩ | ⟨g, cap, rfl, _, _⟩
  · go_enter Tryz.func34, Tryz.ntmps34
    go_wp2
    go_ret
    exact ⟨rfl, rfl⟩
  · go_enter Tryz.func34, Tryz.ntmps34
    go_wp2
    go_ret
    exact ⟨rfl, rfl⟩

theorem at_any (sb fb B n : Nat) (N : Int) (cv : Value) (cs : List (List UInt8)) (w : World) (hN : N = n) (hr : Row w sb 110 [cv, .map (some fb)]) (hc : SBuf B w cv cs) (hn : n < cs.length) :
    Calls Tryz.prog 88 #[.pointer (some ⟨sb, 0, none⟩), .int .i64 N] w fun e w' => e = .returned (strV (cs.getD n [])) ∧ w' = w := by
  subst hN
  have k0 : w.cell? ⟨sb, 0, none⟩ = some cv := hr.cell 0
  rcases hc.form with ⟨rfl, rfl⟩ | ⟨g, cap, rfl, _, _⟩
  · simp at hn
  · have k1 := hc.cell n hn
    have h1 : (n : Int) < (cs.length : Int) := by omega
    unfold strV at *
    generalize cs.getD n [] = c at *
    go_enter Tryz.func88, Tryz.ntmps88
    go_wp2
    go_ret
    exact ⟨rfl, rfl⟩

theorem down_any (p : Nat) (t : TypeId) (c0 c1 c2 c3 c4 : Value) (sb : Addr) (r : List Value) (w : World) (hr : Row w p t (c0 :: c1 :: c2 :: c3 :: c4 :: .pointer (some sb) :: r)) :
    Calls Tryz.prog 33 #[.pointer (some ⟨p, 0, none⟩)] w fun e w' => e = .returned (.bool false) ∧ w' = w := by
  have k0 : w.cell? ⟨p, 5, none⟩ = some (.pointer (some sb)) := hr.cell 5
  go_enter Tryz.func33, Tryz.ntmps33
  go_wp2
  go_ret
  exact ⟨rfl, rfl⟩

theorem IBuf.cellN {B : Nat} {w : World} {g cap : Nat} {l : List Nat} (h : IBuf B w (.slice (some ⟨g, 0, none⟩) l.length cap) (ints l)) (j : Nat) (hj : j < l.length) : w.cell? ⟨g, j, none⟩ = some (.int .i64 ((l.getD j 0 : Nat) : Int)) := by
  have h' : IBuf B w (.slice (some ⟨g, 0, none⟩) (ints l).length cap) (ints l) := by rw [ints_length]; exact h
  rw [h'.cell j (by rw [ints_length]; exact hj)]
  simp [ints, List.getD_eq_getElem?_getD, List.getElem?_eq_getElem hj]

/-- The stream of chunks. -/
def joinL (cs : List (List UInt8)) (l : List Nat) : List UInt8 := l.flatMap fun n => cs.getD n []
theorem join_snoc {cs : List (List UInt8)} {l : List Nat} {k n : Nat} (hk : k < l.length) (hn : l.getD k 0 = n) : joinL cs (l.take (k + 1)) = joinL cs (l.take k) ++ cs.getD n [] := by
  unfold joinL
  rw [List.take_add_one, List.flatMap_append, ← hn, List.getElem?_eq_getElem hk]
  simp [List.getD_eq_getElem?_getD, hk]
theorem join_len (cs : List (List UInt8)) (h : ∀ c ∈ cs, c.length ≤ 200) : ∀ (l : List Nat), (joinL cs l).length ≤ 200 * l.length
  | [] => by simp [joinL]
  | n :: r => by
    have ih := join_len cs h r
    have h1 : (cs.getD n []).length ≤ 200 := by
      rw [List.getD_eq_getElem?_getD]
      by_cases c : n < cs.length
      · rw [List.getElem?_eq_getElem c]
        exact h _ (List.getElem_mem c)
      · rw [List.getElem?_eq_none (by omega)]
        simp
    unfold joinL at *
    simp only [List.flatMap_cons, List.length_append, List.length_cons]
    omega

set_option maxRecDepth 100000 in
set_option maxHeartbeats 1600000 in
theorem join_any (B p : Nat) (st : St) (nv : Value) (l : List Nat) (w : World) (h : Sto B w p st) (hB : B ≤ w.heap.size) (hl : ∀ n ∈ l, n < st.chunks.length) (hl2 : l.length ≤ 70000) (hc : ∀ c ∈ st.chunks, 1 ≤ c.length ∧ c.length ≤ 200) (B' : Nat) (hnv : IBuf B' w nv (ints l)) :
    Calls Tryz.prog 55 #[.pointer (some ⟨p, 0, none⟩), nv] w fun e w' => e = .returned (strV (joinL st.chunks l)) ∧ Grow w w' := by
  obtain ⟨cb, sb, mb, fb, wv, cv, lf, n1, n2, D1, D2, F, G, h⟩ := h
  have hc2 : ∀ c ∈ st.chunks, c.length ≤ 200 := fun c h => (hc c h).2
  rcases hnv.form with ⟨rfl, h0⟩ | ⟨g, cap, rfl, _, hgl⟩
  · have hl0 : l = [] := by simpa [ints] using h0
    subst hl0
    go_enter Tryz.func55, Tryz.ntmps55
    go_wp2
    go_loopw [5, 10] (fun v5 v10 wr => v5 = .slice none 0 0 ∧ v10 = .int .i64 0 ∧ wr = w) (fun _ _ _ => 0)
    case atStart => exact ⟨rfl, rfl, rfl⟩
    case round =>
      obtain ⟨rfl, rfl, rfl⟩ := hrel
      have hs := run_string_buf wr 0 _ [] (Buf.nil _ _)
      go_wp2
      go_ret
      exact ⟨rfl, Grow.refl _⟩
  · have hcells := hnv
    simp only [ints_length] at *
    have kp : w.cell? ⟨p, 5, none⟩ = some (.pointer (some ⟨sb, 0, none⟩)) := h.row.cell 5
    go_enter Tryz.func55, Tryz.ntmps55
    go_wp2
    go_loopw [5, 7, 10] (fun v5 v7 v10 wr => ∃ k : Nat, v10 = .int .i64 k ∧ k ≤ l.length ∧ Buf w.heap.size wr v5 (joinL st.chunks (l.take k)) ∧ Grow w wr) (fun _ _ v10 _ => l.length - (intOf v10).toNat)
    case atStart => exact ⟨0, rfl, by omega, Buf.nil _ _, Grow.refl _⟩
    case round =>
      obtain ⟨k, rfl, hk, hb, hg⟩ := hrel
      have hz := hg.size
      by_cases hlt : (k : Int) < (l.length : Int)
      · obtain ⟨n, hn⟩ : ∃ n, l.getD k 0 = n := ⟨_, rfl⟩
        have hkl : k < l.length := by omega
        have hmem : n ∈ l := by rw [← hn, List.getD_eq_getElem?_getD, List.getElem?_eq_getElem hkl]; exact List.getElem_mem _
        have hnl := hl n hmem
        have hck := hc (st.chunks.getD n []) (by rw [List.getD_eq_getElem?_getD, List.getElem?_eq_getElem hnl]; exact List.getElem_mem _)
        have J : Hid (joinL st.chunks (l.take (k + 1)) = joinL st.chunks (l.take k) ++ st.chunks.getD n []) := join_snoc hkl hn
        have hjl := join_len st.chunks hc2 (l.take k)
        have hjl2 : (l.take k).length ≤ 70000 := by simp; omega
        have kc : wr.cell? ⟨g, k, none⟩ = some (.int .i64 n) := by
          rw [← hn]
          exact (hcells.below hg).cellN k hkl
        have kp' : wr.cell? ⟨p, 5, none⟩ = some (.pointer (some ⟨sb, 0, none⟩)) := cell_kept kp hg
        have hsh := h.shelf.grow hg
        have hch := h.chunks.kept (hg.grown none) (by cases cv.ownBlock <;> simp)
        have hsv := bl_mk (st.chunks.getD n [])
        generalize hcg : st.chunks.getD n [] = c at *
        clear hn hkl
        go_wp2_with fail
        refine (at_any sb fb B n _ cv st.chunks _ rfl hsh hch hnl).mono ?_
        rintro e w1 ⟨rfl, rfl⟩
        rw [hcg]
        unfold strV
        go_wp2_with (at_builtin; refine wpList_append_buf rfl (.tmp 14) (.tmp 20) 9 rfl w.heap.size _ _ (joinL st.chunks (l.take k)) (bl ⟨c.toArray⟩) rfl rfl hb (by rw [hsv]; omega) (src_string _ _) (by rw [hsv]; omega) hz ?_; intro v2 w2 hb2 hbw2)
        exact ⟨⟨k + 1, by go_num, by omega, by rw [J.out]; exact hb2, Below.trans hg hbw2⟩, by simp [intOf]; omega⟩
      · have e : l.take k = l := List.take_of_length_le (by omega)
        rw [e] at hb
        have hs := run_string_buf wr _ _ _ hb
        go_wp2
        go_ret
        exact ⟨rfl, hg⟩

end Go.Proofs.YtheichphnppagaaGreat
namespace Go.Proofs.YtheichphnppagaaGreat
open Go.RowKit

/-- What a stream's record tells. -/
def streamRec (r : List UInt8) : Option (List UInt8 × List Nat) := match r with
  | a :: b :: t => if a.toNat = 2 ∧ b.toNat ≤ t.length then (vints 3 (t.drop b.toNat)).map fun l => (t.take b.toNat, l) else none
  | _ => none
theorem streamRec_short {s : ByteArray} (h : s.size < 2) : streamRec (bl s) = none := by
  have hl := bl_length s
  match e : bl s with
  | [] => rfl
  | [a] => rfl
  | a :: b :: r => rw [e] at hl; simp at hl; omega
theorem streamRec_cons {s : ByteArray} {a b : UInt8} (h : 2 ≤ s.size) (ha : (bl s).getD 0 0 = a) (hb : (bl s).getD 1 0 = b) :
    streamRec (bl s) = if a.toNat = 2 ∧ b.toNat + 2 ≤ s.size then (vints 3 (bl (s.extract (2 + b.toNat) s.size))).map fun l => (bl (s.extract 2 (2 + b.toNat)), l) else none := by
  have hl := bl_length s
  rw [bl_from, bl_extract, show 2 + b.toNat - 2 = b.toNat by omega]
  rw [show (bl s).drop (2 + b.toNat) = ((bl s).drop 2).drop b.toNat by rw [List.drop_drop]]
  have e := bl_cons2 s (by omega)
  rw [ha, hb] at e
  have hd : ((bl s).drop 2).length = s.size - 2 := by simp [hl]
  rw [e]
  simp only [streamRec, List.drop_succ_cons, List.drop_zero]
  congr 1
  rw [hd]
  simp only [eq_iff_iff]
  omega

/-- ReadStream's answer. -/
def RS (B : Nat) (w : World) (v : Value) (o : Option (List UInt8 × List Nat)) : Prop := match o with
  | some (name, l) => ∃ u, v = .tuple #[strV name, u, .bool true] ∧ IBuf B w u (ints l)
  | none => ∃ s u, v = .tuple #[.string s, u, .bool false]

set_option maxRecDepth 100000 in
set_option maxHeartbeats 1600000 in
theorem readStream_any (s : ByteArray) (w : World) (hs : s.size ≤ 70000) :
    Calls Tryz.prog 130 #[.string s] w fun e w' => ∃ v, e = .returned v ∧ RS w.heap.size w' v (streamRec (bl s)) ∧ Grow w w' := by
  by_cases h2 : (s.size : Int) < 2
  · have R : Hid (streamRec (bl s) = none) := streamRec_short (by omega)
    go_enter Tryz.func130, Tryz.ntmps130
    go_wp2
    go_ret3
    exact ⟨_, rfl, (by rw [R.out]; exact ⟨_, _, rfl⟩), Grow.refl _⟩
  · obtain ⟨a, ha⟩ : ∃ a, (bl s).getD 0 0 = a := ⟨_, rfl⟩
    obtain ⟨b, hb⟩ : ∃ b, (bl s).getD 1 0 = b := ⟨_, rfl⟩
    have hsr := streamRec_cons (by omega) ha hb
    have i0 := index_here s 0 0 a rfl (by omega) ha
    have i1 := index_here s 1 1 b rfl (by omega) hb
    have hla := a.toNat_lt
    have hlb := b.toNat_lt
    clear ha hb
    by_cases h1 : a.toNat = 2
    · have q : ((a.toNat : Int) == 2) = true := beq_iff_eq.2 (by omega)
      by_cases h3 : (s.size : Int) < 2 + (b.toNat : Int)
      · have R : Hid (streamRec (bl s) = none) := by show _ = _; rw [hsr, if_neg (by omega)]
        clear hsr h1
        go_enter Tryz.func130, Tryz.ntmps130
        go_wp2
        go_ret3
        exact ⟨_, rfl, (by rw [R.out]; exact ⟨_, _, rfl⟩), Grow.refl _⟩
      · have R : Hid (streamRec (bl s) = (vints 3 (bl (s.extract (2 + b.toNat) s.size))).map fun l => (bl (s.extract 2 (2 + b.toNat)), l)) := by show _ = _; rw [hsr, if_pos ⟨h1, by omega⟩]
        have hn : (2 + (b.toNat : Int)).toNat = 2 + b.toNat := by omega
        clear hsr h1
        go_enter Tryz.func130, Tryz.ntmps130
        go_wp2_with fail
        refine (readVarints_any (s.extract (2 + b.toNat) s.size) _ (by simp; omega)).mono ?_
        rintro e w1 ⟨v, rfl, hv, hB1⟩
        obtain ⟨o, ho⟩ : ∃ o, vints 3 (bl (s.extract (2 + b.toNat) s.size)) = o := ⟨_, rfl⟩
        rw [ho] at hv
        have O : Hid (vints 3 (bl (s.extract (2 + b.toNat) s.size)) = o) := ho
        clear ho
        cases o with
        | none =>
          obtain rfl : v = .tuple #[.slice none 0 0, .bool false] := hv
          go_wp2
          go_ret3
          exact ⟨_, rfl, (by rw [R.out, O.out]; exact ⟨_, _, rfl⟩), hB1⟩
        | some l =>
          obtain ⟨u, rfl, hu⟩ := hv
          go_wp2
          go_ret3
          refine ⟨_, rfl, ?_, hB1⟩
          rw [R.out, O.out]
          refine ⟨u, ?_, hu⟩
          rw [strV, ← ba_eq (a := s.extract 2 (2 + b.toNat)) rfl]
          rfl
    · have q : ((a.toNat : Int) == 2) = false := beq_eq_false_iff_ne.2 (by omega)
      have R : Hid (streamRec (bl s) = none) := by show _ = _; rw [hsr, if_neg (by omega)]
      clear hsr h1
      go_enter Tryz.func130, Tryz.ntmps130
      go_wp2
      go_ret3
      exact ⟨_, rfl, (by rw [R.out]; exact ⟨_, _, rfl⟩), Grow.refl _⟩

end Go.Proofs.YtheichphnppagaaGreat
namespace Go.Proofs.YtheichphnppagaaGreat
open Go.RowKit
open Go.MapKept Go.ChangeMaps
open Go.WideElems (Fit rd rg rg_of rd_key)

theorem zero34 (w : World) : (zeroValue 34).run Tryz.prog w = .ok (.slice none 0 0) w := by kernel_rfl
theorem RH_inj {v : Value} {x : DataW Value} {ps : List MemPlace} (h : RH v = some (x, ps)) : x = .held v := by
  simp only [RH, Option.some.injEq, Prod.mk.injEq] at h
  exact h.1.symm

/-- What a look-up by a sum gives. -/
theorem look_dig {w : World} {fb n : Nat} {D : DataW Value} {v : Value} {d : List UInt8} (h : w.ownsMap Tryz.prog 154 RH fb n D) (hd : d.length = 4) (hv : D.atKey (klit d) (.held (.slice none 0 0)) = .held v) :
    (Instr.lookup 108 (.map (some fb)) (digV d) false).run Tryz.prog w = .ok v w := by
  obtain ⟨u, ps, hr, hu⟩ := h.lookup digKeyed Tryz.underlying108 (zero34 w) (zd := .held (.slice none 0 0)) (zp := []) rfl (klit_spec hd)
  have := RH_inj hu
  rw [hv] at this
  simp only [DataW.held.injEq] at this
  rw [hr, this]

set_option maxRecDepth 100000 in
theorem entry_one {es : Array MapEntry} {clock : Nat} (F : Fit Tryz.prog 154 RH es clock) {a b : MapEntry} (ha : a ∈ es.toList) (hb : b ∈ es.toList) (hk : a.key = b.key) : a = b := by
  have hp := Maps.fit_apart digKeyed F
  obtain ⟨i, hi, ea⟩ := List.getElem_of_mem ha
  obtain ⟨j, hj, eb⟩ := List.getElem_of_mem hb
  by_cases e : i = j
  · subst e
    rw [← ea, eb]
  · exfalso
    obtain ⟨ya, hya⟩ := F.reads a ha
    obtain ⟨yb, hyb⟩ := F.reads b hb
    have ka := rd_key hya
    have kb := rd_key hyb
    rw [hk, kb] at ka
    have heq : (rg Tryz.prog 154 RH a).1 = (rg Tryz.prog 154 RH b).1 := by
      rw [rg_of hya, rg_of hyb]
      simp only [Option.some.injEq] at ka
      exact ka.symm
    rw [List.pairwise_iff_getElem] at hp
    rcases Nat.lt_or_gt_of_ne e with h | h
    · have := hp i j (by simpa using hi) (by simpa using hj) h
      simp only [List.getElem_map, ea, eb] at this
      exact this heq
    · have := hp j i (by simpa using hj) (by simpa using hi) h
      simp only [List.getElem_map, ea, eb] at this
      exact this heq.symm

/-- 'm[k] = append(m[k], ..)': the entry that is looked up, and what a store into it does. -/
theorem entry_dig {w : World} {fb n : Nat} {D : DataW Value} {v : Value} {d : List UInt8} (h : w.ownsMap Tryz.prog 154 RH fb n D) (hn : n < maxLen) (hd : d.length = 4) (hv : D.atKey (klit d) (.held (.slice none 0 0)) = .held v) :
    ∃ (st : Nat) (w1 : World), (Instr.mapEntry 108 (.map (some fb)) (digV d)).run Tryz.prog w = .ok (.tuple #[v, goInt st]) w1 ∧ w.grownBy w1 (some fb) ∧ w1.heap.size = w.heap.size ∧
      ∀ (w2 : World) (val : Value), w2.heap[fb]? = w1.heap[fb]? → ∃ w3, (Instr.entryStore 108 (.map (some fb)) (goInt st) val).run Tryz.prog w2 = .ok () w3 ∧ w3.ownsMap Tryz.prog 154 RH fb (n + 1) (D.put (klit d) (.held val)) ∧ w2.grownBy w3 (some fb) ∧ w3.heap.size = w2.heap.size := by
  have hlook := look_dig h hd hv
  obtain ⟨es, clock, hb, F, hs, hD⟩ := h
  obtain ⟨v0, st, es1, clock1, hr, hv0, hst⟩ := WideElems.entry_then_store (R := RH) digLaw Tryz.underlying108 (z := .slice none 0 0) zero34 hb F (klit_spec hd)
  have e0 : v0 = v := by
    have hz : (zeroValue 34).run Tryz.prog w = .ok (.slice none 0 0) w := zero34 w
    rcases Maps.fit_look false digKeyed Tryz.underlying108 hz hb F (klit_spec hd) with ⟨hrun, hno, _⟩ | ⟨e1, y, hmem, hkey, hrun, _, _, _⟩
    · rw [hlook] at hrun
      simp only [Bool.false_eq_true, if_false, Result.ok.injEq, and_true] at hrun
      rcases hv0 with ⟨e2, he2, hk2, _⟩ | ⟨_, rfl⟩
      · exact absurd hk2 (hno e2 he2)
      · exact hrun.symm
    · rw [hlook] at hrun
      simp only [Bool.false_eq_true, if_false, Result.ok.injEq, and_true] at hrun
      rcases hv0 with ⟨e2, he2, hk2, hv2⟩ | ⟨hno, _⟩
      · rw [hv2, entry_one F he2 hmem (hk2.trans hkey.symm), hrun]
      · exact absurd hkey (hno e1 hmem)
  subst e0
  refine ⟨st, _, hr, ⟨rfl, rfl, rfl, by simp [setBlock], fun i _ hi => heap_setBlock_other hb _ (fun e => hi (by rw [e]))⟩, by simp [setBlock], fun w2 val hw2 => ?_⟩
  rw [heap_setBlock_same hb _] at hw2
  obtain ⟨es', clock', hr2, hup⟩ := hst w2 val hw2
  refine ⟨_, hr2, ?_, ⟨rfl, rfl, rfl, by simp [setBlock], fun i _ hi => heap_setBlock_other hw2 _ (fun e => hi (by rw [e]))⟩, by simp [setBlock]⟩
  obtain ⟨w', hr3, hown, _⟩ := World.ownsMap.update (w := w) (R := RH) ⟨es, clock, hb, F, hs, hD⟩ digKeyed Tryz.underlying108 hn (klit_spec hd) (val := val) (d := .held val) (ps := []) rfl
  rw [hup] at hr3
  simp only [Result.ok.injEq, true_and] at hr3
  subst hr3
  obtain ⟨es2, clock2, hb2, F2, hs2, hD2⟩ := hown
  rw [heap_setBlock_same hb _] at hb2
  simp only [Option.some.injEq, Obj.map.injEq] at hb2
  obtain ⟨rfl, rfl⟩ := hb2
  exact ⟨es', clock', heap_setBlock_same hw2 _, F2, hs2, hD2⟩

/-- Of the first N blocks only those of X may have turned. -/
structure Chg (N : Nat) (X : Nat → Prop) (w w' : World) : Prop where
  os : w'.os = w.os
  tape : w'.tape = w.tape
  output : w'.output = w.output
  size : w.heap.size ≤ w'.heap.size
  block : ∀ k, k < N → ¬ X k → w'.heap[k]? = w.heap[k]?
theorem Chg.refl (N : Nat) (X : Nat → Prop) (w : World) : Chg N X w w := ⟨rfl, rfl, rfl, Nat.le_refl _, fun _ _ _ => rfl⟩
theorem Chg.trans {N : Nat} {X : Nat → Prop} {a b c : World} (h : Chg N X a b) (k : Chg N X b c) : Chg N X a c :=
  ⟨k.os.trans h.os, k.tape.trans h.tape, k.output.trans h.output, Nat.le_trans h.size k.size, fun i hi hx => (k.block i hi hx).trans (h.block i hi hx)⟩
theorem Chg.of_grown {N : Nat} {X : Nat → Prop} {w w' : World} {row : Option Nat} (h : w.grownBy w' row) (hN : N ≤ w.heap.size) (hr : ∀ k, k < N → row = some k → X k) : Chg N X w w' :=
  ⟨h.os, h.tape, h.output, h.size, fun k hk hx => h.block k (by omega) (fun e => hx (hr k hk e.symm))⟩
theorem Chg.of_grow {N : Nat} {X : Nat → Prop} {w w' : World} (h : Grow w w') (hN : N ≤ w.heap.size) : Chg N X w w' := Chg.of_grown (h.grown none) hN (fun _ _ e => by cases e)
theorem Chg.setCell {N : Nat} {X : Nat → Prop} (w : World) {b : Nat} (o : Nat) (v : Value) (hb : X b) : Chg N X w (w.setCell ⟨b, o, none⟩ v) :=
  ⟨rfl, rfl, rfl, by simp [World.setCell], fun k _ hx => Below.heap_setCell _ _ _ _ (fun e => hx (by rw [e]; exact hb))⟩
theorem Chg.below {N B : Nat} {X : Nat → Prop} {w w' : World} (h : Chg N X w w') (hB : B ≤ N) (hx : ∀ k, X k → B ≤ k) : Below B w w' :=
  ⟨h.os, h.tape, h.output, h.size, fun k hk => h.block k (by omega) (fun e => by have := hx k e; omega)⟩
theorem Chg.grown {N : Nat} {X : Nat → Prop} {w w' : World} (h : Chg N X w w') : ∀ k, k < N → ¬ X k → w'.heap[k]? = w.heap[k]? := h.block

theorem own_heap {B : Nat} {w : World} {v : Value} {n : Nat} {e : TypeId} {xs : List Value} (h : w.ownsRow B e 1 v n xs) {g : Nat} (hg : v.ownBlock = some g) : ∃ cur, w.heap[g]? = some (.cells cur e) := by
  rcases h.2 with ⟨rfl, _⟩ | ⟨g', cap, cur, rfl, _, hg', _⟩
  · simp [Value.ownBlock] at hg
  · simp only [Value.ownBlock, Option.some.injEq] at hg
    subst hg
    exact ⟨cur, hg'⟩
/-- Two rows of different kinds lie apart. -/
theorem own_apart {B B' : Nat} {w : World} {v v' : Value} {n n' : Nat} {e e' : TypeId} {xs xs' : List Value} (h : w.ownsRow B e 1 v n xs) (h' : w.ownsRow B' e' 1 v' n' xs') (hne : e ≠ e') : v.ownBlock = none ∨ v.ownBlock ≠ v'.ownBlock := by
  cases hv : v.ownBlock with
  | none => exact .inl rfl
  | some g =>
    refine .inr (fun e1 => ?_)
    obtain ⟨c1, h1⟩ := own_heap h hv
    obtain ⟨c2, h2⟩ := own_heap h' e1.symm
    rw [h1] at h2
    simp only [Option.some.injEq, Obj.cells.injEq] at h2
    exact hne h2.2.1
theorem own_kept {N B : Nat} {X : Nat → Prop} {w w' : World} {v : Value} {n : Nat} {e : TypeId} {xs : List Value} (h : w.ownsRow B e 1 v n xs) (k : Chg N X w w') (hN : w.heap.size ≤ N) (hx : ∀ g, v.ownBlock = some g → ¬ X g) : w'.ownsRow B e 1 v n xs := by
  refine ⟨h.1, ?_⟩
  rcases h.2 with hn | ⟨g, cap, cur, rfl, hb, hg, r⟩
  · exact .inl hn
  · have hlt := (Array.getElem?_eq_some_iff.1 hg).1
    exact .inr ⟨g, cap, cur, rfl, hb, (k.block g (by omega) (hx g rfl)).trans hg, r⟩
theorem row_kept {N : Nat} {X : Nat → Prop} {w w' : World} {b : Nat} {t : TypeId} {l : List Value} (h : Row w b t l) (k : Chg N X w w') (hN : w.heap.size ≤ N) (hx : ¬ X b) : Row w' b t l :=
  (k.block b (Nat.lt_of_lt_of_le h.lt hN) hx).trans h
theorem map_kept {N : Nat} {X : Nat → Prop} {w w' : World} {t : TypeId} {b n : Nat} {D : DataW Value} (h : w.ownsMap Tryz.prog t RH b n D) (k : Chg N X w w') (hN : w.heap.size ≤ N) (hx : ¬ X b) : w'.ownsMap Tryz.prog t RH b n D := by
  have hlt := h.lt
  obtain ⟨es, clock, hb, F, hs, hD⟩ := h
  exact ⟨es, clock, (k.block b (by omega) hx).trans hb, F, hs, hD⟩
theorem map_ne_row {w : World} {t t' : TypeId} {b b' n : Nat} {D : DataW Value} {l : List Value} (h : w.ownsMap Tryz.prog t RH b n D) (hr : Row w b' t' l) : b ≠ b' := by
  obtain ⟨es, clock, hb, _⟩ := h
  intro e
  subst e
  unfold Row at hr
  rw [hb] at hr
  cases hr
theorem map_ne_own {w : World} {t e : TypeId} {b n B m : Nat} {D : DataW Value} {v : Value} {xs : List Value} (h : w.ownsMap Tryz.prog t RH b n D) (ho : w.ownsRow B e 1 v m xs) : v.ownBlock ≠ some b := fun hv => by
  obtain ⟨es, clock, hb, _⟩ := h
  obtain ⟨cur, hc⟩ := own_heap ho hv
  rw [hb] at hc
  cases hc
theorem rows_ne {w : World} {t t' : TypeId} {b b' : Nat} {l l' : List Value} (h : Row w b t l) (h' : Row w b' t' l') (hne : t ≠ t') : b ≠ b' := fun e => by
  subst e
  unfold Row at h h'
  rw [h] at h'
  simp only [Option.some.injEq, Obj.cells.injEq] at h'
  exact hne h'.2.1
theorem own_ne_row' {B : Nat} {w : World} {v : Value} {n b : Nat} {e t : TypeId} {xs l : List Value} (h : w.ownsRow B e 1 v n xs) (hr : Row w b t l) (hne : e ≠ t) : v.ownBlock ≠ some b := fun hv => by
  obtain ⟨cur, hc⟩ := own_heap h hv
  unfold Row at hr
  rw [hc] at hr
  simp only [Option.some.injEq, Obj.cells.injEq] at hr
  exact hne hr.2.1
theorem rest_row {w : World} {b : Nat} {mn mx bt rm : Int} (h : Rest w b mn mx bt rm) : ∃ l, Row w b 129 l := by
  rcases h with ⟨t, _, h⟩ | h
  · exact ⟨_, h⟩
  · exact ⟨_, h⟩
theorem rest_kept {N : Nat} {X : Nat → Prop} {w w' : World} {b : Nat} {mn mx bt rm : Int} (h : Rest w b mn mx bt rm) (k : Chg N X w w') (hN : w.heap.size ≤ N) (hx : ¬ X b) : Rest w' b mn mx bt rm := by
  rcases h with ⟨t, ht, h⟩ | h
  · exact .inl ⟨t, ht, row_kept h k hN hx⟩
  · exact .inr (row_kept h k hN hx)

/-- What Put may turn. -/
def PutX (cv u : Value) (sb fb : Nat) (i : Nat) : Prop := cv.ownBlock = some i ∨ i = sb ∨ i = fb ∨ u.ownBlock = some i

/-- The store at block p is st, its bytes lie at wv. -/
def Stv (B : Nat) (w : World) (p : Nat) (st : St) (wv : Value) : Prop := ∃ cb sb mb fb cv lf n1 n2 D1 D2 F G, StoAt B w p st cb sb mb fb wv cv lf n1 n2 D1 D2 F G
theorem Stv.sto {B : Nat} {w : World} {p : Nat} {st : St} {wv : Value} (h : Stv B w p st wv) : Sto B w p st := by
  obtain ⟨cb, sb, mb, fb, cv, lf, n1, n2, D1, D2, F, G, h⟩ := h
  exact ⟨cb, sb, mb, fb, wv, cv, lf, n1, n2, D1, D2, F, G, h⟩
theorem Stv.grow {B : Nat} {w w' : World} {p : Nat} {st : St} {wv : Value} (h : Stv B w p st wv) (k : Grow w w') : Stv B w' p st wv := by
  obtain ⟨cb, sb, mb, fb, cv, lf, n1, n2, D1, D2, F, G, h⟩ := h
  exact ⟨cb, sb, mb, fb, cv, lf, n1, n2, D1, D2, F, G, h.grow k⟩
theorem Stv.cell7 {B : Nat} {w : World} {p : Nat} {st : St} {wv : Value} (h : Stv B w p st wv) : w.cell? ⟨p, 7, none⟩ = some wv := by
  obtain ⟨cb, sb, mb, fb, cv, lf, n1, n2, D1, D2, F, G, h⟩ := h
  exact h.row.cell 7
theorem Stv.cell3 {B : Nat} {w : World} {p : Nat} {st : St} {wv : Value} (h : Stv B w p st wv) : w.cell? ⟨p, 3, none⟩ = some (.int .i64 st.rm) := by
  obtain ⟨cb, sb, mb, fb, cv, lf, n1, n2, D1, D2, F, G, h⟩ := h
  exact h.row.cell 3

theorem put_end {B : Nat} {w w' : World} {p : Nat} {st : St} {cb sb mb fb : Nat} {wv cv : Value} {lf : Int} {n1 n2 : Nat} {D1 D2 : DataW Value} {F G : List UInt8 → Value} {c : List UInt8} {nv u' : Value}
    (h : StoAt B w p st cb sb mb fb wv cv lf n1 n2 D1 D2 F G) (k : Chg w.heap.size (PutX cv (F (sumL c)) sb fb) w w')
    (hR : Row w' sb 110 [nv, .map (some fb)]) (hS : SBuf B w' nv (st.chunks ++ [c])) (hM : w'.ownsMap Tryz.prog 154 RH fb (n1 + 1) (D1.put (klit (sumL c)) (.held u')))
    (hI : IBuf B w' u' (ints (idxs st.chunks (sumL c) ++ [st.chunks.length]))) (hloc : u'.ownBlock = (F (sumL c)).ownBlock ∨ ∃ g, u'.ownBlock = some g ∧ w.heap.size ≤ g) :
    Stv B w' p { st with chunks := st.chunks ++ [c] } wv := by
  have hIF := fun d hd => (h.found d hd).2
  have x83 : ¬ PutX cv (F (sumL c)) sb fb p := by
    rintro (e | e | e | e)
    · exact own_ne_row' h.chunks h.row (by decide) e
    · exact rows_ne h.row h.shelf (by decide) e
    · exact map_ne_row h.fmap h.row e.symm
    · exact own_ne_row' (hIF (sumL c) rfl) h.row (by decide) e
  have xcb : ¬ PutX cv (F (sumL c)) sb fb cb := by
    obtain ⟨l, hl⟩ := rest_row h.cut
    rintro (e | e | e | e)
    · exact own_ne_row' h.chunks hl (by decide) e
    · exact rows_ne hl h.shelf (by decide) e
    · exact map_ne_row h.fmap hl e.symm
    · exact own_ne_row' (hIF (sumL c) rfl) hl (by decide) e
  have xmb : ¬ PutX cv (F (sumL c)) sb fb mb := by
    rintro (e | e | e | e)
    · exact map_ne_own h.smap h.chunks e
    · exact map_ne_row h.smap h.shelf e
    · exact h.mbfb e
    · exact map_ne_own h.smap (hIF (sumL c) rfl) e
  have xwv : ∀ g, wv.ownBlock = some g → ¬ PutX cv (F (sumL c)) sb fb g := by
    rintro g hg (e | e | e | e)
    · rcases own_apart h.text h.chunks (by decide) with e1 | e1
      · rw [hg] at e1; cases e1
      · exact e1 (hg.trans e.symm)
    · exact own_ne_row' h.text h.shelf (by decide) (by rw [hg, e])
    · exact map_ne_own h.fmap h.text (by rw [hg, e])
    · rcases own_apart h.text (hIF (sumL c) rfl) (by decide) with e1 | e1
      · rw [hg] at e1; cases e1
      · exact e1 (hg.trans e.symm)
  have xint : ∀ {v : Value} {l : List Nat}, IBuf B w v (ints l) → (v.ownBlock = none ∨ v.ownBlock ≠ (F (sumL c)).ownBlock) → ∀ g, v.ownBlock = some g → ¬ PutX cv (F (sumL c)) sb fb g := by
    rintro v l hv hne g hg (e | e | e | e)
    · rcases own_apart hv h.chunks (by decide) with e1 | e1
      · rw [hg] at e1; cases e1
      · exact e1 (hg.trans e.symm)
    · exact own_ne_row' hv h.shelf (by decide) (by rw [hg, e])
    · exact map_ne_own h.fmap hv (by rw [hg, e])
    · rcases hne with e1 | e1
      · rw [hg] at e1; cases e1
      · exact e1 (hg.trans e.symm)
  have hne' : ∀ {v : Value} {l : List Nat}, IBuf B w v (ints l) → (v.ownBlock = none ∨ v.ownBlock ≠ (F (sumL c)).ownBlock) → v.ownBlock = none ∨ v.ownBlock ≠ u'.ownBlock := by
    intro v l hv hne
    cases hvb : v.ownBlock with
    | none => exact .inl rfl
    | some g =>
      right
      rcases hloc with e | ⟨g', e, hg'⟩
      · rw [e, ← hvb]
        rcases hne with e1 | e1
        · rw [hvb] at e1; cases e1
        · exact e1
      · rw [e]
        intro e2
        simp only [Option.some.injEq] at e2
        have := (hv.block g hvb).2
        omega
  refine ⟨cb, sb, mb, fb, nv, lf, n1 + 1, n2, D1.put (klit (sumL c)) (.held u'), D2, fun d => if d = sumL c then u' else F d, G, ?_⟩
  refine { row := row_kept h.row k (Nat.le_refl _) x83, cut := rest_kept h.cut k (Nat.le_refl _) xcb, shelf := hR, text := own_kept h.text k (Nat.le_refl _) xwv, chunks := hS, fmap := hM, smap := map_kept h.smap k (Nat.le_refl _) xmb, n1le := ?_, n2le := h.n2le, found := ?_, apart := ?_, has := h.has, num := ?_, shun := ?_, mbfb := h.mbfb, low := h.low, good := h.good }
  · have := h.n1le
    simp
    omega
  · intro d hd
    by_cases e : d = sumL c
    · subst e
      simp only [if_true]
      refine ⟨Maps.atKey_put_same h.fmap.isMap (klit_key _) _ _, ?_⟩
      rw [idxs_snoc_same]
      exact hI
    · simp only [if_neg e]
      obtain ⟨h1, h2⟩ := h.found d hd
      refine ⟨?_, ?_⟩
      · rw [Maps.atKey_put_other (fun e1 => e (klit_inj hd rfl e1))]
        exact h1
      · rw [idxs_snoc_other _ _ _ (fun e1 => e e1.symm)]
        exact own_kept h2 k (Nat.le_refl _) (xint h2 (h.apart d (sumL c) hd rfl e))
  · intro d d' hd hd' hne
    by_cases e : d = sumL c
    · subst e
      rw [if_pos rfl, if_neg (fun e1 => hne e1.symm)]
      rcases hne' (h.found d' hd').2 (h.apart d' _ hd' rfl (fun e1 => hne e1.symm)) with e1 | e1
      · cases hu : u'.ownBlock with
        | none => exact .inl rfl
        | some g => exact .inr (by rw [e1]; simp)
      · exact .inr (fun e2 => e1 e2.symm)
    · rw [if_neg e]
      by_cases e' : d' = sumL c
      · subst e'
        rw [if_pos rfl]
        exact hne' (h.found d hd).2 (h.apart d _ hd rfl e)
      · rw [if_neg e']
        exact h.apart d d' hd hd' hne
  · intro x hx
    obtain ⟨h1, h2⟩ := h.num x hx
    exact ⟨h1, own_kept h2 k (Nat.le_refl _) (xint h2 (h.shun x hx _ rfl))⟩
  · intro x hx d hd
    by_cases e : d = sumL c
    · subst e
      rw [if_pos rfl]
      exact hne' (h.num x hx).2 (h.shun x hx _ rfl)
    · rw [if_neg e]
      exact h.shun x hx d hd

theorem put_mid {B : Nat} {w w4 w5 : World} {p : Nat} {st : St} {cb sb mb fb : Nat} {wv cv : Value} {lf : Int} {n1 n2 : Nat} {D1 D2 : DataW Value} {F G : List UInt8 → Value} {c : List UInt8} {nv : Value} {db : Nat} {dl : List Value} {o : Obj}
    (h : StoAt B w p st cb sb mb fb wv cv lf n1 n2 D1 D2 F G) (hR : Row w db 154 dl) (hG4 : Grow w.drew w4) (hg5 : (w4.alloc o).grownBy w5 cv.ownBlock)
    (hown5 : w5.ownsRow B 9 1 nv (st.chunks.length + 1) (cellsOfStrs st.chunks ++ [strV c])) :
    ∃ w6, w6 = w5.setCell ⟨sb, 0, none⟩ nv ∧ Chg w.heap.size (PutX cv (F (sumL c)) sb fb) w w6 ∧ Row w6 sb 110 [nv, .map (some fb)] ∧ SBuf B w6 nv (st.chunks ++ [c]) ∧ w6.ownsMap Tryz.prog 154 RH fb n1 D1 ∧ IBuf B w6 (F (sumL c)) (ints (idxs st.chunks (sumL c))) ∧ Row w6 db 154 dl ∧ w.heap.size ≤ w6.heap.size := by
  have g4 : Grow w (w4.alloc o) := Grow.alloc (Grow.trans (Grow.refl w).drew hG4) o
  have z4 := g4.size
  have hf := (h.found (sumL c) rfl).2
  have a1 : (F (sumL c)).ownBlock = none ∨ (F (sumL c)).ownBlock ≠ cv.ownBlock := own_apart hf h.chunks (by decide)
  have hR5 : Row w5 sb 110 [cv, .map (some fb)] := (hg5.block sb (Nat.lt_of_lt_of_le h.shelf.lt z4) (fun e => own_ne_row' h.chunks h.shelf (by decide) e.symm)).trans (h.shelf.grow g4)
  have hD5 : Row w5 db 154 dl := (hg5.block db (Nat.lt_of_lt_of_le hR.lt z4) (fun e => own_ne_row' h.chunks hR (by decide) e.symm)).trans (hR.grow g4)
  have hM5 : w5.ownsMap Tryz.prog 154 RH fb n1 D1 := (h.fmap.kept (g4.grown none) (by simp)).kept hg5 (fun e => map_ne_own h.fmap h.chunks e.symm)
  have hI5 : IBuf B w5 (F (sumL c)) (ints (idxs st.chunks (sumL c))) := World.ownsRow.kept (hf.below g4) hg5 a1
  refine ⟨_, rfl, ?_, hR5.setCell 0 nv, ?_, hM5.setCell (fun e => map_ne_row hM5 hR5 e) _, ?_, ?_, ?_⟩
  · exact ((Chg.of_grow g4 (Nat.le_refl _)).trans (Chg.of_grown hg5 z4 (fun k _ e => .inl e))).trans (Chg.setCell _ _ _ (.inr (.inl rfl)))
  · unfold SBuf
    rw [List.length_append, cellsOfStrs_append]
    exact own_kept (N := w5.heap.size) (X := fun i => i = sb) hown5 (Chg.setCell _ _ _ rfl) (Nat.le_refl _) (fun g hg e => own_ne_row' hown5 hR5 (by decide) (by rw [hg, e]))
  · exact own_kept (N := w5.heap.size) (X := fun i => i = sb) hI5 (Chg.setCell _ _ _ rfl) (Nat.le_refl _) (fun g hg e => own_ne_row' hI5 hR5 (by decide) (by rw [hg, e]))
  · exact row_kept (N := w5.heap.size) (X := fun i => i = sb) hD5 (Chg.setCell _ _ _ rfl) (Nat.le_refl _) (fun e => rows_ne hD5 hR5 (by decide) e)
  · have := hg5.size
    simp only [World.setCell, Array.size_modify]
    omega

theorem keep5 {w w' : World} {row : Option Nat} {sb db : Nat} {x a b c d : Value} (hg : w.grownBy w' row) (h1 : some sb ≠ row) (h2 : some db ≠ row)
    (s : w.cell? ⟨sb, 1, none⟩ = some x ∧ w.cell? ⟨db, 0, none⟩ = some a ∧ w.cell? ⟨db, 1, none⟩ = some b ∧ w.cell? ⟨db, 2, none⟩ = some c ∧ w.cell? ⟨db, 3, none⟩ = some d) :
    w'.cell? ⟨sb, 1, none⟩ = some x ∧ w'.cell? ⟨db, 0, none⟩ = some a ∧ w'.cell? ⟨db, 1, none⟩ = some b ∧ w'.cell? ⟨db, 2, none⟩ = some c ∧ w'.cell? ⟨db, 3, none⟩ = some d := by
  obtain ⟨s0, s1, s2, s3, s4⟩ := s
  exact ⟨(hg.cell_far _ (cell_lt s0) h1).trans s0, (hg.cell_far _ (cell_lt s1) h2).trans s1, (hg.cell_far _ (cell_lt s2) h2).trans s2, (hg.cell_far _ (cell_lt s3) h2).trans s3, (hg.cell_far _ (cell_lt s4) h2).trans s4⟩

end Go.Proofs.YtheichphnppagaaGreat
