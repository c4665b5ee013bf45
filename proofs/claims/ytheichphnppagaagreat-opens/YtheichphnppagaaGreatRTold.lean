/- Opens: RParts, RTold. -/
import Derived.Test.YtheichphnppagaaGreatCutc
import Derived.Test.YtheichphnppagaaGreatRefCut
import Derived.Test.YtheichphnppagaaGreatRKeep
import Derived.Test.YtheichphnppagaaGreatRInts
namespace Go.Proofs.YtheichphnppagaaGreat
open Go.RowKit
attribute [local go_sem ↓] Go.wp_at_zero Go.wp_at_succ

set_option maxRecDepth 100000 in
set_option maxHeartbeats 1600000 in
theorem refParts_any (s : ByteArray) (mn mx bt : Nat) (rm : Int) (w : World) (hs : s.size ≤ 2000) (h1 : 16 ≤ mn) (h2 : mn ≤ mx) (h3 : mx ≤ 200) (h5 : bt ≤ 12) :
    Calls Tryz.prog 74 #[.string s, .agg #[.int .i64 mn, .int .i64 mx, .int .i64 bt, .int .i64 rm]] w fun e w' => ∃ v, e = .returned v ∧ SBuf w.heap.size w' v (partsL (bl s) mn mx bt) ∧ Grow w w' := by
  have hbl := bl_length s
  have hcl : (cuts (bl s) mn mx bt).length ≤ 2000 := by have := cutsF_length (bl s) (mn := mn) (mx := mx) (bits := bt) (bl s).length 0; unfold cuts; omega
  have hk : Grow w (w.alloc (.cells #[.int .i64 mn, .int .i64 mx, .int .i64 bt, .int .i64 rm] 26)) := (Grow.refl w).alloc _
  go_enter Tryz.func74, Tryz.ntmps74
  go_wp2_with fail
  refine (refcut_any s mn mx bt rm _ hs h1 h2 h3 h5).mono ?_
  rintro e w1 ⟨u, rfl, hu, hB1⟩
  have hlen := fun W => len_ibuf hu W
  have G1 : Grow w w1 := Grow.trans hk hB1
  have hz1 := G1.size
  obtain ⟨C, hC⟩ : ∃ C, cuts (bl s) mn mx bt = C := ⟨_, rfl⟩
  have HC : Hid (cuts (bl s) mn mx bt = C) := hC
  rw [hC] at hu hlen hcl
  clear hC
  go_wp2
  go_loopw [5, 7, 8] (fun v5 v7 v8 wr => ∃ (k last : Nat) (x : List (List UInt8)), v8 = .int .i64 k ∧ k ≤ C.length ∧ v7 = .int .i64 last ∧ x.length ≤ k ∧ SBuf w1.heap.size wr v5 x ∧ Hid (CSt (bl s) mn mx bt k last x) ∧ Grow w1 wr) (fun _ _ v8 _ => C.length - (intOf v8).toNat)
  case atStart => exact ⟨0, 0, [], rfl, by omega, rfl, by simp, SBuf.nil _ _, CSt.start _ _ _ _, Grow.refl _⟩
  case round =>
    obtain ⟨k, last, x, rfl, hk, rfl, hxk, hx, H, hg⟩ := hrel
    have hzr := hg.size
    by_cases hlt : (k : Int) < (C.length : Int)
    · have hkl : k < C.length := by omega
      rcases hu.form with ⟨_, h0⟩ | ⟨g, cap, rfl, _, _⟩
      · have : C = [] := by simpa [ints] using h0
        rw [this] at hkl
        simp at hkl
      rw [ints_length] at hu ⊢
      obtain ⟨n, hn⟩ : ∃ n, C.getD k 0 = n := ⟨_, rfl⟩
      have kc := (hu.below hg).cellN k hkl
      rw [hn] at kc
      obtain ⟨a1, a2, H'⟩ := H.out.step (n := n) (by rw [HC.out]; exact hkl) (by rw [HC.out]; exact hn) (by omega) h2
      have H2 : Hid (CSt (bl s) mn mx bt (k + 1) n (x ++ [((bl s).drop last).take (n - last)])) := H'
      have HN : Hid (C.getD k 0 = n) := hn
      have HKL : Hid (k < C.length) := hkl
      clear hn hkl H' hlen
      rw [hbl] at a2
      have a3 : (last : Int) ≤ (n : Int) := by omega
      have a4 : (n : Int) ≤ (s.size : Int) := by omega
      have S := ssrc_one wr (s.extract last n) (((bl s).drop last).take (n - last)) (bl_extract s last n)
      go_wp2_with (at_builtin; refine wpList_append_sbuf rfl (.tmp 18) (.tmp 26) 24 rfl w1.heap.size _ _ x [((bl s).drop last).take (n - last)] rfl rfl (hx.alloc _) (by simp) S (by simp; omega) (by simp; omega) ?_; intro v2 w2 hb2 hbw2; have G2 : Grow w1 w2 := Below.trans (hg.alloc _) hbw2; have kc2 : w2.cell? ⟨g, k, none⟩ = some (.int .i64 (n : Nat)) := (by have := (hu.below G2).cellN k HKL.out; rw [HN.out] at this; exact this))
      exact ⟨⟨k + 1, n, _, by go_num, by omega, rfl, by simp; omega, hb2, H2, G2⟩, by simp [intOf]; omega⟩
    · have e := H.out.done (by rw [HC.out]; omega)
      rw [e] at hx
      go_wp2
      go_ret
      exact ⟨_, rfl, hx.low hz1, Grow.trans G1 hg⟩

end Go.Proofs.YtheichphnppagaaGreat
namespace Go.Proofs.YtheichphnppagaaGreat
open Go.RowKit
attribute [local go_sem ↓] Go.wp_at_zero Go.wp_at_succ

theorem strCells_cong {G H : List UInt8 → Value} : ∀ {xs : List (List UInt8 × List Nat)}, (∀ x ∈ xs, G x.1 = H x.1) → strCells G xs = strCells H xs
  | [], _ => rfl
  | a :: t, h => by
    have h1 := h a List.mem_cons_self
    have h2 := strCells_cong (xs := t) (fun x hx => h x (List.mem_cons_of_mem _ hx))
    show [strV a.1, G a.1] ++ strCells G t = [strV a.1, H a.1] ++ strCells H t
    rw [h1, h2]

theorem told_end {B : Nat} {w W : World} {q : Nat} {st : St} {cv sv nv u : Value} {G : List UInt8 → Value} {name : List UInt8} {l : List Nat} (hB : B ≤ w.heap.size)
    (h : RfAt B w q st cv sv G) (hk : Chg w.heap.size (fun i => sv.ownBlock = some i ∨ i = q ∨ w.heap.size ≤ i) w W)
    (hR : Row W q 55 [.int .i64 st.mn, .int .i64 st.mx, .int .i64 st.bt, .int .i64 st.rm, strV st.text, cv, sv, .int .i64 (-1), .bool false])
    (hown : W.ownsRow B 58 2 nv (st.streams.length + 1) (strCells G st.streams ++ [strV name, u])) (hu : IBuf B W u (ints l)) (hno : ∀ x ∈ st.streams, x.1 ≠ name) :
    Rf B (W.setCell ⟨q, 6, none⟩ nv) q { st with streams := st.streams ++ [(name, l)] } ∧ Below B w (W.setCell ⟨q, 6, none⟩ nv) := by
  have hC := hk.trans (Chg.setCell W (b := q) 6 nv (.inr (.inl rfl)))
  have hq : ∀ {B' n sz : Nat} {ty : TypeId} {v : Value} {xs : List Value}, W.ownsRow B' ty sz v n xs → ty ≠ 55 → (W.setCell ⟨q, 6, none⟩ nv).ownsRow B' ty sz v n xs := fun ho ht => own_kept2 (N := W.heap.size) (X := fun i => i = q) ho (Chg.setCell _ _ _ rfl) (Nat.le_refl _) (fun g hg e => own_ne_row2 ho hR ht (by rw [hg, e]))
  have xown : ∀ {n sz : Nat} {ty : TypeId} {v : Value} {xs : List Value}, w.ownsRow B ty sz v n xs → ty ≠ 58 → ty ≠ 55 → ∀ g, v.ownBlock = some g → ¬ (sv.ownBlock = some g ∨ g = q ∨ w.heap.size ≤ g) := by
    rintro n sz ty v xs ho h5 h55 g hg (e | e | e)
    · rcases own_apart2 ho h.strs h5 with e1 | e1
      · rw [hg] at e1; cases e1
      · exact e1 (hg.trans e.symm)
    · exact own_ne_row2 ho h.row h55 (by rw [hg, e])
    · obtain ⟨c, hc⟩ := own_heap2 ho hg
      have := (Array.getElem?_eq_some_iff.1 hc).1
      omega
  refine ⟨⟨cv, nv, fun nm => if nm = name then u else G nm, ?_⟩, hC.below hB ?_⟩
  · refine { row := hR.setCell 6 nv, chunks := own_kept h.chunks hC (Nat.le_refl _) (xown h.chunks (by decide) (by decide)), strs := ?_, num := ?_, low := h.low }
    · have e : strCells (fun nm => if nm = name then u else G nm) (st.streams ++ [(name, l)]) = strCells G st.streams ++ [strV name, u] := by
        rw [strCells_append, strCells_cong (G := fun nm => if nm = name then u else G nm) (H := G) (fun x hx => if_neg (hno x hx))]
        simp [strCells]
      show World.ownsRow _ B 58 2 nv (st.streams ++ [(name, l)]).length (strCells (fun nm => if nm = name then u else G nm) (st.streams ++ [(name, l)]))
      rw [e, List.length_append]
      exact hq hown (by decide)
    · intro x hx
      rcases List.mem_append.1 hx with hx | hx
      · show IBuf B _ (if x.1 = name then u else G x.1) _
        rw [if_neg (hno x hx)]
        exact own_kept (h.num x hx) hC (Nat.le_refl _) (xown (h.num x hx) (by decide) (by decide))
      · simp only [List.mem_singleton] at hx
        subst hx
        show IBuf B _ (if name = name then u else G name) _
        rw [if_pos rfl]
        exact hq hu (by decide)
  · rintro k (e | e | e)
    · exact (World.ownsRow.lt h.strs k e).1
    · rw [e]; exact h.low
    · omega

/-- What told makes of a record, by the document's numbers. -/
theorem readS_told {st : St} {y : List UInt8} {d : UInt8} {l : List Nat} (h0 : (y.getD 0 0).toNat = 2) (hd : y.getD 1 0 = d) (hl : 2 + d.toNat ≤ y.length) (h5 : vints 5 (y.drop (2 + d.toNat)) = some l) (hcs : st.chunks.length < 268435456) :
    readS st y = if (∀ n ∈ l, n < st.chunks.length) ∧ refE st ((y.drop 2).take d.toNat) (joinL st.chunks l) = 0 ∧ cutInto st.chunks (partsL (joinL st.chunks l) st.mn st.mx st.bt) l = true then some ((y.drop 2).take d.toNat, l) else none := by
  match y, hl with
  | [], hl => simp at hl
  | [a], hl => simp at hl; omega
  | a :: b :: t, hl =>
    simp at h0 hd
    subst hd
    have hl' : b.toNat ≤ t.length := by simp at hl; omega
    have e1 : (a :: b :: t).drop (2 + b.toNat) = t.drop b.toNat := by rw [Nat.add_comm]; rfl
    have e2 : (a :: b :: t).drop 2 = t := rfl
    rw [e1] at h5
    rw [e2]
    have es : streamRec (a :: b :: t) = (vints 3 (t.drop b.toNat)).map fun l => (t.take b.toNat, l) := by
      simp only [streamRec]
      rw [if_pos ⟨h0, hl'⟩]
    unfold vints at h5
    rcases vints_more (t.drop b.toNat).length (t.drop b.toNat) with h | ⟨h1, h2⟩
    · have e3 : vints 3 (t.drop b.toNat) = some l := by unfold vints; rw [← h, h5]
      unfold readS
      rw [es, e3]
      rfl
    · have e3 : vints 3 (t.drop b.toNat) = none := h1
      obtain ⟨n, hn, hg⟩ := h2 l h5
      rw [if_neg (fun hh => by have := hh.1 n hn; omega)]
      unfold readS
      rw [es, e3]
      rfl
theorem readS_told_none {st : St} {y : List UInt8} {d : UInt8} (hd : y.getD 1 0 = d) (h5 : y.length < 2 + d.toNat ∨ vints 5 (y.drop (2 + d.toNat)) = none) : readS st y = none := by
  apply readS_none
  match y with
  | [] => rfl
  | [a] => rfl
  | a :: b :: t =>
    simp at hd
    subst hd
    simp only [streamRec]
    split
    · rename_i hh
      rcases h5 with h5 | h5
      · simp at h5; omega
      · have e1 : (a :: b :: t).drop (2 + b.toNat) = t.drop b.toNat := by rw [Nat.add_comm]; rfl
        rw [e1] at h5
        unfold vints at h5 ⊢
        rcases vints_more (t.drop b.toNat).length (t.drop b.toNat) with h | ⟨h1, _⟩
        · rw [← h, h5]; rfl
        · rw [h1]; rfl
    · rfl
theorem join_ge (cs : List (List UInt8)) (hc : ∀ c ∈ cs, 1 ≤ c.length) : ∀ l : List Nat, (∀ n ∈ l, n < cs.length) → l.length ≤ (joinL cs l).length
  | [], _ => by simp
  | n :: r, h => by
    have ih := join_ge cs hc r (fun x hx => h x (List.mem_cons_of_mem _ hx))
    have hn := h n List.mem_cons_self
    have h1 := hc (cs.getD n []) (by rw [List.getD_eq_getElem?_getD, List.getElem?_eq_getElem hn]; exact List.getElem_mem _)
    have e : joinL cs (n :: r) = cs.getD n [] ++ joinL cs r := by simp [joinL]
    rw [e, List.length_append, List.length_cons]
    omega
theorem cutInto_of {cs ps : List (List UInt8)} {l : List Nat} (h1 : ps.length = l.length) (h2 : ∀ i, i < l.length → ps.getD i [] = cs.getD (l.getD i 0) []) : cutInto cs ps l = true := by
  unfold cutInto
  rw [decide_eq_true h1, Bool.true_and, List.all_eq_true]
  intro i hi
  rw [List.mem_range, h1] at hi
  rw [h2 i hi]
  simp
theorem cutInto_len {cs ps : List (List UInt8)} {l : List Nat} (h : cutInto cs ps l = true) : ps.length = l.length ∧ ∀ i, i < l.length → ps.getD i [] = cs.getD (l.getD i 0) [] := by
  unfold cutInto at h
  simp only [Bool.and_eq_true, decide_eq_true_eq, List.all_eq_true, List.mem_range] at h
  refine ⟨h.1, fun i hi => ?_⟩
  have := h.2 i (by omega)
  simpa using this

end Go.Proofs.YtheichphnppagaaGreat
