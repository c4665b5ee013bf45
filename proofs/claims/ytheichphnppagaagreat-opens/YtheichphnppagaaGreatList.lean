/- Opens: Off, Iter, List. -/
import Derived.Test.YtheichphnppagaaGreatAsk
import Derived.Test.YtheichphnppagaaGreatROpen2
import Derived.Test.YtheichphnppagaaGreatOpen
import Derived.Test.YtheichphnppagaaGreatClone
import Derived.Test.YtheichphnppagaaGreatRKeep
import Derived.Sort.KeysCollected
namespace Go.Proofs.YtheichphnppagaaGreat
open Go.RowKit

theorem own_off {B b sz : Nat} {w w' : World} {v : Value} {n : Nat} {e : TypeId} {xs : List Value} (h : w.ownsRow B e sz v n xs) (k : w.grownBy w' (some b)) (hb : b < B) : w'.ownsRow B e sz v n xs :=
  World.ownsRow.kept h k (.inr (fun e => by have := (World.ownsRow.lt h b e).1; omega))
theorem Row.off {w w' : World} {b p : Nat} {t : TypeId} {l : List Value} (h : Row w p t l) (k : w.grownBy w' (some b)) (hb : b < p) : Row w' p t l := (k.block p h.lt (fun e => by have := Option.some.inj e; omega)).trans h
theorem StoAt.off {B b : Nat} {w w' : World} {p : Nat} {st : St} {cb sb mb fb : Nat} {wv cv : Value} {lf : Int} {n1 n2 : Nat} {D1 D2 : DataW Value} {F G : List UInt8 → Value}
    (h : StoAt B w p st cb sb mb fb wv cv lf n1 n2 D1 D2 F G) (k : w.grownBy w' (some b)) (hb : b < B) : StoAt B w' p st cb sb mb fb wv cv lf n1 n2 D1 D2 F G := by
  obtain ⟨l1, l2, l3, l4, l5⟩ := h.low
  exact { h with
    row := h.row.off k (by omega)
    cut := by
      rcases h.cut with ⟨t, ht, hr⟩ | hr
      · exact .inl ⟨t, ht, hr.off k (by omega)⟩
      · exact .inr (hr.off k (by omega))
    shelf := h.shelf.off k (by omega)
    text := own_off h.text k hb
    chunks := own_off h.chunks k hb
    fmap := h.fmap.kept k (fun e => by have := Option.some.inj e; omega)
    smap := h.smap.kept k (fun e => by have := Option.some.inj e; omega)
    found := fun d hd => ⟨(h.found d hd).1, own_off (h.found d hd).2 k hb⟩
    num := fun x hx => ⟨(h.num x hx).1, own_off (h.num x hx).2 k hb⟩ }
theorem Sto.off {B b : Nat} {w w' : World} {p : Nat} {st : St} (h : Sto B w p st) (k : w.grownBy w' (some b)) (hb : b < B) : Sto B w' p st := by
  obtain ⟨cb, sb, mb, fb, wv, cv, lf, n1, n2, D1, D2, F, G, h⟩ := h
  exact ⟨cb, sb, mb, fb, wv, cv, lf, n1, n2, D1, D2, F, G, h.off k hb⟩
theorem Rf.off {B b : Nat} {w w' : World} {q : Nat} {st : St} (h : Rf B w q st) (k : w.grownBy w' (some b)) (hb : b < B) : Rf B w' q st := by
  obtain ⟨cv, sv, G, h⟩ := h
  have := h.low
  exact ⟨cv, sv, G, { h with
    row := h.row.off k (by omega)
    chunks := own_off h.chunks k hb
    strs := own_off h.strs k hb
    num := fun x hx => own_off (h.num x hx) k hb }⟩
theorem Rf.lowTo {B C : Nat} {w : World} {q : Nat} {st : St} (h : Rf B w q st) (hC : C ≤ B) : Rf C w q st := by
  obtain ⟨cv, sv, G, h⟩ := h
  have := h.low
  exact ⟨cv, sv, G, { h with
    chunks := h.chunks.low hC
    strs := ⟨h.strs.1, h.strs.2.elim .inl (fun ⟨g, cap, cur, e, hb, r⟩ => .inr ⟨g, cap, cur, e, Nat.le_trans hC hb, r⟩)⟩
    num := fun x hx => (h.num x hx).low hC
    low := by omega }⟩

end Go.Proofs.YtheichphnppagaaGreat
namespace Go.Proofs
open Go.RowKit Go.Maps Go.Sort Go.Shelf


theorem Tryz.sorts56 (m : Nat) : AnyZ.SortsIn Tryz.prog Tryz.sorted56_ren Fence.wide m :=
  ⟨fun blk off cap ss W hH hblk hsz => callsIn_wide.2 (AnyM.slices_Sort_string Tryz.sort90 blk off cap ss W hH hblk hsz),
   fun p cap W => callsIn_wide.2 (AnyM.slices_Sort_string_none Tryz.sort90 p cap W)⟩

theorem Tryz.maps_Keys_57 (mb : Option Nat) (W : World) : CallsIn Fence.wide 5 Tryz.prog 57 #[.map mb] W fun e w' => e = .returned (.func (.func 91) #[] #[.pointer (some ⟨W.heap.size, 0, none⟩)]) ∧ w' = W.alloc (.cells #[.map mb] 81) :=
  AnyZ.keys_in Tryz.keys57 Fence.wide 5 trivial rfl mb W

set_option maxHeartbeats 1000000 in
theorem Tryz.slices_Sorted_keys_56_57 {H : Type} (b nn : Nat) (D0 : DataW H) (R : Value → Option (DataW H × List MemPlace)) (w : World) (hown : w.ownsMap Tryz.prog 9 R b nn D0) (hmax : Maps.size D0 ≤ maxLen) (hbytes : Maps.size D0 * 16 ≤ 140737488355328) :
    CallsIn Fence.wide 5 Tryz.prog 56 #[.func (.func 91) #[] #[.pointer (some ⟨w.heap.size, 0, none⟩)]] (w.alloc (.cells #[.map (some b)] 81)) fun e w' => ∃ (v : Value) (ss : List (List UInt8)), e = .returned v ∧ ss.Perm (strKeys D0) ∧
      w'.ownsRow (w.alloc (.cells #[.map (some b)] 81)).heap.size 9 1 v ss.length ((ss.mergeSort (fun x y => decide (x ≤ y))).map encStr) ∧ (v = .slice none 0 0 ↔ ss = []) ∧ Below (w.alloc (.cells #[.map (some b)] 81)).heap.size (w.alloc (.cells #[.map (some b)] 81)) w' := by
  have hbl := hown.lt
  have hseq : SeqGives Fence.wide 2 Tryz.prog 91 #[.pointer (some ⟨w.heap.size, 0, none⟩)] encStr (fun ss => ss.Perm (strKeys D0)) (Maps.size D0) (w.alloc (.cells #[.map (some b)] 81)) :=
    AnyZ.keys_gives (ρ := Tryz.keys57_ren) { Tryz.keys57 with } Fence.wide _ trivial rfl (by omega) w.heap.size b nn D0 _ (by simp) (by simp) (by
      obtain ⟨es, clock, hb, Ft, hs, hD⟩ := hown
      exact ⟨es, clock, (Below.heap_alloc _ _ b hbl).trans hb, Ft, hs, hD⟩)
  exact AnyZ.sorted_in Tryz.sorted56 Fence.wide 5 trivial trivial trivial trivial rfl (by omega) (Tryz.sorts56 _) (enters_of Tryz.func90 (by kernel_rfl) rfl) 91 #[.pointer (some ⟨w.heap.size, 0, none⟩)] trivial (enters_of Tryz.func91 (by kernel_rfl) rfl) _ _ hmax hbytes _ hseq

set_option maxHeartbeats 1000000 in
theorem Tryz.slices_Sorted_keys_nil_56_57 (w : World) :
    CallsIn Fence.wide 5 Tryz.prog 56 #[.func (.func 91) #[] #[.pointer (some ⟨w.heap.size, 0, none⟩)]] (w.alloc (.cells #[.map none] 81)) fun e w' => ∃ (v : Value) (ss : List (List UInt8)), e = .returned v ∧ ss = [] ∧
      w'.ownsRow (w.alloc (.cells #[.map none] 81)).heap.size 9 1 v ss.length ((ss.mergeSort (fun x y => decide (x ≤ y))).map encStr) ∧ (v = .slice none 0 0 ↔ ss = []) ∧ Below (w.alloc (.cells #[.map none] 81)).heap.size (w.alloc (.cells #[.map none] 81)) w' := by
  have hseq : SeqGives Fence.wide 2 Tryz.prog 91 #[.pointer (some ⟨w.heap.size, 0, none⟩)] encStr (fun ss : List (List UInt8) => ss = []) 0 (w.alloc (.cells #[.map none] 81)) :=
    AnyZ.keys_gives_nil (ρ := Tryz.keys57_ren) { Tryz.keys57 with } Fence.wide _ trivial rfl w.heap.size _ (by simp) (by simp)
  exact AnyZ.sorted_in Tryz.sorted56 Fence.wide 5 trivial trivial trivial trivial rfl (by omega) (Tryz.sorts56 _) (enters_of Tryz.func90 (by kernel_rfl) rfl) 91 #[.pointer (some ⟨w.heap.size, 0, none⟩)] trivial (enters_of Tryz.func91 (by kernel_rfl) rfl) _ 0 (Nat.zero_le _) (by omega) _ hseq



end Go.Proofs
namespace Go.Proofs.YtheichphnppagaaGreat
open Go.RowKit
attribute [local go_sem ↓] Go.wp_at_zero Go.wp_at_succ

/-- One string is written. -/
theorem SBuf.set {B : Nat} {w : World} {g cap n : Nat} {l : List (List UInt8)} (hn : l.length = n) (h : SBuf B w (.slice (some ⟨g, 0, none⟩) n cap) l) (j : Nat) (c : List UInt8) : SBuf B (w.setCell ⟨g, j, none⟩ (strV c)) (.slice (some ⟨g, 0, none⟩) n cap) (l.set j c) := by
  subst hn
  unfold SBuf at *
  rcases h.2 with ⟨e, _⟩ | ⟨g', cap', cur, e, hb, hg, hnc, hcm, hcs, htake⟩
  · simp at e
  · simp only [Value.slice.injEq, Option.some.injEq, Addr.mk.injEq, and_true, true_and] at e
    obtain ⟨rfl, rfl⟩ := e
    have hr : Row w g 9 cur.toList := by unfold Row; simpa using hg
    have hr2 := hr.setCell j (strV c)
    rw [List.length_set]
    refine ⟨by simp [cellsOfStrs_length], .inr ⟨g, cap, _, rfl, hb, hr2, hnc, hcm, by simpa using hcs, ?_⟩⟩
    rw [Nat.mul_one] at htake ⊢
    show (List.set cur.toList j (strV c)).take l.length = _
    rw [List.take_set, htake]
    simp [cellsOfStrs, List.map_set]
theorem SBuf.free {B : Nat} {w : World} {g cap n : Nat} {l : List (List UInt8)} (h : SBuf B w (.slice (some ⟨g, 0, none⟩) n cap) l) (j : Nat) : w.frozen? ⟨g, j, none⟩ = false := by
  unfold SBuf at h
  rcases h.2 with ⟨e, _⟩ | ⟨g', cap', cur, e, hb, hg, _⟩
  · simp at e
  · simp only [Value.slice.injEq, Option.some.injEq, Addr.mk.injEq, and_true] at e
    obtain ⟨rfl, _, _⟩ := e
    simp [World.frozen?, hg]

/-- The names, sorted. -/
def listL (st : St) : List (List UInt8) := (st.streams.map (·.1)).mergeSort Go.leB
theorem listL_perm (st : St) : (listL st).Perm (st.streams.map (·.1)) := List.mergeSort_perm _ _
theorem listL_length (st : St) : (listL st).length = st.streams.length := by rw [(listL_perm st).length_eq, List.length_map]
theorem listL_mem {st : St} {c : List UInt8} (h : c ∈ listL st) : ∃ x ∈ st.streams, x.1 = c := by
  have := (listL_perm st).mem_iff.1 h
  obtain ⟨x, hx, e⟩ := List.mem_map.1 this
  exact ⟨x, hx, e⟩

theorem names_perm {B : Nat} {w : World} {p : Nat} {st : St} {cb sb mb fb : Nat} {wv cv : Value} {lf : Int} {n1 n2 : Nat} {D1 D2 : DataW Value} {F G : List UInt8 → Value}
    (h : StoAt B w p st cb sb mb fb wv cv lf n1 n2 D1 D2 F G) (hs : Sane st) : (st.streams.map (·.1)).Perm (Go.strKeys D2) := by
  obtain ⟨es, hD, hpw, _⟩ := h.smap.entries strKeyed
  obtain ⟨es', hD', hko⟩ := h.smap.keysOf
  obtain rfl : es = es' := by rw [hD] at hD'; simpa using hD'
  have hhas := h.has
  subst hD
  refine Go.perm_strKeys hpw (fun p hp => by obtain ⟨v, hv⟩ := hko p hp; obtain ⟨x, _, hx, _⟩ := Maps.keyOf_str Tryz.underlying9 hv; exact ⟨x, hx⟩) hs.uniq (fun x => ?_)
  rw [hhas x, List.any_eq_true, List.mem_map]
  constructor
  · rintro ⟨y, hy, e⟩; exact ⟨y, hy, by simp [e]⟩
  · rintro ⟨y, hy, e⟩; exact ⟨y, hy, by simpa using e⟩

set_option maxRecDepth 100000 in
set_option maxHeartbeats 1600000 in
theorem list_any (B p : Nat) (st : St) (w : World) (h : Sto B w p st) (hs : Sane st) :
    Calls Tryz.prog 30 #[.pointer (some ⟨p, 0, none⟩)] w fun e w' => ∃ v, e = .returned v ∧ SBuf w.heap.size w' v (listL st) ∧ Grow w w' := by
  obtain ⟨cb, sb, mb, fb, wv, cv, lf, n1, n2, D1, D2, F, G, h⟩ := h
  have k6 : w.cell? ⟨p, 6, none⟩ = some (.map (some mb)) := h.row.cell 6
  have hcnt := hs.count
  have htx := hs.text
  have hrm := hs.room
  have hn2 := h.n2le
  have hsz := h.smap.size_le
  have hmx : Maps.size D2 ≤ maxLen := by simp only [maxLen]; omega
  have hperm := names_perm h hs
  go_enter Tryz.func30, Tryz.ntmps30
  go_wp2_with fail
  refine (down_any p 83 _ _ _ _ _ _ _ _ h.row).mono ?_
  rintro e w9 ⟨rfl, ew⟩
  rw [ew]
  clear ew w9
  go_wp2_with fail
  refine (callsIn_wide.1 (Tryz.maps_Keys_57 (some mb) _)).mono ?_
  rintro e w1 ⟨rfl, rfl⟩
  go_wp2_with fail
  refine (callsIn_wide.1 (Tryz.slices_Sorted_keys_56_57 mb n2 D2 RH _ h.smap hmx (by omega))).mono ?_
  rintro e w2 ⟨v, ss, rfl, hS, hrow, hnil, hb⟩
  have e1 : ss.mergeSort (fun x y => decide (x ≤ y)) = listL st := Go.mergeSort_of_perm (hS.trans hperm.symm)
  have e2 : ss.length = (listL st).length := by rw [← e1]; exact ((List.mergeSort_perm ss _).length_eq).symm
  rw [e1, e2] at hrow
  have hrow' : SBuf (w.alloc (.cells #[.map (some mb)] 81)).heap.size w2 v (listL st) := hrow
  have hw : Grow w w2 := Grow.trans ((Grow.refl w).alloc _) hb
  have hz := hw.size
  have hlow := hrow'.low (show w.heap.size ≤ _ by simp)
  clear hrow hrow' hnil hS hperm hb e1 e2
  have hnl : ∀ c ∈ listL st, c.length ≤ 12 := fun c hc => by
    obtain ⟨x, hx, rfl⟩ := listL_mem hc
    have := (hs.strm x hx).2.2
    unfold nameL at this
    simp only [Bool.and_eq_true, decide_eq_true_eq] at this
    exact this.2.2
  have hll : (listL st).length ≤ 60000 := by rw [listL_length]; omega
  obtain ⟨L, hL⟩ : ∃ L, listL st = L := ⟨_, rfl⟩
  have HL : Hid (listL st = L) := hL
  rw [hL] at hlow hnl hll
  clear hL
  have hln := len_sbuf hlow
  go_wp2
  clear hln
  go_loopw [4, 5, 16] (fun _ _ v16 wr => ∃ k : Nat, v16 = .int .i64 k ∧ k ≤ L.length ∧ SBuf w.heap.size wr v L ∧ Grow w wr) (fun _ _ v16 _ => L.length - (intOf v16).toNat)
  case atStart => exact ⟨0, rfl, by omega, hlow, hw⟩
  case round =>
    obtain ⟨k, rfl, hk, hb, hg⟩ := hrel
    have hzr := hg.size
    by_cases hlt : (k : Int) < (L.length : Int)
    · have hkl : k < L.length := by omega
      obtain ⟨g, cap, rfl, hg1, hg2⟩ := hb.formNe (by omega)
      have kc := hb.cell k hkl
      unfold strV at kc
      obtain ⟨c, hc⟩ : ∃ c, L.getD k [] = c := ⟨_, rfl⟩
      have hcl := hnl c (by rw [← hc, List.getD_eq_getElem?_getD, List.getElem?_eq_getElem hkl]; exact List.getElem_mem _)
      have CL : Hid (L.set k c = L) := by
        show _ = _
        apply List.ext_getElem?
        intro i
        rw [List.getElem?_set]
        split
        · rename_i e; subst e; rw [← hc, List.getD_eq_getElem?_getD, List.getElem?_eq_getElem hkl]; rfl
        · rfl
      rw [hc] at kc
      obtain ⟨C, hC⟩ : ∃ C : ByteArray, (⟨c.toArray⟩ : ByteArray) = C := ⟨_, rfl⟩
      have CS : Hid (strV c = .string C) := by show _ = _; rw [← hC]; rfl
      have zC : C.size ≤ 12 := by rw [← hC]; exact hcl
      rw [hC] at kc
      clear hc hC hkl
      go_wp2_with fail
      refine (clone_any C _ (by omega)).mono ?_
      rintro e w3 ⟨rfl, g3⟩
      have hb3 : SBuf w.heap.size w3 _ L := hb.kept (g3.grown none) (.inr (by simp [Value.ownBlock]))
      have kc3 : w3.cell? ⟨g, k, none⟩ = some (.string C) := cell_kept kc g3
      have kf3 := hb3.free k
      have hb4 := hb3.set rfl k c
      rw [CL.out, CS.out] at hb4
      go_wp2
      exact ⟨⟨k + 1, by go_num, by omega, hb4, (Grow.trans hg g3).setCell hg1 _⟩, by simp [intOf]; omega⟩
    · go_wp2
      go_ret
      rw [← HL.out] at hb
      exact ⟨_, rfl, hb, hg⟩

end Go.Proofs.YtheichphnppagaaGreat
