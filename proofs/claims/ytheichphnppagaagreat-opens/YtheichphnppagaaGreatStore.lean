/- Opens: New0, Store. -/
import Derived.Test.YtheichphnppagaaGreatWrite
import Derived.Test.YtheichphnppagaaGreatCuts0
import Derived.Test.YtheichphnppagaaGreatHead
import Derived.Maps.OwnSet
import Derived.WideKeyEntry
import Derived.DeepKeys4
import Derived.Deep.AppendLies
namespace Go.Proofs.YtheichphnppagaaGreat
open Go.RowKit

theorem shelfNew_any (w : World) : Calls Tryz.prog 59 #[] w fun e w' => ∃ m p, e = .returned (.pointer (some ⟨p, 0, none⟩)) ∧ w.heap.size ≤ m ∧ w.heap.size ≤ p ∧ Row w' p 110 [.slice none 0 0, .map (some m)] ∧ w'.heap[m]? = some (.map #[] 0) ∧ Below w.heap.size w w' := by
  have hmm := @run_makeMap Tryz.prog
  go_enter Tryz.func59, Tryz.ntmps59
  go_wp2
  go_ret
  refine ⟨w.heap.size, w.heap.size + 1, rfl, Nat.le_refl _, by omega, ?_, ?_, ((Below.refl _ _).alloc (Nat.le_refl _) _).alloc (by simp) _⟩
  · have := Row.new (w.alloc (.map #[] 0)) 110 [.slice none 0 0, .map (some w.heap.size)]
    simpa using this
  · rw [Below.heap_alloc _ _ _ (by simp)]
    exact heap_alloc_last w _

theorem cell_lt {w : World} {b o : Nat} {v : Value} (h : w.cell? ⟨b, o, none⟩ = some v) : b < w.heap.size := by
  by_cases c : b < w.heap.size
  · exact c
  · have : w.heap[b]? = none := by simp; omega
    simp [World.cell?, this] at h
theorem cell_kept {w w' : World} {b o : Nat} {v : Value} (h : w.cell? ⟨b, o, none⟩ = some v) (k : Below w.heap.size w w') : w'.cell? ⟨b, o, none⟩ = some v := by
  rw [k.cell (cell_lt h)]
  exact h

theorem Buf.formNe {B : Nat} {w : World} {v : Value} {l : List UInt8} (h : Buf B w v l) (hl : l ≠ []) : ∃ g cap, v = .slice (some ⟨g, 0, none⟩) l.length cap ∧ B ≤ g ∧ g < w.heap.size := by
  rcases h.2 with ⟨rfl, hn⟩ | ⟨g, cap, cur, rfl, hb, hg, _⟩
  · exact absurd (List.eq_nil_of_length_eq_zero hn) hl
  · exact ⟨g, cap, rfl, hb, (Array.getElem?_eq_some_iff.1 hg).1⟩
theorem headL_pos (a b c d : Nat) : 0 < (headL a b c d).length := by simp [headL, larderB]
theorem headL_len (a b c d : Nat) (h : a < 2097152 ∧ b < 2097152 ∧ c < 2097152 ∧ d < 2097152) : (headL a b c d).length ≤ 18 := by
  have h1 := varL_length h.1
  have h2 := varL_length h.2.1
  have h3 := varL_length h.2.2.1
  have h4 := varL_length h.2.2.2
  simp only [headL, larderB, List.length_append, List.length_cons, List.length_nil]
  omega

/-- Maps whose elements are held as they are. -/
def RH (v : Value) : Option (DataW Value × List MemPlace) := some (.held v, [])

end Go.Proofs.YtheichphnppagaaGreat
namespace Go.Proofs.YtheichphnppagaaGreat
open Go.RowKit

/-- A store: its configuration, bytes, chunks, streams. -/
structure St where
  mn : Nat
  mx : Nat
  bt : Nat
  rm : Nat
  text : List UInt8
  chunks : List (List UInt8)
  streams : List (List UInt8 × List Nat)

/-- The numbers of the chunks with a sum. -/
def idxs (cs : List (List UInt8)) (d : List UInt8) : List Nat := (List.range cs.length).filter fun i => sumL (cs.getD i []) == d
theorem idxs_snoc_same (cs : List (List UInt8)) (c : List UInt8) : idxs (cs ++ [c]) (sumL c) = idxs cs (sumL c) ++ [cs.length] := by
  unfold idxs
  rw [List.length_append, List.length_singleton, List.range_succ, List.filter_append]
  congr 1
  · apply List.filter_congr
    intro i hi
    rw [List.mem_range] at hi
    rw [List.getD_eq_getElem?_getD, List.getD_eq_getElem?_getD, List.getElem?_append_left hi]
  · simp
theorem idxs_snoc_other (cs : List (List UInt8)) (c d : List UInt8) (h : sumL c ≠ d) : idxs (cs ++ [c]) d = idxs cs d := by
  unfold idxs
  rw [List.length_append, List.length_singleton, List.range_succ, List.filter_append]
  have e : List.filter (fun i => sumL ((cs ++ [c]).getD i []) == d) [cs.length] = [] := by simp [h]
  rw [e, List.append_nil]
  apply List.filter_congr
  intro i hi
  rw [List.mem_range] at hi
  rw [List.getD_eq_getElem?_getD, List.getD_eq_getElem?_getD, List.getElem?_append_left hi]
theorem idxs_lt {cs : List (List UInt8)} {d : List UInt8} {i : Nat} (h : i ∈ idxs cs d) : i < cs.length := by
  unfold idxs at h
  exact List.mem_range.1 (List.mem_filter.1 h).1
theorem idxs_length (cs : List (List UInt8)) (d : List UInt8) : (idxs cs d).length ≤ cs.length := by
  unfold idxs
  exact Nat.le_trans (List.length_filter_le _ _) (by simp)
theorem mem_idxs {cs : List (List UInt8)} {c : List UInt8} {i : Nat} (hi : i < cs.length) (h : cs.getD i [] = c) : i ∈ idxs cs (sumL c) := by
  unfold idxs
  exact List.mem_filter.2 ⟨List.mem_range.2 hi, by rw [h]; simp⟩

/- ### a []string of the call's own -/
theorem Tryz.underlying24 : Tryz.prog.underlying 24 = some (.slice 9) := by kernel_rfl
theorem Tryz.info9 : (Tryz.prog.info? 9).map (fun i => (i.zero, i.size, i.bytes)) = some (some (.string ⟨#[]⟩), 1, 16) := by kernel_rfl
def strV (c : List UInt8) : Value := .string ⟨c.toArray⟩
def cellsOfStrs (l : List (List UInt8)) : List Value := l.map strV
theorem cellsOfStrs_append (a b : List (List UInt8)) : cellsOfStrs (a ++ b) = cellsOfStrs a ++ cellsOfStrs b := List.map_append
theorem cellsOfStrs_length (a : List (List UInt8)) : (cellsOfStrs a).length = a.length := by simp [cellsOfStrs]
theorem cellsOfStrs_one (a : List (List UInt8)) : ∀ u ∈ cellsOfStrs a, u.oneCell' = true := by
  intro u hu
  obtain ⟨_, _, rfl⟩ := List.mem_map.1 hu
  rfl
/-- The slice v owns the strings l, in blocks from B on. -/
def SBuf (B : Nat) (w : World) (v : Value) (l : List (List UInt8)) : Prop := w.ownsRow B 9 1 v l.length (cellsOfStrs l)
theorem SBuf.nil (B : Nat) (w : World) : SBuf B w (.slice none 0 0) [] := World.ownsRow_nil w B 9 1
theorem SBuf.block {B : Nat} {w : World} {v : Value} {l : List (List UInt8)} (h : SBuf B w v l) : ∀ k, v.ownBlock = some k → B ≤ k ∧ k < w.heap.size := fun k hk => World.ownsRow.lt h k hk
theorem SBuf.kept {B : Nat} {w w' : World} {v : Value} {l : List (List UInt8)} {row : Option Nat} (h : SBuf B w v l) (hg : w.grownBy w' row) (hn : v.ownBlock = none ∨ v.ownBlock ≠ row) : SBuf B w' v l := World.ownsRow.kept h hg hn
theorem SBuf.form {B : Nat} {w : World} {v : Value} {l : List (List UInt8)} (h : SBuf B w v l) : (v = .slice none 0 0 ∧ l = []) ∨ ∃ g cap, v = .slice (some ⟨g, 0, none⟩) l.length cap ∧ B ≤ g ∧ g < w.heap.size := by
  rcases h.2 with ⟨rfl, hn⟩ | ⟨g, cap, cur, rfl, hb, hg, _⟩
  · exact .inl ⟨rfl, List.eq_nil_of_length_eq_zero hn⟩
  · exact .inr ⟨g, cap, rfl, hb, (Array.getElem?_eq_some_iff.1 hg).1⟩
theorem SBuf.cell {B : Nat} {w : World} {g cap : Nat} {l : List (List UInt8)} (h : SBuf B w (.slice (some ⟨g, 0, none⟩) l.length cap) l) (j : Nat) (hj : j < l.length) : w.cell? ⟨g, j, none⟩ = some (strV (l.getD j [])) := by
  have hc := World.ownsRow.cellAt h j (by omega)
  rw [hc]
  simp [cellsOfStrs, hj]

/- ### the keys of the shelf's map -/
def digV (d : List UInt8) : Value := .agg (cellsOfBytes d).toArray
theorem Tryz.underlying154 : Tryz.prog.underlying 154 = some (.array 4 5) := by kernel_rfl
theorem Tryz.underlying108 : Tryz.prog.underlying 108 = some (.map 154 34) := by kernel_rfl
theorem Tryz.underlying81 : Tryz.prog.underlying 81 = some (.map 9 34) := by kernel_rfl
theorem Tryz.laidOut : laidOutB Tryz.prog = true := by kernel_rfl
theorem Tryz.row154 : (154 : TypeId) < Tryz.prog.types.size := of_decide_eq_true (by kernel_rfl)
theorem Tryz.wide154 : (match Tryz.prog.underlying 154 with | some (.array _ _) | some (.struct _) => true | _ => false) = true := by rw [Tryz.underlying154]
set_option maxRecDepth 100000 in
theorem digLaw : WideMaps.KeyLaw Tryz.prog 154 := deep_law_laid Tryz.laidOut (m := 2) (by omega) Tryz.row154 (by kernel_rfl) Tryz.wide154
theorem digKeyed : Maps.Keyed Tryz.prog 154 := Maps.Keyed.of_law digLaw
theorem strKeyed : Maps.Keyed Tryz.prog 9 := Maps.string_keyed Tryz.underlying9
theorem Tryz.cells154 : Tryz.prog.cellsOf 154 = 4 := by kernel_rfl
theorem Tryz.cells5 : Tryz.prog.cellsOf 5 = 1 := by kernel_rfl
theorem Tryz.typesSize : ∃ n, Tryz.prog.types.size + 1 = n + 2 := ⟨Tryz.prog.types.size - 1, by have h : (154 : Nat) < Tryz.prog.types.size := Tryz.row154; omega⟩
theorem Tryz.keyType154 : Tryz.prog.keyType 154 = true := by kernel_rfl
theorem u8_wf (a : UInt8) : (Lit.int .u8 (a.toNat : Int)).wf = true := by
  have := a.toNat_lt
  simp only [Lit.wf]
  rw [show IntKind.u8.min = 0 from rfl, show IntKind.u8.max = 255 from rfl]
  simp
  omega
/-- What a sum reads as, as a key. -/
def klit (d : List UInt8) : Lit := .string (keyBytes (d.map fun b => Lit.int .u8 (b.toNat : Int)))
theorem klit_spec {d : List UInt8} (h : d.length = 4) : keyOf Tryz.prog 154 (digV d) = some (klit d) := by
  match d, h with
  | [a, b, c, e], _ =>
    obtain ⟨n, hn⟩ := Tryz.typesSize
    have e4 : List.range 4 = [0, 1, 2, 3] := rfl
    unfold keyOf klit
    rw [hn]
    simp [Program.keyLits, Tryz.keyType154, Tryz.cells154, Tryz.cells5, digV, cellsOfBytes, Value.formed, Value.cells, u8_wf, e4]
theorem cellsOfBytes_inj : ∀ {a b : List UInt8}, cellsOfBytes a = cellsOfBytes b → a = b
  | [], [], _ => rfl
  | [], _ :: _, h => by simp [cellsOfBytes] at h
  | _ :: _, [], h => by simp [cellsOfBytes] at h
  | x :: r, y :: t, h => by
    simp only [cellsOfBytes, List.map_cons, List.cons.injEq, Value.int.injEq, true_and] at h
    rw [eq_of_u8 h.1, cellsOfBytes_inj (a := r) (b := t) h.2]
theorem klit_inj {d d' : List UInt8} (h : d.length = 4) (h' : d'.length = 4) (e : klit d = klit d') : d = d' := by
  have h1 := klit_spec h
  rw [e] at h1
  have h2 := digKeyed.inj h1 (klit_spec h')
  simp only [digV, Value.agg.injEq] at h2
  exact cellsOfBytes_inj (List.toArray_inj h2)
theorem klit_key (d : List UInt8) : WideAt.IsKeyLit (klit d) := trivial

/-- Only new blocks have come. -/
abbrev Grow (w w' : World) : Prop := Below w.heap.size w w'
theorem Grow.refl (w : World) : Grow w w := Below.refl _ _
theorem Grow.trans {a b c : World} (h : Grow a b) (k : Grow b c) : Grow a c := Below.trans h (Below.mono k h.size)
theorem Grow.alloc {a b : World} (h : Grow a b) (o : Obj) : Grow a (b.alloc o) := Below.alloc h h.size o
theorem Grow.drew {a b : World} (h : Grow a b) : Grow a b.drew := Below.drew h
theorem Grow.grown {a b : World} (h : Grow a b) (row : Option Nat) : a.grownBy b row := ⟨h.os, h.tape, h.output, h.size, fun k hk _ => h.block k hk⟩
theorem Grow.low {a b : World} (h : Grow a b) {B : Nat} (hB : B ≤ a.heap.size) : Below B a b := Below.mono h hB

structure StoAt (B : Nat) (w : World) (p : Nat) (st : St) (cb sb mb fb : Nat) (wv cv : Value) (lf : Int) (n1 n2 : Nat) (D1 D2 : DataW Value) (F G : List UInt8 → Value) : Prop where
  row : Row w p 83 [.int .i64 st.mn, .int .i64 st.mx, .int .i64 st.bt, .int .i64 st.rm, .pointer (some ⟨cb, 0, none⟩), .pointer (some ⟨sb, 0, none⟩), .map (some mb), wv, .int .i64 lf]
  cut : Rest w cb st.mn st.mx st.bt st.rm
  shelf : Row w sb 110 [cv, .map (some fb)]
  text : Buf B w wv st.text
  chunks : SBuf B w cv st.chunks
  fmap : w.ownsMap Tryz.prog 154 RH fb n1 D1
  smap : w.ownsMap Tryz.prog 9 RH mb n2 D2
  n1le : n1 ≤ st.chunks.length
  n2le : n2 ≤ st.streams.length
  found : ∀ d : List UInt8, d.length = 4 → D1.atKey (klit d) (.held (.slice none 0 0)) = .held (F d) ∧ IBuf B w (F d) (ints (idxs st.chunks d))
  apart : ∀ d d' : List UInt8, d.length = 4 → d'.length = 4 → d ≠ d' → (F d).ownBlock = none ∨ (F d).ownBlock ≠ (F d').ownBlock
  has : ∀ name : List UInt8, Maps.has D2 (.string name) = st.streams.any (fun x => x.1 == name)
  num : ∀ x ∈ st.streams, D2.atKey (.string x.1) (.held (.slice none 0 0)) = .held (G x.1) ∧ IBuf B w (G x.1) (ints x.2)
  shun : ∀ x ∈ st.streams, ∀ d : List UInt8, d.length = 4 → (G x.1).ownBlock = none ∨ (G x.1).ownBlock ≠ (F d).ownBlock
  mbfb : mb ≠ fb
  low : B ≤ p ∧ B ≤ cb ∧ B ≤ sb ∧ B ≤ mb ∧ B ≤ fb
  good : Ok st.mn st.mx st.bt st.rm

/-- The store at block p is st; all of it lies in blocks from B on. -/
def Sto (B : Nat) (w : World) (p : Nat) (st : St) : Prop := ∃ cb sb mb fb wv cv lf n1 n2 D1 D2 F G, StoAt B w p st cb sb mb fb wv cv lf n1 n2 D1 D2 F G

theorem Row.grow {w w' : World} {b : Nat} {t : TypeId} {l : List Value} (h : Row w b t l) (k : Grow w w') : Row w' b t l := Row.below h k h.lt
theorem Rest.grow {w w' : World} {b : Nat} {mn mx bt rm : Int} (h : Rest w b mn mx bt rm) (k : Grow w w') : Rest w' b mn mx bt rm := h.below k h.lt
theorem StoAt.grow {B : Nat} {w w' : World} {p : Nat} {st : St} {cb sb mb fb : Nat} {wv cv : Value} {lf : Int} {n1 n2 : Nat} {D1 D2 : DataW Value} {F G : List UInt8 → Value}
    (h : StoAt B w p st cb sb mb fb wv cv lf n1 n2 D1 D2 F G) (k : Grow w w') : StoAt B w' p st cb sb mb fb wv cv lf n1 n2 D1 D2 F G :=
  { h with
    row := h.row.grow k
    cut := h.cut.grow k
    shelf := h.shelf.grow k
    text := h.text.below k
    chunks := h.chunks.kept (k.grown none) (by cases cv.ownBlock <;> simp)
    fmap := h.fmap.kept (k.grown none) (by simp)
    smap := h.smap.kept (k.grown none) (by simp)
    found := fun d hd => ⟨(h.found d hd).1, (h.found d hd).2.below k⟩
    num := fun x hx => ⟨(h.num x hx).1, (h.num x hx).2.below k⟩ }
theorem Sto.grow {B : Nat} {w w' : World} {p : Nat} {st : St} (h : Sto B w p st) (k : Grow w w') : Sto B w' p st := by
  obtain ⟨cb, sb, mb, fb, wv, cv, lf, n1, n2, D1, D2, F, G, h⟩ := h
  exact ⟨cb, sb, mb, fb, wv, cv, lf, n1, n2, D1, D2, F, G, h.grow k⟩
theorem Sto.low {B C : Nat} {w : World} {p : Nat} {st : St} (h : Sto B w p st) (hC : C ≤ B) : Sto C w p st := by
  obtain ⟨cb, sb, mb, fb, wv, cv, lf, n1, n2, D1, D2, F, G, h⟩ := h
  exact ⟨cb, sb, mb, fb, wv, cv, lf, n1, n2, D1, D2, F, G, { h with
    text := h.text.low hC
    chunks := ⟨h.chunks.1, h.chunks.2.elim .inl (fun ⟨g, cap, cur, e, hb, r⟩ => .inr ⟨g, cap, cur, e, Nat.le_trans hC hb, r⟩)⟩
    found := fun d hd => ⟨(h.found d hd).1, (h.found d hd).2.low hC⟩
    num := fun x hx => ⟨(h.num x hx).1, (h.num x hx).2.low hC⟩
    low := by have := h.low; omega }⟩

/-- A store that has nothing yet. -/
def St.new (mn mx bt rm : Nat) : St := { mn, mx, bt, rm, text := frameL (headL mn mx bt rm), chunks := [], streams := [] }

theorem new_end {w wf w2 w3 w5 : World} {mn mx bt rm b p m mb g5 cap5 : Nat} (hok : Ok mn mx bt rm) (hB : w.heap.size ≤ wf.heap.size) (hr2 : Rest w2 b mn mx bt rm) (G2 : Grow w2 wf) (hb : w.heap.size ≤ b)
    (hr3 : Row w3 p 110 [.slice none 0 0, .map (some m)]) (hm3 : w3.heap[m]? = some (.map #[] 0)) (G3 : Grow w3 wf) (hp : w.heap.size ≤ p) (hm : w.heap.size ≤ m)
    (hb5 : Buf w.heap.size w5 (.slice (some ⟨g5, 0, none⟩) (frameL (headL mn mx bt rm)).length cap5) (frameL (headL mn mx bt rm))) (G5 : Grow w5 wf)
    (hmap : wf.heap[mb]? = some (.map #[] 0)) (hne : mb ≠ m) (hmb : w.heap.size ≤ mb) :
    Sto w.heap.size (wf.alloc (.cells #[.int .i64 mn, .int .i64 mx, .int .i64 bt, .int .i64 rm, .pointer (some ⟨b, 0, none⟩), .pointer (some ⟨p, 0, none⟩), .map (some mb), .slice (some ⟨g5, 0, none⟩) (frameL (headL mn mx bt rm)).length cap5, .int .i64 9223372036854775807] 83)) wf.heap.size (St.new mn mx bt rm) := by
  have hmw : wf.heap[m]? = some (.map #[] 0) := (G3.block m (Array.getElem?_eq_some_iff.1 hm3).1).trans hm3
  have e1 : wf.ownsMap Tryz.prog 154 RH m 0 (.map []) := Go.Joins.ownsMap_empty hmw
  have e2 : wf.ownsMap Tryz.prog 9 RH mb 0 (.map []) := Go.Joins.ownsMap_empty hmap
  have GA := (Grow.refl wf).alloc (.cells #[.int .i64 mn, .int .i64 mx, .int .i64 bt, .int .i64 rm, .pointer (some ⟨b, 0, none⟩), .pointer (some ⟨p, 0, none⟩), .map (some mb), .slice (some ⟨g5, 0, none⟩) (frameL (headL mn mx bt rm)).length cap5, .int .i64 9223372036854775807] 83)
  exact ⟨b, p, mb, m, .slice (some ⟨g5, 0, none⟩) (frameL (headL mn mx bt rm)).length cap5, .slice none 0 0, 9223372036854775807, 0, 0, .map [], .map [], fun _ => .slice none 0 0, fun _ => .slice none 0 0,
    { row := Row.new wf 83 [.int .i64 mn, .int .i64 mx, .int .i64 bt, .int .i64 rm, .pointer (some ⟨b, 0, none⟩), .pointer (some ⟨p, 0, none⟩), .map (some mb), .slice (some ⟨g5, 0, none⟩) (frameL (headL mn mx bt rm)).length cap5, .int .i64 9223372036854775807]
      cut := (hr2.grow G2).grow GA
      shelf := (hr3.grow G3).grow GA
      text := (hb5.below G5).below GA
      chunks := SBuf.nil _ _
      fmap := e1.kept (GA.grown none) (by simp)
      smap := e2.kept (GA.grown none) (by simp)
      n1le := Nat.le_refl _
      n2le := Nat.le_refl _
      found := fun d _ => ⟨rfl, IBuf.nil _ _⟩
      apart := fun _ _ _ _ _ => .inl rfl
      has := fun _ => rfl
      num := fun x hx => by cases hx
      shun := fun x hx => by cases hx
      mbfb := hne
      low := ⟨hB, hb, hp, hmb, hm⟩
      good := hok }⟩

end Go.Proofs.YtheichphnppagaaGreat
