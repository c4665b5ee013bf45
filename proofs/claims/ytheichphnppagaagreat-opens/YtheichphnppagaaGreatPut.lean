/- Opens: Put. -/
import Derived.Test.YtheichphnppagaaGreatFind
import Derived.Test.YtheichphnppagaaGreatClone
import Derived.Deep.RegionHeld3
import Derived.Deep.DrawnRows
import Derived.Deep.RegionLaw
namespace Go.Proofs.YtheichphnppagaaGreat
open Go.RowKit
attribute [local go_sem ↓] Go.wp_at_zero Go.wp_at_succ

theorem clone_any (s : ByteArray) (w : World) (hs : s.size ≤ 1000000) : Calls Tryz.prog 58 #[.string s] w fun e w' => e = .returned (.string s) ∧ Grow w w' := by
  go_enter Tryz.func58, Tryz.ntmps58
  go_wp2_with fail
  refine (Tryz.clone_lite s _ (by omega)).mono ?_
  rintro e w1 ⟨rfl, hB1⟩
  go_wp2
  go_ret
  exact ⟨rfl, hB1⟩

set_option maxRecDepth 100000 in
theorem digestOf_any (s : ByteArray) (w : World) (hs : s.size ≤ 1000000) : Calls Tryz.prog 99 #[.string s] w fun e w' => e = .returned (digV (sumL (bl s))) ∧ Grow w w' := by
  have hB0 : Grow w (w.alloc (.cells #[.int .u8 0, .int .u8 0, .int .u8 0, .int .u8 0] 154)) := (Grow.refl w).alloc _
  have hR0 : Row (w.alloc (.cells #[.int .u8 0, .int .u8 0, .int .u8 0, .int .u8 0] 154)) w.heap.size 154 [.int .u8 0, .int .u8 0, .int .u8 0, .int .u8 0] := Row.new w 154 [.int .u8 0, .int .u8 0, .int .u8 0, .int .u8 0]
  go_enter Tryz.func99, Tryz.ntmps99
  go_wp2_with fail
  refine (sumOf_any s _ (by omega)).mono ?_
  rintro e w1 ⟨rfl, hB1⟩
  obtain ⟨a, b, c, d, hsum⟩ := sum_cell (bl s)
  have hR1 := hR0.below hB1 (by simp)
  have SUM : Hid (digV (sumL (bl s)) = .agg #[.int .u8 a.toNat, .int .u8 b.toNat, .int .u8 c.toNat, .int .u8 d.toNat]) := by show _ = _; rw [hsum]; rfl
  unfold sumV
  rw [hsum]
  clear hsum
  simp only [cellsOfBytes, List.map_cons, List.map_nil]
  have k0 : w1.cell? ⟨w.heap.size, 0, none⟩ = some (.int .u8 0) := hR1.cell 0
  have k1 : w1.cell? ⟨w.heap.size, 1, none⟩ = some (.int .u8 0) := hR1.cell 1
  have k2 : w1.cell? ⟨w.heap.size, 2, none⟩ = some (.int .u8 0) := hR1.cell 2
  have k3 : w1.cell? ⟨w.heap.size, 3, none⟩ = some (.int .u8 0) := hR1.cell 3
  have f0 := hR1.free 0
  have f1 := hR1.free 1
  have f2 := hR1.free 2
  have f3 := hR1.free 3
  go_wp2
  refine bodyPost_ret (v := .agg #[.int .u8 a.toNat, .int .u8 b.toNat, .int .u8 c.toNat, .int .u8 d.toNat]) (by simp [results, Tryz.results99, go_sem, k0, k1, k2, k3]) rfl ⟨ret_of SUM.out, below_four (hB0.trans hB1) (Nat.le_refl _) _ _ _ _⟩

theorem len_ibuf {B : Nat} {w : World} {u : Value} {l : List Nat} (h : IBuf B w u (ints l)) (W : World) : (Builtin.len_ #[34] 3 #[u]).run Tryz.prog W = .ok (.int .i64 (l.length : Nat)) W := by
  rcases h.form with ⟨rfl, h0⟩ | ⟨g, cap, rfl, _, _⟩
  · have : l = [] := by simpa [ints] using h0
    subst this
    simp [Builtin.len_, run_underlying Tryz.underlying34, goInt]
  · rw [ints_length]
    simp [Builtin.len_, run_underlying Tryz.underlying34, goInt]

theorem one_cell {w : World} {s : ByteArray} {j : Nat} {u : Value} (h : ([.string s] : List Value)[j]? = some u) : (w.alloc (.cells #[.string s] 9)).cell? ((⟨w.heap.size, 0, none⟩ : Addr).add j) = some u := by
  match j, h with
  | 0, h => simp at h; subst h; simp [Addr.add]

theorem one_one (c : ByteArray) : ∀ u ∈ ([.string c] : List Value), u.oneCell' = true := by
  intro u hu
  simp at hu
  subst hu
  rfl

theorem one_intE {w : World} {g : Nat} {n : Int} {j : Nat} {u : Value} (hc : w.cell? ⟨g, 0, none⟩ = some (.int .i64 n)) (h : ([.int .i64 n] : List Value)[j]? = some u) : w.cell? ((⟨g, 0, none⟩ : Addr).add j) = some u := by
  match j, h with
  | 0, h => simp at h; subst h; simpa [Addr.add] using hc
theorem one_oneI (n : Int) : ∀ u ∈ ([.int .i64 n] : List Value), u.oneCell' = true := by
  intro u hu
  simp at hu
  subst hu
  rfl
theorem heap_drew' (w : World) : w.drew.heap = w.heap := rfl

theorem own_ne_row {B : Nat} {w : World} {v : Value} {n b : Nat} {e t : TypeId} {xs l : List Value} (h : w.ownsRow B e 1 v n xs) (hr : Row w b t l) (hne : e ≠ t) (hk : v.ownBlock = some b) : False := by
  rcases h.2 with ⟨rfl, _⟩ | ⟨g, cap, cur, rfl, _, hg, _⟩
  · simp [Value.ownBlock] at hk
  · simp only [Value.ownBlock, Option.some.injEq] at hk
    subst hk
    unfold Row at hr
    rw [hg] at hr
    simp only [Option.some.injEq, Obj.cells.injEq] at hr
    exact hne hr.2.1

theorem put_last {B : Nat} {w0 w w6 wE w8 w9 : World} {p : Nat} {st : St} {cb sb mb fb : Nat} {wv cv : Value} {lf : Int} {n1 n2 : Nat} {D1 D2 : DataW Value} {F G : List UInt8 → Value} {c : List UInt8} {nv u : Value} {L : List Nat} {g8 cap8 : Nat} {o : Obj}
    (h : StoAt B w p st cb sb mb fb wv cv lf n1 n2 D1 D2 F G) (hu : F (sumL c) = u) (hL : idxs st.chunks (sumL c) = L) (hC6 : Chg w.heap.size (PutX cv (F (sumL c)) sb fb) w w6) (hR6 : Row w6 sb 110 [nv, .map (some fb)]) (hS6 : SBuf B w6 nv (st.chunks ++ [c]))
    (hM6 : w6.ownsMap Tryz.prog 154 RH fb n1 D1) (hI6 : IBuf B w6 u (ints (idxs st.chunks (sumL c)))) (hz6 : w.heap.size ≤ w6.heap.size) (hzE : wE.heap.size = (w6.alloc o).drew.heap.size) (hgE : (w6.alloc o).drew.grownBy wE (some fb))
    (hown8 : w8.ownsRow B 3 1 (.slice (some ⟨g8, 0, none⟩) (L.length + 1) cap8) (L.length + 1) (cellsOfInts (ints L) ++ [.int .i64 (st.chunks.length : Nat)])) (hg8 : wE.grownBy w8 u.ownBlock) (hat8 : u.ownBlock = some g8 ∨ g8 = wE.heap.size)
    (hM9 : w9.ownsMap Tryz.prog 154 RH fb (n1 + 1) (D1.put (klit (sumL c)) (.held (.slice (some ⟨g8, 0, none⟩) (L.length + 1) cap8)))) (hg9 : w8.grownBy w9 (some fb)) (G3 : Grow w0 w) (hB : B ≤ w0.heap.size) :
    Stv B w9 p { st with chunks := st.chunks ++ [c] } wv ∧ Below B w0 w9 := by
  have gA : Grow w6 (w6.alloc o).drew := ((Grow.refl w6).alloc o).drew
  have zA := gA.size
  have zE := hgE.size
  have z8 := hg8.size
  have z9 := hg9.size
  have hfbl := hM6.lt
  have hufb : u.ownBlock ≠ some fb := map_ne_own hM6 hI6
  have hC9 : Chg w.heap.size (PutX cv (F (sumL c)) sb fb) w w9 :=
    (((hC6.trans (Chg.of_grow gA hz6)).trans (Chg.of_grown hgE (by omega) (fun k _ e => .inr (.inr (.inl (Option.some.inj e).symm))))).trans (Chg.of_grown hg8 (by omega) (fun k _ e => .inr (.inr (.inr (by rw [hu]; exact e)))))).trans
      (Chg.of_grown hg9 (by omega) (fun k _ e => .inr (.inr (.inl (Option.some.inj e).symm))))
  have n1 : some sb ≠ some fb := fun e => map_ne_row hM6 hR6 (Option.some.inj e).symm
  have n2 : some sb ≠ u.ownBlock := fun e => own_ne_row' hI6 hR6 (by decide) e.symm
  have hR9 : Row w9 sb 110 [nv, .map (some fb)] := (((hR6.grow gA).grown hgE n1).grown hg8 n2).grown hg9 n1
  have hS9 : SBuf B w9 nv (st.chunks ++ [c]) :=
    (((hS6.kept (gA.grown none) (by cases nv.ownBlock <;> simp)).kept hgE (.inr (map_ne_own hM6 hS6))).kept hg8 (own_apart hS6 hI6 (by decide))).kept hg9 (.inr (map_ne_own hM6 hS6))
  have hgf : g8 ≠ fb := by
    intro e
    rcases hat8 with e1 | e1
    · rw [e] at e1; exact hufb e1
    · omega
  have hI9 : IBuf B w9 (.slice (some ⟨g8, 0, none⟩) (L.length + 1) cap8) (ints (idxs st.chunks (sumL c) ++ [st.chunks.length])) := by
    rw [hL]
    unfold IBuf
    rw [ints_append, cellsOfInts_append, List.length_append, ints_length]
    exact World.ownsRow.kept hown8 hg9 (.inr (by simpa [Value.ownBlock] using hgf))
  refine ⟨put_end h hC9 hR9 hS9 hM9 hI9 ?_, ?_⟩
  · rcases hat8 with e | e
    · exact .inl (by rw [hu, e]; rfl)
    · exact .inr ⟨g8, rfl, by omega⟩
  · refine Below.trans (G3.low hB) (hC9.below (Nat.le_trans hB G3.size) ?_)
    rintro k (e | e | e | e)
    · exact (h.chunks.block k e).1
    · rw [e]; exact h.low.2.2.1
    · rw [e]; exact h.low.2.2.2.2
    · exact ((h.found _ rfl).2.block k e).1

set_option maxRecDepth 100000 in
set_option maxHeartbeats 3200000 in
theorem put_any (c : ByteArray) {B : Nat} {w : World} {p : Nat} {st : St} {cb sb mb fb : Nat} {wv cv : Value} {lf : Int} {n1 n2 : Nat} {D1 D2 : DataW Value} {F G : List UInt8 → Value}
    (h : StoAt B w p st cb sb mb fb wv cv lf n1 n2 D1 D2 F G) (hB : B ≤ w.heap.size) (hc : c.size ≤ 2000) (hcs : st.chunks.length ≤ 100000) :
    Calls Tryz.prog 69 #[.pointer (some ⟨sb, 0, none⟩), .string c] w fun e w' =>
      (∃ n, n < st.chunks.length ∧ st.chunks.getD n [] = bl c ∧ e = .returned (.int .i64 (n : Nat)) ∧ Grow w w') ∨
      (bl c ∉ st.chunks ∧ e = .returned (.int .i64 (st.chunks.length : Nat)) ∧ Stv B w' p { st with chunks := st.chunks ++ [bl c] } wv ∧ Below B w w') := by
  go_enter Tryz.func69, Tryz.ntmps69
  go_wp2_with fail
  refine (digestOf_any c _ (by omega)).mono ?_
  rintro e w1 ⟨rfl, hB1⟩
  have h1 := h.grow hB1
  obtain ⟨a, b, c', d, hsum⟩ := sum_cell (bl c)
  have SUM : Hid (sumL (bl c) = [a, b, c', d]) := hsum
  have hdig : digV (sumL (bl c)) = .agg #[.int .u8 a.toNat, .int .u8 b.toNat, .int .u8 c'.toNat, .int .u8 d.toNat] := by rw [hsum]; rfl
  rw [hdig]
  obtain ⟨hfd, hib⟩ := h1.found (sumL (bl c)) rfl
  have hlk := fun (W : World) (hW : W.ownsMap Tryz.prog 154 RH fb n1 D1) => look_dig hW (d := sumL (bl c)) rfl hfd
  rw [hdig] at hlk
  clear hdig hsum
  have hlen := fun W => len_ibuf hib W
  obtain ⟨u, hu⟩ : ∃ u, F (sumL (bl c)) = u := ⟨_, rfl⟩
  rw [hu] at hlk hlen hib
  have HU : Hid (F (sumL (bl c)) = u) := hu
  clear hu
  have GA := (Grow.refl w1).alloc (.cells #[.int .u8 a.toNat, .int .u8 b.toNat, .int .u8 c'.toNat, .int .u8 d.toNat] 154)
  have hRd : Row (w1.alloc (.cells #[.int .u8 a.toNat, .int .u8 b.toNat, .int .u8 c'.toNat, .int .u8 d.toNat] 154)) w1.heap.size 154 [.int .u8 a.toNat, .int .u8 b.toNat, .int .u8 c'.toNat, .int .u8 d.toNat] := Row.new w1 154 _
  have h2 := h1.grow GA
  have k1 : (w1.alloc (.cells #[.int .u8 a.toNat, .int .u8 b.toNat, .int .u8 c'.toNat, .int .u8 d.toNat] 154)).cell? ⟨sb, 1, none⟩ = some (.map (some fb)) := h2.shelf.cell 1
  have hlk2 := hlk (w1.alloc (.cells #[.int .u8 a.toNat, .int .u8 b.toNat, .int .u8 c'.toNat, .int .u8 d.toNat] 154)) h2.fmap
  have hlk3 := fun k => hlk ((w1.alloc (.cells #[.int .u8 a.toNat, .int .u8 b.toNat, .int .u8 c'.toNat, .int .u8 d.toNat] 154)).drewN k) h2.fmap
  clear hlk
  go_wp2_with fail
  go_quiet (fail)
  obtain ⟨w3, hw3⟩ : ∃ w3, (w1.alloc (.cells #[.int .u8 a.toNat, .int .u8 b.toNat, .int .u8 c'.toNat, .int .u8 d.toNat] 154)).drewN nq = w3 := ⟨_, rfl⟩
  have G3 : Grow w w3 := by rw [← hw3]; exact below_drewN (hB1.trans GA) _
  have h3 := h.grow G3
  have hR3 : Row w3 w1.heap.size 154 [.int .u8 a.toNat, .int .u8 b.toNat, .int .u8 c'.toNat, .int .u8 d.toNat] := by rw [← hw3]; exact hRd
  have hib3 : IBuf B w3 u (ints (idxs st.chunks (sumL (bl c)))) := by rw [← HU.out]; exact (h3.found _ rfl).2
  have hz13 : w1.heap.size < w3.heap.size := hR3.lt
  rw [hw3]
  clear hlk2 hlk3 hw3 hRd h2 k1 h1 GA hfd hib
  obtain ⟨L, hL⟩ : ∃ L, idxs st.chunks (sumL (bl c)) = L := ⟨_, rfl⟩
  have HL : Hid (idxs st.chunks (sumL (bl c)) = L) := hL
  rw [hL] at hib3 hlen ⊢
  have hLn : ∀ n ∈ L, n < st.chunks.length := fun n hn => by rw [← hL] at hn; exact idxs_lt hn
  have hLl : (L.length : Int) ≤ 100000 := by have := idxs_length st.chunks (sumL (bl c)); rw [hL] at this; omega
  clear hL
  have ks0 : w3.cell? ⟨sb, 0, none⟩ = some cv := h3.shelf.cell 0
  clear hlen
  go_wp2
  go_loop [7, 18] (fun v7 v18 => ∃ k : Nat, v18 = .int .i64 k ∧ k ≤ L.length ∧ Hid (∀ i, i < k → st.chunks.getD (L.getD i 0) [] ≠ bl c)) (fun _ v18 => L.length - (intOf v18).toNat)
  case atStart => exact ⟨0, rfl, by omega, (fun i hi => by omega)⟩
  case round =>
    obtain ⟨k, rfl, hk, H⟩ := hrel
    by_cases hlt : (k : Int) < (L.length : Int)
    · have hkl : k < L.length := by omega
      rcases hib3.form with ⟨_, h0⟩ | ⟨g, cap, rfl, _, _⟩
      · have : L = [] := by simpa [ints] using h0
        rw [this] at hkl
        simp at hkl
      rw [ints_length] at hib3 ⊢
      have kc := hib3.cellN k hkl
      have hn1 := hLn (L.getD k 0) (by rw [List.getD_eq_getElem?_getD, List.getElem?_eq_getElem hkl]; exact List.getElem_mem _)
      obtain ⟨n, hn⟩ : ∃ n, L.getD k 0 = n := ⟨_, rfl⟩
      have HN : Hid (L.getD k 0 = n) := hn
      rw [hn] at kc hn1
      clear hn hkl
      have hcv := h3.chunks
      rcases hcv.form with ⟨_, h0⟩ | ⟨gc, capc, rfl, _, _⟩
      · rw [h0] at hn1
        simp at hn1
      have kcc := hcv.cell n hn1
      have hn2 : (n : Int) < (st.chunks.length : Int) := by omega
      unfold strV at kcc
      obtain ⟨ch, hch⟩ : ∃ ch, st.chunks.getD n [] = ch := ⟨_, rfl⟩
      have HCH : Hid (st.chunks.getD n [] = ch) := hch
      rw [hch] at kcc
      clear hch
      by_cases he : ch = bl c
      · have q1 : (ch == c.toList) = true := by rw [toList_bl, he]; simp
        have HE : Hid (ch = bl c) := he
        clear he
        go_wp2
        go_ret
        exact .inl ⟨n, hn1, (by have := HCH.out; rw [HE.out] at this; simpa [List.getD_eq_getElem?_getD] using this), rfl, G3⟩
      · have q1 : (ch == c.toList) = false := by rw [toList_bl]; simpa using he
        have HH : Hid (∀ i, i < k + 1 → st.chunks.getD (L.getD i 0) [] ≠ bl c) := by
          intro i hi
          by_cases c1 : i < k
          · exact H.out i c1
          · rw [show i = k by omega, HN.out, HCH.out]
            exact he
        clear he
        go_wp2
        exact ⟨⟨k + 1, by go_num, by omega, HH⟩, by simp [intOf]; omega⟩
    · have hno : bl c ∉ st.chunks := fun hmem => by
        obtain ⟨i, hi, e⟩ := List.getElem_of_mem hmem
        have e' : st.chunks.getD i [] = bl c := by rw [List.getD_eq_getElem?_getD, List.getElem?_eq_getElem hi]; exact e
        have := mem_idxs hi e'
        rw [HL.out] at this
        obtain ⟨j, hj, ej⟩ := List.getElem_of_mem this
        refine H.out j (by omega) ?_
        rw [List.getD_eq_getElem?_getD (l := L), List.getElem?_eq_getElem hj]
        simp only [Option.getD_some, ej]
        exact e'
      have NO : Hid (bl c ∉ st.chunks) := hno
      clear hno
      have hclen : ∀ W : World, (Builtin.len_ #[24] 3 #[cv]).run Tryz.prog W = .ok (.int .i64 (st.chunks.length : Nat)) W := fun W => by
        rcases h3.chunks.form with ⟨rfl, h0⟩ | ⟨g, cap, rfl, _, _⟩
        · rw [h0]
          simp [Builtin.len_, run_underlying Tryz.underlying24, goInt]
        · simp [Builtin.len_, run_underlying Tryz.underlying24, goInt]
      have hcs0 := h3.chunks
      have hsf := h3.shelf.free 0
      have hsl := h3.shelf.lt
      have hz3 := G3.size
      have hcl1 : st.chunks.length + 1 ≤ maxLen := by simp only [maxLen]; omega
      obtain ⟨i9, hi9, hz9, hs9, hb9⟩ := info_parts Tryz.info9
      have hcvb : ∀ k, cv.ownBlock = some k → k ≠ sb := fun k hk e => by
        subst e
        exact own_ne_row hcs0 h3.shelf (by decide) hk
      go_wp2_with fail
      clear hclen
      have tok : True := trivial
      go_region_law (first
        | (have _t := tok; go_simp; go_wp2_with (go_at_call 58; refine (clone_any c _ (by omega)).mono ?_; rintro e w4 ⟨rfl, hG4⟩; have ks4 : w4.cell? ⟨sb, 0, none⟩ = some cv := cell_kept (by first | exact ks0 | simpa using ks0) hG4; have ks4' : (w4.alloc (.cells #[.string c] 9)).cell? ⟨sb, 0, none⟩ = some cv := cell_kept ks4 ((Grow.refl w4).alloc _); have hz4 : w3.heap.size ≤ w4.heap.size := hG4.size; have hcs4 : w4.ownsRow B 9 1 cv st.chunks.length (cellsOfStrs st.chunks) := hcs0.kept ((Grow.refl w3).drew.trans hG4 |>.grown none) (by cases cv.ownBlock <;> simp); have hsf4 : w4.frozen? ⟨sb, 0, none⟩ = false := (hG4.frozen (by exact hsl)).trans hsf; clear tok))
        | (refine step_append_lies _ (by rfl) _ _ _ (by rfl) B 9 i9 (.string ⟨#[]⟩) 1 16 Tryz.underlying24 hi9 hz9 hs9 hb9 rfl (by omega) cv st.chunks.length (cellsOfStrs st.chunks) (by rfl) (hcs4.alloc _) ⟨w4.heap.size, 0, none⟩ 1 1 [.string c] (by rfl) rfl (fun j u hj => one_cell hj) (one_one c) (by omega) hcl1 (by omega) (by simp; omega) (w4.heap.size + 1) (by simp) ?_; intro g5 cap5 w5 hown5 hg5 hat5 hlt5; have hsf5 : w5.frozen? ⟨sb, 0, none⟩ = false := (hg5.frozen_far _ (by have := cell_lt ks4; simp; omega) (fun e => hcvb _ e.symm rfl)).trans ((((Grow.refl w4).alloc _).frozen (cell_lt ks4)).trans hsf4); have ks5 : w5.cell? ⟨sb, 0, none⟩ = some cv := (hg5.cell_far _ (by have := cell_lt ks4; simp; omega) (fun e => hcvb _ e.symm rfl)).trans (cell_kept ks4 ((Grow.refl w4).alloc _))))
      all_goals
        obtain ⟨w6, hw6, hC6, hR6, hS6, hM6, hI6, hD6, hz6⟩ := put_mid (c := bl c) h3 hR3 hG4 hg5 hown5
        rw [← hw6]
        clear hw6 hown5 hg5 hat5 hlt5 hsf5 ks5 ks4 ks4' hG4 hcs4 hsf4 hz4
        rw [HU.out, HL.out] at hI6
      all_goals
        have s1 : w6.cell? ⟨sb, 1, none⟩ = some (.map (some fb)) := hR6.cell 1
        have s2 : w6.cell? ⟨w1.heap.size, 0, none⟩ = some (.int .u8 a.toNat) := hD6.cell 0
        have s3 : w6.cell? ⟨w1.heap.size, 1, none⟩ = some (.int .u8 b.toNat) := hD6.cell 1
        have s4 : w6.cell? ⟨w1.heap.size, 2, none⟩ = some (.int .u8 c'.toNat) := hD6.cell 2
        have s5 : w6.cell? ⟨w1.heap.size, 3, none⟩ = some (.int .u8 d.toNat) := hD6.cell 3
        have n1m : n1 < maxLen := by have := h3.n1le; simp only [maxLen]; omega
        have hfd := (h3.found (sumL (bl c)) rfl).1
        rw [HU.out] at hfd
        obtain ⟨e2, wE2, hME2, hgE2, hzE2, hst2⟩ := entry_dig (w := (w6.alloc (.cells #[.int .i64 st.chunks.length] 3)).drew) ((hM6.alloc _).drew) n1m (d := sumL (bl c)) rfl hfd
        have hdig : digV (sumL (bl c)) = .agg #[.int .u8 a.toNat, .int .u8 b.toNat, .int .u8 c'.toNat, .int .u8 d.toNat] := by rw [SUM.out]; rfl
        rw [hdig] at hME2
        simp only [goInt] at hME2
        have hsbfb : some sb ≠ some fb := fun e => map_ne_row hM6 hR6 (Option.some.inj e).symm
        have hdbfb : some w1.heap.size ≠ some fb := fun e => map_ne_row hM6 hD6 (Option.some.inj e).symm
        have hsbu : some sb ≠ u.ownBlock := fun e => own_ne_row' hI6 hR6 (by decide) e.symm
        have hdbu : some w1.heap.size ≠ u.ownBlock := fun e => own_ne_row' hI6 hD6 (by decide) e.symm
        have hufb : u.ownBlock ≠ some fb := map_ne_own hM6 hI6
        have hI6' : w6.ownsRow B 3 1 u L.length (cellsOfInts (ints L)) := by have := hI6; unfold IBuf at this; rw [ints_length] at this; exact this
        have hI6e : (w6.alloc (.cells #[.int .i64 st.chunks.length] 3)).drew.ownsRow B 3 1 u L.length (cellsOfInts (ints L)) := World.ownsRow.alloc hI6' _
        have hIE2 : wE2.ownsRow B 3 1 u L.length (cellsOfInts (ints L)) := World.ownsRow.kept hI6e hgE2 (.inr hufb)
        obtain ⟨i3, hi3, hzz3, hs3, hb3⟩ := info_parts Tryz.info3
        have HZ2 : Hid (wE2.heap.size = (w6.alloc (.cells #[.int .i64 st.chunks.length] 3)).drew.heap.size) := hzE2
        clear hzE2 hdig hfd
        have hk2 : (w6.alloc (.cells #[.int .i64 st.chunks.length] 3)).drew.cell? ⟨sb, 1, none⟩ = some (.map (some fb)) ∧ (w6.alloc (.cells #[.int .i64 st.chunks.length] 3)).drew.cell? ⟨w1.heap.size, 0, none⟩ = some (.int .u8 a.toNat) ∧ (w6.alloc (.cells #[.int .i64 st.chunks.length] 3)).drew.cell? ⟨w1.heap.size, 1, none⟩ = some (.int .u8 b.toNat) ∧ (w6.alloc (.cells #[.int .i64 st.chunks.length] 3)).drew.cell? ⟨w1.heap.size, 2, none⟩ = some (.int .u8 c'.toNat) ∧ (w6.alloc (.cells #[.int .i64 st.chunks.length] 3)).drew.cell? ⟨w1.heap.size, 3, none⟩ = some (.int .u8 d.toNat) :=
          keep5 (w := w6) (Grow.grown (((Grow.refl w6).alloc _).drew) none) (by simp) (by simp) ⟨s1, s2, s3, s4, s5⟩
        have hkE := keep5 hgE2 hsbfb hdbfb hk2
        have hnE : wE2.cell? ⟨w6.heap.size, 0, none⟩ = some (.int .i64 st.chunks.length) := by
          rw [hgE2.cell_far _ (by simp [heap_drew']) (fun e => by have := hM6.lt; simp only [Option.some.injEq] at e; omega)]
          simp
        have hLm : L.length + 1 ≤ maxLen := by simp only [maxLen]; omega
        have hB6 : B ≤ w6.heap.size := by omega
        go_wp2_with fail
        go_region_held3 (fun w' => w'.cell? ⟨sb, 1, none⟩ = some (.map (some fb)) ∧ w'.cell? ⟨w1.heap.size, 0, none⟩ = some (.int .u8 a.toNat) ∧ w'.cell? ⟨w1.heap.size, 1, none⟩ = some (.int .u8 b.toNat) ∧ w'.cell? ⟨w1.heap.size, 2, none⟩ = some (.int .u8 c'.toNat) ∧ w'.cell? ⟨w1.heap.size, 3, none⟩ = some (.int .u8 d.toNat))
          (first
            | exact keep5 hg9 hsbfb hdbfb (keep5 hg8 hsbu hdbu hkE)
            | exact keep5 hg8 hsbu hdbu hkE
            | exact hkE
            | exact hk2
            | go_keep)
          (first
            | (refine step_append_lies _ (by rfl) _ _ _ (by rfl) B 3 i3 (.int .i64 0) 1 8 Tryz.underlying34 hi3 hzz3 hs3 hb3 rfl (by omega) u L.length (cellsOfInts (ints L)) (by rfl) hIE2 ⟨w6.heap.size, 0, none⟩ 1 1 [.int .i64 st.chunks.length] (by rfl) rfl (fun j x hj => one_intE hnE hj) (one_oneI _) (by omega) hLm (by omega) (by have := HZ2.out; simp only [heap_drew', World.size_alloc] at this; omega) _ rfl ?_; intro g8 cap8 w8 hown8 hg8 hat8 hlt8; obtain ⟨w9, hES, hM9, hg9, hz9⟩ := hst2 w8 (.slice (some ⟨g8, 0, none⟩) (L.length + 1) cap8) (hg8.block fb (by have := hM6.lt; have := HZ2.out; simp only [heap_drew', World.size_alloc] at this; omega) (fun e => hufb e.symm)); simp only [goInt] at hES))
      all_goals
        clear hES hME2 hst2 hkE hk2 hnE s1 s2 s3 s4 s5
        go_wp2
        go_ret
        refine .inr ⟨NO.out, rfl, ?_⟩
        exact put_last h3 HU.out HL.out hC6 hR6 hS6 hM6 (by rw [HL.out]; exact hI6) hz6 HZ2.out hgE2 hown8 hg8 hat8 hM9 hg9 G3 hB

end Go.Proofs.YtheichphnppagaaGreat
