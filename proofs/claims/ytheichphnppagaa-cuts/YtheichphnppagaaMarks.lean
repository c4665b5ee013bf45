/- Lists in which every number reads as one mark, also behind their end: what an owner writes. -/
import Derived.Test.YtheichphnppagaaInts
namespace Go.Proofs.Ytheichphnppagaa
open Go.RowKit

theorem GB.trans {x y z : World} {r : Option Nat} (h : x.grownBy y r) (k : y.grownBy z r) : x.grownBy z r :=
  ⟨k.os.trans h.os, k.tape.trans h.tape, k.output.trans h.output, Nat.le_trans h.size k.size, fun i hi hn => (k.block i (Nat.lt_of_lt_of_le hi h.size) hn).trans (h.block i hi hn)⟩
theorem GB.refl (x : World) (r : Option Nat) : x.grownBy x r := ⟨rfl, rfl, rfl, Nat.le_refl _, fun _ _ _ => rfl⟩
theorem GB.below {x y z : World} {r : Option Nat} (h : x.grownBy y r) (k : Below x.heap.size y z) : x.grownBy z r :=
  ⟨k.os.trans h.os, k.tape.trans h.tape, k.output.trans h.output, Nat.le_trans h.size k.size, fun i hi hn => (k.block i hi).trans (h.block i hi hn)⟩
theorem GB.touch {x y : World} {b : Nat} (h : Touch b x y) : x.grownBy y (some b) := h.grown
theorem IBuf.gb {B : Nat} {w w' : World} {v : Value} {l : List Int} {r : Option Nat} (h : IBuf B w v l) (k : w.grownBy w' r) (hn : v.ownBlock = none ∨ v.ownBlock ≠ r) : IBuf B w' v l := World.ownsRow.kept h k hn
theorem Row.gb {w w' : World} {b : Nat} {t : TypeId} {l : List Value} {r : Option Nat} (h : Row w b t l) (k : w.grownBy w' r) (hn : some b ≠ r) : Row w' b t l := (k.block b h.lt hn).trans h

/-- An append, told wholly: into a new block, or behind the length. -/
theorem run_append_own2 {P : Program} (w : World) (base : Nat) (t tx ty e : TypeId) (i : TypeInfo) (z : Value) (bytes : Nat) (ht : P.underlying t = some (.slice e)) (hi : P.info? e = some i) (hz : i.zero = some z)
    (hsize : i.size = 1) (hby : i.bytes = bytes) (hzs : z.cells.size = 1)
    (v : Value) (n : Nat) (xs : List Value) (hown : w.ownsRow base e 1 v n xs)
    (x : Value) (m : Nat) (news : List Value) (hm : 0 < m) (hs : Src P 1 tx x m news w)
    (h63 : n + m ≤ maxLen) (hbytes : (n + m) * bytes ≤ 140737488355328) (hbase : base ≤ w.heap.size) :
    ∃ v' w', (Builtin.append_ #[t, tx] ty #[v, x]).run P w = .ok v' w' ∧
      ((w'.ownsRow base e 1 v' (n + m) (xs ++ news) ∧ v'.ownBlock = some w.heap.size ∧ w.grownBy w' none) ∨
       (∃ g cap cur, v = .slice (some ⟨g, 0, none⟩) n cap ∧ w.heap[g]? = some (.cells cur e (0, 0)) ∧ n + m ≤ cap ∧ v' = .slice (some ⟨g, 0, none⟩) (n + m) cap ∧ w' = w.setRow g (cur.toList.take n ++ news ++ cur.toList.drop (n + m)).toArray)) := by
  subst hby
  have hl : news.length = m := by have := hs.newsLen; omega
  have hsmall : n + m ≤ 9223372036854775807 := by simp only [maxLen] at h63; omega
  have hxl : xs.length = n := by have := hown.1; omega
  have hlen : (xs ++ news).length = (n + m) * 1 := by rw [List.length_append, hxl, hl]; omega
  have hs' : Src P i.size tx x m news w := by rw [hsize]; exact hs
  have grown : ∀ (old : Nat), old < n + m →
      (w.drew.alloc (.cells ((xs ++ news).toArray ++ Builtin.zeroCells z.cells (grownCap w (n + m) old e - (n + m))) e)).ownsRow base e 1
        (.slice (some ⟨w.heap.size, 0, none⟩) (n + m) (grownCap w (n + m) old e)) (n + m) (xs ++ news) ∧
      w.grownBy (w.drew.alloc (.cells ((xs ++ news).toArray ++ Builtin.zeroCells z.cells (grownCap w (n + m) old e - (n + m))) e)) none := by
    intro old ho
    have hge := grownCap_ge w (n + m) old e
    have hcm : grownCap w (n + m) old e ≤ maxLen := grownCap_le_maxLen w (n + m) old e h63
    refine ⟨⟨hlen, .inr ⟨w.heap.size, _, _, rfl, hbase, heap_alloc_new w.drew _, hge, hcm, ?_, ?_⟩⟩, ⟨rfl, rfl, rfl, by simp, fun k hk _ => Below.heap_alloc w.drew _ k hk⟩⟩
    · simp only [Array.size_append, List.size_toArray, size_zeroCells, hzs, hlen]
      omega
    · simp only [Array.toList_append]
      rw [← hlen]
      exact List.take_left
  rcases hown.2 with ⟨rfl, rfl⟩ | ⟨g, cap, cur, rfl, hbg, hg, hnc, hcm, hcs, htake⟩
  · have hx : xs = [] := List.eq_nil_of_length_eq_zero hxl
    subst hx
    have hr := run_append_grow_src (P := P) w t tx ty e i z ht hi hz none 0 0 [] (by rw [hsize]; exact run_firstCells_none w.drew 1 0 0 0) x m news hs' (by omega) (by omega)
      (growslice_fits (by omega) hbytes)
    have hgr := grown 0 (by omega)
    exact ⟨_, _, hr, .inl ⟨hgr.1, rfl, hgr.2⟩⟩
  · by_cases hroom : n + m ≤ cap
    · have hfit : n * i.size + news.length ≤ cur.size := by rw [hsize]; omega
      have hst := run_storeCells_at P g (n * i.size) e news 0 cur w hg (by simpa using hfit) hs.one
      simp only [Nat.add_zero] at hst
      have hr : (Builtin.append_ #[t, tx] ty #[.slice (some ⟨g, 0, none⟩) n cap, x]).run P w =
          .ok (.slice (some ⟨g, 0, none⟩) (n + m) cap) (w.setRow g (cur.toList.take (n * i.size) ++ news ++ cur.toList.drop (n * i.size + news.length)).toArray) := by
        rcases hs.kind with ⟨e', hk⟩ | hk <;> simp [Builtin.append_, run_underlying ht, run_underlying hk, sizeOf, typeInfo, hi, hs'.len, hroom, hs'.cells, Addr.add_lit, hst]
      rw [hsize, hl, Nat.mul_one] at hr
      exact ⟨_, _, hr, .inr ⟨g, cap, cur, rfl, hg, hroom, rfl, rfl⟩⟩
    · have holds : ∀ j u, xs[j]? = some u → w.cell? ((⟨g, 0, none⟩ : Addr).add j) = some u := hown.cells (g := g) rfl
      have hf := run_firstCells_some (P := P) w.drew i.size n ⟨g, 0, none⟩ n cap xs (by rw [hsize]; exact hown.1) (by simpa using holds)
      have hr := run_append_grow_src (P := P) w t tx ty e i z ht hi hz (some ⟨g, 0, none⟩) n cap xs hf x m news hs' (by omega) (by omega) (growslice_fits (by omega) hbytes)
      have hgr := grown cap (by omega)
      exact ⟨_, _, hr, .inl ⟨hgr.1, rfl, hgr.2⟩⟩

/-- n times the mark. -/
abbrev mk (n : Nat) (c : Int) : List Int := List.replicate n c
theorem cells_mk (n : Nat) (c : Int) : cellsOfInts (mk n c) = List.replicate n (.int .i64 c) := by simp [cellsOfInts, mk]
theorem take_all {l : List Value} {n : Nat} {u : Value} (h : l.take n = List.replicate n u) (j : Nat) (hj : j < n) : l[j]? = some u := by
  have e := congrArg (fun x => x[j]?) h
  simpa [List.getElem?_take, hj] using e
theorem all_take {l : List Value} {n : Nat} {u : Value} (h : ∀ j, j < n → l[j]? = some u) : l.take n = List.replicate n u := by
  apply List.ext_getElem?
  intro j
  rw [List.getElem?_take]
  by_cases c : j < n
  · rw [if_pos c, h j c]
    simp [c]
  · rw [if_neg c]
    simp [c]

theorem run_append_mk (w : World) (B : Nat) (tx ty : TypeId) (v x : Value) (n k : Nat) (c : Int) (hown : IBuf B w v (mk n c)) (hk : 0 < k) (hs : Src Try.prog 1 tx x k (cellsOfInts (mk k c)) w)
    (hlen : n + k ≤ 1000000) (hB : B ≤ w.heap.size) :
    ∃ v' w', (Builtin.append_ #[24, tx] ty #[v, x]).run Try.prog w = .ok v' w' ∧ IBuf B w' v' (mk (n + k) c) ∧ w.grownBy w' v.ownBlock ∧ (∀ b, b < w.heap.size → v.ownBlock ≠ some b → v'.ownBlock ≠ some b) ∧ ∀ u m, IBuf B w u (mk m c) → IBuf B w' u (mk m c) := by
  obtain ⟨i0, hi, hz0, hz1, hz2⟩ := info_parts Try.info3
  have hown' : w.ownsRow B 3 1 v n (cellsOfInts (mk n c)) := by have := hown; unfold IBuf at this; simpa using this
  obtain ⟨v', w', hr, h2⟩ := run_append_own2 w B 24 tx ty 3 i0 (.int .i64 0) 8 Try.underlying24 hi hz0 hz1 hz2 rfl v n (cellsOfInts (mk n c)) hown' x k (cellsOfInts (mk k c)) hk hs
    (by simp only [maxLen]; omega) (by omega) hB
  have eapp : cellsOfInts (mk n c) ++ cellsOfInts (mk k c) = cellsOfInts (mk (n + k) c) := by rw [cells_mk, cells_mk, cells_mk, List.replicate_append_replicate]
  refine ⟨v', w', hr, ?_⟩
  rcases h2 with ⟨a1, a2, a3⟩ | ⟨g, cap, cur, rfl, hg, hroom, rfl, rfl⟩
  · refine ⟨?_, ⟨a3.os, a3.tape, a3.output, a3.size, fun i hi _ => a3.block i hi (by simp)⟩, fun b hb _ e => ?_, fun u m hu => hu.gb a3 (by cases u.ownBlock <;> simp)⟩
    · unfold IBuf
      rw [eapp] at a1
      simpa using a1
    · rw [a2] at e
      simp at e
      omega
  · rcases hown'.2 with ⟨e, _⟩ | ⟨g', cap', cur', e, hb, hg', hnc, hcm, hcs, htake⟩
    · simp at e
    · simp only [Value.slice.injEq, Option.some.injEq, Addr.mk.injEq, and_true, true_and] at e
      obtain ⟨rfl, rfl⟩ := e
      rw [hg] at hg'
      obtain rfl : cur = cur' := by simpa using hg'
      have hlt : g < w.heap.size := (Array.getElem?_eq_some_iff.1 hg).1
      rw [Nat.mul_one, cells_mk] at htake
      have size' : (cur.toList.take n ++ cellsOfInts (mk k c) ++ cur.toList.drop (n + k)).toArray.size = cap * 1 := by
        simp only [List.size_toArray, List.length_append, List.length_take, List.length_drop, Array.length_toList, cellsOfInts_length, List.length_replicate]
        omega
      have reads : ∀ m, cur.toList.take m = List.replicate m (.int .i64 c) → m ≤ cap → (cur.toList.take n ++ cellsOfInts (mk k c) ++ cur.toList.drop (n + k)).take m = List.replicate m (.int .i64 c) := by
        intro m hm hmc
        refine all_take (fun j hj => ?_)
        have hl1 : (cur.toList.take n).length = n := by simp; omega
        by_cases c1 : j < n
        · rw [List.append_assoc, List.getElem?_append_left (by omega), List.getElem?_take, if_pos c1]
          exact take_all hm j hj
        · rw [List.append_assoc, List.getElem?_append_right (by omega), hl1, cells_mk]
          by_cases c2 : j < n + k
          · rw [List.getElem?_append_left (by simp; omega), List.getElem?_replicate, if_pos (by omega)]
          · rw [List.getElem?_append_right (by simp; omega), List.getElem?_drop]
            rw [show n + k + (j - n - (List.replicate k (Value.int .i64 c)).length) = j by simp; omega]
            exact take_all hm j hj
      have hrow := setRow_heap w g cur (cur.toList.take n ++ cellsOfInts (mk k c) ++ cur.toList.drop (n + k)).toArray 3 (0, 0) hg
      have hgb : w.grownBy (w.setRow g (cur.toList.take n ++ cellsOfInts (mk k c) ++ cur.toList.drop (n + k)).toArray) (some g) := ⟨rfl, rfl, rfl, by simp, fun j _ hj => setRow_other w g j _ (fun e => hj (by rw [e]))⟩
      refine ⟨?_, hgb, fun b hb hn => hn, fun u m hu => ?_⟩
      · unfold IBuf
        rw [List.length_replicate]
        refine ⟨by simp [cellsOfInts_length], .inr ⟨g, cap, _, rfl, hb, hrow, hroom, hcm, size', ?_⟩⟩
        rw [Nat.mul_one, cells_mk (n + k) c]
        refine all_take (fun j hj => ?_)
        have hl1 : (cur.toList.take n).length = n := by simp; omega
        by_cases c1 : j < n
        · rw [List.append_assoc, List.getElem?_append_left (by omega), List.getElem?_take, if_pos c1]
          exact take_all htake j c1
        · rw [List.append_assoc, List.getElem?_append_right (by omega), hl1, cells_mk, List.getElem?_append_left (by simp; omega), List.getElem?_replicate, if_pos (by omega)]
      · by_cases hu2 : u.ownBlock = some g
        · unfold IBuf at hu ⊢
          rw [List.length_replicate] at hu ⊢
          rcases hu.2 with ⟨rfl, rfl⟩ | ⟨g2, cap2, cur2, rfl, hb2, hg2, hnc2, hcm2, hcs2, htake2⟩
          · simp [Value.ownBlock] at hu2
          · obtain rfl : g2 = g := by simpa [Value.ownBlock] using hu2
            rw [hg] at hg2
            obtain rfl : cur = cur2 := by simpa using hg2
            rw [Nat.mul_one, cells_mk] at htake2
            refine ⟨hu.1, .inr ⟨g2, cap2, _, rfl, hb2, hrow, hnc2, hcm2, by omega, ?_⟩⟩
            rw [Nat.mul_one, cells_mk m c]
            exact reads m htake2 (by omega)
        · exact hu.gb hgb (.inr hu2)

theorem wpList_append_mk {w : World} {ops : Array Oper} {rest : List Oper} {o : Oper} {a : Act} {Q : Exit → Act → World → Prop} (hgd : o.guard = none) (s x : Operand) (tx : TypeId)
    (ho : o.op = .call { callee := .builtin .append, args := #[s, x], argTypes := #[24, tx] })
    (B : Nat) (v xv : Value) (n k : Nat) (c : Int) (hs : a.eval s = v) (hx : a.eval x = xv) (hown : IBuf B w v (mk n c)) (hk : 0 < k) (hsrc : Src Try.prog 1 tx xv k (cellsOfInts (mk k c)) w)
    (hlen : n + k ≤ 1000000) (hB : B ≤ w.heap.size)
    (h : ∀ v' w', IBuf B w' v' (mk (n + k) c) → w.grownBy w' v.ownBlock → (∀ b, b < w.heap.size → v.ownBlock ≠ some b → v'.ownBlock ≠ some b) → (∀ u m, IBuf B w u (mk m c) → IBuf B w' u (mk m c)) → wpList Try.prog ops Q rest (a.put o.dst v') w') : wpList Try.prog ops Q (o :: rest) a w := by
  obtain ⟨v', w', hr, h2, h3, h4, h5⟩ := run_append_mk w B tx o.type v xv n k c hown hk hsrc hlen hB
  refine wpList_plain hgd fun K hK => ?_
  unfold Oper.wp execOp
  simp only [ho, resolve, invoke, builtin, Sem.run_bind, Sem.run_pure, Result.andThen_ok, List.map_toArray, List.map_cons, List.map_nil, hs, hx, hr]
  exact hK _ _ (h v' w' h2 h3 h4 h5)

theorem isrc_two (w : World) (c : Int) :
    Src Try.prog 1 24 (.slice (some ⟨w.heap.size, 0, none⟩) 2 2) 2 (cellsOfInts (mk 2 c)) (w.alloc (.cells #[.int .i64 c, .int .i64 c] 3)) := by
  refine Src.ofSlice _ Try.underlying24 ⟨w.heap.size, 0, none⟩ 2 2 (cellsOfInts (mk 2 c)) (by simp [cellsOfInts_length]) (fun j u hj => ?_) (cellsOfInts_one _)
  match j, hj with
  | 0, hj => simp [cellsOfInts, mk] at hj; subst hj; simp [Addr.add]
  | 1, hj => simp [cellsOfInts, mk] at hj; subst hj; simp [Addr.add]
theorem isrc_three (w : World) (c : Int) :
    Src Try.prog 1 24 (.slice (some ⟨w.heap.size, 0, none⟩) 3 3) 3 (cellsOfInts (mk 3 c)) (w.alloc (.cells #[.int .i64 c, .int .i64 c, .int .i64 c] 3)) := by
  refine Src.ofSlice _ Try.underlying24 ⟨w.heap.size, 0, none⟩ 3 3 (cellsOfInts (mk 3 c)) (by simp [cellsOfInts_length]) (fun j u hj => ?_) (cellsOfInts_one _)
  match j, hj with
  | 0, hj => simp [cellsOfInts, mk] at hj; subst hj; simp [Addr.add]
  | 1, hj => simp [cellsOfInts, mk] at hj; subst hj; simp [Addr.add]
  | 2, hj => simp [cellsOfInts, mk] at hj; subst hj; simp [Addr.add]

/-- One number is written. -/
theorem IBuf.set {B : Nat} {w : World} {g cap : Nat} {l : List Int} (h : IBuf B w (.slice (some ⟨g, 0, none⟩) l.length cap) l) (j : Nat) (c : Int) : IBuf B (w.setCell ⟨g, j, none⟩ (.int .i64 c)) (.slice (some ⟨g, 0, none⟩) l.length cap) (l.set j c) := by
  unfold IBuf at *
  rcases h.2 with ⟨e, _⟩ | ⟨g', cap', cur, e, hb, hg, hnc, hcm, hcs, htake⟩
  · simp at e
  · simp only [Value.slice.injEq, Option.some.injEq, Addr.mk.injEq, and_true, true_and] at e
    obtain ⟨rfl, rfl⟩ := e
    have hr : Row w g 3 cur.toList := by unfold Row; simpa using hg
    have hr2 := hr.setCell j (.int .i64 c)
    rw [List.length_set]
    refine ⟨by simp [cellsOfInts_length], .inr ⟨g, cap, _, rfl, hb, hr2, hnc, hcm, by simpa using hcs, ?_⟩⟩
    rw [Nat.mul_one] at htake ⊢
    show (List.set cur.toList j (.int .i64 c)).take l.length = _
    rw [List.take_set, htake]
    simp [cellsOfInts, List.map_set]

end Go.Proofs.Ytheichphnppagaa
