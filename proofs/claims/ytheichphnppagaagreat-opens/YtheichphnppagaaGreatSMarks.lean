/- Opens: SCur, SMarks. -/
import Derived.Test.YtheichphnppagaaGreatList
import Derived.Laws.CopyOwn
namespace Go.Proofs.YtheichphnppagaaGreat
open Go.RowKit

theorem Tryz.size9 : (Tryz.prog.info? 9).map (·.size) = some 1 := by kernel_rfl

theorem SBuf.cur {B : Nat} {w : World} {g cap n : Nat} {l : List (List UInt8)} (hn : l.length = n) (h : SBuf B w (.slice (some ⟨g, 0, none⟩) n cap) l) :
    ∃ cur : List Value, w.heap[g]? = some (.cells cur.toArray 9 (0, 0)) ∧ cur.length = cap ∧ n ≤ cap ∧ cap ≤ maxLen ∧ cur.take n = cellsOfStrs l ∧ B ≤ g := by
  subst hn
  unfold SBuf at h
  rcases h.2 with ⟨e, _⟩ | ⟨g', cap', cur, e, hb, hg, hnc, hcm, hcs, htake⟩
  · simp at e
  · simp only [Value.slice.injEq, Option.some.injEq, Addr.mk.injEq, and_true, true_and] at e
    obtain ⟨rfl, rfl⟩ := e
    rw [Nat.mul_one] at htake hcs
    exact ⟨cur.toList, by simpa using hg, by simpa using hcs, hnc, hcm, htake, hb⟩
theorem SBuf.of_cur {B : Nat} {w : World} {g cap n : Nat} {l : List (List UInt8)} {cur : List Value} (hn : l.length = n) (hg : w.heap[g]? = some (.cells cur.toArray 9 (0, 0))) (hl : cur.length = cap) (hc : n ≤ cap) (hm : cap ≤ maxLen)
    (ht : cur.take n = cellsOfStrs l) (hB : B ≤ g) : SBuf B w (.slice (some ⟨g, 0, none⟩) n cap) l := by
  subst hn
  unfold SBuf
  refine ⟨by simp [cellsOfStrs_length], .inr ⟨g, cap, cur.toArray, rfl, hB, hg, hc, hm, by simpa using hl, ?_⟩⟩
  rw [Nat.mul_one]
  exact ht

theorem copy_end {B : Nat} {w : World} {g cap k : Nat} {L : List (List UInt8)} {cur : List Value} (c : List UInt8) (hk : k ≤ L.length) (hl : cur.length = cap) (hc : L.length + 1 ≤ cap) (hm : cap ≤ maxLen)
    (ht : cur.take (L.length + 1) = cellsOfStrs (L ++ [[]])) (hg : w.heap[g]? = some (.cells (splice cur (k + 1) (cellsOfStrs (L.drop k))).toArray 9 (0, 0))) (hB : B ≤ g) :
    SBuf B (w.setCell ⟨g, k, none⟩ (strV c)) (.slice (some ⟨g, 0, none⟩) (L.length + 1) cap) (L.take k ++ c :: L.drop k) ∧ w.frozen? ⟨g, k, none⟩ = false ∧ ∃ u, w.cell? ⟨g, k, none⟩ = some u := by
  have lcs : (cellsOfStrs (L.drop k)).length = L.length - k := by simp [cellsOfStrs_length]
  have hM : ((L ++ [[]]).take (k + 1) ++ L.drop k).length = L.length + 1 := by simp; omega
  have h1 : SBuf B w (.slice (some ⟨g, 0, none⟩) (L.length + 1) cap) ((L ++ [[]]).take (k + 1) ++ L.drop k) := by
    refine SBuf.of_cur hM hg (by rw [length_splice _ _ _ (by omega)]; exact hl) hc hm ?_ hB
    have e1 : cur.take (k + 1) = cellsOfStrs ((L ++ [[]]).take (k + 1)) := by
      have := congrArg (List.take (k + 1)) ht
      rw [List.take_take, Nat.min_eq_left (by omega)] at this
      rw [this]
      simp [cellsOfStrs, List.map_take]
    unfold splice
    rw [← List.append_assoc, List.take_append_of_le_length (by simp [lcs]; omega), List.take_of_length_le (by simp [lcs]; omega), e1, cellsOfStrs_append]
  have h2 := h1.set hM k c
  have e2 : ((L ++ [[]]).take (k + 1) ++ L.drop k).set k c = L.take k ++ c :: L.drop k := by
    have hx : (L ++ [[]]).take (k + 1) = L.take k ++ [(L ++ [[]])[k]'(by simp; omega)] := by
      rw [List.take_succ_eq_append_getElem (by simp; omega), List.take_append_of_le_length hk]
    rw [hx, List.append_assoc, List.set_append_right _ _ (by simp; omega)]
    simp [Nat.min_eq_left hk]
  rw [e2] at h2
  refine ⟨h2, h1.free k, ?_⟩
  have hc1 := World.ownsRow.cellAt (by unfold SBuf at h1; rw [hM] at h1; exact h1) k (by omega)
  exact ⟨_, hc1.trans (List.getElem?_eq_getElem (by rw [cellsOfStrs_length, hM]; omega))⟩

end Go.Proofs.YtheichphnppagaaGreat
namespace Go.Proofs.YtheichphnppagaaGreat
open Go.RowKit

/-- An append, told wholly: into a new block, or behind the length. -/
theorem run_append_own2 {P : Program} (w : World) (base : Nat) (t tx ty e : TypeId) (i : TypeInfo) (z : Value) (bytes : Nat) (ht : P.underlying t = some (.slice e)) (hi : P.info? e = some i) (hz : i.zero = some z)
    (hsize : i.size = 1) (hby : i.bytes = bytes) (hzs : z.cells.size = 1)
    (v : Value) (n : Nat) (xs : List Value) (hown : w.ownsRow base e 1 v n xs)
    (x : Value) (m : Nat) (news : List Value) (hm : 0 < m) (hs : Src P 1 tx x m news w)
    (h63 : n + m ≤ maxLen) (hbytes : (n + m) * bytes ≤ 140737488355328) (hbase : base ≤ w.heap.size) :
    ∃ v' w', (Builtin.append_ #[t, tx] ty #[v, x]).run P w = .ok v' w' ∧
      ((w'.ownsRow base e 1 v' (n + m) (xs ++ news) ∧ v'.ownBlock = some w.heap.size ∧ w.grownBy w' none) ∨
       (∃ g cap cur, v = .slice (some ⟨g, 0, none⟩) n cap ∧ w.heap[g]? = some (.cells cur e (0, 0)) ∧ n + m ≤ cap ∧ v' = .slice (some ⟨g, 0, none⟩) (n + m) cap ∧ w' = w.setRow g (cur.toList.take n ++ news ++ cur.toList.drop (n + m)).toArray)) := by
  subst hby
  have hl : news.length = m := by have := hs.newsLen; omega
  have hsmall : n + m ≤ 9223372036854775807 := by simp only [maxLen] at h63; omega
  have hxl : xs.length = n := by have := hown.1; omega
  have hlen : (xs ++ news).length = (n + m) * 1 := by rw [List.length_append, hxl, hl]; omega
  have hs' : Src P i.size tx x m news w := by rw [hsize]; exact hs
  have grown : ∀ (old : Nat), old < n + m →
      (w.drew.alloc (.cells ((xs ++ news).toArray ++ Builtin.zeroCells z.cells (grownCap w (n + m) old e - (n + m))) e)).ownsRow base e 1
        (.slice (some ⟨w.heap.size, 0, none⟩) (n + m) (grownCap w (n + m) old e)) (n + m) (xs ++ news) ∧
      w.grownBy (w.drew.alloc (.cells ((xs ++ news).toArray ++ Builtin.zeroCells z.cells (grownCap w (n + m) old e - (n + m))) e)) none := by
    intro old ho
    have hge := grownCap_ge w (n + m) old e
    have hcm : grownCap w (n + m) old e ≤ maxLen := grownCap_le_maxLen w (n + m) old e h63
    refine ⟨⟨hlen, .inr ⟨w.heap.size, _, _, rfl, hbase, heap_alloc_new w.drew _, hge, hcm, ?_, ?_⟩⟩, ⟨rfl, rfl, rfl, by simp, fun k hk _ => Below.heap_alloc w.drew _ k hk⟩⟩
    · simp only [Array.size_append, List.size_toArray, size_zeroCells, hzs, hlen]
      omega
    · simp only [Array.toList_append]
      rw [← hlen]
      exact List.take_left
  rcases hown.2 with ⟨rfl, rfl⟩ | ⟨g, cap, cur, rfl, hbg, hg, hnc, hcm, hcs, htake⟩
  · have hx : xs = [] := List.eq_nil_of_length_eq_zero hxl
    subst hx
    have hr := run_append_grow_src (P := P) w t tx ty e i z ht hi hz none 0 0 [] (by rw [hsize]; exact run_firstCells_none w.drew 1 0 0 0) x m news hs' (by omega) (by omega)
      (growslice_fits (by omega) hbytes)
    have hgr := grown 0 (by omega)
    exact ⟨_, _, hr, .inl ⟨hgr.1, rfl, hgr.2⟩⟩
  · by_cases hroom : n + m ≤ cap
    · have hfit : n * i.size + news.length ≤ cur.size := by rw [hsize]; omega
      have hst := run_storeCells_at P g (n * i.size) e news 0 cur w hg (by simpa using hfit) hs.one
      simp only [Nat.add_zero] at hst
      have hr : (Builtin.append_ #[t, tx] ty #[.slice (some ⟨g, 0, none⟩) n cap, x]).run P w =
          .ok (.slice (some ⟨g, 0, none⟩) (n + m) cap) (w.setRow g (cur.toList.take (n * i.size) ++ news ++ cur.toList.drop (n * i.size + news.length)).toArray) := by
        rcases hs.kind with ⟨e', hk⟩ | hk <;> simp [Builtin.append_, run_underlying ht, run_underlying hk, sizeOf, typeInfo, hi, hs'.len, hroom, hs'.cells, Addr.add_lit, hst]
      rw [hsize, hl, Nat.mul_one] at hr
      exact ⟨_, _, hr, .inr ⟨g, cap, cur, rfl, hg, hroom, rfl, rfl⟩⟩
    · have holds : ∀ j u, xs[j]? = some u → w.cell? ((⟨g, 0, none⟩ : Addr).add j) = some u := hown.cells (g := g) rfl
      have hf := run_firstCells_some (P := P) w.drew i.size n ⟨g, 0, none⟩ n cap xs (by rw [hsize]; exact hown.1) (by simpa using holds)
      have hr := run_append_grow_src (P := P) w t tx ty e i z ht hi hz (some ⟨g, 0, none⟩) n cap xs hf x m news hs' (by omega) (by omega) (growslice_fits (by omega) hbytes)
      have hgr := grown cap (by omega)
      exact ⟨_, _, hr, .inl ⟨hgr.1, rfl, hgr.2⟩⟩


theorem wpList_append_sbuf3 {w : World} {ops : Array Oper} {rest : List Oper} {o : Oper} {a : Act} {Q : Exit → Act → World → Prop} (hgd : o.guard = none) (s x : Operand) (tx : TypeId)
    (ho : o.op = .call { callee := .builtin .append, args := #[s, x], argTypes := #[24, tx] })
    (B : Nat) (v xv : Value) (l news : List (List UInt8)) (hs : a.eval s = v) (hx : a.eval x = xv) (hown : SBuf B w v l) (hm : 0 < news.length) (hsrc : Src Tryz.prog 1 tx xv news.length (cellsOfStrs news) w)
    (hlen : l.length + news.length ≤ 100000000) (hB : B ≤ w.heap.size)
    (h : ∀ g cap w', B ≤ g → SBuf B w' v l → w.grownBy w' v.ownBlock → wpList Tryz.prog ops Q rest (a.put o.dst (.slice (some ⟨g, 0, none⟩) (l.length + news.length) cap)) w') : wpList Tryz.prog ops Q (o :: rest) a w := by
  obtain ⟨i0, hi, hz0, hz1, hz2⟩ := info_parts Tryz.info9
  obtain ⟨v', w', hr, h2⟩ := run_append_own2 w B 24 tx o.type 9 i0 (.string ⟨#[]⟩) 16 Tryz.underlying24 hi hz0 hz1 hz2 rfl v l.length (cellsOfStrs l) hown xv news.length (cellsOfStrs news) hm hsrc
    (by simp only [maxLen]; omega) (by omega) hB
  have main : ∃ g cap, v' = .slice (some ⟨g, 0, none⟩) (l.length + news.length) cap ∧ B ≤ g ∧ SBuf B w' v l ∧ w.grownBy w' v.ownBlock := by
    rcases h2 with ⟨a1, a2, a3⟩ | ⟨g, cap, cur, rfl, hg, hroom, rfl, rfl⟩
    · rcases a1.2 with ⟨rfl, e⟩ | ⟨g, cap, cur, rfl, hb, _⟩
      · omega
      · exact ⟨g, cap, rfl, hb, hown.kept a3 (by cases v.ownBlock <;> simp), ⟨a3.os, a3.tape, a3.output, a3.size, fun i hi _ => a3.block i hi (by simp)⟩⟩
    · have hown' := hown
      unfold SBuf at hown'
      rcases hown'.2 with ⟨e, _⟩ | ⟨g', cap', cur', e, hb, hg', hnc, hcm, hcs, htake⟩
      · simp at e
      · simp only [Value.slice.injEq, Option.some.injEq, Addr.mk.injEq, and_true, true_and] at e
        obtain ⟨rfl, rfl⟩ := e
        rw [hg] at hg'
        obtain rfl : cur = cur' := by simpa using hg'
        rw [Nat.mul_one] at htake hcs
        have hl1 : (cur.toList.take l.length).length = l.length := by simp; omega
        refine ⟨g, cap, rfl, hb, ?_, ⟨rfl, rfl, rfl, by simp, fun j _ hj => setRow_other w g j _ (fun e => hj (by rw [e]; rfl))⟩⟩
        refine SBuf.of_cur rfl (setRow_heap w g cur _ 9 (0, 0) hg) ?_ hnc hcm ?_ hb
        · simp only [List.length_append, List.length_take, List.length_drop, Array.length_toList, cellsOfStrs_length]
          omega
        · rw [List.append_assoc, List.take_append_of_le_length (by omega), List.take_of_length_le (by omega)]
          exact htake
  obtain ⟨g, cap, rfl, m1, m2, m3⟩ := main
  refine wpList_plain hgd fun K hK => ?_
  unfold Oper.wp execOp
  simp only [ho, resolve, invoke, builtin, Sem.run_bind, Sem.run_pure, Result.andThen_ok, List.map_toArray, List.map_cons, List.map_nil, hs, hx, hr]
  exact hK _ _ (h g cap w' m1 m2 m3)

end Go.Proofs.YtheichphnppagaaGreat
