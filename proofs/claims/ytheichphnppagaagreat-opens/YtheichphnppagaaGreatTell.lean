/- Opens: Bytes, Tell. -/
import Derived.Test.YtheichphnppagaaGreatPush
import Derived.Deep.AppendSrc
import Derived.Laws.IdiomStrings
namespace Go.Proofs.YtheichphnppagaaGreat
open Go.RowKit

theorem Tryz.underlying64 : Tryz.prog.underlying 64 = some (.slice 5) := by kernel_rfl
theorem Tryz.underlying5 : Tryz.prog.underlying 5 = some (.int .u8) := by kernel_rfl
theorem Tryz.info5 : (Tryz.prog.info? 5).map (fun i => (i.zero, i.size, i.bytes)) = some (some (.int .u8 0), 1, 1) := by kernel_rfl

/-- Bytes, as cells. -/
def cellsOfBytes (l : List UInt8) : List Value := l.map fun b => Value.int .u8 (b.toNat : Int)
theorem cellsOfBytes_append (a b : List UInt8) : cellsOfBytes (a ++ b) = cellsOfBytes a ++ cellsOfBytes b := List.map_append
theorem cellsOfBytes_length (a : List UInt8) : (cellsOfBytes a).length = a.length := by simp [cellsOfBytes]
theorem cellsOfBytes_one (a : List UInt8) : ∀ u ∈ cellsOfBytes a, u.oneCell' = true := by
  intro u hu
  obtain ⟨_, _, rfl⟩ := List.mem_map.1 hu
  rfl

/-- The slice v owns the bytes l, in blocks from B on. -/
def Buf (B : Nat) (w : World) (v : Value) (l : List UInt8) : Prop := w.ownsRow B 5 1 v l.length (cellsOfBytes l)

theorem Buf.nil (B : Nat) (w : World) : Buf B w (.slice none 0 0) [] := World.ownsRow_nil w B 5 1
theorem Buf.alloc {B : Nat} {w : World} {v : Value} {l : List UInt8} (h : Buf B w v l) (o : Obj) : Buf B (w.alloc o) v l := World.ownsRow.alloc h o
theorem Buf.drewN {B : Nat} {w : World} {v : Value} {l : List UInt8} (h : Buf B w v l) (n : Nat) : Buf B (w.drewN n) v l :=
  World.ownsRow.kept (row := none) h ⟨rfl, rfl, rfl, Nat.le_refl _, fun _ _ _ => rfl⟩ (by cases v.ownBlock <;> simp)
theorem Buf.block {B : Nat} {w : World} {v : Value} {l : List UInt8} (h : Buf B w v l) : ∀ k, v.ownBlock = some k → B ≤ k := fun k hk => (World.ownsRow.lt h k hk).1
theorem Buf.form {B : Nat} {w : World} {v : Value} {l : List UInt8} (h : Buf B w v l) : (v = .slice none 0 0 ∧ l = []) ∨ ∃ g cap, v = .slice (some ⟨g, 0, none⟩) l.length cap := by
  rcases h.2 with ⟨rfl, hn⟩ | ⟨g, cap, cur, rfl, _⟩
  · exact .inl ⟨rfl, List.eq_nil_of_length_eq_zero hn⟩
  · exact .inr ⟨g, cap, rfl⟩

theorem run_append_own_src {P : Program} (w : World) (base : Nat) (t tx ty e : TypeId) (i : TypeInfo) (z : Value) (bytes : Nat) (ht : P.underlying t = some (.slice e)) (hi : P.info? e = some i) (hz : i.zero = some z)
    (hsize : i.size = 1) (hby : i.bytes = bytes) (hzs : z.cells.size = 1)
    (v : Value) (n : Nat) (xs : List Value) (hown : w.ownsRow base e 1 v n xs)
    (x : Value) (m : Nat) (news : List Value) (hm : 0 < m) (hs : Src P 1 tx x m news w)
    (h63 : n + m ≤ maxLen) (hbytes : (n + m) * bytes ≤ 140737488355328) (hbase : base ≤ w.heap.size) :
    ∃ v' w', (Builtin.append_ #[t, tx] ty #[v, x]).run P w = .ok v' w' ∧ w'.ownsRow base e 1 v' (n + m) (xs ++ news) ∧ w.grownBy w' v.ownBlock := by
  subst hby
  have hl : news.length = m := by have := hs.newsLen; omega
  have hsmall : n + m ≤ 9223372036854775807 := by simp only [maxLen] at h63; omega
  have hxl : xs.length = n := by have := hown.1; omega
  have hlen : (xs ++ news).length = (n + m) * 1 := by rw [List.length_append, hxl, hl]; omega
  have hs' : Src P i.size tx x m news w := by rw [hsize]; exact hs
  have grown : ∀ (old : Nat), old < n + m → ∀ (row : Option Nat),
      (w.drew.alloc (.cells ((xs ++ news).toArray ++ Builtin.zeroCells z.cells (grownCap w (n + m) old e - (n + m))) e)).ownsRow base e 1
        (.slice (some ⟨w.heap.size, 0, none⟩) (n + m) (grownCap w (n + m) old e)) (n + m) (xs ++ news) ∧
      w.grownBy (w.drew.alloc (.cells ((xs ++ news).toArray ++ Builtin.zeroCells z.cells (grownCap w (n + m) old e - (n + m))) e)) row := by
    intro old ho row
    have hge := grownCap_ge w (n + m) old e
    have hcm : grownCap w (n + m) old e ≤ maxLen := grownCap_le_maxLen w (n + m) old e h63
    refine ⟨⟨hlen, .inr ⟨w.heap.size, _, _, rfl, hbase, heap_alloc_new w.drew _, hge, hcm, ?_, ?_⟩⟩, ⟨rfl, rfl, rfl, by simp, fun k hk _ => Below.heap_alloc w.drew _ k hk⟩⟩
    · simp only [Array.size_append, List.size_toArray, size_zeroCells, hzs, hlen]
      omega
    · simp only [Array.toList_append]
      rw [← hlen]
      exact List.take_left
  rcases hown.2 with ⟨rfl, rfl⟩ | ⟨g, cap, cur, rfl, hbg, hg, hnc, hcm, hcs, htake⟩
  · have hx : xs = [] := List.eq_nil_of_length_eq_zero hxl
    subst hx
    have hr := run_append_grow_src (P := P) w t tx ty e i z ht hi hz none 0 0 [] (by rw [hsize]; exact run_firstCells_none w.drew 1 0 0 0) x m news hs' (by omega) (by omega)
      (growslice_fits (by omega) hbytes)
    have hgr := grown 0 (by omega) (Value.ownBlock (.slice none 0 0))
    exact ⟨_, _, hr, hgr.1, hgr.2⟩
  · by_cases hroom : n + m ≤ cap
    · have hfit : n * i.size + news.length ≤ cur.size := by rw [hsize]; omega
      have hst := run_storeCells_at P g (n * i.size) e news 0 cur w hg (by simpa using hfit) hs.one
      simp only [Nat.add_zero] at hst
      have hr : (Builtin.append_ #[t, tx] ty #[.slice (some ⟨g, 0, none⟩) n cap, x]).run P w =
          .ok (.slice (some ⟨g, 0, none⟩) (n + m) cap) (w.setRow g (cur.toList.take (n * i.size) ++ news ++ cur.toList.drop (n * i.size + news.length)).toArray) := by
        rcases hs.kind with ⟨e', hk⟩ | hk <;> simp [Builtin.append_, run_underlying ht, run_underlying hk, sizeOf, typeInfo, hi, hs'.len, hroom, hs'.cells, Addr.add_lit, hst]
      refine ⟨_, _, hr, ⟨hlen, .inr ⟨g, cap, _, rfl, hbg, setRow_heap w g cur _ e _ hg, hroom, hcm, ?_, ?_⟩⟩, ⟨rfl, rfl, rfl, by simp, fun k _ hk => setRow_other w g k _ (fun e => hk (by simp [Value.ownBlock, e]))⟩⟩
      · simp only [List.size_toArray, List.length_append, List.length_take, List.length_drop, Array.length_toList]
        omega
      · rw [hsize, htake, ← hlen]
        exact List.take_left
    · have holds : ∀ j u, xs[j]? = some u → w.cell? ((⟨g, 0, none⟩ : Addr).add j) = some u := hown.cells (g := g) rfl
      have hf := run_firstCells_some (P := P) w.drew i.size n ⟨g, 0, none⟩ n cap xs (by rw [hsize]; exact hown.1) (by simpa using holds)
      have hr := run_append_grow_src (P := P) w t tx ty e i z ht hi hz (some ⟨g, 0, none⟩) n cap xs hf x m news hs' (by omega) (by omega) (growslice_fits (by omega) hbytes)
      have hgr := grown cap (by omega) (Value.ownBlock (.slice (some ⟨g, 0, none⟩) n cap))
      exact ⟨_, _, hr, hgr.1, hgr.2⟩

/-- The general law: whatever yields bytes. -/
theorem run_append_buf (w : World) (B : Nat) (tx ty : TypeId) (v x : Value) (l news : List UInt8) (hown : Buf B w v l) (hm : 0 < news.length) (hs : Src Tryz.prog 1 tx x news.length (cellsOfBytes news) w)
    (hlen : l.length + news.length ≤ 100000000) (hB : B ≤ w.heap.size) :
    ∃ v' w', (Builtin.append_ #[64, tx] ty #[v, x]).run Tryz.prog w = .ok v' w' ∧ Buf B w' v' (l ++ news) ∧ Below B w w' := by
  obtain ⟨i0, hi, hz0, hz1, hz2⟩ := info_parts Tryz.info5
  obtain ⟨v', w', hr, h2, h3⟩ := run_append_own_src w B 64 tx ty 5 i0 (.int .u8 0) 1 Tryz.underlying64 hi hz0 hz1 hz2 rfl v l.length (cellsOfBytes l) hown x news.length (cellsOfBytes news) hm hs
    (by simp only [maxLen]; omega) (by omega) hB
  refine ⟨v', w', hr, ?_, (Below.refl B w).grown h3 hB hown.block⟩
  unfold Buf
  rw [List.length_append, cellsOfBytes_append]
  exact h2

theorem wpList_append_buf {w : World} {ops : Array Oper} {rest : List Oper} {o : Oper} {a : Act} {Q : Exit → Act → World → Prop} (hgd : o.guard = none) (s x : Operand) (tx : TypeId)
    (ho : o.op = .call { callee := .builtin .append, args := #[s, x], argTypes := #[64, tx] })
    (B : Nat) (v xv : Value) (l news : List UInt8) (hs : a.eval s = v) (hx : a.eval x = xv) (hown : Buf B w v l) (hm : 0 < news.length) (hsrc : Src Tryz.prog 1 tx xv news.length (cellsOfBytes news) w)
    (hlen : l.length + news.length ≤ 100000000) (hB : B ≤ w.heap.size)
    (h : ∀ v' w', Buf B w' v' (l ++ news) → Below B w w' → wpList Tryz.prog ops Q rest (a.put o.dst v') w') : wpList Tryz.prog ops Q (o :: rest) a w := by
  obtain ⟨v', w', hr, h2, h3⟩ := run_append_buf w B tx o.type v xv l news hown hm hsrc hlen hB
  refine wpList_plain hgd fun K hK => ?_
  unfold Oper.wp execOp
  simp only [ho, resolve, invoke, builtin, Sem.run_bind, Sem.run_pure, Result.andThen_ok, List.map_toArray, List.map_cons, List.map_nil, hs, hx, hr]
  exact hK _ _ (h v' w' h2 h3)

/-- What is appended: some bytes that lie in a block of their own. -/
theorem src_cells (w : World) (ad : Addr) (c : Nat) (news : List UInt8) (h : ∀ j u, (cellsOfBytes news)[j]? = some u → w.cell? (ad.add j) = some u) :
    Src Tryz.prog 1 64 (.slice (some ad) news.length c) news.length (cellsOfBytes news) w :=
  Src.ofSlice w Tryz.underlying64 ad news.length c (cellsOfBytes news) (by rw [cellsOfBytes_length]; omega) h (cellsOfBytes_one news)

/-- What is appended: a string's bytes. -/
theorem src_string (w : World) (s : ByteArray) : Src Tryz.prog 1 9 (.string s) (bl s).length (cellsOfBytes (bl s)) w := by
  rw [bl_length]
  exact Src.ofString w Tryz.underlying9 s

/-- The string of the bytes. -/
theorem run_string_buf (w : World) (B : Nat) (v : Value) (l : List UInt8) (h : Buf B w v l) : (convert 64 9 v).run Tryz.prog w = .ok (.string ⟨l.toArray⟩) w := by
  rcases h.form with ⟨rfl, rfl⟩ | ⟨g, cap, rfl⟩
  · rw [run_convert_bytes_string w 64 9 5 none 0 0 Tryz.underlying64 Tryz.underlying5 Tryz.underlying9]
    rfl
  · refine run_convert_bytes_back w 64 9 5 ⟨g, 0, none⟩ cap l Tryz.underlying64 Tryz.underlying5 Tryz.underlying9 (fun j hj => ?_)
    have hc := World.ownsRow.cellAt h j (by omega)
    rw [show (⟨g, 0, none⟩ : Addr).add j = ⟨g, j, none⟩ by simp [Addr.add]; omega, hc]
    simp [cellsOfBytes, hj]

end Go.Proofs.YtheichphnppagaaGreat
namespace Go.Proofs.YtheichphnppagaaGreat
open Go.RowKit

theorem bl_extract (t : ByteArray) (a b : Nat) : bl (t.extract a b) = ((bl t).drop a).take (b - a) := by
  unfold bl
  rw [ByteArray.data_extract, Array.toList_extract]

theorem src_one (w : World) (c : Int) (b : UInt8) (h : c = (b.toNat : Int)) :
    Src Tryz.prog 1 64 (.slice (some ⟨w.heap.size, 0, none⟩) 1 1) [b].length (cellsOfBytes [b]) (w.alloc (.cells #[.int .u8 c] 5)) := by
  subst h
  refine src_cells _ ⟨w.heap.size, 0, none⟩ 1 [b] (fun j u hj => ?_)
  match j, hj with
  | 0, hj => simp [cellsOfBytes] at hj; subst hj; simp [Addr.add]

theorem tell_step (t : ByteArray) (x T : List UInt8) (n : Nat) (h0 : t.size ≠ 0) (hn : n = min t.size 128) (H : x ++ plainT (bl t) = T) :
    (x ++ [UInt8.ofNat (n - 1)] ++ bl (t.extract 0 n)) ++ plainT (bl (t.extract n t.size)) = T := by
  have e : (bl t).length ≠ 0 := by rw [bl_length]; exact h0
  rw [← H, plainT_step (bl t) e, bl_length, ← hn, bl_extract, bl_extract, Nat.sub_zero, List.drop_zero]
  have h1 : ((bl t).drop n).take (t.size - n) = (bl t).drop 128 := by
    rw [List.take_of_length_le (by simp [bl_length])]
    rcases Nat.le_total t.size 128 with c | c
    · rw [List.drop_of_length_le (by rw [bl_length]; omega), List.drop_of_length_le (by rw [bl_length]; omega)]
    · rw [show n = 128 by omega]
  have h2 : (bl t).take n = (bl t).take 128 := by
    rcases Nat.le_total t.size 128 with c | c
    · rw [List.take_of_length_le (by rw [bl_length]; omega), List.take_of_length_le (by rw [bl_length]; omega)]
    · rw [show n = 128 by omega]
  rw [h1, h2]
  simp

theorem tell_last (t : ByteArray) (x T : List UInt8) (h0 : t.size ≠ 0) (hn : t.size ≤ 128) (H : x ++ plainT (bl t) = T) :
    (x ++ [UInt8.ofNat (t.size - 1)] ++ bl t) ++ plainT (bl ByteArray.empty) = T := by
  have h := tell_step t x T t.size h0 (by omega) H
  rw [bl_extract, bl_extract, Nat.sub_zero, List.drop_zero, List.take_of_length_le (by rw [bl_length]; exact Nat.le_refl _), Nat.sub_self, List.take_zero] at h
  exact h

set_option maxRecDepth 100000 in
set_option maxHeartbeats 1600000 in
theorem tell_any (s : ByteArray) (v : Value) (l : List UInt8) (B : Nat) (w : World) (hb : Buf B w v l) (hB : B ≤ w.heap.size) (hs : s.size ≤ 2000) (hl : l.length ≤ 100000) :
    Calls Tryz.prog 185 #[v, .string s] w fun e w' => ∃ v', e = .returned v' ∧ Buf B w' v' (l ++ plainT (bl s)) ∧ Below B w w' := by
  go_enter Tryz.func185, Tryz.ntmps185
  go_wp2
  go_loopw [0, 1] (fun v0 v1 wr => ∃ (x : List UInt8) (t : ByteArray), v1 = .string t ∧ t.size ≤ 2000 ∧ x.length + 2 * t.size ≤ 104000 ∧ Buf B wr v0 x ∧ Hid (x ++ plainT (bl t) = l ++ plainT (bl s)) ∧ Below B w wr) (fun _ v1 _ => match v1 with | .string t => t.size | _ => 0)
  case atStart => exact ⟨l, s, rfl, hs, by omega, hb, rfl, Below.refl _ _⟩
  case round =>
    obtain ⟨x, t, rfl, ht, hx, hb', H, hbw⟩ := hrel
    have hsz := hbw.size
    by_cases h0 : (0 : Int) < (t.size : Int)
    · by_cases h1 : (t.size : Int) ≤ 128
      · have S1 := src_one wr ((t.size : Int) - 1) (UInt8.ofNat (t.size - 1)) (by rw [u8_ofNat_toNat (by omega)]; omega)
        go_wp2_with (first
          | (at_builtin; refine wpList_append_buf rfl (.tmp 12) (.tmp 16) 64 rfl B _ _ x [UInt8.ofNat (t.size - 1)] rfl rfl (hb'.alloc _) (by simp) S1 (by simp; omega) (by simp; omega) ?_; intro v1 w1 hb1 hbw1; have hz1 := hbw1.size; simp only [World.size_alloc] at hz1)
          | (at_builtin; refine wpList_append_buf rfl (.tmp 18) (.tmp 21) 9 rfl B _ _ (x ++ [UInt8.ofNat (t.size - 1)]) (bl t) rfl rfl hb1 (by rw [bl_length]; omega) (src_string _ _) (by rw [bl_length]; simp; omega) (by omega) ?_; intro v2 w2 hb2 hbw2))
        exact ⟨⟨_, _, rfl, by simp, by simp [bl_length]; omega, hb2, tell_last t x _ (by omega) (by omega) H.out, ((hbw.alloc (by omega) _).trans hbw1).trans hbw2⟩, by simp; omega⟩
      · have h2 : (128 : Int) ≤ (t.size : Int) := by omega
        have S1 := src_one wr 127 (UInt8.ofNat (128 - 1)) (by decide)
        go_wp2_with (first
          | (at_builtin; refine wpList_append_buf rfl (.tmp 12) (.tmp 16) 64 rfl B _ _ x [UInt8.ofNat (128 - 1)] rfl rfl (hb'.alloc _) (by simp) S1 (by simp; omega) (by simp; omega) ?_; intro v1 w1 hb1 hbw1; have hz1 := hbw1.size; simp only [World.size_alloc] at hz1)
          | (at_builtin; refine wpList_append_buf rfl (.tmp 18) (.tmp 21) 9 rfl B _ _ (x ++ [UInt8.ofNat (128 - 1)]) (bl (t.extract 0 128)) rfl rfl hb1 (by rw [bl_length]; simp; omega) (src_string _ _) (by rw [bl_length]; simp; omega) (by omega) ?_; intro v2 w2 hb2 hbw2))
        exact ⟨⟨_, _, rfl, by simp; omega, by simp [bl_length]; omega, hb2, tell_step t x _ 128 (by omega) (by omega) H.out, ((hbw.alloc (by omega) _).trans hbw1).trans hbw2⟩, by simp; omega⟩
    · go_wp2_with fail
      go_ret
      exact ⟨_, rfl, by rw [← H.out, List.eq_nil_of_length_eq_zero (show (bl t).length = 0 by rw [bl_length]; omega), plainT_nil, List.append_nil]; exact hb', hbw⟩

end Go.Proofs.YtheichphnppagaaGreat
