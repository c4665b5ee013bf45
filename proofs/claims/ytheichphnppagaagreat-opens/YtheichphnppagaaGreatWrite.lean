/- Opens: Blocks, Write. -/
import Derived.Test.YtheichphnppagaaGreatPush
import Derived.Deep.WholeRow
import Derived.Deep.MidRow
import Derived.Test.YtheichphnppagaaGreatSum
import Derived.Test.YtheichphnppagaaGreatRefPack
import Derived.Lib.SmallJoins
namespace Go.Proofs.YtheichphnppagaaGreat
open Go.RowKit

/-- The world has turned in block b, and in new ones, alone. -/
structure Touch (b : Nat) (w w' : World) : Prop where
  os : w'.os = w.os
  tape : w'.tape = w.tape
  output : w'.output = w.output
  size : w.heap.size ≤ w'.heap.size
  block : ∀ k, k < w.heap.size → k ≠ b → w'.heap[k]? = w.heap[k]?
theorem Touch.refl (b : Nat) (w : World) : Touch b w w := ⟨rfl, rfl, rfl, Nat.le_refl _, fun _ _ _ => rfl⟩
theorem Touch.trans {b : Nat} {x y z : World} (h : Touch b x y) (k : Touch b y z) : Touch b x z :=
  ⟨k.os.trans h.os, k.tape.trans h.tape, k.output.trans h.output, Nat.le_trans h.size k.size, fun i hi hn => (k.block i (Nat.lt_of_lt_of_le hi h.size) hn).trans (h.block i hi hn)⟩
theorem Touch.setCell {b : Nat} {x w : World} (h : Touch b x w) (o : Nat) (v : Value) : Touch b x (w.setCell ⟨b, o, none⟩ v) :=
  h.trans ⟨rfl, rfl, rfl, by simp [World.setCell], fun k _ hn => Below.heap_setCell _ _ _ _ hn⟩
theorem Touch.setCells {b : Nat} {x : World} : ∀ (vs : List Value) (o : Nat) (w : World), Touch b x w → Touch b x (w.setCells b o vs)
  | [], _, _, h => h
  | v :: r, o, _, h => Touch.setCells r (o + 1) _ (h.setCell o v)
theorem Touch.drew {b : Nat} {x w : World} (h : Touch b x w) : Touch b x w.drew := ⟨h.os, h.tape, h.output, h.size, h.block⟩
theorem Touch.drewN {b : Nat} {x w : World} (h : Touch b x w) (n : Nat) : Touch b x (w.drewN n) := ⟨h.os, h.tape, h.output, h.size, h.block⟩
theorem Touch.below {b : Nat} {x w w' : World} (h : Touch b x w) (k : Below w.heap.size w w') : Touch b x w' := h.trans ⟨k.os, k.tape, k.output, k.size, fun i hi _ => k.block i hi⟩
theorem Touch.alloc {b : Nat} {x w : World} (h : Touch b x w) (o : Obj) : Touch b x (w.alloc o) := h.below ((Below.refl _ _).alloc (Nat.le_refl _) o)
theorem Touch.toBelow {b B : Nat} {w w' : World} (h : Touch b w w') (hb : B ≤ b) (hB : B ≤ w.heap.size) : Below B w w' := ⟨h.os, h.tape, h.output, h.size, fun k hk => h.block k (by omega) (by omega)⟩
theorem Touch.grown {b : Nat} {w w' : World} (h : Touch b w w') : w.grownBy w' (some b) := ⟨h.os, h.tape, h.output, h.size, fun k hk hn => h.block k hk (fun e => hn (by rw [e]))⟩

/-- The block b holds these cells. -/
def Row (w : World) (b : Nat) (t : TypeId) (l : List Value) : Prop := w.heap[b]? = some (.cells l.toArray t)
theorem Row.lt {w : World} {b : Nat} {t : TypeId} {l : List Value} (h : Row w b t l) : b < w.heap.size := (Array.getElem?_eq_some_iff.1 h).1
theorem Row.cell {w : World} {b : Nat} {t : TypeId} {l : List Value} (h : Row w b t l) (j : Nat) : w.cell? ⟨b, j, none⟩ = l[j]? := by
  rw [cell_of_row w b j l.toArray t (0, 0) h]
  simp
theorem Row.free {w : World} {b : Nat} {t : TypeId} {l : List Value} (h : Row w b t l) (j : Nat) : w.frozen? ⟨b, j, none⟩ = false := by
  unfold Row at h
  simp [World.frozen?, h]
theorem Row.setCell {w : World} {b : Nat} {t : TypeId} {l : List Value} (h : Row w b t l) (j : Nat) (v : Value) : Row (w.setCell ⟨b, j, none⟩ v) b t (l.set j v) := by
  unfold Row at *
  simp only [World.setCell, Array.getElem?_modify, if_true, h]
  simp
theorem Row.setCells {b : Nat} {t : TypeId} : ∀ (vs pre post : List Value) (w : World), Row w b t (pre ++ post) → post.length = vs.length → Row (w.setCells b pre.length vs) b t (pre ++ vs)
  | [], pre, post, w, h, e => by
    obtain rfl : post = [] := List.eq_nil_of_length_eq_zero e
    exact h
  | v :: r, pre, p :: post, w, h, e => by
    have h1 := h.setCell pre.length v
    rw [List.set_append_right _ _ (Nat.le_refl _), Nat.sub_self, List.set_cons_zero, show pre ++ v :: post = (pre ++ [v]) ++ post by simp] at h1
    have h2 := Row.setCells r (pre ++ [v]) post _ h1 (by simpa using e)
    rw [show (pre ++ [v]).length = pre.length + 1 by simp, show (pre ++ [v]) ++ r = pre ++ v :: r by simp] at h2
    exact h2
  | v :: r, pre, [], w, h, e => by simp at e
theorem Row.touch {w w' : World} {b c : Nat} {t : TypeId} {l : List Value} (h : Row w b t l) (k : Touch c w w') (hn : b ≠ c) : Row w' b t l := (k.block b h.lt hn).trans h
theorem Row.below {w w' : World} {b B : Nat} {t : TypeId} {l : List Value} (h : Row w b t l) (k : Below B w w') (hn : b < B) : Row w' b t l := (k.block b hn).trans h
theorem Row.new (w : World) (t : TypeId) (l : List Value) : Row (w.alloc (.cells l.toArray t)) w.heap.size t l := heap_alloc_last w _

end Go.Proofs.YtheichphnppagaaGreat
namespace Go.Proofs.YtheichphnppagaaGreat
open Go.RowKit

/-- A number, told by bytes. -/
def varG : Nat → Nat → List UInt8
  | 0, n => [UInt8.ofNat n]
  | f + 1, n => if n < 128 then [UInt8.ofNat n] else UInt8.ofNat (128 + n % 128) :: varG f (n / 128)
def varL (n : Nat) : List UInt8 := varG n n
theorem varG_small {f n : Nat} (h : n < 128) : varG f n = [UInt8.ofNat n] := by cases f <;> simp [varG, h]
theorem varG_fuel : ∀ (f g n : Nat), n ≤ f → n ≤ g → varG f n = varG g n
  | 0, g, n, hf, _ => by rw [varG_small (by omega), varG_small (by omega)]
  | f + 1, 0, n, _, hg => by rw [varG_small (by omega), varG_small (by omega)]
  | f + 1, g + 1, n, hf, hg => by
    simp only [varG]
    split
    · rfl
    · rw [varG_fuel f g (n / 128) (by omega) (by omega)]
theorem varL_step {n : Nat} (h : ¬ n < 128) : varL n = UInt8.ofNat (128 + n % 128) :: varL (n / 128) := by
  unfold varL
  obtain ⟨f, rfl⟩ : ∃ f, n = f + 1 := ⟨n - 1, by omega⟩
  rw [varG, if_neg h, varG_fuel f ((f + 1) / 128) _ (by omega) (by omega)]
theorem varL_small {n : Nat} (h : n < 128) : varL n = [UInt8.ofNat n] := varG_small h
theorem varG_length : ∀ (k f n : Nat), n < 128 ^ (k + 1) → (varG f n).length ≤ k + 1
  | _, 0, n, _ => by simp [varG]
  | 0, f + 1, n, h => by rw [varG_small (by simpa using h)]; simp
  | k + 1, f + 1, n, h => by
    simp only [varG]
    split
    · simp
    · have := varG_length k f (n / 128) (by rw [Nat.pow_succ] at h; omega)
      simp only [List.length_cons]
      omega
theorem varL_length {n : Nat} (h : n < 2097152) : (varL n).length ≤ 3 := varG_length 2 n n (by simpa using h)

/-- A slice of bytes without spare room, wherever it lies. -/
def Full (w : World) (v : Value) (l : List UInt8) : Prop := ∃ g, v = .slice (some ⟨g, 0, none⟩) l.length l.length ∧ ∀ j u, (cellsOfBytes l)[j]? = some u → w.cell? ⟨g, j, none⟩ = some u
def Bufx (B : Nat) (w : World) (v : Value) (l : List UInt8) : Prop := Buf B w v l ∨ Full w v l
theorem Full.alloc {w : World} {v : Value} {l : List UInt8} (h : Full w v l) (o : Obj) : Full (w.alloc o) v l := by
  obtain ⟨g, e, hc⟩ := h
  refine ⟨g, e, fun j u hj => ?_⟩
  have h1 := hc j u hj
  have hlt : g < w.heap.size := by
    by_cases c : g < w.heap.size
    · exact c
    · have : w.heap[g]? = none := by simp; omega
      simp [World.cell?, this] at h1
  rw [← h1]
  exact World.cell?_of_block (w := w) (Below.heap_alloc w o g hlt)
theorem Bufx.alloc {B : Nat} {w : World} {v : Value} {l : List UInt8} (h : Bufx B w v l) (o : Obj) : Bufx B (w.alloc o) v l := h.imp (fun h => h.alloc o) (fun h => h.alloc o)

theorem run_append_full (w : World) (B : Nat) (tx ty : TypeId) (v x : Value) (l news : List UInt8) (hf : Full w v l) (hm : 0 < news.length) (hs : Src Tryz.prog 1 tx x news.length (cellsOfBytes news) w)
    (hlen : l.length + news.length ≤ 100000000) (hB : B ≤ w.heap.size) :
    ∃ v' w', (Builtin.append_ #[64, tx] ty #[v, x]).run Tryz.prog w = .ok v' w' ∧ Buf B w' v' (l ++ news) ∧ Below B w w' := by
  obtain ⟨i, hi, hz, hsize, hby⟩ := info_parts Tryz.info5
  obtain ⟨g, rfl, hc⟩ := hf
  have hs' : Src Tryz.prog i.size tx x news.length (cellsOfBytes news) w := by rw [hsize]; exact hs
  have h63 : l.length + news.length ≤ maxLen := by simp only [maxLen]; omega
  have hlen2 : (cellsOfBytes l ++ cellsOfBytes news).length = (l.length + news.length) * 1 := by simp [cellsOfBytes_length]
  have hfc := run_firstCells_some (P := Tryz.prog) w.drew i.size l.length ⟨g, 0, none⟩ l.length l.length (cellsOfBytes l) (by rw [hsize, cellsOfBytes_length]; omega) (fun j u hj => by
    rw [show (⟨g, 0, none⟩ : Addr).add j = ⟨g, j, none⟩ by simp [Addr.add]; omega]
    exact hc j u hj)
  have hr := run_append_grow_src (P := Tryz.prog) w 64 tx ty 5 i (.int .u8 0) Tryz.underlying64 hi hz (some ⟨g, 0, none⟩) l.length l.length (cellsOfBytes l) hfc x news.length (cellsOfBytes news) hs' (by omega) (by omega) (growslice_fits (by omega) (by rw [hby]; omega))
  have hge := grownCap_ge w (l.length + news.length) l.length 5
  have hcm := grownCap_le_maxLen w (l.length + news.length) l.length 5 h63
  refine ⟨_, _, hr, ?_, ((Below.refl B w).drew).alloc (by simpa using hB) _⟩
  unfold Buf
  rw [List.length_append, cellsOfBytes_append]
  refine ⟨hlen2, .inr ⟨w.heap.size, _, _, rfl, hB, heap_alloc_new w.drew _, hge, hcm, ?_, ?_⟩⟩
  · simp only [Array.size_append, List.size_toArray, size_zeroCells, hlen2]
    rw [show (Value.int IntKind.u8 0).cells.size = 1 from rfl]
    omega
  · simp only [Array.toList_append]
    rw [← hlen2]
    exact List.take_left

theorem wpList_append_bufx {w : World} {ops : Array Oper} {rest : List Oper} {o : Oper} {a : Act} {Q : Exit → Act → World → Prop} (hgd : o.guard = none) (s x : Operand) (tx : TypeId)
    (ho : o.op = .call { callee := .builtin .append, args := #[s, x], argTypes := #[64, tx] })
    (B : Nat) (v xv : Value) (l news : List UInt8) (hs : a.eval s = v) (hx : a.eval x = xv) (hown : Bufx B w v l) (hm : 0 < news.length) (hsrc : Src Tryz.prog 1 tx xv news.length (cellsOfBytes news) w)
    (hlen : l.length + news.length ≤ 100000000) (hB : B ≤ w.heap.size)
    (h : ∀ v' w', Buf B w' v' (l ++ news) → Below B w w' → wpList Tryz.prog ops Q rest (a.put o.dst v') w') : wpList Tryz.prog ops Q (o :: rest) a w := by
  rcases hown with hown | hown
  · exact wpList_append_buf hgd s x tx ho B v xv l news hs hx hown hm hsrc hlen hB h
  · obtain ⟨v', w', hr, h2, h3⟩ := run_append_full w B tx o.type v xv l news hown hm hsrc hlen hB
    refine wpList_plain hgd fun K hK => ?_
    unfold Oper.wp execOp
    simp only [ho, resolve, invoke, builtin, Sem.run_bind, Sem.run_pure, Result.andThen_ok, List.map_toArray, List.map_cons, List.map_nil, hs, hx, hr]
    exact hK _ _ (h v' w' h2 h3)

set_option maxRecDepth 100000 in
set_option maxHeartbeats 1600000 in
theorem appendVarint_any (v : Value) (l : List UInt8) (N : Int) (n B : Nat) (w : World) (hN : N = n) (hb : Bufx B w v l) (hB : B ≤ w.heap.size) (hn : n < 2097152) (hl : l.length ≤ 1000000) :
    Calls Tryz.prog 94 #[v, .int .i64 N] w fun e w' => ∃ v', e = .returned v' ∧ Buf B w' v' (l ++ varL n) ∧ Below B w w' := by
  subst hN
  go_enter Tryz.func94, Tryz.ntmps94
  go_wp2
  go_loopw [0, 1] (fun v0 v1 wr => ∃ (x : List UInt8) (m : Nat), v1 = .int .i64 m ∧ m ≤ n ∧ x.length + m ≤ 1000000 + n ∧ Bufx B wr v0 x ∧ Hid (x ++ varL m = l ++ varL n) ∧ Below B w wr) (fun _ v1 _ => (intOf v1).toNat)
  case atStart => exact ⟨l, n, rfl, by omega, by omega, hb, rfl, Below.refl _ _⟩
  case round =>
    obtain ⟨x, m, rfl, hm, hx, hb', H, hbw⟩ := hrel
    have hsz := hbw.size
    by_cases h : (128 : Int) ≤ (m : Int)
    · have S := src_one wr ((m : Int) % 128 + 128) (UInt8.ofNat (128 + m % 128)) (by rw [u8_ofNat_toNat (by omega)]; omega)
      have hd : Hid ((x ++ [UInt8.ofNat (128 + m % 128)]) ++ varL (m / 128) = l ++ varL n) := by
        show _ = _
        rw [← H.out, varL_step (by omega : ¬ m < 128)]
        simp
      go_wp2_with (at_builtin; refine wpList_append_bufx rfl (.tmp 7) (.tmp 12) 64 rfl B _ _ x [UInt8.ofNat (128 + m % 128)] rfl rfl (hb'.alloc _) (by simp) S (by simp; omega) (by simp; omega) ?_; intro v2 w2 hb2 hbw2)
      exact ⟨⟨_, m / 128, by go_num, by omega, by simp; omega, .inl hb2, hd, (hbw.alloc (by omega) _).trans hbw2⟩, by simp [intOf]; omega⟩
    · have S := src_one wr (m : Int) (UInt8.ofNat m) (by rw [u8_ofNat_toNat (by omega)])
      have hd : Hid (x ++ [UInt8.ofNat m] = l ++ varL n) := by
        show _ = _
        rw [← H.out, varL_small (by omega : m < 128)]
      go_wp2_with (at_builtin; refine wpList_append_bufx rfl (.tmp 16) (.tmp 19) 64 rfl B _ _ x [UInt8.ofNat m] rfl rfl (hb'.alloc _) (by simp) S (by simp; omega) (by simp; omega) ?_; intro v2 w2 hb2 hbw2)
      go_ret
      exact ⟨_, rfl, by rw [← hd.out]; exact hb2, (hbw.alloc (by omega) _).trans hbw2⟩

theorem src_sum (w : World) (g : Nat) (l : List UInt8) (h : Row w g 161 (cellsOfBytes (sumL l))) :
    Src Tryz.prog 1 64 (.slice (some ⟨g, 0, none⟩) 4 4) (sumL l).length (cellsOfBytes (sumL l)) w :=
  src_cells _ ⟨g, 0, none⟩ 4 (sumL l) (fun j u hj => by
    rw [show (⟨g, 0, none⟩ : Addr).add j = ⟨g, j, none⟩ by simp [Addr.add]; omega, h.cell j, hj])

theorem Buf.below {B : Nat} {w w' : World} {v : Value} {l : List UInt8} (h : Buf B w v l) (k : Below w.heap.size w w') : Buf B w' v l :=
  World.ownsRow.kept (row := none) h ⟨k.os, k.tape, k.output, k.size, fun i hi _ => k.block i hi⟩ (by cases v.ownBlock <;> simp)

theorem Row.grown {w w' : World} {b : Nat} {t : TypeId} {l : List Value} {row : Option Nat} (h : Row w b t l) (k : w.grownBy w' row) (hn : some b ≠ row) : Row w' b t l := (k.block b h.lt hn).trans h
theorem Buf.lt {B : Nat} {w : World} {v : Value} {l : List UInt8} (h : Buf B w v l) : ∀ k, v.ownBlock = some k → k < w.heap.size := fun k hk => (World.ownsRow.lt h k hk).2

/-- As the law for bytes, with what has turned told apart. -/
theorem wpList_append_bufg {w : World} {ops : Array Oper} {rest : List Oper} {o : Oper} {a : Act} {Q : Exit → Act → World → Prop} (hgd : o.guard = none) (s x : Operand) (tx : TypeId)
    (ho : o.op = .call { callee := .builtin .append, args := #[s, x], argTypes := #[64, tx] })
    (B : Nat) (v xv : Value) (l news : List UInt8) (hs : a.eval s = v) (hx : a.eval x = xv) (hown : Buf B w v l) (hm : 0 < news.length) (hsrc : Src Tryz.prog 1 tx xv news.length (cellsOfBytes news) w)
    (hlen : l.length + news.length ≤ 100000000) (hB : B ≤ w.heap.size)
    (h : ∀ v' w', Buf B w' v' (l ++ news) → Below B w w' → w.grownBy w' v.ownBlock → wpList Tryz.prog ops Q rest (a.put o.dst v') w') : wpList Tryz.prog ops Q (o :: rest) a w := by
  obtain ⟨i0, hi, hz0, hz1, hz2⟩ := info_parts Tryz.info5
  obtain ⟨v', w', hr, h2, h3⟩ := run_append_own_src w B 64 tx o.type 5 i0 (.int .u8 0) 1 Tryz.underlying64 hi hz0 hz1 hz2 rfl v l.length (cellsOfBytes l) hown xv news.length (cellsOfBytes news) hm hsrc
    (by simp only [maxLen]; omega) (by omega) hB
  have h2' : Buf B w' v' (l ++ news) := by
    unfold Buf
    rw [List.length_append, cellsOfBytes_append]
    exact h2
  refine wpList_plain hgd fun K hK => ?_
  unfold Oper.wp execOp
  simp only [ho, resolve, invoke, builtin, Sem.run_bind, Sem.run_pure, Result.andThen_ok, List.map_toArray, List.map_cons, List.map_nil, hs, hx, hr]
  exact hK _ _ (h v' w' h2' ((Below.refl B w).grown h3 hB hown.block) h3)

set_option maxRecDepth 100000 in
set_option maxHeartbeats 1600000 in
theorem appendSummed_any (v : Value) (l : List UInt8) (s : ByteArray) (B : Nat) (w : World) (hb : Buf B w v l) (hB : B ≤ w.heap.size) (hs : 0 < s.size) (hs2 : s.size ≤ 1000000) (hl : l.length ≤ 1000000) :
    Calls Tryz.prog 93 #[v, .string s] w fun e w' => ∃ v', e = .returned v' ∧ Buf B w' v' (l ++ bl s ++ sumL (bl s)) ∧ Below B w w' := by
  go_enter Tryz.func93, Tryz.ntmps93
  go_wp2_with fail
  refine (sumOf_any s _ (by omega)).mono ?_
  rintro e w1 ⟨rfl, hB1⟩
  have hb1 := hb.below hB1
  have hz1 := hB1.size
  have hsl := sumL_length (bl s)
  obtain ⟨a, b, c, d, hsum⟩ := sum_cell (bl s)
  have SUM : Hid (sumL (bl s) = [a, b, c, d]) := hsum
  unfold sumV
  rw [hsum]
  clear hsum
  simp only [cellsOfBytes, List.map_cons, List.map_nil]
  have hR : Row (w1.alloc (.cells #[.int .u8 a.toNat, .int .u8 b.toNat, .int .u8 c.toNat, .int .u8 d.toNat] 161)) w1.heap.size 161 (cellsOfBytes (sumL (bl s))) := by
    rw [SUM.out]
    exact Row.new w1 161 [.int .u8 a.toNat, .int .u8 b.toNat, .int .u8 c.toNat, .int .u8 d.toNat]
  have hb1' := hb1.alloc (.cells #[.int .u8 a.toNat, .int .u8 b.toNat, .int .u8 c.toNat, .int .u8 d.toNat] 161)
  have hBB : Below B w (w1.alloc (.cells #[.int .u8 a.toNat, .int .u8 b.toNat, .int .u8 c.toNat, .int .u8 d.toNat] 161)) := (hB1.mono hB).alloc (by omega) _
  go_wp2_with (first
    | (at_builtin; refine wpList_append_bufg rfl (.tmp 8) (.tmp 9) 9 rfl B _ _ l (bl s) rfl rfl hb1' (by rw [bl_length]; omega) (src_string _ _) (by rw [bl_length]; omega) (by simp; omega) ?_; intro v2 w2 hb2 hbw2 hg2)
    | (at_builtin; refine wpList_append_bufg rfl (.tmp 11) (.tmp 12) 64 rfl B _ _ (l ++ bl s) (sumL (bl s)) rfl rfl hb2 (by omega) (src_sum _ _ _ (hR.grown hg2 (fun e => by have := hb1.lt _ e.symm; omega))) (by simp [bl_length]; omega) (by have := hbw2.size; simp at this; omega) ?_; intro v3 w3 hb3 hbw3 hg3))
  go_ret
  exact ⟨_, rfl, hb3, (hBB.trans hbw2).trans hbw3⟩

theorem Buf.low {B C : Nat} {w : World} {v : Value} {l : List UInt8} (h : Buf B w v l) (hC : C ≤ B) : Buf C w v l := by
  refine ⟨h.1, ?_⟩
  rcases h.2 with hn | ⟨g, cap, cur, e, hb, r⟩
  · exact .inl hn
  · exact .inr ⟨g, cap, cur, e, Nat.le_trans hC hb, r⟩

set_option maxRecDepth 100000 in
set_option maxHeartbeats 1600000 in
theorem append_frame (v : Value) (l : List UInt8) (s : ByteArray) (B : Nat) (w : World) (hb : Buf B w v l) (hB : B ≤ w.heap.size) (hs : 0 < s.size) (hs2 : s.size < 65536) (hl : l.length ≤ 900000) :
    Calls Tryz.prog 60 #[v, .string s] w fun e w' => ∃ v', e = .returned v' ∧ Buf B w' v' (l ++ frameL (bl s)) ∧ Below B w w' := by
  have hc0 := conv_two_new w ((s.size : Int) % 256) ((s.size : Int) / 256) (UInt8.ofNat (s.size % 256)) (UInt8.ofNat (s.size / 256)) (by rw [u8_ofNat_toNat (by omega)]; omega) (by rw [u8_ofNat_toNat (by omega)]; omega)
  have L : Hid (lenL s.size = [UInt8.ofNat (s.size % 256), UInt8.ofNat (s.size / 256)]) := rfl
  generalize UInt8.ofNat (s.size % 256) = a at *
  generalize UInt8.ofNat (s.size / 256) = b at *
  go_enter Tryz.func60, Tryz.ntmps60
  go_wp2_with fail
  refine (appendSummed_any v l ⟨#[a, b]⟩ B _ (hb.alloc _) (by simp; omega) (by rw [show (ByteArray.mk #[a, b]).size = 2 from rfl]; omega) (by rw [show (ByteArray.mk #[a, b]).size = 2 from rfl]; omega) (by omega)).mono ?_
  rintro e w1 ⟨v1, rfl, hb1, hB1⟩
  have hz1 := hB1.size
  simp only [World.size_alloc] at hz1
  clear hc0
  go_wp2_with fail
  refine (appendSummed_any v1 _ s B _ hb1 (by omega) hs (by omega) (by simp [sumL_length, bl_length]; rw [show (ByteArray.mk #[a, b]).size = 2 from rfl]; omega)).mono ?_
  rintro e w2 ⟨v2, rfl, hb2, hB2⟩
  go_wp2
  go_ret
  refine ⟨_, rfl, ?_, (((Below.refl _ _).alloc hB _).trans hB1).trans hB2⟩
  have e : l ++ frameL (bl s) = l ++ bl ⟨#[a, b]⟩ ++ sumL (bl ⟨#[a, b]⟩) ++ bl s ++ sumL (bl s) := by
    unfold frameL
    rw [bl_length, L.out]
    simp [bl]
  rw [e]
  exact hb2

/-- A head's bytes. -/
def larderB : List UInt8 := [76, 65, 82, 68, 69, 82]
def headL (a b c d : Nat) : List UInt8 := larderB ++ varL a ++ varL b ++ varL c ++ varL d
def headTo (l : List Nat) (k : Nat) : List UInt8 := larderB ++ (l.take k).flatMap varL
theorem headTo_step {l : List Nat} {k n : Nat} (hk : k < l.length) (hn : l.getD k 0 = n) : headTo l (k + 1) = headTo l k ++ varL n := by
  unfold headTo
  rw [List.take_add_one, List.flatMap_append, ← hn, List.getElem?_eq_getElem hk]
  simp [List.getD_eq_getElem?_getD, hk]
theorem headTo_len (l : List Nat) (h : ∀ n ∈ l, n < 2097152) (k : Nat) : (headTo l k).length ≤ 6 + 3 * l.length := by
  unfold headTo
  simp only [List.length_append, List.length_flatMap]
  have : ((l.take k).map fun n => (varL n).length).sum ≤ 3 * l.length := by
    suffices hh : ∀ (l : List Nat), (∀ n ∈ l, n < 2097152) → (l.map fun n => (varL n).length).sum ≤ 3 * l.length by
      have := hh (l.take k) (fun n hn => h n (List.mem_of_mem_take hn))
      have h2 : (l.take k).length ≤ l.length := by simp; omega
      omega
    intro l hl
    induction l with
    | nil => simp
    | cons a r ih =>
      have h1 := varL_length (hl a (by simp))
      have h2 := ih (fun n hn => hl n (by simp [hn]))
      simp only [List.map_cons, List.sum_cons, List.length_cons]
      omega
  simp only [larderB, List.length_cons, List.length_nil]
  omega

theorem full_new (w : World) (g : Nat) (hg : g = w.heap.size) : Full (w.alloc (.cells #[.int .u8 76, .int .u8 65, .int .u8 82, .int .u8 68, .int .u8 69, .int .u8 82] 5 (6, 7))) (.slice (some ⟨g, 0, none⟩) 6 6) larderB := by
  subst hg
  refine ⟨_, rfl, fun j u hj => ?_⟩
  rw [Go.Joins.cell_alloc_mark_at w _ 5 (6, 7) _ j rfl]
  simpa [cellsOfBytes, larderB] using hj

theorem idx0 (a b c d : Nat) (w : World) : (Instr.index 146 (.agg #[.int .i64 a, .int .i64 b, .int .i64 c, .int .i64 d]) (.int .i64 0)).run Tryz.prog w = .ok (.int .i64 a) w := by kernel_rfl
theorem idx1 (a b c d : Nat) (w : World) : (Instr.index 146 (.agg #[.int .i64 a, .int .i64 b, .int .i64 c, .int .i64 d]) (.int .i64 1)).run Tryz.prog w = .ok (.int .i64 b) w := by kernel_rfl
theorem idx2 (a b c d : Nat) (w : World) : (Instr.index 146 (.agg #[.int .i64 a, .int .i64 b, .int .i64 c, .int .i64 d]) (.int .i64 2)).run Tryz.prog w = .ok (.int .i64 c) w := by kernel_rfl
theorem idx3 (a b c d : Nat) (w : World) : (Instr.index 146 (.agg #[.int .i64 a, .int .i64 b, .int .i64 c, .int .i64 d]) (.int .i64 3)).run Tryz.prog w = .ok (.int .i64 d) w := by kernel_rfl

set_option maxRecDepth 100000 in
set_option maxHeartbeats 1600000 in
theorem head_any (a b c d : Nat) (w : World) (h : a < 2097152 ∧ b < 2097152 ∧ c < 2097152 ∧ d < 2097152) :
    Calls Tryz.prog 61 #[.agg #[.int .i64 a, .int .i64 b, .int .i64 c, .int .i64 d]] w fun e w' => e = .returned (.string ⟨(headL a b c d).toArray⟩) ∧ Below w.heap.size w w' := by
  have hall : ∀ n ∈ [a, b, c, d], n < 2097152 := by simp; omega
  have hlen := headTo_len [a, b, c, d] hall
  have hcv := Go.Joins.run_convert_bytes_const_at (P := Tryz.prog) (w.alloc (.cells #[.int .i64 a, .int .i64 b, .int .i64 c, .int .i64 d] 26)) 64 5 #[.int .u8 76, .int .u8 65, .int .u8 82, .int .u8 68, .int .u8 69, .int .u8 82] 6 6 (w.heap.size + 1) (by simp) Tryz.underlying64 Tryz.underlying5
  have hfull := full_new (w.alloc (.cells #[.int .i64 a, .int .i64 b, .int .i64 c, .int .i64 d] 26)) (w.heap.size + 1) (by simp)
  have hlast : Hid (headTo [a, b, c, d] 4 = headL a b c d) := by show _ = _; simp [headTo, headL, List.flatMap_cons]
  have hB0 : Below w.heap.size w ((w.alloc (.cells #[.int .i64 a, .int .i64 b, .int .i64 c, .int .i64 d] 26)).alloc (.cells #[.int .u8 76, .int .u8 65, .int .u8 82, .int .u8 68, .int .u8 69, .int .u8 82] 5 (6, 7))) := ((Below.refl _ _).alloc (Nat.le_refl _) _).alloc (by simp) _
  have x0 := idx0 a b c d
  have x1 := idx1 a b c d
  have x2 := idx2 a b c d
  have x3 := idx3 a b c d
  go_enter Tryz.func61, Tryz.ntmps61
  go_wp2
  clear hcv
  go_loopw [3, 5, 17] (fun v3 v5 v17 wr => ∃ k : Nat, v17 = .int .i64 k ∧ k ≤ 4 ∧ Bufx w.heap.size wr v3 (headTo [a, b, c, d] k) ∧ Below w.heap.size w wr) (fun _ _ v17 _ => 4 - (intOf v17).toNat)
  case atStart => exact ⟨0, rfl, by omega, .inr hfull, hB0⟩
  case round =>
    obtain ⟨k, rfl, hk, hb, hbw⟩ := hrel
    have hsz := hbw.size
    by_cases hlt : (k : Int) < 4
    · have hst : ∀ n, [a, b, c, d].getD k 0 = n → headTo [a, b, c, d] (k + 1) = headTo [a, b, c, d] k ++ varL n := fun n hn => headTo_step (by simp; omega) hn
      have hl2 := hlen k
      simp only [List.length_cons, List.length_nil] at hl2
      have hb1 : ∀ n, [a, b, c, d].getD k 0 = n → n < 2097152 := fun n hn => by
        rw [← hn]
        rcases (by omega : k = 0 ∨ k = 1 ∨ k = 2 ∨ k = 3) with rfl | rfl | rfl | rfl <;> simp <;> omega
      have K : Hid (∀ n, [a, b, c, d].getD k 0 = n → headTo [a, b, c, d] (k + 1) = headTo [a, b, c, d] k ++ varL n) := hst
      have K2 : Hid (∀ n, [a, b, c, d].getD k 0 = n → n < 2097152) := hb1
      clear hst hb1 hlen hall hfull hB0
      rcases (by omega : k = 0 ∨ k = 1 ∨ k = 2 ∨ k = 3) with rfl | rfl | rfl | rfl
      all_goals
        go_wp2_with fail
        refine (appendVarint_any _ _ _ _ w.heap.size _ rfl hb hsz (K2.out _ rfl) (by omega)).mono ?_
        rintro e w1 ⟨v1, rfl, hb1, hB1⟩
        rw [← K.out _ rfl] at hb1
        go_wp2
        exact ⟨⟨_, by go_num, by omega, .inl hb1, hbw.trans hB1⟩, by simp [intOf]⟩
    · obtain rfl : k = 4 := by omega
      rw [hlast.out] at hb
      have hs : (convert 64 9 u3).run Tryz.prog wr = .ok (.string ⟨(headL a b c d).toArray⟩) wr := by
        rcases hb with hb | ⟨g, rfl, hc⟩
        · exact run_string_buf wr _ _ _ hb
        · exact conv_cells wr g _ _ (fun j hj => hc j _ (cells_get _ _ hj))
      clear hlen hall hfull hB0 hb
      go_wp2
      go_ret
      exact ⟨rfl, hbw⟩

end Go.Proofs.YtheichphnppagaaGreat
