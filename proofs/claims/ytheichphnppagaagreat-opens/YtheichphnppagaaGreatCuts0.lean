/- Opens: Ints, Cuts0. -/
import Derived.Test.YtheichphnppagaaGreatTell
import Derived.Test.YtheichphnppagaaGreatWrite
import Derived.Test.YtheichphnppagaaGreatNext
namespace Go.Proofs.YtheichphnppagaaGreat
open Go.RowKit

theorem Tryz.underlying34 : Tryz.prog.underlying 34 = some (.slice 3) := by kernel_rfl
theorem Tryz.info3 : (Tryz.prog.info? 3).map (fun i => (i.zero, i.size, i.bytes)) = some (some (.int .i64 0), 1, 8) := by kernel_rfl

def cellsOfInts (l : List Int) : List Value := l.map fun n => Value.int .i64 n
theorem cellsOfInts_append (a b : List Int) : cellsOfInts (a ++ b) = cellsOfInts a ++ cellsOfInts b := List.map_append
theorem cellsOfInts_length (a : List Int) : (cellsOfInts a).length = a.length := by simp [cellsOfInts]
theorem cellsOfInts_one (a : List Int) : ∀ u ∈ cellsOfInts a, u.oneCell' = true := by
  intro u hu
  obtain ⟨_, _, rfl⟩ := List.mem_map.1 hu
  rfl

/-- The slice v owns the numbers l, in blocks from B on. -/
def IBuf (B : Nat) (w : World) (v : Value) (l : List Int) : Prop := w.ownsRow B 3 1 v l.length (cellsOfInts l)

theorem IBuf.nil (B : Nat) (w : World) : IBuf B w (.slice none 0 0) [] := World.ownsRow_nil w B 3 1
theorem IBuf.alloc {B : Nat} {w : World} {v : Value} {l : List Int} (h : IBuf B w v l) (o : Obj) : IBuf B (w.alloc o) v l := World.ownsRow.alloc h o
theorem IBuf.drewN {B : Nat} {w : World} {v : Value} {l : List Int} (h : IBuf B w v l) (n : Nat) : IBuf B (w.drewN n) v l :=
  World.ownsRow.kept (row := none) h ⟨rfl, rfl, rfl, Nat.le_refl _, fun _ _ _ => rfl⟩ (by cases v.ownBlock <;> simp)
theorem IBuf.block {B : Nat} {w : World} {v : Value} {l : List Int} (h : IBuf B w v l) : ∀ k, v.ownBlock = some k → B ≤ k ∧ k < w.heap.size := fun k hk => World.ownsRow.lt h k hk
theorem IBuf.form {B : Nat} {w : World} {v : Value} {l : List Int} (h : IBuf B w v l) : (v = .slice none 0 0 ∧ l = []) ∨ ∃ g cap, v = .slice (some ⟨g, 0, none⟩) l.length cap ∧ B ≤ g ∧ g < w.heap.size := by
  rcases h.2 with ⟨rfl, hn⟩ | ⟨g, cap, cur, rfl, hb, hg, _⟩
  · exact .inl ⟨rfl, List.eq_nil_of_length_eq_zero hn⟩
  · exact .inr ⟨g, cap, rfl, hb, (Array.getElem?_eq_some_iff.1 hg).1⟩
/-- What another block's turn leaves. -/
theorem IBuf.touch {B b : Nat} {w w' : World} {v : Value} {l : List Int} (h : IBuf B w v l) (k : Touch b w w') (hn : v.ownBlock ≠ some b) : IBuf B w' v l := World.ownsRow.kept h k.grown (.inr hn)
theorem IBuf.touchLow {B b : Nat} {w w' : World} {v : Value} {l : List Int} (h : IBuf B w v l) (k : Touch b w w') (hn : b < B) : IBuf B w' v l :=
  h.touch k (fun e => by have := (h.block b e).1; omega)
theorem IBuf.below {B : Nat} {w w' : World} {v : Value} {l : List Int} (h : IBuf B w v l) (k : Below w.heap.size w w') : IBuf B w' v l :=
  World.ownsRow.kept (row := none) h ⟨k.os, k.tape, k.output, k.size, fun i hi _ => k.block i hi⟩ (by cases v.ownBlock <;> simp)
theorem IBuf.low {B C : Nat} {w : World} {v : Value} {l : List Int} (h : IBuf B w v l) (hC : C ≤ B) : IBuf C w v l := by
  refine ⟨h.1, ?_⟩
  rcases h.2 with hn | ⟨g, cap, cur, e, hb, r⟩
  · exact .inl hn
  · exact .inr ⟨g, cap, cur, e, Nat.le_trans hC hb, r⟩
theorem IBuf.cell {B : Nat} {w : World} {g cap : Nat} {l : List Int} (h : IBuf B w (.slice (some ⟨g, 0, none⟩) l.length cap) l) (j : Nat) (hj : j < l.length) : w.cell? ⟨g, j, none⟩ = some (.int .i64 (l.getD j 0)) := by
  have hc := World.ownsRow.cellAt h j (by omega)
  rw [hc]
  simp [cellsOfInts, hj]

theorem run_append_ibuf (w : World) (B : Nat) (tx ty : TypeId) (v x : Value) (l news : List Int) (hown : IBuf B w v l) (hm : 0 < news.length) (hs : Src Tryz.prog 1 tx x news.length (cellsOfInts news) w)
    (hlen : l.length + news.length ≤ 100000000) (hB : B ≤ w.heap.size) :
    ∃ v' w', (Builtin.append_ #[34, tx] ty #[v, x]).run Tryz.prog w = .ok v' w' ∧ IBuf B w' v' (l ++ news) ∧ w.grownBy w' v.ownBlock := by
  obtain ⟨i0, hi, hz0, hz1, hz2⟩ := info_parts Tryz.info3
  obtain ⟨v', w', hr, h2, h3⟩ := run_append_own_src w B 34 tx ty 3 i0 (.int .i64 0) 8 Tryz.underlying34 hi hz0 hz1 hz2 rfl v l.length (cellsOfInts l) hown x news.length (cellsOfInts news) hm hs
    (by simp only [maxLen]; omega) (by omega) hB
  refine ⟨v', w', hr, ?_, h3⟩
  unfold IBuf
  rw [List.length_append, cellsOfInts_append]
  exact h2

theorem wpList_append_ibuf {w : World} {ops : Array Oper} {rest : List Oper} {o : Oper} {a : Act} {Q : Exit → Act → World → Prop} (hgd : o.guard = none) (s x : Operand) (tx : TypeId)
    (ho : o.op = .call { callee := .builtin .append, args := #[s, x], argTypes := #[34, tx] })
    (B : Nat) (v xv : Value) (l news : List Int) (hs : a.eval s = v) (hx : a.eval x = xv) (hown : IBuf B w v l) (hm : 0 < news.length) (hsrc : Src Tryz.prog 1 tx xv news.length (cellsOfInts news) w)
    (hlen : l.length + news.length ≤ 100000000) (hB : B ≤ w.heap.size)
    (h : ∀ v' w', IBuf B w' v' (l ++ news) → Below B w w' → wpList Tryz.prog ops Q rest (a.put o.dst v') w') : wpList Tryz.prog ops Q (o :: rest) a w := by
  obtain ⟨v', w', hr, h2, h3⟩ := run_append_ibuf w B tx o.type v xv l news hown hm hsrc hlen hB
  refine wpList_plain hgd fun K hK => ?_
  unfold Oper.wp execOp
  simp only [ho, resolve, invoke, builtin, Sem.run_bind, Sem.run_pure, Result.andThen_ok, List.map_toArray, List.map_cons, List.map_nil, hs, hx, hr]
  exact hK _ _ (h v' w' h2 ((Below.refl B w).grown h3 hB (fun k hk => (hown.block k hk).1)))

theorem isrc_one (w : World) (c : Int) :
    Src Tryz.prog 1 34 (.slice (some ⟨w.heap.size, 0, none⟩) 1 1) [c].length (cellsOfInts [c]) (w.alloc (.cells #[.int .i64 c] 3)) := by
  refine Src.ofSlice _ Tryz.underlying34 ⟨w.heap.size, 0, none⟩ [c].length 1 (cellsOfInts [c]) (by rw [cellsOfInts_length]; omega) (fun j u hj => ?_) (cellsOfInts_one [c])
  match j, hj with
  | 0, hj => simp [cellsOfInts] at hj; subst hj; simp [Addr.add]

end Go.Proofs.YtheichphnppagaaGreat
namespace Go.Proofs.YtheichphnppagaaGreat
open Go.RowKit

def ints (l : List Nat) : List Int := l.map fun (n : Nat) => (n : Int)
theorem ints_append (a b : List Nat) : ints (a ++ b) = ints a ++ ints b := List.map_append
theorem ints_length (a : List Nat) : (ints a).length = a.length := by simp [ints]
theorem Rest.below {w w' : World} {b B : Nat} {mn mx bt rm : Int} (h : Rest w b mn mx bt rm) (k : Below B w w') (hn : b < B) : Rest w' b mn mx bt rm := by
  rcases h with ⟨t, ht, h⟩ | h
  · exact .inl ⟨t, ht, h.below k hn⟩
  · exact .inr (h.below k hn)
theorem Touch.belowB {b : Nat} {x w w' : World} (h : Touch b x w) (k : Below x.heap.size w w') : Touch b x w' :=
  ⟨k.os.trans h.os, k.tape.trans h.tape, k.output.trans h.output, Nat.le_trans h.size k.size, fun i hi hn => (k.block i hi).trans (h.block i hi hn)⟩
theorem cutsF_length (l : List UInt8) {mn mx bits : Nat} : ∀ (f last : Nat), (cutsF l mn mx bits f last).length ≤ f
  | 0, _ => by simp [cutsF]
  | f + 1, last => by
    simp only [cutsF]
    split
    · have := cutsF_length l (mn := mn) (mx := mx) (bits := bits) f (nextCut l mn mx bits last)
      simp; omega
    · simp

theorem cuts_step {l : List UInt8} {mn mx bt f last : Nat} {x T : List Nat} (h3 : l.length - last ≤ f) (hl : last < l.length) (H : x ++ cutsF l mn mx bt f last = T) :
    (x ++ [nextCut l mn mx bt last]) ++ cutsF l mn mx bt (f - 1) (nextCut l mn mx bt last) = T := by
  obtain ⟨g, rfl⟩ : ∃ g, f = g + 1 := ⟨f - 1, by omega⟩
  rw [← H]
  simp only [cutsF, if_pos hl]
  simp
theorem cuts_end {l : List UInt8} {mn mx bt f last : Nat} {x T : List Nat} (hl : ¬ last < l.length) (H : x ++ cutsF l mn mx bt f last = T) : x = T := by
  rw [← H]
  cases f <;> simp [cutsF, hl]

set_option maxRecDepth 100000 in
set_option maxHeartbeats 1600000 in
theorem places_any (s : ByteArray) (b mn mx bt : Nat) (rm : Int) (w : World) (h : Rest w b mn mx bt rm) (hs : s.size ≤ 2000) (h1 : 16 ≤ mn) (h2 : mn ≤ mx) (h3 : mx ≤ 200) (h5 : bt ≤ 12) :
    Calls Tryz.prog 37 #[.pointer (some ⟨b, 0, none⟩), .string s] w fun e w' => ∃ v, e = .returned v ∧ IBuf w.heap.size w' v (ints (cuts (bl s) mn mx bt)) ∧ Rest w' b mn mx bt rm ∧ Touch b w w' := by
  have hb := h.lt
  have hbl := bl_length s
  have hcl : (cuts (bl s) mn mx bt).length ≤ s.size := by rw [← hbl]; exact cutsF_length _ _ _
  go_enter Tryz.func37, Tryz.ntmps37
  go_wp2
  go_loopw [5, 6] (fun v5 v6 wr => ∃ (x : List Nat) (last f : Nat), v6 = .int .i64 last ∧ last ≤ s.size ∧ s.size - last ≤ f ∧ IBuf w.heap.size wr v5 (ints x) ∧ Rest wr b mn mx bt rm ∧ Touch b w wr ∧ Hid (x ++ cutsF (bl s) mn mx bt f last = cuts (bl s) mn mx bt)) (fun _ v6 _ => s.size - (intOf v6).toNat)
  case atStart => exact ⟨[], 0, s.size, rfl, by omega, by omega, IBuf.nil _ _, h, Touch.refl _ _, (by show _ = _; unfold cuts; rw [hbl]; rfl)⟩
  case round =>
    obtain ⟨x, last, f, rfl, hl, hf, hx, hr, ht, H⟩ := hrel
    have hxl : x.length ≤ 2000 := by
      have e := congrArg List.length H.out
      rw [List.length_append] at e
      omega
    by_cases hlt : (last : Int) < (s.size : Int)
    · go_wp2_with fail
      refine (next_any s b mn mx bt rm last _ _ rfl hr hs h1 h2 h3 h5 (by omega)).mono ?_
      rintro e w1 ⟨rfl, hr1, ht1⟩
      have hx1 := hx.touchLow ht1 hb
      have hz := ht.size
      have hz1 := ht1.size
      have a1 := nextCut_gt (bl s) (bits := bt) (by omega : 1 ≤ mn) h2 (by omega : last < (bl s).length)
      have a2 := nextCut_le (bl s) mn mx bt last
      have H' : Hid ((x ++ [nextCut (bl s) mn mx bt last]) ++ cutsF (bl s) mn mx bt (f - 1) (nextCut (bl s) mn mx bt last) = cuts (bl s) mn mx bt) := cuts_step (by omega) (by omega) H.out
      generalize nextCut (bl s) mn mx bt last = nx at *
      have S := isrc_one w1 (nx : Int)
      go_wp2_with (at_builtin; refine wpList_append_ibuf rfl (.tmp 15) (.tmp 17) 34 rfl w.heap.size _ _ (ints x) [(nx : Int)] rfl rfl (hx1.alloc _) (by simp) S (by simp [ints_length]; omega) (by simp; omega) ?_; intro v2 w2 hb2 hbw2)
      have B2 : Below w.heap.size w1 w2 := ((Below.refl _ _).alloc (by omega) _).trans hbw2
      exact ⟨⟨x ++ [nx], nx, f - 1, rfl, by omega, by omega, by rw [ints_append]; exact hb2, hr1.below B2 hb, (ht.trans ht1).belowB B2, H'⟩, by simp [intOf]; omega⟩
    · go_wp2
      go_ret
      have e := cuts_end (by omega) H.out
      rw [e] at hx
      exact ⟨_, rfl, hx, hr, ht⟩

/-- May a configuration be? -/
abbrev Ok (mn mx bt rm : Int) : Prop := 16 ≤ mn ∧ mn ≤ mx ∧ mx ≤ 200 ∧ 1 ≤ bt ∧ bt ≤ 12 ∧ 100 ≤ rm ∧ rm ≤ 60000

theorem within_any (n a b : Int) (w : World) : Calls Tryz.prog 62 #[.int .i64 n, .int .i64 a, .int .i64 b] w fun e w' => e = .returned (.bool (decide (a ≤ n ∧ n ≤ b))) ∧ w' = w := by
  by_cases h1 : a ≤ n
  · by_cases h2 : n ≤ b
    · go_enter Tryz.func62, Tryz.ntmps62
      go_wp2
      go_ret
      exact ⟨by simp [h1, h2], rfl⟩
    · go_enter Tryz.func62, Tryz.ntmps62
      go_wp2
      go_ret
      exact ⟨by simp [h2], rfl⟩
  · go_enter Tryz.func62, Tryz.ntmps62
    go_wp2
    go_ret
    exact ⟨by simp; omega, rfl⟩

def okB (mn mx bt rm : Int) : Bool := decide (Ok mn mx bt rm)
theorem okB_false {mn mx bt rm : Int} (h : ¬ Ok mn mx bt rm) : Ending.returned (.bool false) = .returned (.bool (okB mn mx bt rm)) := by unfold okB; rw [decide_eq_false h]
theorem okB_last {mn mx bt rm : Int} (h : (100 ≤ rm ∧ rm ≤ 60000) ↔ Ok mn mx bt rm) : Ending.returned (.bool (decide (100 ≤ rm) && decide (rm ≤ 60000))) = .returned (.bool (okB mn mx bt rm)) := by
  unfold okB
  rw [← Bool.decide_and, decide_eq_decide.2 h]

set_option maxRecDepth 100000 in
set_option maxHeartbeats 1600000 in
theorem allowed_any (mn mx bt rm : Int) (w : World) :
    Calls Tryz.prog 35 #[.agg #[.int .i64 mn, .int .i64 mx, .int .i64 bt, .int .i64 rm]] w fun e w' => e = .returned (.bool (okB mn mx bt rm)) ∧ Below w.heap.size w w' := by
  have hB : Below w.heap.size w (w.alloc (.cells #[.int .i64 mn, .int .i64 mx, .int .i64 bt, .int .i64 rm] 26)) := (Below.refl _ _).alloc (Nat.le_refl _) _
  go_enter Tryz.func35, Tryz.ntmps35
  go_wp2_with (go_at_call 62; refine (within_any _ _ _ _).mono ?_; rintro e w' ⟨rfl, rfl⟩)
  all_goals go_ret
  all_goals first | exact ⟨okB_false (by unfold Ok; omega), hB⟩ | exact ⟨okB_last (by unfold Ok; omega), hB⟩

set_option maxRecDepth 100000 in
set_option maxHeartbeats 1600000 in
theorem by_any (mn mx bt rm : Int) (w : World) :
    Calls Tryz.prog 36 #[.agg #[.int .i64 mn, .int .i64 mx, .int .i64 bt, .int .i64 rm]] w fun e w' => ∃ b, e = .returned (.pointer (some ⟨b, 0, none⟩)) ∧ w.heap.size ≤ b ∧ Rest w' b mn mx bt rm ∧ Below w.heap.size w w' := by
  go_enter Tryz.func36, Tryz.ntmps36
  go_wp2
  go_ret
  refine ⟨_, rfl, ?_, .inl ⟨[.int .u32 0, .int .u32 0, .int .u32 0, .int .u32 0, .int .u32 0, .int .u32 0, .int .u32 0, .int .u32 0, .int .u32 0, .int .u32 0, .int .u32 0, .int .u32 0, .int .u32 0, .int .u32 0, .int .u32 0, .int .u32 0], rfl, ?_⟩, ?_⟩
  · omega
  · have e : w.heap.size + 1 = (w.alloc (.cells #[.int .i64 mn, .int .i64 mx, .int .i64 bt, .int .i64 rm] 26)).heap.size := by simp
    rw [e]
    exact Row.new _ 129 _
  · exact ((Below.refl _ _).alloc (Nat.le_refl _) _).alloc (by simp) _

theorem not_law : ∀ (x : Bool) (w : World), (Op.unary .not (.bool x)).run Tryz.prog w = .ok (.bool (!x)) w := fun _ _ => rfl

set_option maxRecDepth 100000 in
set_option maxHeartbeats 1600000 in
theorem lcuts_bad (s : ByteArray) (mn mx bt rm : Int) (w : World) (h : okB mn mx bt rm = false) :
    Calls Tryz.prog 15 #[.string s, .agg #[.int .i64 mn, .int .i64 mx, .int .i64 bt, .int .i64 rm]] w fun e w' => e = .returned (.tuple #[.slice none 0 0, .int .i64 1]) ∧ Below w.heap.size w w' := by
  have hnot := not_law
  go_enter Tryz.func15, Tryz.ntmps15
  go_wp2_with fail
  refine (allowed_any mn mx bt rm _).mono ?_
  rintro e w1 ⟨rfl, hB1⟩
  rw [h]
  go_wp2
  go_ret2
  exact ⟨rfl, ((Below.refl _ _).alloc (Nat.le_refl _) _).trans (hB1.mono (by simp))⟩

set_option maxRecDepth 100000 in
set_option maxHeartbeats 1600000 in
theorem lcuts_big (s : ByteArray) (mn mx bt rm : Int) (w : World) (h : okB mn mx bt rm = true) (hs : 2000 < s.size) :
    Calls Tryz.prog 15 #[.string s, .agg #[.int .i64 mn, .int .i64 mx, .int .i64 bt, .int .i64 rm]] w fun e w' => e = .returned (.tuple #[.slice none 0 0, .int .i64 6]) ∧ Below w.heap.size w w' := by
  have hnot := not_law
  have h1 : (2000 : Int) < (s.size : Int) := by omega
  go_enter Tryz.func15, Tryz.ntmps15
  go_wp2_with fail
  refine (allowed_any mn mx bt rm _).mono ?_
  rintro e w1 ⟨rfl, hB1⟩
  rw [h]
  go_wp2
  go_ret2
  exact ⟨rfl, ((Below.refl _ _).alloc (Nat.le_refl _) _).trans (hB1.mono (by simp))⟩

set_option maxRecDepth 100000 in
set_option maxHeartbeats 1600000 in
theorem lcuts_ok (s : ByteArray) (mn mx bt : Nat) (rm : Int) (w : World) (h : okB mn mx bt rm = true) (hs : s.size ≤ 2000) :
    Calls Tryz.prog 15 #[.string s, .agg #[.int .i64 mn, .int .i64 mx, .int .i64 bt, .int .i64 rm]] w fun e w' => ∃ v, e = .returned (.tuple #[v, .int .i64 0]) ∧ IBuf w.heap.size w' v (ints (cuts (bl s) mn mx bt)) ∧ Below w.heap.size w w' := by
  have hok : Ok mn mx bt rm := of_decide_eq_true h
  have hnot := not_law
  have h1 : ¬ (2000 : Int) < (s.size : Int) := by omega
  unfold Ok at hok
  go_enter Tryz.func15, Tryz.ntmps15
  go_wp2_with fail
  refine (allowed_any mn mx bt rm _).mono ?_
  rintro e w1 ⟨rfl, hB1⟩
  rw [h]
  have hB1' : Below w.heap.size w w1 := ((Below.refl _ _).alloc (Nat.le_refl _) _).trans (hB1.mono (by simp))
  have hR1 : Row w1 w.heap.size 26 [.int .i64 mn, .int .i64 mx, .int .i64 bt, .int .i64 rm] := (Row.new w 26 [.int .i64 mn, .int .i64 mx, .int .i64 bt, .int .i64 rm]).below hB1 (by simp)
  have k0 : w1.cell? ⟨w.heap.size, 0, none⟩ = some (.int .i64 mn) := hR1.cell 0
  have k1 : w1.cell? ⟨w.heap.size, 1, none⟩ = some (.int .i64 mx) := hR1.cell 1
  have k2 : w1.cell? ⟨w.heap.size, 2, none⟩ = some (.int .i64 bt) := hR1.cell 2
  have k3 : w1.cell? ⟨w.heap.size, 3, none⟩ = some (.int .i64 rm) := hR1.cell 3
  go_wp2_with fail
  refine (by_any mn mx bt rm _).mono ?_
  rintro e w2 ⟨b, rfl, hb, hr2, hB2⟩
  have hz1 := hB1'.size
  have hB2' := hB1'.trans (hB2.mono hz1)
  go_wp2_with fail
  refine (places_any s b mn mx bt rm _ hr2 hs (by omega) (by omega) (by omega) (by omega)).mono ?_
  rintro e w3 ⟨v, rfl, hv, _, ht3⟩
  go_wp2
  go_ret2
  have hz2 := hB2'.size
  exact ⟨v, rfl, hv.low hz2, hB2'.trans (ht3.toBelow (by omega) hz2)⟩

end Go.Proofs.YtheichphnppagaaGreat
