/- A []int that the call itself made, as a row of numbers: appends to it. -/
import Derived.Test.YtheichphnppagaaBytes
import Derived.Test.YtheichphnppagaaBlocks
namespace Go.Proofs.Ytheichphnppagaa
open Go.RowKit

theorem Try.underlying24 : Try.prog.underlying 24 = some (.slice 3) := by kernel_rfl
theorem Try.info3 : (Try.prog.info? 3).map (fun i => (i.zero, i.size, i.bytes)) = some (some (.int .i64 0), 1, 8) := by kernel_rfl

def cellsOfInts (l : List Int) : List Value := l.map fun n => Value.int .i64 n
theorem cellsOfInts_append (a b : List Int) : cellsOfInts (a ++ b) = cellsOfInts a ++ cellsOfInts b := List.map_append
theorem cellsOfInts_length (a : List Int) : (cellsOfInts a).length = a.length := by simp [cellsOfInts]
theorem cellsOfInts_one (a : List Int) : ∀ u ∈ cellsOfInts a, u.oneCell' = true := by
  intro u hu
  obtain ⟨_, _, rfl⟩ := List.mem_map.1 hu
  rfl

/-- The slice v owns the numbers l, in blocks from B on. -/
def IBuf (B : Nat) (w : World) (v : Value) (l : List Int) : Prop := w.ownsRow B 3 1 v l.length (cellsOfInts l)

theorem IBuf.nil (B : Nat) (w : World) : IBuf B w (.slice none 0 0) [] := World.ownsRow_nil w B 3 1
theorem IBuf.alloc {B : Nat} {w : World} {v : Value} {l : List Int} (h : IBuf B w v l) (o : Obj) : IBuf B (w.alloc o) v l := World.ownsRow.alloc h o
theorem IBuf.drewN {B : Nat} {w : World} {v : Value} {l : List Int} (h : IBuf B w v l) (n : Nat) : IBuf B (w.drewN n) v l :=
  World.ownsRow.kept (row := none) h ⟨rfl, rfl, rfl, Nat.le_refl _, fun _ _ _ => rfl⟩ (by cases v.ownBlock <;> simp)
theorem IBuf.block {B : Nat} {w : World} {v : Value} {l : List Int} (h : IBuf B w v l) : ∀ k, v.ownBlock = some k → B ≤ k ∧ k < w.heap.size := fun k hk => World.ownsRow.lt h k hk
theorem IBuf.form {B : Nat} {w : World} {v : Value} {l : List Int} (h : IBuf B w v l) : (v = .slice none 0 0 ∧ l = []) ∨ ∃ g cap, v = .slice (some ⟨g, 0, none⟩) l.length cap ∧ B ≤ g ∧ g < w.heap.size := by
  rcases h.2 with ⟨rfl, hn⟩ | ⟨g, cap, cur, rfl, hb, hg, _⟩
  · exact .inl ⟨rfl, List.eq_nil_of_length_eq_zero hn⟩
  · exact .inr ⟨g, cap, rfl, hb, (Array.getElem?_eq_some_iff.1 hg).1⟩
/-- What another block's turn leaves. -/
theorem IBuf.touch {B b : Nat} {w w' : World} {v : Value} {l : List Int} (h : IBuf B w v l) (k : Touch b w w') (hn : v.ownBlock ≠ some b) : IBuf B w' v l := World.ownsRow.kept h k.grown (.inr hn)
theorem IBuf.touchLow {B b : Nat} {w w' : World} {v : Value} {l : List Int} (h : IBuf B w v l) (k : Touch b w w') (hn : b < B) : IBuf B w' v l :=
  h.touch k (fun e => by have := (h.block b e).1; omega)
theorem IBuf.below {B : Nat} {w w' : World} {v : Value} {l : List Int} (h : IBuf B w v l) (k : Below w.heap.size w w') : IBuf B w' v l :=
  World.ownsRow.kept (row := none) h ⟨k.os, k.tape, k.output, k.size, fun i hi _ => k.block i hi⟩ (by cases v.ownBlock <;> simp)
theorem IBuf.low {B C : Nat} {w : World} {v : Value} {l : List Int} (h : IBuf B w v l) (hC : C ≤ B) : IBuf C w v l := by
  refine ⟨h.1, ?_⟩
  rcases h.2 with hn | ⟨g, cap, cur, e, hb, r⟩
  · exact .inl hn
  · exact .inr ⟨g, cap, cur, e, Nat.le_trans hC hb, r⟩
theorem IBuf.cell {B : Nat} {w : World} {g cap : Nat} {l : List Int} (h : IBuf B w (.slice (some ⟨g, 0, none⟩) l.length cap) l) (j : Nat) (hj : j < l.length) : w.cell? ⟨g, j, none⟩ = some (.int .i64 (l.getD j 0)) := by
  have hc := World.ownsRow.cellAt h j (by omega)
  rw [hc]
  simp [cellsOfInts, hj]

theorem run_append_ibuf (w : World) (B : Nat) (tx ty : TypeId) (v x : Value) (l news : List Int) (hown : IBuf B w v l) (hm : 0 < news.length) (hs : Src Try.prog 1 tx x news.length (cellsOfInts news) w)
    (hlen : l.length + news.length ≤ 1000000) (hB : B ≤ w.heap.size) :
    ∃ v' w', (Builtin.append_ #[24, tx] ty #[v, x]).run Try.prog w = .ok v' w' ∧ IBuf B w' v' (l ++ news) ∧ w.grownBy w' v.ownBlock := by
  obtain ⟨i0, hi, hz0, hz1, hz2⟩ := info_parts Try.info3
  obtain ⟨v', w', hr, h2, h3⟩ := run_append_own_src w B 24 tx ty 3 i0 (.int .i64 0) 8 Try.underlying24 hi hz0 hz1 hz2 rfl v l.length (cellsOfInts l) hown x news.length (cellsOfInts news) hm hs
    (by simp only [maxLen]; omega) (by omega) hB
  refine ⟨v', w', hr, ?_, h3⟩
  unfold IBuf
  rw [List.length_append, cellsOfInts_append]
  exact h2

theorem wpList_append_ibuf {w : World} {ops : Array Oper} {rest : List Oper} {o : Oper} {a : Act} {Q : Exit → Act → World → Prop} (hgd : o.guard = none) (s x : Operand) (tx : TypeId)
    (ho : o.op = .call { callee := .builtin .append, args := #[s, x], argTypes := #[24, tx] })
    (B : Nat) (v xv : Value) (l news : List Int) (hs : a.eval s = v) (hx : a.eval x = xv) (hown : IBuf B w v l) (hm : 0 < news.length) (hsrc : Src Try.prog 1 tx xv news.length (cellsOfInts news) w)
    (hlen : l.length + news.length ≤ 1000000) (hB : B ≤ w.heap.size)
    (h : ∀ v' w', IBuf B w' v' (l ++ news) → Below B w w' → wpList Try.prog ops Q rest (a.put o.dst v') w') : wpList Try.prog ops Q (o :: rest) a w := by
  obtain ⟨v', w', hr, h2, h3⟩ := run_append_ibuf w B tx o.type v xv l news hown hm hsrc hlen hB
  refine wpList_plain hgd fun K hK => ?_
  unfold Oper.wp execOp
  simp only [ho, resolve, invoke, builtin, Sem.run_bind, Sem.run_pure, Result.andThen_ok, List.map_toArray, List.map_cons, List.map_nil, hs, hx, hr]
  exact hK _ _ (h v' w' h2 ((Below.refl B w).grown h3 hB (fun k hk => (hown.block k hk).1)))

theorem isrc_one (w : World) (c : Int) :
    Src Try.prog 1 24 (.slice (some ⟨w.heap.size, 0, none⟩) 1 1) [c].length (cellsOfInts [c]) (w.alloc (.cells #[.int .i64 c] 3)) := by
  refine Src.ofSlice _ Try.underlying24 ⟨w.heap.size, 0, none⟩ [c].length 1 (cellsOfInts [c]) (by rw [cellsOfInts_length]; omega) (fun j u hj => ?_) (cellsOfInts_one [c])
  match j, hj with
  | 0, hj => simp [cellsOfInts] at hj; subst hj; simp [Addr.add]

end Go.Proofs.Ytheichphnppagaa
