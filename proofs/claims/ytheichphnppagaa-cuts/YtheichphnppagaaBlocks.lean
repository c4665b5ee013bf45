/- Worlds that differ in one block, and in new ones, alone; what a block holds. -/
import Derived.Test.YtheichphnppagaaReads
import Derived.Deep.WholeRow
import Derived.Deep.MidRow
namespace Go.Proofs.Ytheichphnppagaa
open Go.RowKit

/-- The world has turned in block b, and in new ones, alone. -/
structure Touch (b : Nat) (w w' : World) : Prop where
  os : w'.os = w.os
  tape : w'.tape = w.tape
  output : w'.output = w.output
  size : w.heap.size ≤ w'.heap.size
  block : ∀ k, k < w.heap.size → k ≠ b → w'.heap[k]? = w.heap[k]?
theorem Touch.refl (b : Nat) (w : World) : Touch b w w := ⟨rfl, rfl, rfl, Nat.le_refl _, fun _ _ _ => rfl⟩
theorem Touch.trans {b : Nat} {x y z : World} (h : Touch b x y) (k : Touch b y z) : Touch b x z :=
  ⟨k.os.trans h.os, k.tape.trans h.tape, k.output.trans h.output, Nat.le_trans h.size k.size, fun i hi hn => (k.block i (Nat.lt_of_lt_of_le hi h.size) hn).trans (h.block i hi hn)⟩
theorem Touch.setCell {b : Nat} {x w : World} (h : Touch b x w) (o : Nat) (v : Value) : Touch b x (w.setCell ⟨b, o, none⟩ v) :=
  h.trans ⟨rfl, rfl, rfl, by simp [World.setCell], fun k _ hn => Below.heap_setCell _ _ _ _ hn⟩
theorem Touch.setCells {b : Nat} {x : World} : ∀ (vs : List Value) (o : Nat) (w : World), Touch b x w → Touch b x (w.setCells b o vs)
  | [], _, _, h => h
  | v :: r, o, _, h => Touch.setCells r (o + 1) _ (h.setCell o v)
theorem Touch.drew {b : Nat} {x w : World} (h : Touch b x w) : Touch b x w.drew := ⟨h.os, h.tape, h.output, h.size, h.block⟩
theorem Touch.drewN {b : Nat} {x w : World} (h : Touch b x w) (n : Nat) : Touch b x (w.drewN n) := ⟨h.os, h.tape, h.output, h.size, h.block⟩
theorem Touch.below {b : Nat} {x w w' : World} (h : Touch b x w) (k : Below w.heap.size w w') : Touch b x w' := h.trans ⟨k.os, k.tape, k.output, k.size, fun i hi _ => k.block i hi⟩
theorem Touch.alloc {b : Nat} {x w : World} (h : Touch b x w) (o : Obj) : Touch b x (w.alloc o) := h.below ((Below.refl _ _).alloc (Nat.le_refl _) o)
theorem Touch.toBelow {b B : Nat} {w w' : World} (h : Touch b w w') (hb : B ≤ b) (hB : B ≤ w.heap.size) : Below B w w' := ⟨h.os, h.tape, h.output, h.size, fun k hk => h.block k (by omega) (by omega)⟩
theorem Touch.grown {b : Nat} {w w' : World} (h : Touch b w w') : w.grownBy w' (some b) := ⟨h.os, h.tape, h.output, h.size, fun k hk hn => h.block k hk (fun e => hn (by rw [e]))⟩

/-- The block b holds these cells. -/
def Row (w : World) (b : Nat) (t : TypeId) (l : List Value) : Prop := w.heap[b]? = some (.cells l.toArray t)
theorem Row.lt {w : World} {b : Nat} {t : TypeId} {l : List Value} (h : Row w b t l) : b < w.heap.size := (Array.getElem?_eq_some_iff.1 h).1
theorem Row.cell {w : World} {b : Nat} {t : TypeId} {l : List Value} (h : Row w b t l) (j : Nat) : w.cell? ⟨b, j, none⟩ = l[j]? := by
  rw [cell_of_row w b j l.toArray t (0, 0) h]
  simp
theorem Row.free {w : World} {b : Nat} {t : TypeId} {l : List Value} (h : Row w b t l) (j : Nat) : w.frozen? ⟨b, j, none⟩ = false := by
  unfold Row at h
  simp [World.frozen?, h]
theorem Row.setCell {w : World} {b : Nat} {t : TypeId} {l : List Value} (h : Row w b t l) (j : Nat) (v : Value) : Row (w.setCell ⟨b, j, none⟩ v) b t (l.set j v) := by
  unfold Row at *
  simp only [World.setCell, Array.getElem?_modify, if_true, h]
  simp
theorem Row.setCells {b : Nat} {t : TypeId} : ∀ (vs pre post : List Value) (w : World), Row w b t (pre ++ post) → post.length = vs.length → Row (w.setCells b pre.length vs) b t (pre ++ vs)
  | [], pre, post, w, h, e => by
    obtain rfl : post = [] := List.eq_nil_of_length_eq_zero e
    exact h
  | v :: r, pre, p :: post, w, h, e => by
    have h1 := h.setCell pre.length v
    rw [List.set_append_right _ _ (Nat.le_refl _), Nat.sub_self, List.set_cons_zero, show pre ++ v :: post = (pre ++ [v]) ++ post by simp] at h1
    have h2 := Row.setCells r (pre ++ [v]) post _ h1 (by simpa using e)
    rw [show (pre ++ [v]).length = pre.length + 1 by simp, show (pre ++ [v]) ++ r = pre ++ v :: r by simp] at h2
    exact h2
  | v :: r, pre, [], w, h, e => by simp at e
theorem Row.touch {w w' : World} {b c : Nat} {t : TypeId} {l : List Value} (h : Row w b t l) (k : Touch c w w') (hn : b ≠ c) : Row w' b t l := (k.block b h.lt hn).trans h
theorem Row.below {w w' : World} {b B : Nat} {t : TypeId} {l : List Value} (h : Row w b t l) (k : Below B w w') (hn : b < B) : Row w' b t l := (k.block b hn).trans h
theorem Row.new (w : World) (t : TypeId) (l : List Value) : Row (w.alloc (.cells l.toArray t)) w.heap.size t l := heap_alloc_last w _

end Go.Proofs.Ytheichphnppagaa
