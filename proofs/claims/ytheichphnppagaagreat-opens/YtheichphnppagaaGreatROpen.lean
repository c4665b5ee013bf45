/- Opens: ROpen. -/
import Derived.Test.YtheichphnppagaaGreatRTake
import Derived.Test.YtheichphnppagaaGreatRUnf
import Derived.Test.YtheichphnppagaaGreatOpen
namespace Go.Proofs.YtheichphnppagaaGreat
open Go.RowKit
attribute [local go_sem ↓] Go.wp_at_zero Go.wp_at_succ

theorem Rf.low {B C : Nat} {w : World} {q : Nat} {st : St} (h : Rf B w q st) (hC : C ≤ B) : Rf C w q st := by
  obtain ⟨cv, sv, G, h⟩ := h
  refine ⟨cv, sv, G, { h with chunks := h.chunks.low hC, strs := ?_, num := fun x hx => IBuf.low (h.num x hx) hC, low := Nat.le_trans hC h.low }⟩
  exact ⟨h.strs.1, h.strs.2.elim .inl (fun ⟨g, cap, cur, e, hb, r⟩ => .inr ⟨g, cap, cur, e, Nat.le_trans hC hb, r⟩)⟩

theorem text_endR {B : Nat} {w : World} {q : Nat} {st : St} {cv sv : Value} {G : List UInt8 → Value} (t : ByteArray) (h : RfAt B w q st cv sv G) :
    Rf B (w.setCell ⟨q, 4, none⟩ (.string t)) q { st with text := bl t } ∧ Below B w (w.setCell ⟨q, 4, none⟩ (.string t)) := by
  have hC : Chg w.heap.size (fun i => i = q) w (w.setCell ⟨q, 4, none⟩ (.string t)) := Chg.setCell _ _ _ rfl
  have hx : ∀ {B' n sz : Nat} {ty : TypeId} {v : Value} {xs : List Value}, w.ownsRow B' ty sz v n xs → ty ≠ 55 → (w.setCell ⟨q, 4, none⟩ (.string t)).ownsRow B' ty sz v n xs := fun ho ht => own_kept2 ho hC (Nat.le_refl _) (fun g hg e => own_ne_row2 ho h.row ht (by rw [hg, e]))
  refine ⟨⟨cv, sv, G, { row := ?_, chunks := hx h.chunks (by decide), strs := hx h.strs (by decide), num := fun x hxx => hx (h.num x hxx) (by decide), low := h.low }⟩, hC.below (Nat.le_trans h.low (Nat.le_of_lt h.row.lt)) (fun k e => by rw [e]; exact h.low)⟩
  have := h.row.setCell 4 (.string t)
  rw [show strV (bl t) = .string t from (by rw [ba_eq (a := t) rfl]; rfl)]
  exact this

theorem openL_no6 {s x : List UInt8} {k : Nat} (h : unfr s = some (x, k)) (h2 : x.take 6 ≠ larderL) : openL s = none := openL_head h (by unfold headL?; rw [if_neg h2])
theorem headL_eq {x : List UInt8} (h2 : x.take 6 = larderL) : headL? x = match vints 3 (x.drop 6) with
    | some l => if l.length = 4 then some l else none
    | none => none := by unfold headL?; rw [if_pos h2]; cases vints 3 (x.drop 6) <;> rfl
theorem vints_35 {s : List UInt8} : vints 5 s = vints 3 s ∨ (vints 3 s = none ∧ ∀ l, vints 5 s = some l → ∃ n ∈ l, 268435456 ≤ n) := vints_more s.length s
theorem openL_no5 {s x : List UInt8} {k : Nat} (h : unfr s = some (x, k)) (h2 : x.take 6 = larderL) (h5 : vints 5 (x.drop 6) = none) : openL s = none := by
  refine openL_head h ?_
  rw [headL_eq h2]
  rcases vints_35 (s := x.drop 6) with e | ⟨e, _⟩
  · rw [← e, h5]
  · rw [e]
theorem openL_no4 {s x : List UInt8} {k : Nat} {l : List Nat} (h : unfr s = some (x, k)) (h2 : x.take 6 = larderL) (h5 : vints 5 (x.drop 6) = some l) (h4 : l.length ≠ 4) : openL s = none := by
  refine openL_head h ?_
  rw [headL_eq h2]
  rcases vints_35 (s := x.drop 6) with e | ⟨e, _⟩
  · rw [← e, h5]; exact if_neg h4
  · rw [e]
theorem openL_nook {s x : List UInt8} {k : Nat} {l : List Nat} (h : unfr s = some (x, k)) (h2 : x.take 6 = larderL) (h5 : vints 5 (x.drop 6) = some l) (h4 : l.length = 4) (hb : okB (l.getD 0 0 : Nat) (l.getD 1 0 : Nat) (l.getD 2 0 : Nat) (l.getD 3 0 : Nat) = false) : openL s = none := by
  rcases vints_35 (s := x.drop 6) with e | ⟨e, _⟩
  · refine openL_bad h ?_ hb
    rw [headL_eq h2, ← e, h5]
    exact if_pos h4
  · refine openL_head h ?_
    rw [headL_eq h2, e]
theorem openL_yes {s x : List UInt8} {k : Nat} {l : List Nat} (h : unfr s = some (x, k)) (h2 : x.take 6 = larderL) (h5 : vints 5 (x.drop 6) = some l) (h4 : l.length = 4) (hb : okB (l.getD 0 0 : Nat) (l.getD 1 0 : Nat) (l.getD 2 0 : Nat) (l.getD 3 0 : Nat) = true) :
    openL s = some (openG (s.length - k + 1) (St.new (l.getD 0 0) (l.getD 1 0) (l.getD 2 0) (l.getD 3 0)) (s.drop k)) := by
  rcases vints_35 (s := x.drop 6) with e | ⟨e, h6⟩
  · refine openL_ok h ?_ hb
    rw [headL_eq h2, ← e, h5]
    exact if_pos h4
  · exfalso
    obtain ⟨n, hn, hg⟩ := h6 l h5
    have hok' : Ok (l.getD 0 0 : Nat) (l.getD 1 0 : Nat) (l.getD 2 0 : Nat) (l.getD 3 0 : Nat) := of_decide_eq_true hb
    unfold Ok at hok'
    match l, h4, hn with
    | [a, b, c, d], _, hn =>
      simp at hn hok'
      rcases hn with rfl | rfl | rfl | rfl <;> omega

end Go.Proofs.YtheichphnppagaaGreat
