/- Opens: New, Open. -/
import Derived.Test.YtheichphnppagaaGreatStore
import Derived.Deep.RegionHeld3
import Derived.Deep.DrawnRows
import Derived.Test.YtheichphnppagaaGreatAsk
import Derived.Test.YtheichphnppagaaGreatHead
namespace Go.Proofs.YtheichphnppagaaGreat
open Go.RowKit
attribute [local go_sem ↓] Go.wp_at_zero Go.wp_at_succ

theorem heap_drewW (w : World) : w.drew.heap = w.heap := rfl
theorem gmap (w : World) : Grow w (w.alloc (.map #[] 0)) := (Grow.refl w).alloc _
theorem mapAt {W w' wf : World} (h : Below (W.alloc (.map #[] 0)).heap.size (W.alloc (.map #[] 0)) w') (g : Grow w' wf) : wf.heap[W.heap.size]? = some (.map #[] 0) := by
  have z := h.size
  simp only [World.size_alloc] at z
  rw [g.block _ (by omega), h.block _ (by simp)]
  exact heap_alloc_last W _

set_option maxRecDepth 100000 in
set_option maxHeartbeats 3200000 in
theorem new_ok (mn mx bt rm : Nat) (w : World) (hok : okB mn mx bt rm = true) :
    Calls Tryz.prog 32 #[.agg #[.int .i64 mn, .int .i64 mx, .int .i64 bt, .int .i64 rm]] w fun e w' => ∃ p, e = .returned (.tuple #[.pointer (some ⟨p, 0, none⟩), .int .i64 0]) ∧ Sto w.heap.size w' p (St.new mn mx bt rm) ∧ Grow w w' := by
  have hnot := not_law
  have hok' : Ok mn mx bt rm := of_decide_eq_true hok
  unfold Ok at hok'
  have hh1 := headL_pos mn mx bt rm
  have hh2 := headL_len mn mx bt rm (by omega)
  have hhs : ∀ l : List UInt8, (ByteArray.mk l.toArray).size = l.length := fun l => rfl
  go_enter Tryz.func32, Tryz.ntmps32
  go_wp2_with fail
  refine (allowed_any mn mx bt rm _).mono ?_
  rintro e w1 ⟨rfl, hB1⟩
  rw [hok]
  have hB1' : Below w.heap.size w w1 := ((Below.refl _ _).alloc (Nat.le_refl _) _).trans (hB1.mono (by simp))
  have hz1 := hB1'.size
  have hR1 : Row w1 w.heap.size 26 [.int .i64 mn, .int .i64 mx, .int .i64 bt, .int .i64 rm] := (Row.new w 26 [.int .i64 mn, .int .i64 mx, .int .i64 bt, .int .i64 rm]).below hB1 (by simp)
  have k0 : w1.cell? ⟨w.heap.size, 0, none⟩ = some (.int .i64 mn) := hR1.cell 0
  have k1 : w1.cell? ⟨w.heap.size, 1, none⟩ = some (.int .i64 mx) := hR1.cell 1
  have k2 : w1.cell? ⟨w.heap.size, 2, none⟩ = some (.int .i64 bt) := hR1.cell 2
  have k3 : w1.cell? ⟨w.heap.size, 3, none⟩ = some (.int .i64 rm) := hR1.cell 3
  have hz1' : w.heap.size < w1.heap.size := hR1.lt
  have hmm := @run_makeMap Tryz.prog
  go_wp2_with fail
  go_region_held3 (fun w' => w'.cell? ⟨w.heap.size, 0, none⟩ = some (.int .i64 mn) ∧ w'.cell? ⟨w.heap.size, 1, none⟩ = some (.int .i64 mx) ∧ w'.cell? ⟨w.heap.size, 2, none⟩ = some (.int .i64 bt) ∧ w'.cell? ⟨w.heap.size, 3, none⟩ = some (.int .i64 rm)) (first | go_keep | (refine ⟨?_, ?_, ?_, ?_⟩ <;> first | exact cell_kept (by first | assumption | simp [*]) hB5 | exact cell_kept (by first | assumption | simp [*]) hB4 | exact cell_kept (by first | assumption | simp [*]) hB3 | exact cell_kept (by first | assumption | simp [*]) hB2)) (first
    | (go_at_call 36; refine (by_any mn mx bt rm _).mono ?_; rintro e w2 ⟨b, rfl, hb, hr2, hB2⟩)
    | (go_at_call 59; refine (shelfNew_any _).mono ?_; rintro e w3 ⟨m, p, rfl, hm, hp, hr3, hm3, hB3⟩)
    | (go_at_call 61; refine (head_any mn mx bt rm _ (by omega)).mono ?_; rintro e w4 ⟨rfl, hB4⟩)
    | (go_at_call 60; refine (append_frame _ [] _ _ _ (Buf.nil _ _) (Nat.le_refl _) (by rw [hhs]; exact hh1) (by rw [hhs]; omega) (by simp)).mono ?_; rintro e w5 ⟨v5, rfl, hb5, hB5⟩; obtain ⟨g5, cap5, rfl, hg5, hg5'⟩ := hb5.formNe (by simp [frameL, lenL])))
  all_goals
    simp only [bl_mk, List.nil_append] at hb5 ⊢
    go_wp2
    go_ret2
    have g12 : Grow w w2 := by first | exact Grow.trans hB1'.drew hB2 | exact Grow.trans (Grow.trans hB1'.drew (gmap _)) hB2
    have g23 : Grow w2 w3 := by first | exact hB3 | exact Grow.trans (gmap w2) hB3
    have g34 : Grow w3 w4 := by first | exact hB4 | exact Grow.trans (gmap w3) hB4
    have g45 : Grow w4 w5 := by first | exact hB5 | exact Grow.trans (gmap w4) hB5
    have z12 := g12.size
    have z23 := g23.size
    have z34 := g34.size
    have z45 := g45.size
    have zm : m < w3.heap.size := (Array.getElem?_eq_some_iff.1 hm3).1
    have y2 := hB2.size
    have y3 := hB3.size
    have y4 := hB4.size
    have y5 := hB5.size
    simp only [World.size_alloc, heap_drewW] at y2 y3 y4 y5 hm hp hb
    have hb5' := hb5.low (show w.heap.size ≤ _ by first | omega | (simp only [World.size_alloc]; omega))
    first
      | exact ⟨_, rfl, new_end (wf := w5) hok' (by omega) hr2 (g23.trans (g34.trans g45)) (by omega) hr3 hm3 (g34.trans g45) (by omega) (by omega) hb5' (Grow.refl _) (mapAt (W := w1.drew) hB2 (g23.trans (g34.trans g45))) (by first | omega | (simp only [heap_drewW]; omega)) (by first | omega | (simp only [heap_drewW]; omega)), (g12.trans (g23.trans (g34.trans g45))).alloc _⟩
      | exact ⟨_, rfl, new_end (wf := w5) hok' (by omega) hr2 (g23.trans (g34.trans g45)) (by omega) hr3 hm3 (g34.trans g45) (by omega) (by omega) hb5' (Grow.refl _) (mapAt hB3 (g34.trans g45)) (by omega) (by omega), (g12.trans (g23.trans (g34.trans g45))).alloc _⟩
      | exact ⟨_, rfl, new_end (wf := w5) hok' (by omega) hr2 (g23.trans (g34.trans g45)) (by omega) hr3 hm3 (g34.trans g45) (by omega) (by omega) hb5' (Grow.refl _) (mapAt hB4 g45) (by omega) (by omega), (g12.trans (g23.trans (g34.trans g45))).alloc _⟩
      | exact ⟨_, rfl, new_end (wf := w5) hok' (by omega) hr2 (g23.trans (g34.trans g45)) (by omega) hr3 hm3 (g34.trans g45) (by omega) (by omega) hb5' (Grow.refl _) (mapAt hB5 (Grow.refl _)) (by omega) (by omega), (g12.trans (g23.trans (g34.trans g45))).alloc _⟩
      | exact ⟨w5.heap.size + 1, rfl, (show w5.heap.size + 1 = (w5.alloc (.map #[] 0)).heap.size by simp) ▸ new_end (wf := w5.alloc (.map #[] 0)) hok' (by simp; omega) hr2 ((g23.trans (g34.trans g45)).alloc _) (by omega) hr3 hm3 ((g34.trans g45).alloc _) (by omega) (by omega) hb5' (gmap _) (heap_alloc_last w5 _) (by omega) (by omega), ((g12.trans (g23.trans (g34.trans g45))).alloc _).alloc _⟩

set_option maxRecDepth 100000 in
theorem new_bad (mn mx bt rm : Int) (w : World) (hok : okB mn mx bt rm = false) :
    Calls Tryz.prog 32 #[.agg #[.int .i64 mn, .int .i64 mx, .int .i64 bt, .int .i64 rm]] w fun e w' => e = .returned (.tuple #[.pointer none, .int .i64 1]) ∧ Grow w w' := by
  have hnot := not_law
  go_enter Tryz.func32, Tryz.ntmps32
  go_wp2_with fail
  refine (allowed_any mn mx bt rm _).mono ?_
  rintro e w1 ⟨rfl, hB1⟩
  rw [hok]
  go_wp2
  go_ret2
  exact ⟨rfl, ((Below.refl _ _).alloc (Nat.le_refl _) _).trans (hB1.mono (by simp))⟩

end Go.Proofs.YtheichphnppagaaGreat
namespace Go.Proofs.YtheichphnppagaaGreat
open Go.RowKit
attribute [local go_sem ↓] Go.wp_at_zero Go.wp_at_succ

/-- The store that bytes tell. -/
def openL (s : List UInt8) : Option St := match unfr s with
  | none => none
  | some (x, k) => match headL? x with
    | none => none
    | some l => if okB (l.getD 0 0 : Nat) (l.getD 1 0 : Nat) (l.getD 2 0 : Nat) (l.getD 3 0 : Nat) = true then some (openG (s.length - k + 1) (St.new (l.getD 0 0) (l.getD 1 0) (l.getD 2 0) (l.getD 3 0)) (s.drop k)) else none

theorem openL_none {s : List UInt8} (h : unfr s = none) : openL s = none := by unfold openL; rw [h]
theorem openL_head {s x : List UInt8} {k : Nat} (h : unfr s = some (x, k)) (h2 : headL? x = none) : openL s = none := by unfold openL; rw [h]; simp only [h2]
theorem openL_bad {s x : List UInt8} {k : Nat} {l : List Nat} (h : unfr s = some (x, k)) (h2 : headL? x = some l) (h3 : okB (l.getD 0 0 : Nat) (l.getD 1 0 : Nat) (l.getD 2 0 : Nat) (l.getD 3 0 : Nat) = false) : openL s = none := by
  unfold openL; rw [h]; simp only [h2]; rw [if_neg]; rw [h3]; exact Bool.false_ne_true
theorem openL_ok {s x : List UInt8} {k : Nat} {l : List Nat} (h : unfr s = some (x, k)) (h2 : headL? x = some l) (h3 : okB (l.getD 0 0 : Nat) (l.getD 1 0 : Nat) (l.getD 2 0 : Nat) (l.getD 3 0 : Nat) = true) :
    openL s = some (openG (s.length - k + 1) (St.new (l.getD 0 0) (l.getD 1 0) (l.getD 2 0) (l.getD 3 0)) (s.drop k)) := by
  unfold openL; rw [h]; simp only [h2]; rw [if_pos h3]

theorem Sane.new {mn mx bt rm : Nat} (hok : okB (mn : Nat) (mx : Nat) (bt : Nat) (rm : Nat) = true) : Sane (St.new mn mx bt rm) := by
  have hok' : Ok mn mx bt rm := of_decide_eq_true hok
  unfold Ok at hok'
  have hh2 := headL_len mn mx bt rm (by omega)
  have hf : (St.new mn mx bt rm).text.length = (headL mn mx bt rm).length + 10 := by
    show (frameL _).length = _
    unfold frameL
    have e1 : (sumL (lenL (headL mn mx bt rm).length)).length = 4 := rfl
    have e2 : (sumL (headL mn mx bt rm)).length = 4 := rfl
    have e3 : (lenL (headL mn mx bt rm).length).length = 2 := rfl
    simp only [List.length_append, e1, e2, e3]
    omega
  refine ⟨?_, ?_, ?_, ?_, ?_, ?_, List.nodup_nil⟩
  · rw [hf]; show _ ≤ rm; omega
  · show rm ≤ _; omega
  · show mx ≤ _; omega
  · show 0 + 0 ≤ _; omega
  · intro c hc; cases hc
  · intro c hc; cases hc

theorem headV_nil : headV [] = .tuple #[.agg #[.int .i64 0, .int .i64 0, .int .i64 0, .int .i64 0], .bool false] := headV_no (by rfl)

set_option maxRecDepth 100000 in
set_option maxHeartbeats 1600000 in
theorem open_any (s : ByteArray) (w : World) :
    Calls Tryz.prog 23 #[.string s] w fun e w' =>
      (openL (bl s) = none ∧ e = .returned (.tuple #[.pointer none, .int .i64 2]) ∧ Grow w w') ∨
      (∃ p st, openL (bl s) = some st ∧ e = .returned (.tuple #[.pointer (some ⟨p, 0, none⟩), .int .i64 0]) ∧ Sto w.heap.size w' p st ∧ Sane st ∧ Grow w w') := by
  have hnot := not_law
  go_enter Tryz.func23, Tryz.ntmps23
  go_wp2_with fail
  refine (first_frame s _).mono ?_
  rintro e w1 ⟨rfl, hB1⟩
  have G1 : Grow w w1 := hB1
  cases hu : unfr (bl s) with
  | none =>
    have O : Hid (openL (bl s) = none) := openL_none hu
    unfold firstV
    rw [hu]
    clear hu
    go_wp2_with fail
    refine (readHead_any ⟨#[]⟩ _ (by show 0 ≤ _; omega)).mono ?_
    rintro e w2 ⟨rfl, hB2⟩
    rw [show bl (ByteArray.mk #[]) = [] from rfl, headV_nil]
    have hB3 : Grow w2 (w2.alloc (.cells #[.int .i64 0, .int .i64 0, .int .i64 0, .int .i64 0] 26)) := (Grow.refl w2).alloc _
    go_wp2
    go_ret2
    exact .inl ⟨O.out, rfl, Grow.trans (Grow.trans G1 hB2) hB3⟩
  | some x =>
    obtain ⟨x, k⟩ := x
    obtain ⟨u1, u2, u3⟩ := unfr_len hu
    rw [bl_length] at u1
    have U : Hid (unfr (bl s) = some (x, k)) := hu
    unfold firstV
    rw [hu]
    clear hu
    have hk1 : (k : Int) ≤ (s.size : Int) := by omega
    go_wp2_with fail
    refine (readHead_any ⟨x.toArray⟩ _ (by rw [size_mk]; omega)).mono ?_
    rintro e w2 ⟨rfl, hB2⟩
    have G2 : Grow w w2 := Grow.trans G1 hB2
    rw [bl_mk]
    cases hh : headL? x with
    | none =>
      have O : Hid (openL (bl s) = none) := openL_head U.out hh
      rw [headV_no hh]
      clear hh
      have hB3 : Grow w2 (w2.alloc (.cells #[.int .i64 0, .int .i64 0, .int .i64 0, .int .i64 0] 26)) := (Grow.refl w2).alloc _
      go_wp2
      go_ret2
      exact .inl ⟨O.out, rfl, Grow.trans G2 hB3⟩
    | some l =>
      have HH : Hid (headL? x = some l) := hh
      rw [headV_yes hh]
      clear hh
      unfold confV
      obtain ⟨a, ha⟩ : ∃ a, l.getD 0 0 = a := ⟨_, rfl⟩
      obtain ⟨b, hb⟩ : ∃ b, l.getD 1 0 = b := ⟨_, rfl⟩
      obtain ⟨c, hc⟩ : ∃ c, l.getD 2 0 = c := ⟨_, rfl⟩
      obtain ⟨d, hd⟩ : ∃ d, l.getD 3 0 = d := ⟨_, rfl⟩
      have HA : Hid (l.getD 0 0 = a ∧ l.getD 1 0 = b ∧ l.getD 2 0 = c ∧ l.getD 3 0 = d) := ⟨ha, hb, hc, hd⟩
      rw [ha, hb, hc, hd]
      clear ha hb hc hd
      have G3 : Grow w (w2.alloc (.cells #[.int .i64 a, .int .i64 b, .int .i64 c, .int .i64 d] 26)) := G2.alloc _
      cases hok : okB (a : Nat) (b : Nat) (c : Nat) (d : Nat) with
      | false =>
        have O : Hid (openL (bl s) = none) := openL_bad U.out HH.out (by obtain ⟨e1, e2, e3, e4⟩ := HA.out; rw [e1, e2, e3, e4]; exact hok)
        go_wp2_with fail
        refine (new_bad a b c d _ hok).mono ?_
        rintro e w4 ⟨rfl, hB4⟩
        clear hok
        go_wp2
        go_ret2
        exact .inl ⟨O.out, rfl, Grow.trans G3 hB4⟩
      | true =>
        have O : Hid (openL (bl s) = some (openG ((bl s).length - k + 1) (St.new a b c d) ((bl s).drop k))) := by
          obtain ⟨e1, e2, e3, e4⟩ := HA.out
          have := openL_ok U.out HH.out (by rw [e1, e2, e3, e4]; exact hok)
          rw [e1, e2, e3, e4] at this
          exact this
        have HS := Sane.new hok
        go_wp2_with fail
        refine (new_ok a b c d _ hok).mono ?_
        rintro e w4 ⟨p, rfl, hS4, hB4⟩
        clear hok
        have G4 := Grow.trans G3 hB4
        have hS4' : Sto w.heap.size w4 p (St.new a b c d) := hS4.low G3.size
        clear hS4
        have hz4 := G4.size
        go_wp2_with fail
        refine (takeFrames_any (s.extract k s.size) w.heap.size p (St.new a b c d) _ hS4' hz4 HS).mono ?_
        rintro e w5 ⟨rfl, hB5, hS5, hsa⟩
        rw [bl_from, show (s.extract k s.size).size + 1 = (bl s).length - k + 1 by rw [bl_length]; simp] at hS5 hsa
        go_wp2
        go_ret2
        exact .inr ⟨p, _, O.out, rfl, hS5, hsa, Below.trans G4 hB5⟩

end Go.Proofs.YtheichphnppagaaGreat
