/- Opens: Game2. -/
import Derived.Test.YtheichphnppagaaGreatGame
import Derived.Test.YtheichphnppagaaGreatRList2
namespace Go.Proofs.YtheichphnppagaaGreat
open Go.RowKit
attribute [local go_sem ↓] Go.wp_at_zero Go.wp_at_succ

set_option maxRecDepth 100000 in
set_option maxHeartbeats 3200000 in
theorem game_two (b B p q : Nat) (st : St) (all : Value) (s : ByteArray) (x : List UInt8 × List Nat) (k : Int) (w : World) (hr : Row w b 47 (gmL (.pointer (some ⟨p, 0, none⟩)) (.pointer (some ⟨q, 0, none⟩)) all)) (hS : Sto B w p st) (hR : Rf B w q st) (hsa : Sane st)
    (hB : B ≤ w.heap.size) (hx : x ∈ st.streams) (hn : bl s = x.1) :
    Calls Tryz.prog 18 #[.pointer (some ⟨b, 0, none⟩), .agg #[.int .i64 2, .int .i64 0, .int .i64 0, .string s, .string ⟨#[]⟩], .int .i64 k] w fun e w' => e = .returned (.bool true) ∧ Grow w w' := by
  have hnot := not_law
  obtain ⟨W, hW⟩ : ∃ W, w.alloc (.cells #[.int .i64 2, .int .i64 0, .int .i64 0, .string s, .string ⟨#[]⟩] 51) = W := ⟨_, rfl⟩
  have g1 : Grow w W := by rw [← hW]; exact (Grow.refl w).alloc _
  have hbox : Row W w.heap.size 51 [.int .i64 2, .int .i64 0, .int .i64 0, .string s, .string ⟨#[]⟩] := by rw [← hW]; exact Row.new w 51 _
  have hr1 := hr.grow g1
  have hS1 := hS.grow g1
  have hR1 := hR.grow g1
  have hz1 := g1.size
  obtain ⟨z, hz, hbz, _⟩ := str_name (joinL st.chunks x.2)
  have cS := fun W' (hS' : Sto B W' p st) (hB' : B ≤ W'.heap.size) => restore_any s B p st x W' hS' hB' hsa hx hn
  have cR := fun W' (hR' : Rf B W' q st) => refRestore_any s B q st x W' hR' hsa hx hn
  rw [hz] at cS cR
  have c0 : W.cell? ⟨b, 0, none⟩ = some (.pointer (some ⟨p, 0, none⟩)) := hr1.cell 0
  have c3 : W.cell? ⟨b, 3, none⟩ = some (.pointer (some ⟨q, 0, none⟩)) := hr1.cell 3
  have d0 : W.cell? ⟨w.heap.size, 0, none⟩ = some (.int .i64 2) := hbox.cell 0
  have d1 : W.cell? ⟨w.heap.size, 1, none⟩ = some (.int .i64 0) := hbox.cell 1
  have d3 : W.cell? ⟨w.heap.size, 3, none⟩ = some (.string s) := hbox.cell 3
  go_enter Tryz.func18, Tryz.ntmps18
  go_wp2_with fail
  clear hW
  refine (pick_zero _).mono ?_
  rintro e w9 ⟨rfl, ew⟩
  rw [ew]
  clear ew w9
  go_wp2_with fail
  go_region_held3 (fun w' => w'.cell? ⟨b, 0, none⟩ = some (.pointer (some ⟨p, 0, none⟩)) ∧ w'.cell? ⟨w.heap.size, 3, none⟩ = some (.string s)) (first | exact ⟨c0, d3⟩ | exact ⟨cell_kept c0 G2, cell_kept d3 G2⟩ | go_keep)
    (first | (go_at_call 28; refine (cS _ (by first | exact hS1 | exact hS1.grow (Grow.refl _).drew) (by first | exact Nat.le_trans hB hz1 | (simp; omega))).mono ?_; rintro e w2 ⟨rfl, g2⟩; have G2 : Grow W w2 := (by first | exact g2 | exact Grow.trans (Grow.refl W).drew g2)))
  all_goals
    have e0 := cell_kept c3 G2
    have e3 := cell_kept d3 G2
    have hR2 := hR1.grow G2
    go_wp2_with fail
  all_goals
    go_region_held3 (fun w' => w'.cell? ⟨b, 3, none⟩ = some (.pointer (some ⟨q, 0, none⟩)) ∧ w'.cell? ⟨w.heap.size, 3, none⟩ = some (.string s)) (first | exact ⟨e0, e3⟩ | exact ⟨cell_kept e0 G3, cell_kept e3 G3⟩ | go_keep)
      (first | (go_at_call 42; refine (cR _ (by first | exact hR2 | exact hR2.grow (Grow.refl _).drew)).mono ?_; rintro e w3 ⟨rfl, g3⟩; have G3 : Grow w2 w3 := (by first | exact g3 | exact Grow.trans (Grow.refl w2).drew g3)))
  all_goals
    go_wp2
    go_ret
    exact ⟨rfl, Grow.trans g1 (Grow.trans G2 G3)⟩

end Go.Proofs.YtheichphnppagaaGreat
