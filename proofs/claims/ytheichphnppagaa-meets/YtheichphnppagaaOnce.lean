/- THE WALKS of sync.Once over the table of a Cutter, one goroutine. -/
import Derived.Test.YtheichphnppagaaTable
import Derived.Test.YtheichphnppagaaBlocks
import Derived.Test.YtheichphnppagaaLocks
import Derived.Deep.RegionWith
namespace Go.Proofs.Ytheichphnppagaa
open Go.RowKit

/-- A Cutter's cells. -/
def cutL (mn mx bt rm d s : Int) (t : List Value) : List Value := [.int .i64 mn, .int .i64 mx, .int .i64 bt, .int .i64 rm, .int .u32 d, .int .i32 s, .int .u32 0] ++ t

theorem cutL_length (mn mx bt rm d s : Int) (t : List Value) : (cutL mn mx bt rm d s t).length = 7 + t.length := by simp [cutL]; omega

theorem tab_there {w : World} {b : Nat} {T : TypeId} {mn mx bt rm d s : Int} {t : List Value} (h : Row w b T (cutL mn mx bt rm d s t)) (ht : t.length = 16) : w.there b 7 16 := fun j hj =>
  ⟨by rw [h.cell, List.getElem?_eq_getElem (by rw [cutL_length]; omega)]; rfl, h.free _⟩
theorem tab_one : ((tabL 16).toArray).all (·.oneCell') = true := by
  refine all_oneCell_toArray (fun v hv => ?_)
  obtain ⟨j, _, rfl⟩ := List.mem_map.1 hv
  split <;> rfl
theorem tab_store {w : World} {b : Nat} {T : TypeId} {mn mx bt rm d s : Int} {t : List Value} (h : Row w b T (cutL mn mx bt rm d s t)) (ht : t.length = 16) :
    (storeCells ⟨b, 7, none⟩ (tabL 16)).run Try.prog w = .ok () (w.setCells b 7 (tabL 16)) := by
  have hl := tabL_length 16
  have h1 := tab_there h ht
  exact run_storeCells_cells b 7 (tabL 16) 0 w (fun j hj => (h1 j (by omega)).1) (fun j hj => (h1 j (by omega)).2) (fun v hv => by
    obtain ⟨j, _, rfl⟩ := List.mem_map.1 hv
    split <;> rfl)
theorem tab_laid {w : World} {b : Nat} {T : TypeId} {mn mx bt rm d s : Int} {t : List Value} (h : Row w b T (cutL mn mx bt rm d s t)) (ht : t.length = 16) : Row (w.setCells b 7 (tabL 16)) b T (cutL mn mx bt rm d s (tabL 16)) :=
  have := Row.setCells (tabL 16) [.int .i64 mn, .int .i64 mx, .int .i64 bt, .int .i64 rm, .int .u32 d, .int .i32 s, .int .u32 0] t w h (by rw [ht, tabL_length])
  this
theorem Try.size67 : (Try.prog.info? 67).map (·.size) = some 16 := by kernel_rfl

set_option maxRecDepth 100000 in
set_option maxHeartbeats 1600000 in
/-- The function that is handed to Do: the table is worked out and laid. -/
theorem closure_any (b : Nat) (pl : Addr) (mn mx bt rm d s : Int) (t : List Value) (w : World) (hp : w.cell? pl = some (.pointer (some ⟨b, 4, none⟩)))
    (hr : Row w b 71 (cutL mn mx bt rm d s t)) (ht : t.length = 16) :
    Calls Try.prog 45 #[.pointer (some pl)] w fun e w' => e = .returned (.tuple #[]) ∧ Row w' b 71 (cutL mn mx bt rm d s (tabL 16)) ∧ Touch b w w' := by
  have hpl := World.block_lt_of_cell? w _ hp
  go_enter Try.func45, Try.ntmps45
  go_wp2_with fail
  go_region_with (go_at_call 46; refine (workOut_any _).mono ?_; rintro e w1 ⟨rfl, hB1⟩; have hp1 : w1.cell? pl = some (.pointer (some ⟨b, 4, none⟩)) := (hB1.cell (by simpa using hpl)).trans (by simpa using hp); have hr1 : Row w1 b 71 (cutL mn mx bt rm d s t) := Row.below (w := w.drew) hr hB1 hr.lt; have hst := tab_store hr1 ht)
  all_goals (go_end0; exact ⟨rfl, tab_laid hr1 ht, Touch.setCells _ _ _ ((Touch.refl b w).drew.below hB1)⟩)

set_option maxRecDepth 100000 in
set_option maxHeartbeats 1600000 in
theorem slow_any (b : Nat) (pl : Addr) (mn mx bt rm : Int) (t : List Value) (w : World) (hpb : pl.block ≠ b) (hp : w.cell? pl = some (.pointer (some ⟨b, 4, none⟩)))
    (hr : Row w b 71 (cutL mn mx bt rm 0 0 t)) (ht : t.length = 16) :
    Calls Try.prog 49 #[.pointer (some ⟨b, 4, none⟩), .func (.func 45) #[] #[.pointer (some pl)]] w fun e w' => e = .returned (.tuple #[]) ∧ Row w' b 71 (cutL mn mx bt rm 1 0 (tabL 16)) ∧ Touch b w w' := by
  have h0 : w.cell? ⟨b, 4, none⟩ = some (.int .u32 0) := hr.cell 4
  have h1 : w.cell? ⟨b, 5, none⟩ = some (.int .i32 0) := hr.cell 5
  have f1 := hr.free 5
  have hr1 : Row (w.setCell ⟨b, 5, none⟩ (.int .i32 1)) b 71 (cutL mn mx bt rm 0 1 t) := hr.setCell 5 _
  have hl := run_call_load (P := Try.prog) Try.func50 (by kernel_rfl) (by kernel_rfl) (by kernel_rfl) .u32 (by kernel_rfl) (w := w.setCell ⟨b, 5, none⟩ (.int .i32 1)) (a := ⟨b, 4, none⟩) (x := 0) (hr1.cell 4)
  have hp1 : (w.setCell ⟨b, 5, none⟩ (.int .i32 1)).cell? pl = some (.pointer (some ⟨b, 4, none⟩)) := (World.cell?_setCell_other _ ⟨b, 5, none⟩ pl _ (fun h => hpb (by rw [← h]))).trans hp
  have hnot : ∀ (x : Bool) (w : World), (Op.unary .not (.bool x)).run Try.prog w = .ok (.bool (!x)) w := fun _ _ => rfl
  go_enter_defers Try.func49, Try.ntmps49
  go_wp2_with (first | (go_at_call 51; refine (lock_free ⟨b, 5, none⟩ _ h1 f1).mono ?_; rintro e w' ⟨rfl, rfl⟩) | (go_at_call 48; go_in) | (go_at_call 45; refine (closure_any b pl mn mx bt rm 0 1 t _ hp1 hr1 ht).mono ?_; rintro e w2 ⟨rfl, hr2, ht2⟩))
  -- THE DOOR: two deferred calls, the last laid first
  refine leaves_cons (f := 53) (args := #[.pointer (some ⟨b, 4, none⟩), .bool true]) (by simp) (by simp [go_sem]) ?_
  refine (store_deferred ⟨b, 4, none⟩ (.int .u32 0) .returning _ (hr2.cell 4) (hr2.free 4)).mono ?_
  rintro e u' w'' ⟨rfl, rfl, rfl⟩
  have hr3 : Row (w2.drew.setCell ⟨b, 4, none⟩ (.int .u32 1)) b 71 (cutL mn mx bt rm 1 1 (tabL 16)) := Row.setCell (w := w2.drew) hr2 4 _
  refine leaves_cons (f := 52) (args := #[.pointer (some ⟨b, 5, none⟩)]) (by simp [settle]) (by simp [go_sem]) ?_
  refine (unlock_deferred ⟨b, 5, none⟩ _ _ (hr3.cell 5) (hr3.free 5)).mono ?_
  rintro e u' w'' ⟨rfl, rfl, rfl⟩
  have hr4 : Row ((w2.drew.setCell ⟨b, 4, none⟩ (.int .u32 1)).setCell ⟨b, 5, none⟩ (.int .i32 0)) b 71 (cutL mn mx bt rm 1 0 (tabL 16)) := hr3.setCell 5 _
  have ht4 : Touch b w ((w2.drew.setCell ⟨b, 4, none⟩ (.int .u32 1)).setCell ⟨b, 5, none⟩ (.int .i32 0)) := ((((Touch.refl b w).setCell 5 _).trans ht2).drew.setCell 4 _).setCell 5 _
  exact ⟨_, results_none rfl _ _ _, rfl, hr4, ht4⟩

set_option maxRecDepth 100000 in
set_option maxHeartbeats 1600000 in
theorem do_first (b : Nat) (pl : Addr) (mn mx bt rm : Int) (t : List Value) (w : World) (hpb : pl.block ≠ b) (hp : w.cell? pl = some (.pointer (some ⟨b, 4, none⟩)))
    (hr : Row w b 71 (cutL mn mx bt rm 0 0 t)) (ht : t.length = 16) :
    Calls Try.prog 44 #[.pointer (some ⟨b, 4, none⟩), .func (.func 45) #[] #[.pointer (some pl)]] w fun e w' => e = .returned (.tuple #[]) ∧ Row w' b 71 (cutL mn mx bt rm 1 0 (tabL 16)) ∧ Touch b w w' := by
  have hl := run_call_load (P := Try.prog) Try.func50 (by kernel_rfl) (by kernel_rfl) (by kernel_rfl) .u32 (by kernel_rfl) (w := w) (a := ⟨b, 4, none⟩) (x := 0) (hr.cell 4)
  have hnot : ∀ (x : Bool) (w : World), (Op.unary .not (.bool x)).run Try.prog w = .ok (.bool (!x)) w := fun _ _ => rfl
  go_enter Try.func44, Try.ntmps44
  go_wp2_with (first | (go_at_call 49; refine (slow_any b pl mn mx bt rm t _ hpb hp hr ht).mono ?_; rintro e w2 ⟨rfl, hr2, ht2⟩) | (go_at_call 48; go_in))
  go_end0
  exact ⟨rfl, hr2, ht2⟩

set_option maxRecDepth 100000 in
set_option maxHeartbeats 1600000 in
theorem do_done (b : Nat) (fv : Value) (mn mx bt rm : Int) (t : List Value) (w : World) (hr : Row w b 71 (cutL mn mx bt rm 1 0 t)) :
    Calls Try.prog 44 #[.pointer (some ⟨b, 4, none⟩), fv] w fun e w' => e = .returned (.tuple #[]) ∧ w' = w := by
  have hl := run_call_load (P := Try.prog) Try.func50 (by kernel_rfl) (by kernel_rfl) (by kernel_rfl) .u32 (by kernel_rfl) (w := w) (a := ⟨b, 4, none⟩) (x := 1) (hr.cell 4)
  have hnot : ∀ (x : Bool) (w : World), (Op.unary .not (.bool x)).run Try.prog w = .ok (.bool (!x)) w := fun _ _ => rfl
  go_enter Try.func44, Try.ntmps44
  go_wp2
  go_end0
  exact ⟨rfl, rfl⟩

/-- A Cutter at rest: its table is not yet worked out, or it is. -/
def Rest (w : World) (b : Nat) (mn mx bt rm : Int) : Prop := (∃ t : List Value, t.length = 16 ∧ Row w b 71 (cutL mn mx bt rm 0 0 t)) ∨ Row w b 71 (cutL mn mx bt rm 1 0 (tabL 16))

set_option maxRecDepth 100000 in
set_option maxHeartbeats 1600000 in
theorem get_any (b : Nat) (mn mx bt rm : Int) (w : World) (h : Rest w b mn mx bt rm) :
    Calls Try.prog 39 #[.pointer (some ⟨b, 4, none⟩)] w fun e w' => e = .returned (.pointer (some ⟨b, 7, none⟩)) ∧ Row w' b 71 (cutL mn mx bt rm 1 0 (tabL 16)) ∧ Touch b w w' := by
  have hmf : ∀ (fn : Fn) (first cap : Array Value) (w : World), (Instr.makeFunc fn first cap).run Try.prog w = .ok (.func fn first cap) w := fun _ _ _ _ => rfl
  have hb : b < w.heap.size := by rcases h with ⟨t, _, h⟩ | h <;> exact h.lt
  have p0 : (w.alloc (.cells #[.pointer (some ⟨b, 4, none⟩)] 85)).cell? ⟨w.heap.size, 0, none⟩ = some (.pointer (some ⟨b, 4, none⟩)) := by simp
  have hnew : Row (w.alloc (.cells #[.pointer (some ⟨b, 4, none⟩)] 85)) w.heap.size 85 [.pointer (some ⟨b, 4, none⟩)] := Row.new w 85 [.pointer (some ⟨b, 4, none⟩)]
  have hB : Below w.heap.size w (w.alloc (.cells #[.pointer (some ⟨b, 4, none⟩)] 85)) := (Below.refl _ _).alloc (Nat.le_refl _) _
  have hT := (Touch.refl b w).alloc (.cells #[.pointer (some ⟨b, 4, none⟩)] 85)
  rcases h with ⟨t, ht, hr⟩ | hr
  · have hr1 := hr.below hB hb
    go_enter Try.func39, Try.ntmps39
    go_wp2_with (go_at_call 44; refine (do_first b ⟨w.heap.size, 0, none⟩ mn mx bt rm t _ (by simp; omega) p0 hr1 ht).mono ?_; rintro e w2 ⟨rfl, hr2, ht2⟩; have pE : w2.cell? ⟨w.heap.size, 0, none⟩ = some (.pointer (some ⟨b, 4, none⟩)) := (hnew.touch ht2 (by omega)).cell 0)
    go_ret
    exact ⟨rfl, hr2, hT.trans ht2⟩
  · have hr1 := hr.below hB hb
    go_enter Try.func39, Try.ntmps39
    go_wp2_with (go_at_call 44; refine (do_done b _ mn mx bt rm _ _ hr1).mono ?_; rintro e w2 ⟨rfl, rfl⟩)
    go_ret
    exact ⟨rfl, hr1, hT⟩

end Go.Proofs.Ytheichphnppagaa
