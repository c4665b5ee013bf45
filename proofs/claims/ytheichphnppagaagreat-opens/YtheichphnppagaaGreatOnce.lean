/- Opens: Locks, Once. -/
import Derived.Test.YtheichphnppagaaGreatPush
import Derived.Defers
import Derived.Laws.Pointers
import Derived.Laws.LoneSync
import Derived.RegionCalls
import Derived.Laws.NewBlocks
import Derived.Conc.MuLone
import Derived.Test.YtheichphnppagaaGreatTable
import Derived.Test.YtheichphnppagaaGreatWrite
import Derived.Deep.RegionWith
namespace Go.Proofs.YtheichphnppagaaGreat
open Go.RowKit

abbrev muLink : Go.Conc.Locks.MuLink := { lock := 173, unlock := 174, ilock := 190, iunlock := 191, lockSlow := 200, unlockSlow := 202, disable := 152, enable := 154, acquire := 155, relMerge := 176, cas32 := 199, add32 := 201, tMutex := 121, tIMutex := 119, tPMutex := 230, tPIMutex := 235, tPI32 := 237, tUP := 200, tNoCopy := 113, tU32 := 115 }
theorem muLib : Go.Conc.Locks.MuLib Tryz.prog muLink :=
  ⟨Tryz.func173, Tryz.func174, Tryz.func190, Tryz.func191, Tryz.func152, Tryz.func154, Tryz.func155, Tryz.func176, Tryz.func199, Tryz.func201, Tryz.underlying119, Tryz.runUnderlying119, Tryz.sizeOf119, Tryz.isAgg119, Tryz.zeroValue119, Tryz.underlying121, Tryz.runUnderlying121, Tryz.sizeOf121, Tryz.isAgg121, Tryz.zeroValue121, Tryz.underlying230, Tryz.runUnderlying230, Tryz.sizeOf230, Tryz.isAgg230, Tryz.zeroValue230, Tryz.underlying235, Tryz.runUnderlying235, Tryz.sizeOf235, Tryz.isAgg235, Tryz.zeroValue235, Tryz.underlying237, Tryz.runUnderlying237, Tryz.sizeOf237, Tryz.isAgg237, Tryz.zeroValue237, Tryz.underlying200, Tryz.runUnderlying200, Tryz.sizeOf200, Tryz.isAgg200, Tryz.zeroValue200, Tryz.underlying113, Tryz.runUnderlying113, Tryz.sizeOf113, Tryz.isAgg113, Tryz.zeroValue113, Tryz.underlying21, Tryz.runUnderlying21, Tryz.sizeOf21, Tryz.isAgg21, Tryz.zeroValue21, (by kernel_rfl)⟩

theorem store_deferred (a : Addr) (x : Value) (u : FrameMode) (w : World) (hc : w.cell? a = some x) (hz : w.frozen? a = false) :
    CallsD Tryz.prog 175 #[.pointer (some a), .bool true] u w fun e u' w' => u' = u ∧ (e = .returned (.tuple #[]) ∧ w' = w.drew.setCell a (.int .u32 1)) := by
  have hc' : w.drew.cell? a = some x := by go_simp
  have hz' : w.drew.frozen? a = false := by go_simp
  have hst := run_call_store (P := Tryz.prog) Tryz.func192 (by kernel_rfl) (by kernel_rfl) (by kernel_rfl) (by kernel_rfl) (k := .u32) (y := 1) hc' hz'
  go_enter_d Tryz.func175, Tryz.ntmps175
  go_wp2
  go_region_calls
  all_goals (go_end0; exact ⟨rfl, rfl⟩)

theorem unlock_deferred (a : Addr) (u : FrameMode) (w : World) (hc : w.cell? a = some (.int .i32 1)) (hz : w.frozen? a = false) :
    CallsD Tryz.prog 174 #[.pointer (some a)] u w fun e u' w' => u' = u ∧ (e = .returned (.tuple #[]) ∧ w' = w.setCell a (.int .i32 0)) :=
  Go.MuLone.unlock_deferred muLib a u w hc hz

theorem lock_free (a : Addr) (w : World) (hc : w.cell? a = some (.int .i32 0)) (hz : w.frozen? a = false) :
    Calls Tryz.prog 173 #[.pointer (some a)] w fun e w' => e = .returned (.tuple #[]) ∧ w' = w.setCell a (.int .i32 1) :=
  Go.MuLone.lock_free muLib a w hc hz

end Go.Proofs.YtheichphnppagaaGreat
namespace Go.Proofs.YtheichphnppagaaGreat
open Go.RowKit

/-- A Cutter's cells. -/
def cutL (mn mx bt rm d s : Int) (t : List Value) : List Value := [.int .i64 mn, .int .i64 mx, .int .i64 bt, .int .i64 rm, .int .u32 d, .int .i32 s, .int .u32 0] ++ t

theorem cutL_length (mn mx bt rm d s : Int) (t : List Value) : (cutL mn mx bt rm d s t).length = 7 + t.length := by simp [cutL]; omega

theorem tab_there {w : World} {b : Nat} {T : TypeId} {mn mx bt rm d s : Int} {t : List Value} (h : Row w b T (cutL mn mx bt rm d s t)) (ht : t.length = 16) : w.there b 7 16 := fun j hj =>
  ⟨by rw [h.cell, List.getElem?_eq_getElem (by rw [cutL_length]; omega)]; rfl, h.free _⟩
theorem tab_one : ((tabL 16).toArray).all (·.oneCell') = true := by
  refine all_oneCell_toArray (fun v hv => ?_)
  obtain ⟨j, _, rfl⟩ := List.mem_map.1 hv
  split <;> rfl
theorem tab_store {w : World} {b : Nat} {T : TypeId} {mn mx bt rm d s : Int} {t : List Value} (h : Row w b T (cutL mn mx bt rm d s t)) (ht : t.length = 16) :
    (storeCells ⟨b, 7, none⟩ (tabL 16)).run Tryz.prog w = .ok () (w.setCells b 7 (tabL 16)) := by
  have hl := tabL_length 16
  have h1 := tab_there h ht
  exact run_storeCells_cells b 7 (tabL 16) 0 w (fun j hj => (h1 j (by omega)).1) (fun j hj => (h1 j (by omega)).2) (fun v hv => by
    obtain ⟨j, _, rfl⟩ := List.mem_map.1 hv
    split <;> rfl)
theorem tab_laid {w : World} {b : Nat} {T : TypeId} {mn mx bt rm d s : Int} {t : List Value} (h : Row w b T (cutL mn mx bt rm d s t)) (ht : t.length = 16) : Row (w.setCells b 7 (tabL 16)) b T (cutL mn mx bt rm d s (tabL 16)) :=
  have := Row.setCells (tabL 16) [.int .i64 mn, .int .i64 mx, .int .i64 bt, .int .i64 rm, .int .u32 d, .int .i32 s, .int .u32 0] t w h (by rw [ht, tabL_length])
  this
theorem Tryz.size125 : (Tryz.prog.info? 125).map (·.size) = some 16 := by kernel_rfl

set_option maxRecDepth 100000 in
set_option maxHeartbeats 1600000 in
/-- The function that is handed to Do: the table is worked out and laid. -/
theorem closure_any (b : Nat) (pl : Addr) (mn mx bt rm d s : Int) (t : List Value) (w : World) (hp : w.cell? pl = some (.pointer (some ⟨b, 4, none⟩)))
    (hr : Row w b 129 (cutL mn mx bt rm d s t)) (ht : t.length = 16) :
    Calls Tryz.prog 117 #[.pointer (some pl)] w fun e w' => e = .returned (.tuple #[]) ∧ Row w' b 129 (cutL mn mx bt rm d s (tabL 16)) ∧ Touch b w w' := by
  have hpl := World.block_lt_of_cell? w _ hp
  go_enter Tryz.func117, Tryz.ntmps117
  go_wp2_with fail
  go_region_with (go_at_call 118; refine (workOut_any _).mono ?_; rintro e w1 ⟨rfl, hB1⟩; have hp1 : w1.cell? pl = some (.pointer (some ⟨b, 4, none⟩)) := (hB1.cell (by simpa using hpl)).trans (by simpa using hp); have hr1 : Row w1 b 129 (cutL mn mx bt rm d s t) := Row.below (w := w.drew) hr hB1 hr.lt; have hst := tab_store hr1 ht)
  all_goals (go_end0; exact ⟨rfl, tab_laid hr1 ht, Touch.setCells _ _ _ ((Touch.refl b w).drew.below hB1)⟩)

set_option maxRecDepth 100000 in
set_option maxHeartbeats 1600000 in
theorem slow_any (b : Nat) (pl : Addr) (mn mx bt rm : Int) (t : List Value) (w : World) (hpb : pl.block ≠ b) (hp : w.cell? pl = some (.pointer (some ⟨b, 4, none⟩)))
    (hr : Row w b 129 (cutL mn mx bt rm 0 0 t)) (ht : t.length = 16) :
    Calls Tryz.prog 145 #[.pointer (some ⟨b, 4, none⟩), .func (.func 117) #[] #[.pointer (some pl)]] w fun e w' => e = .returned (.tuple #[]) ∧ Row w' b 129 (cutL mn mx bt rm 1 0 (tabL 16)) ∧ Touch b w w' := by
  have h0 : w.cell? ⟨b, 4, none⟩ = some (.int .u32 0) := hr.cell 4
  have h1 : w.cell? ⟨b, 5, none⟩ = some (.int .i32 0) := hr.cell 5
  have f1 := hr.free 5
  have hr1 : Row (w.setCell ⟨b, 5, none⟩ (.int .i32 1)) b 129 (cutL mn mx bt rm 0 1 t) := hr.setCell 5 _
  have hl := run_call_load (P := Tryz.prog) Tryz.func172 (by kernel_rfl) (by kernel_rfl) (by kernel_rfl) .u32 (by kernel_rfl) (w := w.setCell ⟨b, 5, none⟩ (.int .i32 1)) (a := ⟨b, 4, none⟩) (x := 0) (hr1.cell 4)
  have hp1 : (w.setCell ⟨b, 5, none⟩ (.int .i32 1)).cell? pl = some (.pointer (some ⟨b, 4, none⟩)) := (World.cell?_setCell_other _ ⟨b, 5, none⟩ pl _ (fun h => hpb (by rw [← h]))).trans hp
  have hnot : ∀ (x : Bool) (w : World), (Op.unary .not (.bool x)).run Tryz.prog w = .ok (.bool (!x)) w := fun _ _ => rfl
  go_enter_defers Tryz.func145, Tryz.ntmps145
  go_wp2_with (first | (go_at_call 173; refine (lock_free ⟨b, 5, none⟩ _ h1 f1).mono ?_; rintro e w' ⟨rfl, rfl⟩) | (go_at_call 144; go_in) | (go_at_call 117; refine (closure_any b pl mn mx bt rm 0 1 t _ hp1 hr1 ht).mono ?_; rintro e w2 ⟨rfl, hr2, ht2⟩))
  -- THE DOOR: two deferred calls, the last laid first
  refine leaves_cons (f := 175) (args := #[.pointer (some ⟨b, 4, none⟩), .bool true]) (by simp) (by simp [go_sem]) ?_
  refine (store_deferred ⟨b, 4, none⟩ (.int .u32 0) .returning _ (hr2.cell 4) (hr2.free 4)).mono ?_
  rintro e u' w'' ⟨rfl, rfl, rfl⟩
  have hr3 : Row (w2.drew.setCell ⟨b, 4, none⟩ (.int .u32 1)) b 129 (cutL mn mx bt rm 1 1 (tabL 16)) := Row.setCell (w := w2.drew) hr2 4 _
  refine leaves_cons (f := 174) (args := #[.pointer (some ⟨b, 5, none⟩)]) (by simp [settle]) (by simp [go_sem]) ?_
  refine (unlock_deferred ⟨b, 5, none⟩ _ _ (hr3.cell 5) (hr3.free 5)).mono ?_
  rintro e u' w'' ⟨rfl, rfl, rfl⟩
  have hr4 : Row ((w2.drew.setCell ⟨b, 4, none⟩ (.int .u32 1)).setCell ⟨b, 5, none⟩ (.int .i32 0)) b 129 (cutL mn mx bt rm 1 0 (tabL 16)) := hr3.setCell 5 _
  have ht4 : Touch b w ((w2.drew.setCell ⟨b, 4, none⟩ (.int .u32 1)).setCell ⟨b, 5, none⟩ (.int .i32 0)) := ((((Touch.refl b w).setCell 5 _).trans ht2).drew.setCell 4 _).setCell 5 _
  exact ⟨_, results_none rfl _ _ _, rfl, hr4, ht4⟩

set_option maxRecDepth 100000 in
set_option maxHeartbeats 1600000 in
theorem do_first (b : Nat) (pl : Addr) (mn mx bt rm : Int) (t : List Value) (w : World) (hpb : pl.block ≠ b) (hp : w.cell? pl = some (.pointer (some ⟨b, 4, none⟩)))
    (hr : Row w b 129 (cutL mn mx bt rm 0 0 t)) (ht : t.length = 16) :
    Calls Tryz.prog 116 #[.pointer (some ⟨b, 4, none⟩), .func (.func 117) #[] #[.pointer (some pl)]] w fun e w' => e = .returned (.tuple #[]) ∧ Row w' b 129 (cutL mn mx bt rm 1 0 (tabL 16)) ∧ Touch b w w' := by
  have hl := run_call_load (P := Tryz.prog) Tryz.func172 (by kernel_rfl) (by kernel_rfl) (by kernel_rfl) .u32 (by kernel_rfl) (w := w) (a := ⟨b, 4, none⟩) (x := 0) (hr.cell 4)
  have hnot : ∀ (x : Bool) (w : World), (Op.unary .not (.bool x)).run Tryz.prog w = .ok (.bool (!x)) w := fun _ _ => rfl
  go_enter Tryz.func116, Tryz.ntmps116
  go_wp2_with (first | (go_at_call 145; refine (slow_any b pl mn mx bt rm t _ hpb hp hr ht).mono ?_; rintro e w2 ⟨rfl, hr2, ht2⟩) | (go_at_call 144; go_in))
  go_end0
  exact ⟨rfl, hr2, ht2⟩

set_option maxRecDepth 100000 in
set_option maxHeartbeats 1600000 in
theorem do_done (b : Nat) (fv : Value) (mn mx bt rm : Int) (t : List Value) (w : World) (hr : Row w b 129 (cutL mn mx bt rm 1 0 t)) :
    Calls Tryz.prog 116 #[.pointer (some ⟨b, 4, none⟩), fv] w fun e w' => e = .returned (.tuple #[]) ∧ w' = w := by
  have hl := run_call_load (P := Tryz.prog) Tryz.func172 (by kernel_rfl) (by kernel_rfl) (by kernel_rfl) .u32 (by kernel_rfl) (w := w) (a := ⟨b, 4, none⟩) (x := 1) (hr.cell 4)
  have hnot : ∀ (x : Bool) (w : World), (Op.unary .not (.bool x)).run Tryz.prog w = .ok (.bool (!x)) w := fun _ _ => rfl
  go_enter Tryz.func116, Tryz.ntmps116
  go_wp2
  go_end0
  exact ⟨rfl, rfl⟩

/-- A Cutter at rest: its table is not yet worked out, or it is. -/
def Rest (w : World) (b : Nat) (mn mx bt rm : Int) : Prop := (∃ t : List Value, t.length = 16 ∧ Row w b 129 (cutL mn mx bt rm 0 0 t)) ∨ Row w b 129 (cutL mn mx bt rm 1 0 (tabL 16))

set_option maxRecDepth 100000 in
set_option maxHeartbeats 1600000 in
theorem get_any (b : Nat) (mn mx bt rm : Int) (w : World) (h : Rest w b mn mx bt rm) :
    Calls Tryz.prog 95 #[.pointer (some ⟨b, 4, none⟩)] w fun e w' => e = .returned (.pointer (some ⟨b, 7, none⟩)) ∧ Row w' b 129 (cutL mn mx bt rm 1 0 (tabL 16)) ∧ Touch b w w' := by
  have hmf : ∀ (fn : Fn) (first cap : Array Value) (w : World), (Instr.makeFunc fn first cap).run Tryz.prog w = .ok (.func fn first cap) w := fun _ _ _ _ => rfl
  have hb : b < w.heap.size := by rcases h with ⟨t, _, h⟩ | h <;> exact h.lt
  have p0 : (w.alloc (.cells #[.pointer (some ⟨b, 4, none⟩)] 169)).cell? ⟨w.heap.size, 0, none⟩ = some (.pointer (some ⟨b, 4, none⟩)) := by simp
  have hnew : Row (w.alloc (.cells #[.pointer (some ⟨b, 4, none⟩)] 169)) w.heap.size 169 [.pointer (some ⟨b, 4, none⟩)] := Row.new w 169 [.pointer (some ⟨b, 4, none⟩)]
  have hB : Below w.heap.size w (w.alloc (.cells #[.pointer (some ⟨b, 4, none⟩)] 169)) := (Below.refl _ _).alloc (Nat.le_refl _) _
  have hT := (Touch.refl b w).alloc (.cells #[.pointer (some ⟨b, 4, none⟩)] 169)
  rcases h with ⟨t, ht, hr⟩ | hr
  · have hr1 := hr.below hB hb
    go_enter Tryz.func95, Tryz.ntmps95
    go_wp2_with (go_at_call 116; refine (do_first b ⟨w.heap.size, 0, none⟩ mn mx bt rm t _ (by simp; omega) p0 hr1 ht).mono ?_; rintro e w2 ⟨rfl, hr2, ht2⟩; have pE : w2.cell? ⟨w.heap.size, 0, none⟩ = some (.pointer (some ⟨b, 4, none⟩)) := (hnew.touch ht2 (by omega)).cell 0)
    go_ret
    exact ⟨rfl, hr2, hT.trans ht2⟩
  · have hr1 := hr.below hB hb
    go_enter Tryz.func95, Tryz.ntmps95
    go_wp2_with (go_at_call 116; refine (do_done b _ mn mx bt rm _ _ hr1).mono ?_; rintro e w2 ⟨rfl, rfl⟩)
    go_ret
    exact ⟨rfl, hr1, hT⟩

end Go.Proofs.YtheichphnppagaaGreat
