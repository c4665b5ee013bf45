/- Opens: Good, RStore. -/
import Derived.Test.YtheichphnppagaaGreatCuts0
import Derived.Test.YtheichphnppagaaGreatRVar
import Derived.Test.YtheichphnppagaaGreatRInts
import Derived.Test.YtheichphnppagaaGreatAsk
namespace Go.Proofs.YtheichphnppagaaGreat
open Go.RowKit

theorem okB_dec {mn mx bt rm : Int} {P : Prop} [Decidable P] (h : P ↔ Ok mn mx bt rm) : Ending.returned (.bool (decide P)) = .returned (.bool (okB mn mx bt rm)) := by
  unfold okB
  rw [decide_eq_decide.2 h]

set_option maxRecDepth 100000 in
set_option maxHeartbeats 1600000 in
theorem good_any (mn mx bt rm : Int) (w : World) :
    Calls Tryz.prog 49 #[.agg #[.int .i64 mn, .int .i64 mx, .int .i64 bt, .int .i64 rm]] w fun e w' => e = .returned (.bool (okB mn mx bt rm)) ∧ Below w.heap.size w w' := by
  have hB : Below w.heap.size w (w.alloc (.cells #[.int .i64 mn, .int .i64 mx, .int .i64 bt, .int .i64 rm] 26)) := (Below.refl _ _).alloc (Nat.le_refl _) _
  go_enter Tryz.func49, Tryz.ntmps49
  go_wp2
  all_goals go_ret
  all_goals first | exact ⟨okB_false (by unfold Ok; omega), hB⟩ | exact ⟨okB_dec (by unfold Ok; omega), hB⟩


end Go.Proofs.YtheichphnppagaaGreat
namespace Go.Proofs.YtheichphnppagaaGreat
open Go.RowKit
attribute [local go_sem ↓] Go.wp_at_zero Go.wp_at_succ

theorem Tryz.underlying53 : Tryz.prog.underlying 53 = some (.slice 58) := by kernel_rfl
theorem Tryz.info58 : (Tryz.prog.info? 58).map (fun i => (i.zero, i.size, i.bytes)) = some (some (.agg #[.string ⟨#[]⟩, .slice none 0 0]), 2, 40) := by kernel_rfl

def strCells (G : List UInt8 → Value) (xs : List (List UInt8 × List Nat)) : List Value := xs.flatMap fun x => [strV x.1, G x.1]
theorem strCells_length (G : List UInt8 → Value) (xs : List (List UInt8 × List Nat)) : (strCells G xs).length = 2 * xs.length := by
  unfold strCells
  induction xs with
  | nil => rfl
  | cons a t ih => rw [List.flatMap_cons, List.length_append, ih]; simp; omega
theorem strCells_append (G : List UInt8 → Value) (xs ys : List (List UInt8 × List Nat)) : strCells G (xs ++ ys) = strCells G xs ++ strCells G ys := by
  unfold strCells; rw [List.flatMap_append]

structure RfAt (B : Nat) (w : World) (q : Nat) (st : St) (cv sv : Value) (G : List UInt8 → Value) : Prop where
  row : Row w q 55 [.int .i64 st.mn, .int .i64 st.mx, .int .i64 st.bt, .int .i64 st.rm, strV st.text, cv, sv, .int .i64 (-1), .bool false]
  chunks : SBuf B w cv st.chunks
  strs : w.ownsRow B 58 2 sv st.streams.length (strCells G st.streams)
  num : ∀ x ∈ st.streams, IBuf B w (G x.1) (ints x.2)
  low : B ≤ q
def Rf (B : Nat) (w : World) (q : Nat) (st : St) : Prop := ∃ cv sv G, RfAt B w q st cv sv G

theorem RfAt.grow {B : Nat} {w w' : World} {q : Nat} {st : St} {cv sv : Value} {G : List UInt8 → Value} (h : RfAt B w q st cv sv G) (k : Grow w w') : RfAt B w' q st cv sv G :=
  { h with
    row := h.row.grow k
    chunks := h.chunks.kept (k.grown none) (by cases cv.ownBlock <;> simp)
    strs := World.ownsRow.kept h.strs (k.grown none) (by cases sv.ownBlock <;> simp)
    num := fun x hx => (h.num x hx).below k }
theorem Rf.grow {B : Nat} {w w' : World} {q : Nat} {st : St} (h : Rf B w q st) (k : Grow w w') : Rf B w' q st := by
  obtain ⟨cv, sv, G, h⟩ := h
  exact ⟨cv, sv, G, h.grow k⟩

theorem refNew_bad (mn mx bt rm : Int) (w : World) (hok : okB mn mx bt rm = false) :
    Calls Tryz.prog 22 #[.agg #[.int .i64 mn, .int .i64 mx, .int .i64 bt, .int .i64 rm]] w fun e w' => e = .returned (.pointer none) ∧ Grow w w' := by
  have hnot := not_law
  have hk : Grow w (w.alloc (.cells #[.int .i64 mn, .int .i64 mx, .int .i64 bt, .int .i64 rm] 26)) := (Grow.refl w).alloc _
  go_enter Tryz.func22, Tryz.ntmps22
  go_wp2_with fail
  refine (good_any mn mx bt rm _).mono ?_
  rintro e w1 ⟨rfl, hB1⟩
  rw [hok]
  go_wp2
  go_ret
  exact ⟨rfl, Grow.trans hk hB1⟩

set_option maxRecDepth 100000 in
set_option maxHeartbeats 1600000 in
theorem refNew_ok (mn mx bt rm : Nat) (w : World) (hok : okB mn mx bt rm = true) :
    Calls Tryz.prog 22 #[.agg #[.int .i64 mn, .int .i64 mx, .int .i64 bt, .int .i64 rm]] w fun e w' => ∃ q, e = .returned (.pointer (some ⟨q, 0, none⟩)) ∧ Rf w.heap.size w' q (St.new mn mx bt rm) ∧ Grow w w' := by
  have hnot := not_law
  have hok' : Ok mn mx bt rm := of_decide_eq_true hok
  unfold Ok at hok'
  have hh2 := headL_len mn mx bt rm (by omega)
  have hk : HSt w [.int .i64 mn, .int .i64 mx, .int .i64 bt, .int .i64 rm] (w.alloc (.cells #[.int .i64 mn, .int .i64 mx, .int .i64 bt, .int .i64 rm] 26)) := ⟨Row.new w 26 _, (Grow.refl w).alloc _⟩
  obtain ⟨t1, e1, b1, z1⟩ := str_name (headL mn mx bt rm)
  have c1 := fun W => refHead_any mn mx bt rm W (by omega)
  rw [e1] at c1
  obtain ⟨t2, e2, b2, z2⟩ := str_name (frameL (bl t1))
  have c2 := fun W => refFrame_any t1 W (by omega)
  rw [e2] at c2
  have ht : strV (St.new mn mx bt rm).text = .string t2 := by show strV (frameL (headL mn mx bt rm)) = _; rw [← b1.out]; exact e2
  go_enter Tryz.func22, Tryz.ntmps22
  go_wp2_with fail
  refine (good_any mn mx bt rm _).mono ?_
  rintro e w1 ⟨rfl, hB1⟩
  rw [hok]
  have hk := hk.next hB1
  obtain ⟨k0, k1, k2, k3⟩ := hk.cells
  go_wp2_with fail
  go_region_held3 (fun w' => w'.cell? ⟨w.heap.size, 0, none⟩ = some (.int .i64 mn) ∧ w'.cell? ⟨w.heap.size, 1, none⟩ = some (.int .i64 mx) ∧ w'.cell? ⟨w.heap.size, 2, none⟩ = some (.int .i64 bt) ∧ w'.cell? ⟨w.heap.size, 3, none⟩ = some (.int .i64 rm)) (first | exact hk.cells | go_keep)
    (first | (go_at_call 51; refine (c1 _).mono ?_; rintro e w5 ⟨rfl, g5⟩; first | (have hk := HSt.nextD hk g5) | (have hk := HSt.next hk g5)) | (go_at_call 50; refine (c2 _).mono ?_; rintro e w5 ⟨rfl, g5⟩; first | (have hk := HSt.nextD hk g5) | (have hk := HSt.next hk g5)))
  all_goals
    go_wp2
    go_ret
    have hz := hk.2.size
    refine ⟨_, rfl, ⟨.slice none 0 0, .slice none 0 0, fun _ => .slice none 0 0, ⟨?_, SBuf.nil _ _, World.ownsRow_nil _ _ _ _, (fun x hx => by cases hx), by omega⟩⟩, hk.2.alloc _⟩
    rw [ht]
    exact Row.new _ 55 [.int .i64 mn, .int .i64 mx, .int .i64 bt, .int .i64 rm, .string t2, .slice none 0 0, .slice none 0 0, .int .i64 (-1), .bool false]

theorem len_sbuf {B : Nat} {w : World} {v : Value} {l : List (List UInt8)} (h : SBuf B w v l) (W : World) : (Builtin.len_ #[24] 3 #[v]).run Tryz.prog W = .ok (.int .i64 (l.length : Nat)) W := by
  rcases h.form with ⟨rfl, h0⟩ | ⟨g, cap, rfl, _, _⟩
  · subst h0
    simp [Builtin.len_, run_underlying Tryz.underlying24, goInt]
  · simp [Builtin.len_, run_underlying Tryz.underlying24, goInt]

set_option maxRecDepth 100000 in
theorem refChunk_any (x : ByteArray) (B q : Nat) (st : St) (w : World) (h : Rf B w q st) (hl : st.chunks.length ≤ 100000) :
    Calls Tryz.prog 75 #[.pointer (some ⟨q, 0, none⟩), .string x] w fun e w' => ∃ n : Int, e = .returned (.int .i64 n) ∧ w' = w ∧ -1 ≤ n ∧ (0 ≤ n ↔ bl x ∈ st.chunks) := by
  obtain ⟨cv, sv, G, h⟩ := h
  have k5 : w.cell? ⟨q, 5, none⟩ = some cv := h.row.cell 5
  have hln := len_sbuf h.chunks
  go_enter Tryz.func75, Tryz.ntmps75
  go_wp2
  go_loop [5] (fun v5 => ∃ k : Nat, v5 = .int .i64 k ∧ k ≤ st.chunks.length ∧ Hid (∀ i, i < k → st.chunks.getD i [] ≠ bl x)) (fun v5 => st.chunks.length - (intOf v5).toNat)
  case atStart => exact ⟨0, rfl, by omega, (fun i hi => by omega)⟩
  case round =>
    obtain ⟨k, rfl, hk, H⟩ := hrel
    by_cases h1 : (k : Int) < (st.chunks.length : Int)
    · have hkl : k < st.chunks.length := by omega
      rcases h.chunks.form with ⟨_, h0⟩ | ⟨g, cap, rfl, _, _⟩
      · rw [h0] at hkl; simp at hkl
      have kc := h.chunks.cell k hkl
      unfold strV at kc
      obtain ⟨c, hc⟩ : ∃ c, st.chunks.getD k [] = c := ⟨_, rfl⟩
      have HC : Hid (st.chunks.getD k [] = c) := hc
      rw [hc] at kc
      clear hc
      clear hln
      by_cases he : c = bl x
      · have q1 : (c == x.toList) = true := by rw [toList_bl, he]; simp
        have M : Hid (bl x ∈ st.chunks) := by
          show _ ∈ _
          rw [← he, ← HC.out, List.getD_eq_getElem?_getD, List.getElem?_eq_getElem hkl]
          exact List.getElem_mem _
        clear he
        go_wp2
        go_ret
        exact ⟨_, rfl, rfl, by omega, fun _ => M.out, fun _ => by omega⟩
      · have q1 : (c == x.toList) = false := by rw [toList_bl]; simpa using he
        have HH : Hid (∀ i, i < k + 1 → st.chunks.getD i [] ≠ bl x) := by
          intro i hi
          by_cases c1 : i < k
          · exact H.out i c1
          · rw [show i = k by omega, HC.out]; exact he
        clear he
        go_wp2
        exact ⟨⟨k + 1, by go_num, by omega, HH⟩, by simp [intOf]; omega⟩
    · have N : Hid (bl x ∉ st.chunks) := fun hm => by
        obtain ⟨i, hi, e⟩ := List.getElem_of_mem hm
        exact H.out i (by omega) (by rw [List.getD_eq_getElem?_getD, List.getElem?_eq_getElem hi]; exact e)
      go_wp2
      go_ret
      exact ⟨_, rfl, rfl, by omega, fun h => by omega, fun h => absurd h N.out⟩

end Go.Proofs.YtheichphnppagaaGreat
