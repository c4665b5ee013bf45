/- What Cuts answers, whole: the program and the document's own answer, each by one contract. -/
import Derived.Test.YtheichphnppagaaRefCut
import Derived.Test.YtheichphnppagaaKept
namespace Go.Proofs.Ytheichphnppagaa
open Go.RowKit

def ansL (s : ByteArray) (mn mx bt rm : Int) : List Int := if okB mn mx bt rm = true ∧ s.size ≤ 2000 then ints (cuts (bl s) mn.toNat mx.toNat bt.toNat) else []
def ansE (s : ByteArray) (mn mx bt rm : Int) : Int := if okB mn mx bt rm = true then (if s.size ≤ 2000 then 0 else 6) else 1
theorem ansL_length (s : ByteArray) (mn mx bt rm : Int) : (ansL s mn mx bt rm).length ≤ 2000 := by
  unfold ansL
  split
  · rename_i h
    rw [ints_length]
    have := cutsF_length (bl s) (mn := mn.toNat) (mx := mx.toNat) (bits := bt.toNat) (bl s).length 0
    rw [bl_length] at this
    unfold cuts
    rw [bl_length]
    omega
  · simp

theorem lcuts_any (s : ByteArray) (mn mx bt rm : Int) (w : World) :
    Calls Try.prog 8 #[.string s, .agg #[.int .i64 mn, .int .i64 mx, .int .i64 bt, .int .i64 rm]] w fun e w' => ∃ v, e = .returned (.tuple #[v, .int .i64 (ansE s mn mx bt rm)]) ∧ IBuf w.heap.size w' v (ansL s mn mx bt rm) ∧ Below w.heap.size w w' := by
  by_cases h : okB mn mx bt rm = true
  · by_cases hs : s.size ≤ 2000
    · have hok : Ok mn mx bt rm := of_decide_eq_true h
      unfold Ok at hok
      obtain ⟨a, rfl⟩ := Int.eq_ofNat_of_zero_le (by omega : 0 ≤ mn)
      obtain ⟨b, rfl⟩ := Int.eq_ofNat_of_zero_le (by omega : 0 ≤ mx)
      obtain ⟨c, rfl⟩ := Int.eq_ofNat_of_zero_le (by omega : 0 ≤ bt)
      refine (lcuts_ok s a b c rm w h hs).mono ?_
      rintro e w' ⟨v, rfl, hv, hB⟩
      refine ⟨v, ?_, ?_, hB⟩
      · unfold ansE
        rw [if_pos h, if_pos hs]
      · unfold ansL
        rw [if_pos ⟨h, hs⟩]
        exact hv
    · refine (lcuts_big s mn mx bt rm w h (by omega)).mono ?_
      rintro e w' ⟨rfl, hB⟩
      refine ⟨.slice none 0 0, ?_, ?_, hB⟩
      · unfold ansE
        rw [if_pos h, if_neg hs]
      · unfold ansL
        rw [if_neg (fun x => hs x.2)]
        exact IBuf.nil _ _
  · have h' : okB mn mx bt rm = false := by simpa using h
    refine (lcuts_bad s mn mx bt rm w h').mono ?_
    rintro e w' ⟨rfl, hB⟩
    refine ⟨.slice none 0 0, ?_, ?_, hB⟩
    · unfold ansE
      rw [if_neg h]
    · unfold ansL
      rw [if_neg (fun x => h x.1)]
      exact IBuf.nil _ _

theorem okB_dec {mn mx bt rm : Int} {P : Prop} [Decidable P] (h : P ↔ Ok mn mx bt rm) : Ending.returned (.bool (decide P)) = .returned (.bool (okB mn mx bt rm)) := by
  unfold okB
  rw [decide_eq_decide.2 h]

set_option maxRecDepth 100000 in
set_option maxHeartbeats 1600000 in
theorem good_any (mn mx bt rm : Int) (w : World) :
    Calls Try.prog 22 #[.agg #[.int .i64 mn, .int .i64 mx, .int .i64 bt, .int .i64 rm]] w fun e w' => e = .returned (.bool (okB mn mx bt rm)) ∧ Below w.heap.size w w' := by
  have hB : Below w.heap.size w (w.alloc (.cells #[.int .i64 mn, .int .i64 mx, .int .i64 bt, .int .i64 rm] 23)) := (Below.refl _ _).alloc (Nat.le_refl _) _
  go_enter Try.func22, Try.ntmps22
  go_wp2
  all_goals go_ret
  all_goals first | exact ⟨okB_false (by unfold Ok; omega), hB⟩ | exact ⟨okB_dec (by unfold Ok; omega), hB⟩

set_option maxRecDepth 100000 in
set_option maxHeartbeats 1600000 in
theorem rcuts_any (s : ByteArray) (mn mx bt rm : Int) (w : World) :
    Calls Try.prog 9 #[.string s, .agg #[.int .i64 mn, .int .i64 mx, .int .i64 bt, .int .i64 rm]] w fun e w' => ∃ v, e = .returned (.tuple #[v, .int .i64 (ansE s mn mx bt rm)]) ∧ IBuf w.heap.size w' v (ansL s mn mx bt rm) ∧ Below w.heap.size w w' := by
  have hnot := not_law
  have hR := Row.new w 23 [.int .i64 mn, .int .i64 mx, .int .i64 bt, .int .i64 rm]
  by_cases h : okB mn mx bt rm = true
  · by_cases hs : s.size ≤ 2000
    · have hok : Ok mn mx bt rm := of_decide_eq_true h
      unfold Ok at hok
      have h1 : ¬ (2000 : Int) < (s.size : Int) := by omega
      obtain ⟨a, rfl⟩ := Int.eq_ofNat_of_zero_le (by omega : 0 ≤ mn)
      obtain ⟨b, rfl⟩ := Int.eq_ofNat_of_zero_le (by omega : 0 ≤ mx)
      obtain ⟨c, rfl⟩ := Int.eq_ofNat_of_zero_le (by omega : 0 ≤ bt)
      go_enter Try.func9, Try.ntmps9
      go_wp2_with fail
      refine (good_any a b c rm _).mono ?_
      rintro e w1 ⟨rfl, hB1⟩
      rw [h]
      have hB1' : Below w.heap.size w w1 := ((Below.refl _ _).alloc (Nat.le_refl _) _).trans (hB1.mono (by simp))
      have hR1 := hR.below hB1 (by simp)
      have k0 : w1.cell? ⟨w.heap.size, 0, none⟩ = some (.int .i64 a) := hR1.cell 0
      have k1 : w1.cell? ⟨w.heap.size, 1, none⟩ = some (.int .i64 b) := hR1.cell 1
      have k2 : w1.cell? ⟨w.heap.size, 2, none⟩ = some (.int .i64 c) := hR1.cell 2
      have k3 : w1.cell? ⟨w.heap.size, 3, none⟩ = some (.int .i64 rm) := hR1.cell 3
      go_wp2_with fail
      refine (refcut_any s a b c rm _ hs (by omega) (by omega) (by omega) (by omega)).mono ?_
      rintro e w2 ⟨v, rfl, hv, hB2⟩
      go_wp2
      go_ret2
      have hz1 := hB1'.size
      refine ⟨v, ?_, ?_, hB1'.trans (hB2.mono hz1)⟩
      · unfold ansE
        rw [if_pos h, if_pos hs]
        rfl
      · unfold ansL
        rw [if_pos ⟨h, hs⟩]
        exact hv.low hz1
    · have h1 : (2000 : Int) < (s.size : Int) := by omega
      go_enter Try.func9, Try.ntmps9
      go_wp2_with fail
      refine (good_any mn mx bt rm _).mono ?_
      rintro e w1 ⟨rfl, hB1⟩
      rw [h]
      have hB1' : Below w.heap.size w w1 := ((Below.refl _ _).alloc (Nat.le_refl _) _).trans (hB1.mono (by simp))
      go_wp2
      go_ret2
      refine ⟨.slice none 0 0, ?_, ?_, hB1'⟩
      · unfold ansE
        rw [if_pos h, if_neg hs]
        rfl
      · unfold ansL
        rw [if_neg (fun x => hs x.2)]
        exact IBuf.nil _ _
  · have h' : okB mn mx bt rm = false := by simpa using h
    go_enter Try.func9, Try.ntmps9
    go_wp2_with fail
    refine (good_any mn mx bt rm _).mono ?_
    rintro e w1 ⟨rfl, hB1⟩
    rw [h']
    have hB1' : Below w.heap.size w w1 := ((Below.refl _ _).alloc (Nat.le_refl _) _).trans (hB1.mono (by simp))
    go_wp2
    go_ret2
    refine ⟨.slice none 0 0, ?_, ?_, hB1'⟩
    · unfold ansE
      rw [if_neg h]
      rfl
    · unfold ansL
      rw [if_neg (fun x => h x.1)]
      exact IBuf.nil _ _

theorem kept_any (B : Nat) (w : World) (v : Value) (xs : List Int) (c : Int) (h : IBuf B w v xs) (hn : xs.length ≤ 2000) (hBw : B ≤ w.heap.size) :
    Calls Try.prog 10 #[v, .int .i64 c] w fun e w' => ∃ v2 v3 v4, e = .returned (.agg #[v, v2, v3, v4, .int .i64 c]) ∧
      IBuf B w' v (mk xs.length c) ∧ IBuf B w' v2 (mk (xs.length + 1) c) ∧ IBuf B w' v3 (mk (xs.length + 2) c) ∧ IBuf B w' v4 (mk (xs.length + 3) c) ∧ w.grownBy w' v.ownBlock := by
  rcases h.form with ⟨rfl, rfl⟩ | ⟨g, cap, rfl, hb, hg⟩
  · refine (kept_nil B w c hBw).mono ?_
    rintro e w' ⟨v2, v3, v4, rfl, h2, h3, h4, hG⟩
    exact ⟨v2, v3, v4, rfl, IBuf.nil _ _, h2, h3, h4, hG⟩
  · refine (kept_some B w g cap xs c h hn).mono ?_
    rintro e w' ⟨v2, v3, v4, rfl, h1, h2, h3, h4, hG⟩
    exact ⟨v2, v3, v4, rfl, h1, h2, h3, h4, hG⟩

end Go.Proofs.Ytheichphnppagaa
