/- THE WALKS of larderkeep.pick, config, short. -/
import Derived.Test.YtheichphnppagaaCuts0
import Derived.Deep.RegionHeld3
namespace Go.Proofs.Ytheichphnppagaa
open Go.RowKit

def pickZ (c n : Int) : Int := (if c < 0 then -(c + 1) else c).tmod n
theorem pickZ_bounds (c n : Int) (hn : 0 < n) : 0 ≤ pickZ c n ∧ pickZ c n < n := by
  unfold pickZ
  split
  · exact ⟨Int.tmod_nonneg _ (by omega), Int.tmod_lt_of_pos _ hn⟩
  · exact ⟨Int.tmod_nonneg _ (by omega), Int.tmod_lt_of_pos _ hn⟩

theorem pick_any (c n N : Int) (w : World) (hN : N = n) (h1 : -9223372036854775808 ≤ c) (h2 : c ≤ 9223372036854775807) (hn : 0 < n) (hn2 : n ≤ 1000) :
    Calls Try.prog 25 #[.int .i64 c, .int .i64 N] w fun e w' => e = .returned (.int .i64 (pickZ c n)) ∧ w' = w := by
  subst hN
  have n0 : ¬ N = 0 := by omega
  by_cases hc : c < 0
  · go_enter Try.func25, Try.ntmps25
    go_wp2
    go_ret
    refine ⟨ret_int ?_, rfl⟩
    unfold pickZ
    rw [if_pos hc]
    exact (Int.neg_tmod _ _).symm
  · go_enter Try.func25, Try.ntmps25
    go_wp2
    go_ret
    refine ⟨ret_int ?_, rfl⟩
    unfold pickZ
    rw [if_neg (by omega)]
    first | rfl | exact (Int.tmod_eq_emod_of_nonneg (by omega)).symm

theorem pick_ex (c N : Int) (w : World) (h : -9223372036854775808 ≤ c ∧ c ≤ 9223372036854775807) (hn : 0 < N ∧ N ≤ 1000) :
    Calls Try.prog 25 #[.int .i64 c, .int .i64 N] w fun e w' => ∃ r : Int, e = .returned (.int .i64 r) ∧ 0 ≤ r ∧ r < N ∧ w' = w :=
  (pick_any c N N w rfl h.1 h.2 hn.1 hn.2).mono fun _ _ h => ⟨_, h.1, (pickZ_bounds c N hn.1).1, (pickZ_bounds c N hn.1).2, h.2⟩

def shortB (s : ByteArray) (m : Nat) : ByteArray := if m < s.size then s.extract 0 m else s
theorem shortB_size (s : ByteArray) (m : Nat) : (shortB s m).size = min s.size m := by
  unfold shortB
  split
  · simp
    omega
  · omega
theorem short_eq (s : ByteArray) (m : Nat) (M : Int) (w : World) (hM : M = m) (hm : m ≤ 2000) :
    Calls Try.prog 13 #[.string s, .int .i64 M] w fun e w' => e = .returned (.string (shortB s m)) ∧ w' = w := by
  subst hM
  by_cases h : (m : Int) < (s.size : Int)
  · go_enter Try.func13, Try.ntmps13
    go_wp2
    go_ret
    refine ⟨?_, rfl⟩
    unfold shortB
    rw [if_pos (by omega)]
    rfl
  · go_enter Try.func13, Try.ntmps13
    go_wp2
    go_ret
    refine ⟨?_, rfl⟩
    unfold shortB
    rw [if_neg (by omega)]
    rfl

set_option maxRecDepth 100000 in
set_option maxHeartbeats 1600000 in
theorem config_any (a b c : Int) (w : World) (ha : -9223372036854775808 ≤ a ∧ a ≤ 9223372036854775807) (hb : -9223372036854775808 ≤ b ∧ b ≤ 9223372036854775807) (hc : -9223372036854775808 ≤ c ∧ c ≤ 9223372036854775807) :
    Calls Try.prog 12 #[.agg #[.int .i64 a, .int .i64 b, .int .i64 c]] w fun e w' => ∃ mn mx bt : Nat, e = .returned (.agg #[.int .i64 mn, .int .i64 mx, .int .i64 bt, .int .i64 60000]) ∧ 16 ≤ mn ∧ mn ≤ mx ∧ mx ≤ 200 ∧ 1 ≤ bt ∧ bt ≤ 12 ∧ Below w.heap.size w w' := by
  have p1 := pickZ_bounds a 185 (by omega)
  go_enter Try.func12, Try.ntmps12
  go_wp2_with fail
  refine (pick_any a 185 _ _ rfl ha.1 ha.2 (by omega) (by omega)).mono ?_
  rintro e w1 ⟨rfl, rfl⟩
  generalize pickZ a 185 = x at *
  obtain ⟨W, hW⟩ : ∃ W, (w.alloc (.cells #[.int .i64 a, .int .i64 b, .int .i64 c] 34)).alloc (.cells #[.int .i64 0, .int .i64 0, .int .i64 0, .int .i64 0] 23) = W := ⟨_, rfl⟩
  have hz : W.heap.size = w.heap.size + 1 + 1 := by rw [← hW]; simp
  have hR1 : Row W w.heap.size 34 [.int .i64 a, .int .i64 b, .int .i64 c] := by rw [← hW]; exact (Row.new w 34 _).below ((Below.refl _ _).alloc (Nat.le_refl _) _) (by simp)
  have hR2 : Row W (w.heap.size + 1) 23 [.int .i64 0, .int .i64 0, .int .i64 0, .int .i64 0] := by
    rw [← hW, show w.heap.size + 1 = (w.alloc (.cells #[.int .i64 a, .int .i64 b, .int .i64 c] 34)).heap.size by simp]
    exact Row.new _ 23 _
  have hB : Below w.heap.size w W := by rw [← hW]; exact ((Below.refl _ _).alloc (Nat.le_refl _) _).alloc (by simp) _
  have l1 : W.cell? ⟨w.heap.size, 1, none⟩ = some (.int .i64 b) := hR1.cell 1
  have l2 : W.cell? ⟨w.heap.size, 2, none⟩ = some (.int .i64 c) := hR1.cell 2
  have r0 : W.cell? ⟨w.heap.size + 1, 0, none⟩ = some (.int .i64 0) := hR2.cell 0
  have r1 : W.cell? ⟨w.heap.size + 1, 1, none⟩ = some (.int .i64 0) := hR2.cell 1
  have r2 : W.cell? ⟨w.heap.size + 1, 2, none⟩ = some (.int .i64 0) := hR2.cell 2
  have r3 : W.cell? ⟨w.heap.size + 1, 3, none⟩ = some (.int .i64 0) := hR2.cell 3
  have f0 := hR2.free 0
  have f1 := hR2.free 1
  have f2 := hR2.free 2
  have f3 := hR2.free 3
  rw [hW]
  clear hW hz
  have hwr : IntKind.i64.wrap (IntKind.i64.wrap (200 - (16 + x)) + 1) = 185 - x := by rw [IntKind.wrap_i64, IntKind.wrap_i64]; omega
  have p2 := pickZ_bounds b (185 - x) (by omega)
  have p3 := pickZ_bounds c 12 (by omega)
  have c1 := fun W' => pick_any b (185 - x) _ W' hwr hb.1 hb.2 (by omega) (by omega)
  have c2 := fun W' => pick_any c 12 12 W' rfl hc.1 hc.2 (by omega) (by omega)
  generalize pickZ b (185 - x) = y at *
  generalize pickZ c 12 = z at *
  have hy : IntKind.i64.wrap (16 + x + y) = 16 + x + y := by rw [IntKind.wrap_i64]; omega
  have hz : IntKind.i64.wrap (1 + z) = 1 + z := by rw [IntKind.wrap_i64]; omega
  clear hwr
  go_wp2_with fail
  go_region_held3 (fun w' => w'.cell? ⟨w.heap.size, 1, none⟩ = some (.int .i64 b) ∧ w'.cell? ⟨w.heap.size, 2, none⟩ = some (.int .i64 c)) (go_keep)
    (first | (go_at_call_of 25 (Value.int IntKind.i64 b); refine (c1 _).mono ?_; rintro e w2 ⟨rfl, rfl⟩) | (go_at_call_of 25 (Value.int IntKind.i64 c); refine (c2 _).mono ?_; rintro e w3 ⟨rfl, rfl⟩))
  go_wp2
  have T5 : Touch (w.heap.size + 1) W ((((W.setCell ⟨w.heap.size + 1, 0, none⟩ (.int .i64 (16 + x))).setCell ⟨w.heap.size + 1, 1, none⟩ (.int .i64 (16 + x + y))).setCell ⟨w.heap.size + 1, 2, none⟩ (.int .i64 (1 + z))).setCell ⟨w.heap.size + 1, 3, none⟩ (.int .i64 60000)).drew :=
    (((((Touch.refl _ _).setCell 0 _).setCell 1 _).setCell 2 _).setCell 3 _).drew
  refine bodyPost_ret (v := .agg #[.int .i64 (16 + x), .int .i64 (16 + x + y), .int .i64 (1 + z), .int .i64 60000]) (by simp [results, Try.results12, go_sem, World.cell?_setCell_same, World.cell?_setCell_other, r0, r1, r2, r3]) rfl ?_
  obtain ⟨X, rfl⟩ := Int.eq_ofNat_of_zero_le p1.1
  obtain ⟨Y, rfl⟩ := Int.eq_ofNat_of_zero_le p2.1
  obtain ⟨Z, rfl⟩ := Int.eq_ofNat_of_zero_le p3.1
  exact ⟨16 + X, 16 + X + Y, 1 + Z, rfl, by omega, by omega, by omega, by omega, by omega, hB.trans (T5.toBelow (by omega) hB.size)⟩

end Go.Proofs.Ytheichphnppagaa
