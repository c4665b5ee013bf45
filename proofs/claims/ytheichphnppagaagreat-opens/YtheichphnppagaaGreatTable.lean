/- Opens: Table. -/
import Derived.Test.YtheichphnppagaaGreatPush
import Derived.Deep.WholeRow
import Derived.Deep.MidRow
namespace Go.Proofs.YtheichphnppagaaGreat
open Go.RowKit

/-- The table, worked out up to k. -/
def tabL (k : Nat) : List Value := (List.range 16).map fun j => if j < k then .int .u32 (rollN 32 j : Nat) else .int .u32 0
theorem tabL_length (k : Nat) : (tabL k).length = 16 := by simp [tabL]
theorem tabL_set (k : Nat) : ((tabL k).toArray).setIfInBounds k (.int .u32 (rollN 32 k : Nat)) = (tabL (k + 1)).toArray := by
  apply Array.ext
  · simp [tabL_length]
  · intro i h1 h2
    simp only [Array.size_setIfInBounds, List.size_toArray, tabL_length] at h1
    rw [Array.getElem_setIfInBounds (by simpa [tabL_length] using h1)]
    by_cases e : k = i
    · subst e
      simp [tabL]
    · rw [if_neg e]
      simp only [List.getElem_toArray, tabL, List.getElem_map, List.getElem_range]
      by_cases c : i < k
      · rw [if_pos c, if_pos (by omega)]
      · rw [if_neg c, if_neg (by omega)]
theorem tabL_get (j : Nat) (hj : j < 16) : (tabL 16)[j]? = some (.int .u32 (rollN 32 j : Nat)) := by
  simp [tabL, hj]

theorem tabL_cell (w : World) (k : Nat) (hk : k < 16) : (w.alloc (.cells (tabL k).toArray 125)).cell? ⟨w.heap.size, k, none⟩ = some (.int .u32 0) := by
  rw [cell_of_row _ _ k (tabL k).toArray 125 (0, 0) (heap_alloc_last w _)]
  simp [tabL, hk]
theorem roll_step {j k m : Nat} (h : m = rollN j k) : push m 0 = rollN (j + 1) k := by
  rw [rollN_succ, ← h]
  exact Nat.xor_zero _

set_option maxRecDepth 100000 in
set_option maxHeartbeats 1600000 in
theorem workOut_any (w : World) :
    Calls Tryz.prog 118 #[] w fun e w' => e = .returned (.agg (tabL 16).toArray) ∧ Below w.heap.size w w' := by
  go_enter Tryz.func118, Tryz.ntmps118
  go_wp2
  obtain ⟨w1, hw1⟩ : ∃ w1, w.alloc (.cells #[.int .u32 0, .int .u32 0, .int .u32 0, .int .u32 0, .int .u32 0, .int .u32 0, .int .u32 0, .int .u32 0, .int .u32 0, .int .u32 0, .int .u32 0, .int .u32 0, .int .u32 0, .int .u32 0, .int .u32 0, .int .u32 0] 125) = w1 := ⟨_, rfl⟩
  have hs1 : w.heap.size + 1 = w1.heap.size := by rw [← hw1]; simp
  rw [hw1, hs1]
  go_loopw [2, 3, 4] (fun v2 v3 v4 wr => ∃ k : Nat, v4 = .int .i64 k ∧ k ≤ 16 ∧ wr = w1.alloc (.cells (tabL k).toArray 125)) (fun _ _ v4 _ => 16 - (intOf v4).toNat)
  case atStart => exact ⟨0, rfl, by omega, rfl⟩
  case round =>
    obtain ⟨k, rfl, hk, rfl⟩ := hrel
    by_cases hlt : (k : Int) < 16
    · go_wp2
      go_loop [3, 9] (fun v3 v9 => ∃ j m : Nat, v9 = .int .i64 j ∧ j ≤ 32 ∧ v3 = .int .u32 m ∧ Hid (m = rollN j k)) (fun _ v9 => 32 - (intOf v9).toNat)
      case atStart => exact ⟨0, k, rfl, by omega, by go_num, rfl⟩
      case round =>
        obtain ⟨j, m, rfl, hj, rfl, H⟩ := hrel
        have hm : m < 2147483648 := by rw [H.out]; exact rollN_lt _ (by omega)
        by_cases hj2 : (j : Int) < 32
        · go_wp2_with fail
          refine (push_any m 0 _ _ _ rfl rfl hm (by omega)).mono ?_
          rintro e w' ⟨rfl, rfl⟩
          go_wp2
          exact ⟨⟨j + 1, push m 0, by go_num, by omega, rfl, roll_step H.out⟩, by simp [intOf]; omega⟩
        · have e32 : j = 32 := by omega
          subst e32
          have hset := tabL_set k
          rw [← H.out] at hset
          have hc := tabL_cell w1 k (by omega)
          go_wp2
          exact ⟨⟨k + 1, by go_num, by omega, by rw [← hset]⟩, by simp [intOf]; omega⟩
    · have e16 : k = 16 := by omega
      subst e16
      obtain ⟨n0, n1, n2, n3, n4, n5, n6, n7, n8, n9, n10, n11, n12, n13, n14, n15, hv⟩ : ∃ n0 n1 n2 n3 n4 n5 n6 n7 n8 n9 n10 n11 n12 n13 n14 n15 : Int, (tabL 16).toArray = #[.int .u32 n0, .int .u32 n1, .int .u32 n2, .int .u32 n3, .int .u32 n4, .int .u32 n5, .int .u32 n6, .int .u32 n7, .int .u32 n8, .int .u32 n9, .int .u32 n10, .int .u32 n11, .int .u32 n12, .int .u32 n13, .int .u32 n14, .int .u32 n15] := ⟨_, _, _, _, _, _, _, _, _, _, _, _, _, _, _, _, rfl⟩
      have V : Hid ((tabL 16).toArray = #[.int .u32 n0, .int .u32 n1, .int .u32 n2, .int .u32 n3, .int .u32 n4, .int .u32 n5, .int .u32 n6, .int .u32 n7, .int .u32 n8, .int .u32 n9, .int .u32 n10, .int .u32 n11, .int .u32 n12, .int .u32 n13, .int .u32 n14, .int .u32 n15]) := hv
      rw [hv]
      clear hv
      have B1 : Below w.heap.size w w1 := by rw [← hw1]; exact (Below.refl _ _).alloc (Nat.le_refl _) _
      rw [← hs1]
      clear hs1
      subst hw1
      go_wp2
      refine bodyPost_ret (v := .agg #[.int .u32 n0, .int .u32 n1, .int .u32 n2, .int .u32 n3, .int .u32 n4, .int .u32 n5, .int .u32 n6, .int .u32 n7, .int .u32 n8, .int .u32 n9, .int .u32 n10, .int .u32 n11, .int .u32 n12, .int .u32 n13, .int .u32 n14, .int .u32 n15]) (by simp [results, Tryz.results118, go_sem]) rfl ⟨by rw [V.out], ((Below.refl _ _).alloc (Nat.le_refl _) _).alloc (by simp) _⟩

end Go.Proofs.YtheichphnppagaaGreat
