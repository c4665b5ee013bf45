/- Opens: First. -/
import Derived.Test.YtheichphnppagaaGreatSum
import Derived.Deep.RegionHeld3
import Derived.Deep.DrawnRows
namespace Go.Proofs.YtheichphnppagaaGreat
open Go.RowKit
attribute [local go_sem ↓] Go.wp_at_zero Go.wp_at_succ

/-- What First answers. -/
def firstV (s : List UInt8) : Value := match unfr s with
  | some (x, k) => .tuple #[.string ⟨x.toArray⟩, .int .i64 (k : Int)]
  | none => .tuple #[.string ⟨#[]⟩, .int .i64 0]
theorem firstV_no {s : List UInt8} (h : unfr s = none) : Ending.returned (.tuple #[.string ⟨#[]⟩, .int .i64 0]) = .returned (firstV s) := by unfold firstV; rw [h]
theorem firstV_yes {s x : List UInt8} {k : Nat} {S : ByteArray} {K : Int} (h : unfr s = some (x, k)) (hS : bl S = x) (hK : K = k) : Ending.returned (.tuple #[.string S, .int .i64 K]) = .returned (firstV s) := by
  unfold firstV; rw [h, ba_eq hS, hK]
theorem unfr_no1 {s : List UInt8} (h : summed s 2 = false) : unfr s = none := by unfold unfr; rw [if_neg (by simp [h])]
theorem unfr_no2 {s : List UInt8} (h : summed (s.drop 6) (long s) = false) : unfr s = none := by unfold unfr; rw [if_neg (by simp [h])]
theorem unfr_yes {s : List UInt8} (h : summed s 2 = true) (h2 : summed (s.drop 6) (long s) = true) : unfr s = some ((s.drop 6).take (long s), long s + 10) := by unfold unfr; rw [if_pos ⟨h, h2⟩]
theorem summed_len {s : List UInt8} {n : Nat} (h : summed s n = true) : n + 4 ≤ s.length := by
  simp only [summed, Bool.and_eq_true, decide_eq_true_eq] at h; exact h.1

set_option maxRecDepth 100000 in
set_option maxHeartbeats 1600000 in
theorem first_frame (s : ByteArray) (w : World) :
    Calls Tryz.prog 52 #[.string s] w fun e w' => e = .returned (firstV (bl s)) ∧ Below w.heap.size w w' := by
  cases h1 : summed (bl s) 2 with
  | false =>
    have R : Hid (unfr (bl s) = none) := unfr_no1 h1
    go_enter Tryz.func52, Tryz.ntmps52
    go_wp2_with fail
    refine (firstSummed_any s _ 2 _ rfl (by omega)).mono ?_
    rintro e w1 ⟨rfl, hB1⟩
    unfold fsV
    rw [h1]
    clear h1
    simp only [Bool.false_eq_true, if_false]
    go_wp2
    go_ret2
    exact ⟨firstV_no R.out, hB1⟩
  | true =>
    have hl := summed_len h1
    rw [bl_length] at hl
    have hlong := long_lt (bl s)
    have i0 := index_here (s.extract 0 2) 0 0 ((bl s).getD 0 0) rfl (by simp; omega) (by rw [bl_extract]; simp [List.getD_eq_getElem?_getD])
    have i1 := index_here (s.extract 0 2) 1 1 ((bl s).getD 1 0) rfl (by simp; omega) (by rw [bl_extract]; simp [List.getD_eq_getElem?_getD])
    have c0 := ((bl s).getD 0 0).toNat_lt
    have c1 := ((bl s).getD 1 0).toNat_lt
    have hL : Hid (long (bl s) = ((bl s).getD 0 0).toNat + 256 * ((bl s).getD 1 0).toNat) := rfl
    generalize (bl s).getD 0 0 = a at *
    generalize (bl s).getD 1 0 = b at *
    have h6 : (6 : Int) ≤ (s.size : Int) := by omega
    have c0' : (a.toNat : Int) < 256 := by omega
    have c1' : (b.toNat : Int) < 256 := by omega
    have e6 : bl (s.extract 6 s.size) = (bl s).drop 6 := bl_from s 6
    cases h2 : summed ((bl s).drop 6) (long (bl s)) with
    | false =>
      have R : Hid (unfr (bl s) = none) := unfr_no2 h2
      have hf : fsV (s.extract 6 s.size) (long (bl s)) = .tuple #[.string ⟨#[]⟩, .int .i64 0] := by unfold fsV; rw [e6, h2]; rfl
      go_enter Tryz.func52, Tryz.ntmps52
      go_wp2_with fail
      refine (firstSummed_any s _ 2 _ rfl (by omega)).mono ?_
      rintro e w1 ⟨rfl, hB1⟩
      unfold fsV
      rw [h1]
      clear h1
      simp only [if_true]
      go_wp2_with fail
      go_region_held3 (fun _ => True) (trivial) ((go_at_call 84; refine (firstSummed_any _ _ (long (bl s)) _ (by rw [hL.out]; simp only [IntKind.wrap_i64]; omega) (by omega)).mono ?_; rintro e w2 ⟨rfl, hB2⟩; rw [hf]))
      all_goals (go_wp2; go_ret2; exact ⟨firstV_no R.out, hB1.drew.trans (hB2.mono hB1.size)⟩)
    | true =>
      have R : Hid (unfr (bl s) = some (((bl s).drop 6).take (long (bl s)), long (bl s) + 10)) := unfr_yes h1 h2
      have hf : fsV (s.extract 6 s.size) (long (bl s)) = .tuple #[.string ((s.extract 6 s.size).extract 0 (long (bl s))), .int .i64 ((long (bl s) : Int) + 4)] := by unfold fsV; rw [e6, h2]; rfl
      have hne : (((long (bl s) : Nat) : Int) + 4 == 0) = false := beq_eq_false_iff_ne.2 (by omega)
      go_enter Tryz.func52, Tryz.ntmps52
      go_wp2_with fail
      refine (firstSummed_any s _ 2 _ rfl (by omega)).mono ?_
      rintro e w1 ⟨rfl, hB1⟩
      unfold fsV
      rw [h1]
      clear h1
      simp only [if_true]
      go_wp2_with fail
      go_region_held3 (fun _ => True) (trivial) ((go_at_call 84; refine (firstSummed_any _ _ (long (bl s)) _ (by rw [hL.out]; simp only [IntKind.wrap_i64]; omega) (by omega)).mono ?_; rintro e w2 ⟨rfl, hB2⟩; rw [hf]))
      all_goals (go_wp2; go_ret2; exact ⟨firstV_yes R.out (by rw [bl_extract, e6]; simp) (by omega), hB1.drew.trans (hB2.mono hB1.size)⟩)

end Go.Proofs.YtheichphnppagaaGreat
