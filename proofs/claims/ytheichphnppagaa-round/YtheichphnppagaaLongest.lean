/- THE WALK of pack.longest. -/
import Derived.Test.YtheichphnppagaaReads
namespace Go.Proofs.Ytheichphnppagaa
open Go.RowKit

theorem best_yes {f : Nat → Nat} {k b1 b2 g : Nat} (h : bestTo f k = (b1, b2)) (hg : f (k + 1) = g) (h3 : 3 ≤ g) (hb : b1 < g) : bestTo f (k + 1) = (g, k + 1) := by
  simp only [bestTo, h, hg]
  rw [if_pos ⟨h3, hb⟩]
theorem best_no {f : Nat → Nat} {k b1 b2 g : Nat} (h : bestTo f k = (b1, b2)) (hg : f (k + 1) = g) (hb : ¬ (3 ≤ g ∧ b1 < g)) : bestTo f (k + 1) = (b1, b2) := by
  simp only [bestTo, h, hg]
  rw [if_neg hb]
theorem longest_ret {x : Nat × Nat} {b1 b2 : Nat} (h : x = (b1, b2)) : Ending.returned (.tuple #[.int .i64 (b1 : Int), .int .i64 (b2 : Int)]) = .returned (.tuple #[.int .i64 (x.1 : Int), .int .i64 (x.2 : Int)]) := by
  subst h; rfl

set_option maxRecDepth 100000 in
set_option maxHeartbeats 1600000 in
theorem longest_any (s : ByteArray) (A : Int) (a : Nat) (w : World) (hs : s.size ≤ 2000) (hA : A = a) (ha : a ≤ s.size) :
    Calls Try.prog 34 #[.string s, .int .i64 A] w fun e w' => e = .returned (.tuple #[.int .i64 ((longestAt (bl s) a).1 : Int), .int .i64 ((longestAt (bl s) a).2 : Int)]) ∧ ∃ n, w' = w.drewN n := by
  subst hA
  by_cases hm : (a : Int) ≤ 255
  · go_enter Try.func34, Try.ntmps34
    go_wp2
    go_loopw [6, 7, 8] (fun v6 v7 v8 wr => ∃ k n b1 b2 : Nat, v8 = .int .i64 ((k : Int) + 1) ∧ (k : Int) ≤ (a : Int) ∧ v6 = .int .i64 b1 ∧ v7 = .int .i64 b2 ∧ Hid (bestTo (lenAt (bl s) a) k = (b1, b2)) ∧ wr = w.drewN n) (fun _ _ v8 _ => 300 - (intOf v8).toNat)
    case atStart => exact ⟨0, 0, 0, 0, rfl, by omega, rfl, rfl, rfl, rfl⟩
    case round =>
      obtain ⟨k, n, b1, b2, rfl, hk, rfl, rfl, H, rfl⟩ := hrel
      by_cases hlt : (k : Int) + 1 ≤ (a : Int)
      · go_wp2_with fail
        refine (alike_back s _ _ a (k + 1) _ hs (by omega) rfl (by omega) (by omega) ha).mono ?_
        rintro e w' ⟨rfl, m, rfl⟩
        generalize hg : lenAt (bl s) a (k + 1) = g
        have G : Hid (lenAt (bl s) a (k + 1) = g) := hg
        clear hg
        by_cases c1 : (3 : Int) ≤ (g : Int)
        · by_cases c2 : (b1 : Int) < (g : Int)
          · go_wp2
            go_roundw
            case rel => exact ⟨k + 1, n + m, g, k + 1, by go_num, by omega, rfl, by go_num, best_yes H.out G.out (by omega) (by omega), rfl⟩
            case measure => simp [intOf]; omega
          · go_wp2
            go_roundw
            case rel => exact ⟨k + 1, n + m, b1, b2, by go_num, by omega, rfl, rfl, best_no H.out G.out (by omega), rfl⟩
            case measure => simp [intOf]; omega
        · go_wp2
          go_roundw
          case rel => exact ⟨k + 1, n + m, b1, b2, by go_num, by omega, rfl, rfl, best_no H.out G.out (by omega), rfl⟩
          case measure => simp [intOf]; omega
      · go_wp2
        go_ret2
        exact ⟨longest_ret (by rw [← H.out]; unfold longestAt; congr 1; omega), _, rfl⟩
  · go_enter Try.func34, Try.ntmps34
    go_wp2
    go_loopw [6, 7, 8] (fun v6 v7 v8 wr => ∃ k n b1 b2 : Nat, v8 = .int .i64 ((k : Int) + 1) ∧ (k : Int) ≤ (255 : Int) ∧ v6 = .int .i64 b1 ∧ v7 = .int .i64 b2 ∧ Hid (bestTo (lenAt (bl s) a) k = (b1, b2)) ∧ wr = w.drewN n) (fun _ _ v8 _ => 300 - (intOf v8).toNat)
    case atStart => exact ⟨0, 0, 0, 0, rfl, by omega, rfl, rfl, rfl, rfl⟩
    case round =>
      obtain ⟨k, n, b1, b2, rfl, hk, rfl, rfl, H, rfl⟩ := hrel
      by_cases hlt : (k : Int) + 1 ≤ (255 : Int)
      · go_wp2_with fail
        refine (alike_back s _ _ a (k + 1) _ hs (by omega) rfl (by omega) (by omega) ha).mono ?_
        rintro e w' ⟨rfl, m, rfl⟩
        generalize hg : lenAt (bl s) a (k + 1) = g
        have G : Hid (lenAt (bl s) a (k + 1) = g) := hg
        clear hg
        by_cases c1 : (3 : Int) ≤ (g : Int)
        · by_cases c2 : (b1 : Int) < (g : Int)
          · go_wp2
            go_roundw
            case rel => exact ⟨k + 1, n + m, g, k + 1, by go_num, by omega, rfl, by go_num, best_yes H.out G.out (by omega) (by omega), rfl⟩
            case measure => simp [intOf]; omega
          · go_wp2
            go_roundw
            case rel => exact ⟨k + 1, n + m, b1, b2, by go_num, by omega, rfl, rfl, best_no H.out G.out (by omega), rfl⟩
            case measure => simp [intOf]; omega
        · go_wp2
          go_roundw
          case rel => exact ⟨k + 1, n + m, b1, b2, by go_num, by omega, rfl, rfl, best_no H.out G.out (by omega), rfl⟩
          case measure => simp [intOf]; omega
      · go_wp2
        go_ret2
        exact ⟨longest_ret (by rw [← H.out]; unfold longestAt; congr 1; omega), _, rfl⟩

end Go.Proofs.Ytheichphnppagaa
