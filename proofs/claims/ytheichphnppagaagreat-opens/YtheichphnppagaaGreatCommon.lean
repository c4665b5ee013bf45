/- Opens: Common. -/
import Derived.Test.YtheichphnppagaaGreatPart
namespace Go.Proofs.YtheichphnppagaaGreat
open Go.RowKit

theorem he_flip {s : ByteArray} {f a k : Nat} (h : ∀ i, i < k → (bl s).getD (f + i) 0 = (bl s).getD (a + i) 0) {x y : UInt8} (hx : (bl s).getD (f + k) 0 = x) (hy : (bl s).getD (a + k) 0 = y) (e : y = x) :
    ∀ i, i < k + 1 → (bl s).getD (f + i) 0 = (bl s).getD (a + i) 0 := he_succ h hx hy e.symm

set_option maxRecDepth 100000 in
set_option maxHeartbeats 1600000 in
theorem common_any (s : ByteArray) (A F : Int) (a f : Nat) (w : World) (hs : s.size ≤ 2000) (hA : A = a) (hF : F = f) (hf : f < a) (ha : a ≤ s.size) :
    Calls Tryz.prog 126 #[.string s, .int .i64 A, .int .i64 F] w fun e w' => e = .returned (.int .i64 (lenAt (bl s) a (a - f))) ∧ ∃ n, w' = w.drewN n := by
  subst hF; subst hA
  go_enter Tryz.func126, Tryz.ntmps126
  go_wp2
  go_loopw [7] (fun v wr => ∃ k n : Nat, v = .int .i64 k ∧ k ≤ 130 ∧ a + k ≤ s.size ∧ Hid (∀ i, i < k → (bl s).getD (f + i) 0 = (bl s).getD (a + i) 0) ∧ wr = w.drewN n) (fun v _ => s.size - (intOf v).toNat)
  case atStart => exact ⟨0, 0, rfl, by omega, by omega, (fun i hi => by omega), rfl⟩
  case round =>
    obtain ⟨k, n, rfl, h1, h2, H, rfl⟩ := hrel
    have hw1 : IntKind.i64.wrap ((a : Int) + (k : Int)) = (a : Int) + (k : Int) := by rw [IntKind.wrap_i64]; omega
    have hw2 : IntKind.i64.wrap ((f : Int) + (k : Int)) = (f : Int) + (k : Int) := by rw [IntKind.wrap_i64]; omega
    by_cases hlt : (k : Int) < 130
    · by_cases hin : (a : Int) + (k : Int) < (s.size : Int)
      · have i1 := index_lit s ((f : Int) + (k : Int)) (f + k) (by omega) (by omega)
        have i2 := index_lit s ((a : Int) + (k : Int)) (a + k) (by omega) (by omega)
        generalize hx : (bl s).getD (f + k) 0 = x at i1
        generalize hy : (bl s).getD (a + k) 0 = y at i2
        have X : Hid ((bl s).getD (f + k) 0 = x) := hx
        have Y : Hid ((bl s).getD (a + k) 0 = y) := hy
        clear hx hy
        by_cases e : y = x
        · subst e
          go_wp2_with fail
          go_quiet (fail)
          clear i1 i2 hw1 hw2
          go_wp2
          go_roundw
          case rel => exact ⟨k + 1, n + nq, by go_num, by omega, by omega, he_flip H.out X.out Y.out rfl, rfl⟩
          case measure => simp [intOf]; omega
        · have hb : ((y.toNat : Int) == (x.toNat : Int)) = false := beq_eq_false_iff_ne.2 (fun h => e (eq_of_u8 h))
          have E : Hid (¬ y = x) := e
          clear e
          go_wp2_with fail
          go_quiet (fail)
          clear i1 i2 hw1 hw2
          go_wp2
          go_ret
          exact ⟨ret_int (by rw [alike_end s f a k hf h1 h2 H.out (.inr (.inr (by rw [X.out, Y.out]; exact fun h => E.out h.symm)))]), _, World.drewN_drewN _ _ _⟩
      · have hd : decide ((a : Int) + (k : Int) < (s.size : Int)) = false := by simpa using hin
        go_wp2_with fail
        go_quiet (fail)
        clear hw1 hw2
        go_wp2
        go_ret
        exact ⟨ret_int (by rw [alike_end s f a k hf h1 h2 H.out (.inr (.inl (by omega)))]), _, World.drewN_drewN _ _ _⟩
    · have hd : decide ((k : Int) < 130) = false := by simpa using hlt
      go_wp2_with fail
      go_quiet (fail)
      clear hw1 hw2
      go_wp2
      go_ret
      exact ⟨ret_int (by rw [alike_end s f a k hf h1 h2 H.out (.inl (by omega))]), _, World.drewN_drewN _ _ _⟩

theorem common_back (s : ByteArray) (A F : Int) (a b : Nat) (w : World) (hs : s.size ≤ 2000) (hA : A = a) (hF : F = (a : Int) - (b : Int)) (hb : 1 ≤ b) (hba : b ≤ a) (ha : a ≤ s.size) :
    Calls Tryz.prog 126 #[.string s, .int .i64 A, .int .i64 F] w fun e w' => e = .returned (.int .i64 (lenAt (bl s) a b)) ∧ ∃ n, w' = w.drewN n := by
  have h := common_any s A F a (a - b) w hs hA (by omega) (by omega) ha
  rw [show a - (a - b) = b by omega] at h
  exact h

end Go.Proofs.YtheichphnppagaaGreat
