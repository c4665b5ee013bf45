/- THE WALKS of what only reads: pack.alike, larderref.common, pack.longest. -/
import Derived.Test.YtheichphnppagaaProg
import Derived.Test.YtheichphnppagaaPlain
import Derived.WalkKit
import Derived.WalkSpells
import Derived.WalkLawsBesides
import Derived.Deep.QuietTactic
import Derived.BigQuiet
namespace Go.Proofs.Ytheichphnppagaa
open Go.RowKit

/-- A string's bytes. -/
def bl (s : ByteArray) : List UInt8 := s.data.toList
theorem bl_length (s : ByteArray) : (bl s).length = s.size := by unfold bl; rw [Array.length_toList]; rfl
theorem bl_get (s : ByteArray) (k : Nat) (h : k < s.size) : (bl s).getD k 0 = s[k] := by
  unfold bl
  rw [List.getD_eq_getElem?_getD, List.getElem?_eq_getElem (by simpa using h)]
  rfl

theorem ret_int {k : IntKind} {a b : Int} (h : a = b) : Ending.returned (.int k a) = .returned (.int k b) := by rw [h]

theorem alike_end (s : ByteArray) (f a k : Nat) (hf : f < a) (h1 : k ≤ 130) (h2 : a + k ≤ s.size)
    (he : ∀ i, i < k → (bl s).getD (f + i) 0 = (bl s).getD (a + i) 0) (hd : k = 130 ∨ a + k = s.size ∨ (bl s).getD (f + k) 0 ≠ (bl s).getD (a + k) 0) :
    lenAt (bl s) a (a - f) = k := by
  have e : a - (a - f) = f := by omega
  refine lenAt_eq _ _ _ _ h1 (by rw [bl_length]; exact h2) (fun i hi => by rw [e]; exact he i hi) ?_
  rw [e, bl_length]
  exact hd

theorem eq_of_u8 {a b : UInt8} (h : (a.toNat : Int) = (b.toNat : Int)) : a = b := UInt8.toNat_inj.1 (by omega)

theorem index_at (t : TypeId) (ht : Try.prog.underlying t = some .string) (s : ByteArray) (I : Int) (j : Nat) (hI : IntKind.i64.wrap I = j) (hj : j < s.size) (w : World) :
    (Instr.index t (.string s) (.int .i64 (IntKind.i64.wrap I))).run Try.prog w = .ok (.int .u8 (((bl s).getD j 0).toNat : Int)) w := by
  rw [hI, run_index_string w t s .i64 j ht, dif_pos ⟨by omega, by omega⟩, bl_get s j hj]
  rfl

theorem Try.underlying9 : Try.prog.underlying 9 = some .string := by kernel_rfl
theorem wrapNat (n : Nat) (h : n ≤ 9223372036854775807) : IntKind.i64.wrap (n : Int) = (n : Int) := by rw [IntKind.wrap_i64]; omega
theorem wrapAdd (a b : Nat) (h : a + b ≤ 9223372036854775807) : IntKind.i64.wrap ((a : Int) + (b : Int)) = ((a + b : Nat) : Int) := by rw [IntKind.wrap_i64]; omega
theorem he_succ {s : ByteArray} {f a k : Nat} (h : ∀ i, i < k → (bl s).getD (f + i) 0 = (bl s).getD (a + i) 0) {x y : UInt8} (hx : (bl s).getD (f + k) 0 = x) (hy : (bl s).getD (a + k) 0 = y) (e : x = y) :
    ∀ i, i < k + 1 → (bl s).getD (f + i) 0 = (bl s).getD (a + i) 0 := by
  intro i hi
  by_cases c : i < k
  · exact h i c
  · obtain rfl : i = k := by omega
    rw [hx, hy, e]

set_option maxHeartbeats 1600000 in
theorem alike_any (s : ByteArray) (F A : Int) (f a : Nat) (w : World) (hs : s.size ≤ 2000) (hF : F = f) (hA : A = a) (hf : f < a) (ha : a ≤ s.size) :
    Calls Try.prog 42 #[.string s, .int .i64 F, .int .i64 A] w fun e w' => e = .returned (.int .i64 (lenAt (bl s) a (a - f))) ∧ ∃ n, w' = w.drewN n := by
  subst hF; subst hA
  by_cases hm : (130 : Int) ≤ (s.size : Int) - (a : Int)
  · go_enter Try.func42, Try.ntmps42
    go_wp2
    go_loopw [8] (fun v wr => ∃ k n : Nat, v = .int .i64 k ∧ k ≤ 130 ∧ a + k ≤ s.size ∧ Hid (∀ i, i < k → (bl s).getD (f + i) 0 = (bl s).getD (a + i) 0) ∧ wr = w.drewN n) (fun v _ => s.size - (intOf v).toNat)
    case atStart => exact ⟨0, 0, rfl, by omega, by omega, (fun i hi => by omega), rfl⟩
    case round =>
      obtain ⟨k, n, rfl, h1, h2, H, rfl⟩ := hrel
      by_cases hlt : (k : Int) < 130
      · have i1 := index_at 9 Try.underlying9 s ((f : Int) + (k : Int)) (f + k) (wrapAdd _ _ (by omega)) (by omega)
        have i2 := index_at 9 Try.underlying9 s ((a : Int) + (k : Int)) (a + k) (wrapAdd _ _ (by omega)) (by omega)
        generalize hx : (bl s).getD (f + k) 0 = x at i1
        generalize hy : (bl s).getD (a + k) 0 = y at i2
        have X : Hid ((bl s).getD (f + k) 0 = x) := hx
        have Y : Hid ((bl s).getD (a + k) 0 = y) := hy
        clear hx hy
        by_cases e : x = y
        · subst e
          go_wp2_with fail
          go_quiet (fail)
          clear i1 i2
          go_wp2
          go_roundw
          case rel => exact ⟨k + 1, n + nq, by go_num, by omega, by omega, he_succ H.out X.out Y.out rfl, rfl⟩
          case measure => simp [intOf]; omega
        · have hb : ((x.toNat : Int) == (y.toNat : Int)) = false := beq_eq_false_iff_ne.2 (fun h => e (eq_of_u8 h))
          have E : Hid (¬ x = y) := e
          clear e
          go_wp2_with fail
          go_quiet (fail)
          clear i1 i2
          go_wp2
          go_ret
          exact ⟨ret_int (by rw [alike_end s f a k hf h1 h2 H.out (.inr (.inr (by rw [X.out, Y.out]; exact E.out)))]), _, World.drewN_drewN _ _ _⟩
      · have hd : decide ((k : Int) < 130) = false := by simpa using hlt
        go_wp2_with fail
        go_quiet (fail)
        go_wp2
        go_ret
        exact ⟨ret_int (by rw [alike_end s f a k hf h1 h2 H.out (.inl (by omega))]), _, World.drewN_drewN _ _ _⟩
  · go_enter Try.func42, Try.ntmps42
    go_wp2
    go_loopw [8] (fun v wr => ∃ k n : Nat, v = .int .i64 k ∧ k ≤ 130 ∧ a + k ≤ s.size ∧ Hid (∀ i, i < k → (bl s).getD (f + i) 0 = (bl s).getD (a + i) 0) ∧ wr = w.drewN n) (fun v _ => s.size - (intOf v).toNat)
    case atStart => exact ⟨0, 0, rfl, by omega, by omega, (fun i hi => by omega), rfl⟩
    case round =>
      obtain ⟨k, n, rfl, h1, h2, H, rfl⟩ := hrel
      by_cases hlt : (k : Int) < (s.size : Int) - (a : Int)
      · have i1 := index_at 9 Try.underlying9 s ((f : Int) + (k : Int)) (f + k) (wrapAdd _ _ (by omega)) (by omega)
        have i2 := index_at 9 Try.underlying9 s ((a : Int) + (k : Int)) (a + k) (wrapAdd _ _ (by omega)) (by omega)
        generalize hx : (bl s).getD (f + k) 0 = x at i1
        generalize hy : (bl s).getD (a + k) 0 = y at i2
        have X : Hid ((bl s).getD (f + k) 0 = x) := hx
        have Y : Hid ((bl s).getD (a + k) 0 = y) := hy
        clear hx hy
        by_cases e : x = y
        · subst e
          go_wp2_with fail
          go_quiet (fail)
          clear i1 i2
          go_wp2
          go_roundw
          case rel => exact ⟨k + 1, n + nq, by go_num, by omega, by omega, he_succ H.out X.out Y.out rfl, rfl⟩
          case measure => simp [intOf]; omega
        · have hb : ((x.toNat : Int) == (y.toNat : Int)) = false := beq_eq_false_iff_ne.2 (fun h => e (eq_of_u8 h))
          have E : Hid (¬ x = y) := e
          clear e
          go_wp2_with fail
          go_quiet (fail)
          clear i1 i2
          go_wp2
          go_ret
          exact ⟨ret_int (by rw [alike_end s f a k hf h1 h2 H.out (.inr (.inr (by rw [X.out, Y.out]; exact E.out)))]), _, World.drewN_drewN _ _ _⟩
      · have hd : decide ((k : Int) < (s.size : Int) - (a : Int)) = false := by simpa using hlt
        go_wp2_with fail
        go_quiet (fail)
        go_wp2
        go_ret
        exact ⟨ret_int (by rw [alike_end s f a k hf h1 h2 H.out (.inr <| .inl (by omega))]), _, World.drewN_drewN _ _ _⟩

theorem alike_back (s : ByteArray) (F A : Int) (a b : Nat) (w : World) (hs : s.size ≤ 2000) (hF : F = (a : Int) - (b : Int)) (hA : A = a) (hb : 1 ≤ b) (hba : b ≤ a) (ha : a ≤ s.size) :
    Calls Try.prog 42 #[.string s, .int .i64 F, .int .i64 A] w fun e w' => e = .returned (.int .i64 (lenAt (bl s) a b)) ∧ ∃ n, w' = w.drewN n := by
  have h := alike_any s F A (a - b) a w hs (by omega) hA (by omega) ha
  rw [show a - (a - b) = b by omega] at h
  exact h

end Go.Proofs.Ytheichphnppagaa
