/- Opens: Reads, Push. -/
import Derived.Test.YtheichphnppagaaGreatProg
import Derived.Test.YtheichphnppagaaGreatOpenMath
import Derived.WalkKit
import Derived.WalkSpells
import Derived.WalkLawsBesides
import Derived.Deep.QuietTactic
import Derived.BigQuiet
import Derived.Laws.BitsAllLaws
namespace Go.Proofs.YtheichphnppagaaGreat
open Go.RowKit

/-- A string's bytes. -/
def bl (s : ByteArray) : List UInt8 := s.data.toList
theorem bl_length (s : ByteArray) : (bl s).length = s.size := by unfold bl; rw [Array.length_toList]; rfl
theorem bl_get (s : ByteArray) (k : Nat) (h : k < s.size) : (bl s).getD k 0 = s[k] := by
  unfold bl
  rw [List.getD_eq_getElem?_getD, List.getElem?_eq_getElem (by simpa using h)]
  rfl

theorem ret_int {k : IntKind} {a b : Int} (h : a = b) : Ending.returned (.int k a) = .returned (.int k b) := by rw [h]

theorem alike_end (s : ByteArray) (f a k : Nat) (hf : f < a) (h1 : k ≤ 130) (h2 : a + k ≤ s.size)
    (he : ∀ i, i < k → (bl s).getD (f + i) 0 = (bl s).getD (a + i) 0) (hd : k = 130 ∨ a + k = s.size ∨ (bl s).getD (f + k) 0 ≠ (bl s).getD (a + k) 0) :
    lenAt (bl s) a (a - f) = k := by
  have e : a - (a - f) = f := by omega
  refine lenAt_eq _ _ _ _ h1 (by rw [bl_length]; exact h2) (fun i hi => by rw [e]; exact he i hi) ?_
  rw [e, bl_length]
  exact hd

theorem eq_of_u8 {a b : UInt8} (h : (a.toNat : Int) = (b.toNat : Int)) : a = b := UInt8.toNat_inj.1 (by omega)

theorem index_at (t : TypeId) (ht : Tryz.prog.underlying t = some .string) (s : ByteArray) (I : Int) (j : Nat) (hI : IntKind.i64.wrap I = j) (hj : j < s.size) (w : World) :
    (Instr.index t (.string s) (.int .i64 (IntKind.i64.wrap I))).run Tryz.prog w = .ok (.int .u8 (((bl s).getD j 0).toNat : Int)) w := by
  rw [hI, run_index_string w t s .i64 j ht, dif_pos ⟨by omega, by omega⟩, bl_get s j hj]
  rfl

theorem Tryz.underlying9 : Tryz.prog.underlying 9 = some .string := by kernel_rfl
theorem wrapNat (n : Nat) (h : n ≤ 9223372036854775807) : IntKind.i64.wrap (n : Int) = (n : Int) := by rw [IntKind.wrap_i64]; omega
theorem wrapAdd (a b : Nat) (h : a + b ≤ 9223372036854775807) : IntKind.i64.wrap ((a : Int) + (b : Int)) = ((a + b : Nat) : Int) := by rw [IntKind.wrap_i64]; omega
theorem he_succ {s : ByteArray} {f a k : Nat} (h : ∀ i, i < k → (bl s).getD (f + i) 0 = (bl s).getD (a + i) 0) {x y : UInt8} (hx : (bl s).getD (f + k) 0 = x) (hy : (bl s).getD (a + k) 0 = y) (e : x = y) :
    ∀ i, i < k + 1 → (bl s).getD (f + i) 0 = (bl s).getD (a + i) 0 := by
  intro i hi
  by_cases c : i < k
  · exact h i c
  · obtain rfl : i = k := by omega
    rw [hx, hy, e]

set_option maxHeartbeats 1600000 in
theorem alike_any (s : ByteArray) (F A : Int) (f a : Nat) (w : World) (hs : s.size ≤ 2000) (hF : F = f) (hA : A = a) (hf : f < a) (ha : a ≤ s.size) :
    Calls Tryz.prog 197 #[.string s, .int .i64 F, .int .i64 A] w fun e w' => e = .returned (.int .i64 (lenAt (bl s) a (a - f))) ∧ ∃ n, w' = w.drewN n := by
  subst hF; subst hA
  by_cases hm : (130 : Int) ≤ (s.size : Int) - (a : Int)
  · go_enter Tryz.func197, Tryz.ntmps197
    go_wp2
    go_loopw [8] (fun v wr => ∃ k n : Nat, v = .int .i64 k ∧ k ≤ 130 ∧ a + k ≤ s.size ∧ Hid (∀ i, i < k → (bl s).getD (f + i) 0 = (bl s).getD (a + i) 0) ∧ wr = w.drewN n) (fun v _ => s.size - (intOf v).toNat)
    case atStart => exact ⟨0, 0, rfl, by omega, by omega, (fun i hi => by omega), rfl⟩
    case round =>
      obtain ⟨k, n, rfl, h1, h2, H, rfl⟩ := hrel
      by_cases hlt : (k : Int) < 130
      · have i1 := index_at 9 Tryz.underlying9 s ((f : Int) + (k : Int)) (f + k) (wrapAdd _ _ (by omega)) (by omega)
        have i2 := index_at 9 Tryz.underlying9 s ((a : Int) + (k : Int)) (a + k) (wrapAdd _ _ (by omega)) (by omega)
        generalize hx : (bl s).getD (f + k) 0 = x at i1
        generalize hy : (bl s).getD (a + k) 0 = y at i2
        have X : Hid ((bl s).getD (f + k) 0 = x) := hx
        have Y : Hid ((bl s).getD (a + k) 0 = y) := hy
        clear hx hy
        by_cases e : x = y
        · subst e
          go_wp2_with fail
          go_quiet (fail)
          clear i1 i2
          go_wp2
          go_roundw
          case rel => exact ⟨k + 1, n + nq, by go_num, by omega, by omega, he_succ H.out X.out Y.out rfl, rfl⟩
          case measure => simp [intOf]; omega
        · have hb : ((x.toNat : Int) == (y.toNat : Int)) = false := beq_eq_false_iff_ne.2 (fun h => e (eq_of_u8 h))
          have E : Hid (¬ x = y) := e
          clear e
          go_wp2_with fail
          go_quiet (fail)
          clear i1 i2
          go_wp2
          go_ret
          exact ⟨ret_int (by rw [alike_end s f a k hf h1 h2 H.out (.inr (.inr (by rw [X.out, Y.out]; exact E.out)))]), _, World.drewN_drewN _ _ _⟩
      · have hd : decide ((k : Int) < 130) = false := by simpa using hlt
        go_wp2_with fail
        go_quiet (fail)
        go_wp2
        go_ret
        exact ⟨ret_int (by rw [alike_end s f a k hf h1 h2 H.out (.inl (by omega))]), _, World.drewN_drewN _ _ _⟩
  · go_enter Tryz.func197, Tryz.ntmps197
    go_wp2
    go_loopw [8] (fun v wr => ∃ k n : Nat, v = .int .i64 k ∧ k ≤ 130 ∧ a + k ≤ s.size ∧ Hid (∀ i, i < k → (bl s).getD (f + i) 0 = (bl s).getD (a + i) 0) ∧ wr = w.drewN n) (fun v _ => s.size - (intOf v).toNat)
    case atStart => exact ⟨0, 0, rfl, by omega, by omega, (fun i hi => by omega), rfl⟩
    case round =>
      obtain ⟨k, n, rfl, h1, h2, H, rfl⟩ := hrel
      by_cases hlt : (k : Int) < (s.size : Int) - (a : Int)
      · have i1 := index_at 9 Tryz.underlying9 s ((f : Int) + (k : Int)) (f + k) (wrapAdd _ _ (by omega)) (by omega)
        have i2 := index_at 9 Tryz.underlying9 s ((a : Int) + (k : Int)) (a + k) (wrapAdd _ _ (by omega)) (by omega)
        generalize hx : (bl s).getD (f + k) 0 = x at i1
        generalize hy : (bl s).getD (a + k) 0 = y at i2
        have X : Hid ((bl s).getD (f + k) 0 = x) := hx
        have Y : Hid ((bl s).getD (a + k) 0 = y) := hy
        clear hx hy
        by_cases e : x = y
        · subst e
          go_wp2_with fail
          go_quiet (fail)
          clear i1 i2
          go_wp2
          go_roundw
          case rel => exact ⟨k + 1, n + nq, by go_num, by omega, by omega, he_succ H.out X.out Y.out rfl, rfl⟩
          case measure => simp [intOf]; omega
        · have hb : ((x.toNat : Int) == (y.toNat : Int)) = false := beq_eq_false_iff_ne.2 (fun h => e (eq_of_u8 h))
          have E : Hid (¬ x = y) := e
          clear e
          go_wp2_with fail
          go_quiet (fail)
          clear i1 i2
          go_wp2
          go_ret
          exact ⟨ret_int (by rw [alike_end s f a k hf h1 h2 H.out (.inr (.inr (by rw [X.out, Y.out]; exact E.out)))]), _, World.drewN_drewN _ _ _⟩
      · have hd : decide ((k : Int) < (s.size : Int) - (a : Int)) = false := by simpa using hlt
        go_wp2_with fail
        go_quiet (fail)
        go_wp2
        go_ret
        exact ⟨ret_int (by rw [alike_end s f a k hf h1 h2 H.out (.inr <| .inl (by omega))]), _, World.drewN_drewN _ _ _⟩

theorem alike_back (s : ByteArray) (F A : Int) (a b : Nat) (w : World) (hs : s.size ≤ 2000) (hF : F = (a : Int) - (b : Int)) (hA : A = a) (hb : 1 ≤ b) (hba : b ≤ a) (ha : a ≤ s.size) :
    Calls Tryz.prog 197 #[.string s, .int .i64 F, .int .i64 A] w fun e w' => e = .returned (.int .i64 (lenAt (bl s) a b)) ∧ ∃ n, w' = w.drewN n := by
  have h := alike_any s F A (a - b) a w hs (by omega) hA (by omega) ha
  rw [show a - (a - b) = b by omega] at h
  exact h

end Go.Proofs.YtheichphnppagaaGreat
namespace Go.Proofs.YtheichphnppagaaGreat
open Go.RowKit

theorem pushZ (m b : Nat) (hm : m < 2147483648) (hb : b < 16) :
    bits .xor .u32 (bits .xor .u32 (bits .xor .u32 (bits .and .u32 ((m : Int) * 16 % 4294967296) 2147483647) ((m : Int) / 134217728)) ((m : Int) / 134217728 * 8)) (b : Int) = ((push m b : Nat) : Int) := by
  have e1 : ((m : Int) * 16 % 4294967296) = ((m * 16 % 4294967296 : Nat) : Int) := by omega
  have e2 : ((m : Int) / 134217728) = ((m / 134217728 : Nat) : Int) := by omega
  have e3 : ((m : Int) / 134217728 * 8) = ((m / 134217728 * 8 : Nat) : Int) := by omega
  have a1 : m * 16 % 4294967296 &&& 2147483647 < 2 ^ 31 := Nat.lt_of_le_of_lt Nat.and_le_right (by decide)
  have a2 : (m * 16 % 4294967296 &&& 2147483647) ^^^ m / 134217728 < 2 ^ 31 := Nat.xor_lt_two_pow a1 (by omega)
  have a3 : (m * 16 % 4294967296 &&& 2147483647) ^^^ m / 134217728 ^^^ m / 134217728 * 8 < 2 ^ 31 := Nat.xor_lt_two_pow a2 (by omega)
  rw [e3, e2, e1, show (2147483647 : Int) = ((2147483647 : Nat) : Int) from rfl, u32_and_nat _ _ (by omega) (by omega), u32_xor_nat _ _ (by omega) (by omega), u32_xor_nat _ _ (by omega) (by omega), u32_xor_nat _ _ (by omega) (by omega)]
  unfold push roll
  rw [Nat.shiftRight_eq_div_pow, Nat.shiftLeft_eq, Nat.shiftLeft_eq, show (2147483647 : Nat) = 2 ^ 31 - 1 from rfl, Nat.and_two_pow_sub_one_eq_mod, Nat.and_two_pow_sub_one_eq_mod, show m * 16 % 4294967296 % 2 ^ 31 = m * 2 ^ 4 % 2 ^ 31 by omega]

set_option maxRecDepth 100000 in
theorem push_any (m b : Nat) (M C : Int) (w : World) (hM : M = m) (hC : C = b) (hm : m < 2147483648) (hb : b < 16) :
    Calls Tryz.prog 119 #[.int .u32 M, .int .u8 C] w fun e w' => e = .returned (.int .u32 (push m b : Nat)) ∧ w' = w := by
  subst hM; subst hC
  go_enter Tryz.func119, Tryz.ntmps119
  go_wp2
  go_ret
  refine ⟨?_, rfl⟩
  rw [← pushZ m b hm hb]
  rfl

theorem u8_and15 (c : UInt8) : bits .and .u8 (c.toNat : Int) 15 = ((c.toNat % 16 : Nat) : Int) := by
  have := c.toNat_lt
  rw [show (15 : Int) = ((15 : Nat) : Int) from rfl, u8_and_nat _ _ (by omega) (by omega), show (15 : Nat) = 2 ^ 4 - 1 from rfl, Nat.and_two_pow_sub_one_eq_mod]

theorem index_here (s : ByteArray) (I : Int) (j : Nat) (c : UInt8) (hI : I = j) (hj : j < s.size) (hc : (bl s).getD j 0 = c) (w : World) :
    (Instr.index 9 (.string s) (.int .i64 I)).run Tryz.prog w = .ok (.int .u8 (c.toNat : Int)) w := by
  rw [hI, run_index_string w 9 s .i64 j Tryz.underlying9, dif_pos ⟨by omega, by omega⟩, ← hc, bl_get s j hj]
  rfl

theorem take_snoc_getD (l : List UInt8) (k : Nat) (c : UInt8) (hk : k < l.length) (hc : l.getD k 0 = c) : l.take (k + 1) = l.take k ++ [c] := by
  rw [List.take_add_one, ← hc]
  simp [List.getD_eq_getElem?_getD, hk]

set_option maxRecDepth 100000 in
set_option maxHeartbeats 1600000 in
theorem first_any (s : ByteArray) (w : World) (hs : s.size ≤ 2000) :
    Calls Tryz.prog 96 #[.string s] w fun e w' => e = .returned (.int .u32 (markOf (bl s) : Nat)) ∧ w' = w := by
  go_enter Tryz.func96, Tryz.ntmps96
  go_wp2
  go_loop [3, 4, 7] (fun v3 v4 v7 => ∃ k m : Nat, v7 = .int .i64 k ∧ k ≤ s.size ∧ v3 = .int .u32 m ∧ Hid (m = markOf ((bl s).take k))) (fun _ _ v7 => s.size - (intOf v7).toNat)
  case atStart => exact ⟨0, 0, rfl, by omega, rfl, rfl⟩
  case round =>
    obtain ⟨k, m, rfl, hk, rfl, H⟩ := hrel
    by_cases hlt : (k : Int) < (s.size : Int)
    · obtain ⟨c, hc⟩ : ∃ c, (bl s).getD k 0 = c := ⟨_, rfl⟩
      have i1 := index_here s k k c rfl (by omega) hc
      have hlc := c.toNat_lt
      have hm : m < 2147483648 := by rw [H.out]; exact markOf_lt _
      have a1 := u8_and15 c
      have HC : Hid ((bl s).getD k 0 = c) := hc
      clear hc
      go_wp2_with fail
      refine (push_any m (c.toNat / 16) _ _ _ rfl (by omega) hm (by omega)).mono ?_
      rintro e w' ⟨rfl, rfl⟩
      have hp1 := push_lt hm (b := c.toNat / 16) (by omega)
      go_wp2_with fail
      refine (push_any (push m (c.toNat / 16)) (c.toNat % 16) _ _ _ rfl (by first | rfl | exact a1 | omega) hp1 (by omega)).mono ?_
      rintro e w' ⟨rfl, rfl⟩
      go_wp2
      refine ⟨⟨k + 1, _, by go_num, by omega, rfl, ?_⟩, by simp [intOf]; omega⟩
      show _ = _
      rw [take_snoc_getD (bl s) k c (by rw [bl_length]; omega) HC.out]
      unfold markOf
      rw [List.foldl_append, H.out]
      rfl
    · go_wp2
      go_ret
      have e : (bl s).take k = bl s := List.take_of_length_le (by rw [bl_length]; omega)
      have h := H.out
      rw [e] at h
      exact ⟨by rw [← h]; rfl, rfl⟩

theorem xorZ {a b : Nat} (ha : a < 2147483648) (hb : b < 2147483648) : bits .xor .u32 (a : Int) (b : Int) = ((a ^^^ b : Nat) : Int) := u32_xor_nat _ _ (by omega) (by omega)

set_option maxRecDepth 100000 in
set_option maxHeartbeats 1600000 in
theorem slide_any (b off : Nat) (m : Nat) (M O C : Int) (o c : UInt8) (w : World) (hM : M = m) (hO : O = o.toNat) (hC : C = c.toNat) (hm : m < 2147483648) (ht : ∀ k : Nat, k < 16 → w.cell? ⟨b, off + k, none⟩ = some (.int .u32 (rollN 32 k : Nat))) :
    Calls Tryz.prog 97 #[.pointer (some ⟨b, off, none⟩), .int .u32 M, .int .u8 O, .int .u8 C] w fun e w' =>
      e = .returned (.int .u32 ((push (push m (c.toNat / 16) ^^^ rollN 32 (o.toNat / 16)) (c.toNat % 16) ^^^ rollN 32 (o.toNat % 16) : Nat))) ∧ ∃ n, w' = w.drewN n := by
  subst hM; subst hO; subst hC
  have ho := o.toNat_lt
  have hc := c.toNat_lt
  have t1 := ht (o.toNat / 16) (by omega)
  have t2 := ht (o.toNat % 16) (by omega)
  have a1 : bits .and .u8 (c.toNat : Int) 15 = (c.toNat : Int) % 16 := by rw [u8_and15]; omega
  have a2 : bits .and .u8 (o.toNat : Int) 15 = (o.toNat : Int) % 16 := by rw [u8_and15]; omega
  have r1 : rollN 32 (o.toNat / 16) < 2147483648 := rollN_lt _ (by omega)
  have r2 : rollN 32 (o.toNat % 16) < 2147483648 := rollN_lt _ (by omega)
  have p1 := push_lt hm (b := c.toNat / 16) (by omega)
  have x1 := xorZ p1 r1
  have g1 : (0 : Int) ≤ (o.toNat : Int) / 16 ∧ (o.toNat : Int) / 16 < 16 := by omega
  have g2 : (0 : Int) ≤ (o.toNat : Int) % 16 ∧ (o.toNat : Int) % 16 < 16 := by omega
  have n1 : ((o.toNat : Int) / 16).toNat = o.toNat / 16 := by omega
  have n2 : ((o.toNat : Int) % 16).toNat = o.toNat % 16 := by omega
  go_enter Tryz.func97, Tryz.ntmps97
  go_wp2_with fail
  go_quiet (first | (go_at_call 119; exact Calls.quiet_of_same (push_any m (c.toNat / 16) _ _ _ rfl (by omega) hm (by omega))))
  have p2 : push m (c.toNat / 16) ^^^ rollN 32 (o.toNat / 16) < 2147483648 := Nat.xor_lt_two_pow (n := 31) p1 r1
  have p3 := push_lt p2 (b := c.toNat % 16) (by omega)
  have x2 := xorZ p3 r2
  have t3 : (w.drewN nq).cell? ⟨b, off + o.toNat % 16, none⟩ = some (.int .u32 (rollN 32 (o.toNat % 16) : Nat)) := by simpa using t2
  obtain ⟨w2, hw2⟩ : ∃ w2, w.drewN nq = w2 := ⟨_, rfl⟩
  rw [hw2] at t3 ⊢
  have W2 : Hid (w.drewN nq = w2) := hw2
  clear hw2 t1 t2 ht
  go_wp2_with fail
  go_quiet (first | (go_at_call 119; exact Calls.quiet_of_same (push_any (push m (c.toNat / 16) ^^^ rollN 32 (o.toNat / 16)) (c.toNat % 16) _ _ _ rfl (by omega) p2 (by omega))))
  go_wp2
  go_ret
  exact ⟨rfl, _, by rw [← W2.out]; exact World.drewN_drewN _ _ _⟩

end Go.Proofs.YtheichphnppagaaGreat
