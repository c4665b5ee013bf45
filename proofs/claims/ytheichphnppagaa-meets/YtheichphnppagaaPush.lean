/- THE WALKS of the marks: push, first, slide. -/
import Derived.Test.YtheichphnppagaaReads
import Derived.Test.YtheichphnppagaaCutMath
import Derived.Laws.BitsAllLaws
import Derived.BigQuiet
namespace Go.Proofs.Ytheichphnppagaa
open Go.RowKit

theorem pushZ (m b : Nat) (hm : m < 2147483648) (hb : b < 16) :
    bits .xor .u32 (bits .xor .u32 (bits .xor .u32 (bits .and .u32 ((m : Int) * 16 % 4294967296) 2147483647) ((m : Int) / 134217728)) ((m : Int) / 134217728 * 8)) (b : Int) = ((push m b : Nat) : Int) := by
  have e1 : ((m : Int) * 16 % 4294967296) = ((m * 16 % 4294967296 : Nat) : Int) := by omega
  have e2 : ((m : Int) / 134217728) = ((m / 134217728 : Nat) : Int) := by omega
  have e3 : ((m : Int) / 134217728 * 8) = ((m / 134217728 * 8 : Nat) : Int) := by omega
  have a1 : m * 16 % 4294967296 &&& 2147483647 < 2 ^ 31 := Nat.lt_of_le_of_lt Nat.and_le_right (by decide)
  have a2 : (m * 16 % 4294967296 &&& 2147483647) ^^^ m / 134217728 < 2 ^ 31 := Nat.xor_lt_two_pow a1 (by omega)
  have a3 : (m * 16 % 4294967296 &&& 2147483647) ^^^ m / 134217728 ^^^ m / 134217728 * 8 < 2 ^ 31 := Nat.xor_lt_two_pow a2 (by omega)
  rw [e3, e2, e1, show (2147483647 : Int) = ((2147483647 : Nat) : Int) from rfl, u32_and_nat _ _ (by omega) (by omega), u32_xor_nat _ _ (by omega) (by omega), u32_xor_nat _ _ (by omega) (by omega), u32_xor_nat _ _ (by omega) (by omega)]
  unfold push roll
  rw [Nat.shiftRight_eq_div_pow, Nat.shiftLeft_eq, Nat.shiftLeft_eq, show (2147483647 : Nat) = 2 ^ 31 - 1 from rfl, Nat.and_two_pow_sub_one_eq_mod, Nat.and_two_pow_sub_one_eq_mod, show m * 16 % 4294967296 % 2 ^ 31 = m * 2 ^ 4 % 2 ^ 31 by omega]

set_option maxRecDepth 100000 in
theorem push_any (m b : Nat) (M C : Int) (w : World) (hM : M = m) (hC : C = b) (hm : m < 2147483648) (hb : b < 16) :
    Calls Try.prog 47 #[.int .u32 M, .int .u8 C] w fun e w' => e = .returned (.int .u32 (push m b : Nat)) ∧ w' = w := by
  subst hM; subst hC
  go_enter Try.func47, Try.ntmps47
  go_wp2
  go_ret
  refine ⟨?_, rfl⟩
  rw [← pushZ m b hm hb]
  rfl

theorem u8_and15 (c : UInt8) : bits .and .u8 (c.toNat : Int) 15 = ((c.toNat % 16 : Nat) : Int) := by
  have := c.toNat_lt
  rw [show (15 : Int) = ((15 : Nat) : Int) from rfl, u8_and_nat _ _ (by omega) (by omega), show (15 : Nat) = 2 ^ 4 - 1 from rfl, Nat.and_two_pow_sub_one_eq_mod]

theorem index_here (s : ByteArray) (I : Int) (j : Nat) (c : UInt8) (hI : I = j) (hj : j < s.size) (hc : (bl s).getD j 0 = c) (w : World) :
    (Instr.index 9 (.string s) (.int .i64 I)).run Try.prog w = .ok (.int .u8 (c.toNat : Int)) w := by
  rw [hI, run_index_string w 9 s .i64 j Try.underlying9, dif_pos ⟨by omega, by omega⟩, ← hc, bl_get s j hj]
  rfl

theorem take_snoc_getD (l : List UInt8) (k : Nat) (c : UInt8) (hk : k < l.length) (hc : l.getD k 0 = c) : l.take (k + 1) = l.take k ++ [c] := by
  rw [List.take_add_one, ← hc]
  simp [List.getD_eq_getElem?_getD, hk]

set_option maxRecDepth 100000 in
set_option maxHeartbeats 1600000 in
theorem first_any (s : ByteArray) (w : World) (hs : s.size ≤ 2000) :
    Calls Try.prog 40 #[.string s] w fun e w' => e = .returned (.int .u32 (markOf (bl s) : Nat)) ∧ w' = w := by
  go_enter Try.func40, Try.ntmps40
  go_wp2
  go_loop [3, 4, 7] (fun v3 v4 v7 => ∃ k m : Nat, v7 = .int .i64 k ∧ k ≤ s.size ∧ v3 = .int .u32 m ∧ Hid (m = markOf ((bl s).take k))) (fun _ _ v7 => s.size - (intOf v7).toNat)
  case atStart => exact ⟨0, 0, rfl, by omega, rfl, rfl⟩
  case round =>
    obtain ⟨k, m, rfl, hk, rfl, H⟩ := hrel
    by_cases hlt : (k : Int) < (s.size : Int)
    · obtain ⟨c, hc⟩ : ∃ c, (bl s).getD k 0 = c := ⟨_, rfl⟩
      have i1 := index_here s k k c rfl (by omega) hc
      have hlc := c.toNat_lt
      have hm : m < 2147483648 := by rw [H.out]; exact markOf_lt _
      have a1 := u8_and15 c
      have HC : Hid ((bl s).getD k 0 = c) := hc
      clear hc
      go_wp2_with fail
      refine (push_any m (c.toNat / 16) _ _ _ rfl (by omega) hm (by omega)).mono ?_
      rintro e w' ⟨rfl, rfl⟩
      have hp1 := push_lt hm (b := c.toNat / 16) (by omega)
      go_wp2_with fail
      refine (push_any (push m (c.toNat / 16)) (c.toNat % 16) _ _ _ rfl (by first | rfl | exact a1 | omega) hp1 (by omega)).mono ?_
      rintro e w' ⟨rfl, rfl⟩
      go_wp2
      refine ⟨⟨k + 1, _, by go_num, by omega, rfl, ?_⟩, by simp [intOf]; omega⟩
      show _ = _
      rw [take_snoc_getD (bl s) k c (by rw [bl_length]; omega) HC.out]
      unfold markOf
      rw [List.foldl_append, H.out]
      rfl
    · go_wp2
      go_ret
      have e : (bl s).take k = bl s := List.take_of_length_le (by rw [bl_length]; omega)
      have h := H.out
      rw [e] at h
      exact ⟨by rw [← h]; rfl, rfl⟩

theorem xorZ {a b : Nat} (ha : a < 2147483648) (hb : b < 2147483648) : bits .xor .u32 (a : Int) (b : Int) = ((a ^^^ b : Nat) : Int) := u32_xor_nat _ _ (by omega) (by omega)

set_option maxRecDepth 100000 in
set_option maxHeartbeats 1600000 in
theorem slide_any (b off : Nat) (m : Nat) (M O C : Int) (o c : UInt8) (w : World) (hM : M = m) (hO : O = o.toNat) (hC : C = c.toNat) (hm : m < 2147483648) (ht : ∀ k : Nat, k < 16 → w.cell? ⟨b, off + k, none⟩ = some (.int .u32 (rollN 32 k : Nat))) :
    Calls Try.prog 41 #[.pointer (some ⟨b, off, none⟩), .int .u32 M, .int .u8 O, .int .u8 C] w fun e w' =>
      e = .returned (.int .u32 ((push (push m (c.toNat / 16) ^^^ rollN 32 (o.toNat / 16)) (c.toNat % 16) ^^^ rollN 32 (o.toNat % 16) : Nat))) ∧ ∃ n, w' = w.drewN n := by
  subst hM; subst hO; subst hC
  have ho := o.toNat_lt
  have hc := c.toNat_lt
  have t1 := ht (o.toNat / 16) (by omega)
  have t2 := ht (o.toNat % 16) (by omega)
  have a1 : bits .and .u8 (c.toNat : Int) 15 = (c.toNat : Int) % 16 := by rw [u8_and15]; omega
  have a2 : bits .and .u8 (o.toNat : Int) 15 = (o.toNat : Int) % 16 := by rw [u8_and15]; omega
  have r1 : rollN 32 (o.toNat / 16) < 2147483648 := rollN_lt _ (by omega)
  have r2 : rollN 32 (o.toNat % 16) < 2147483648 := rollN_lt _ (by omega)
  have p1 := push_lt hm (b := c.toNat / 16) (by omega)
  have x1 := xorZ p1 r1
  have g1 : (0 : Int) ≤ (o.toNat : Int) / 16 ∧ (o.toNat : Int) / 16 < 16 := by omega
  have g2 : (0 : Int) ≤ (o.toNat : Int) % 16 ∧ (o.toNat : Int) % 16 < 16 := by omega
  have n1 : ((o.toNat : Int) / 16).toNat = o.toNat / 16 := by omega
  have n2 : ((o.toNat : Int) % 16).toNat = o.toNat % 16 := by omega
  go_enter Try.func41, Try.ntmps41
  go_wp2_with fail
  go_quiet (first | (go_at_call 47; exact Calls.quiet_of_same (push_any m (c.toNat / 16) _ _ _ rfl (by omega) hm (by omega))))
  have p2 : push m (c.toNat / 16) ^^^ rollN 32 (o.toNat / 16) < 2147483648 := Nat.xor_lt_two_pow (n := 31) p1 r1
  have p3 := push_lt p2 (b := c.toNat % 16) (by omega)
  have x2 := xorZ p3 r2
  have t3 : (w.drewN nq).cell? ⟨b, off + o.toNat % 16, none⟩ = some (.int .u32 (rollN 32 (o.toNat % 16) : Nat)) := by simpa using t2
  obtain ⟨w2, hw2⟩ : ∃ w2, w.drewN nq = w2 := ⟨_, rfl⟩
  rw [hw2] at t3 ⊢
  have W2 : Hid (w.drewN nq = w2) := hw2
  clear hw2 t1 t2 ht
  go_wp2_with fail
  go_quiet (first | (go_at_call 47; exact Calls.quiet_of_same (push_any (push m (c.toNat / 16) ^^^ rollN 32 (o.toNat / 16)) (c.toNat % 16) _ _ _ rfl (by omega) p2 (by omega))))
  go_wp2
  go_ret
  exact ⟨rfl, _, by rw [← W2.out]; exact World.drewN_drewN _ _ _⟩

end Go.Proofs.Ytheichphnppagaa
