/- Opens: Sum. -/
import Derived.Test.YtheichphnppagaaGreatOpenMath
import Derived.Test.YtheichphnppagaaGreatTable
import Derived.Test.YtheichphnppagaaGreatRefPlain
import Derived.Deep.RegionHeld3
import Derived.Deep.DrawnRows
namespace Go.Proofs.YtheichphnppagaaGreat
open Go.RowKit

theorem crcZ (m : Nat) (hm : m < 4294967296) : bits .xor .u32 ((m : Int) / 2) (bits .and .u32 (m : Int) 1 * 3988292384 % 4294967296) = ((crcBit m : Nat) : Int) := by
  have e1 : ((m : Int) / 2) = ((m / 2 : Nat) : Int) := by omega
  have a1 : m &&& 1 < 2 := by rw [Nat.and_one_is_mod]; omega
  rw [e1, show (1 : Int) = ((1 : Nat) : Int) from rfl, u32_and_nat _ _ (by omega) (by omega), show (3988292384 : Int) = ((3988292384 : Nat) : Int) from rfl, ← Int.natCast_mul, show (4294967296 : Int) = ((4294967296 : Nat) : Int) from rfl, ← Int.natCast_emod, Nat.mod_eq_of_lt (by omega), u32_xor_nat _ _ (by omega) (by omega)]
  unfold crcBit
  rw [Nat.shiftRight_eq_div_pow]

theorem crc_snoc (l : List UInt8) (k : Nat) (c : UInt8) (hk : k < l.length) (hc : l.getD k 0 = c) : crcOf (l.take (k + 1)) = crcByte (crcOf (l.take k)) c.toNat := by
  rw [take_snoc_getD l k c hk hc]
  unfold crcOf
  rw [List.foldl_append]
  rfl
theorem crcBits_snoc : ∀ (j x : Nat), crcBits (j + 1) x = crcBit (crcBits j x)
  | 0, _ => rfl
  | j + 1, x => by
    rw [crcBits, crcBits_snoc j (crcBit x)]
    rfl

theorem xor_ones (m : Nat) (hm : m < 4294967296) : bits .xor .u32 (m : Int) 4294967295 = ((4294967295 - m : Nat) : Int) := by
  rw [show (4294967295 : Int) = ((4294967295 : Nat) : Int) from rfl, u32_xor_nat _ _ (by omega) (by omega)]
  congr 1
  apply Nat.eq_of_testBit_eq
  intro i
  have h := Nat.testBit_two_pow_sub_succ (n := 32) (x := m) (by omega) i
  rw [show 4294967295 - m = 2 ^ 32 - (m + 1) by omega, h, Nat.testBit_xor, show (4294967295 : Nat) = 2 ^ 32 - 1 from rfl, Nat.testBit_two_pow_sub_one]
  by_cases c : i < 32
  · simp [c]
  · have : m.testBit i = false := Nat.testBit_lt_two_pow (Nat.lt_of_lt_of_le hm (Nat.pow_le_pow_right (show 2 > 0 by omega) (show 32 ≤ i by omega)))
    simp [c, this]
theorem four_cells (q : Nat) (hq : q < 4294967296) : (cellsOfBytes (four q)).toArray = #[.int .u8 ((q : Int) % 256), .int .u8 ((q : Int) / 256 % 256), .int .u8 ((q : Int) / 65536 % 256), .int .u8 ((q : Int) / 16777216)] := by
  simp only [cellsOfBytes, four, List.map_cons, List.map_nil]
  rw [u8_ofNat_toNat (by omega), u8_ofNat_toNat (by omega), u8_ofNat_toNat (by omega), u8_ofNat_toNat (by omega)]
  rfl

/-- The sum, as an array. -/
def sumV (l : List UInt8) : Value := .agg (cellsOfBytes (sumL l)).toArray

set_option maxRecDepth 100000 in
set_option maxHeartbeats 1600000 in
theorem sumOf_any (s : ByteArray) (w : World) (hs : s.size ≤ 9223372036854775807) :
    Calls Tryz.prog 108 #[.string s] w fun e w' => e = .returned (sumV (bl s)) ∧ Below w.heap.size w w' := by
  go_enter Tryz.func108, Tryz.ntmps108
  go_wp2
  go_loop [3, 4, 7] (fun v3 v4 v7 => ∃ k m : Nat, v7 = .int .i64 k ∧ k ≤ s.size ∧ v3 = .int .u32 m ∧ m < 4294967296 ∧ Hid (m = crcOf ((bl s).take k))) (fun _ _ v7 => s.size - (intOf v7).toNat)
  case atStart => exact ⟨0, 4294967295, rfl, by omega, rfl, by omega, rfl⟩
  case round =>
    obtain ⟨k, m, rfl, hk, rfl, hm, H⟩ := hrel
    by_cases hlt : (k : Int) < (s.size : Int)
    · obtain ⟨c, hc⟩ : ∃ c, (bl s).getD k 0 = c := ⟨_, rfl⟩
      have i1 := index_here s k k c rfl (by omega) hc
      have hlc := c.toNat_lt
      have x1 : bits .xor .u32 (m : Int) (c.toNat : Int) = ((m ^^^ c.toNat : Nat) : Int) := u32_xor_nat _ _ (by omega) (by omega)
      have HC : Hid (crcOf ((bl s).take (k + 1)) = crcBits 8 (m ^^^ c.toNat)) := by
        show _ = _
        rw [crc_snoc (bl s) k c (by rw [bl_length]; omega) hc, ← H.out]
        rfl
      have hx : m ^^^ c.toNat < 4294967296 := Nat.xor_lt_two_pow (n := 32) hm (by omega)
      clear hc
      generalize hz : m ^^^ c.toNat = z at x1 HC hx
      clear hz
      go_wp2
      go_loop [3, 16] (fun v3 v16 => ∃ j n : Nat, v16 = .int .i64 j ∧ j ≤ 8 ∧ v3 = .int .u32 n ∧ n < 4294967296 ∧ Hid (n = crcBits j z)) (fun _ v16 => 8 - (intOf v16).toNat)
      case atStart => exact ⟨0, z, rfl, by omega, rfl, hx, rfl⟩
      case round =>
        obtain ⟨j, n, rfl, hj, rfl, hn, N⟩ := hrel
        have cz := crcZ n hn
        by_cases hj2 : (j : Int) < 8
        · go_wp2
          exact ⟨⟨j + 1, crcBit n, by go_num, by omega, (by first | rfl | (rw [← cz]; rfl)), crcBit_lt hn, (by show _ = _; rw [N.out, crcBits_snoc])⟩, by simp [intOf]; omega⟩
        · go_wp2
          exact ⟨⟨k + 1, n, by go_num, by omega, rfl, hn, (by show _ = _; rw [HC.out, N.out, show j = 8 by omega])⟩, by simp [intOf]; omega⟩
    · have e : (bl s).take k = bl s := List.take_of_length_le (by rw [bl_length]; omega)
      have hq : Hid (4294967295 - m = 4294967295 - crcOf (bl s)) := by show _ = _; rw [H.out, e]
      have x9 := xor_ones m hm
      have hq2 : 4294967295 - m < 4294967296 := by omega
      generalize 4294967295 - m = q at *
      clear e
      go_wp2
      refine bodyPost_ret (v := .agg #[.int .u8 ((q : Int) % 256), .int .u8 ((q : Int) / 256 % 256), .int .u8 ((q : Int) / 65536 % 256), .int .u8 ((q : Int) / 16777216)]) (by simp [results, Tryz.results108, go_sem]) rfl ⟨?_, (Below.refl _ _).alloc (Nat.le_refl _) _⟩
      unfold sumV sumL
      rw [← hq.out, four_cells q hq2]
      try rfl

theorem sum_cell (l : List UInt8) : ∃ a b c d : UInt8, sumL l = [a, b, c, d] := ⟨_, _, _, _, rfl⟩

/-- What firstSummed answers. -/
def fsV (s : ByteArray) (n : Nat) : Value := if summed (bl s) n = true then .tuple #[.string (s.extract 0 n), .int .i64 ((n : Int) + 4)] else .tuple #[.string ⟨#[]⟩, .int .i64 0]
theorem fsV_no {s : ByteArray} {n : Nat} (h : summed (bl s) n = false) : Ending.returned (.tuple #[.string ⟨#[]⟩, .int .i64 0]) = .returned (fsV s n) := by unfold fsV; rw [h]; rfl
theorem fsV_yes {s : ByteArray} {n : Nat} (h : summed (bl s) n = true) : Ending.returned (.tuple #[.string (s.extract 0 n), .int .i64 ((n : Int) + 4)]) = .returned (fsV s n) := by unfold fsV; rw [h]; rfl
theorem summed_short {s : ByteArray} {n : Nat} (h : s.size < n + 4) : summed (bl s) n = false := by
  simp only [summed, bl_length, Bool.and_eq_false_iff, decide_eq_false_iff_not]; exact .inl (by omega)
theorem summed_eq {s : ByteArray} {n : Nat} (h : ¬ s.size < n + 4) : summed (bl s) n = (bl (s.extract n (n + 4)) == sumL (bl (s.extract 0 n))) := by
  simp only [summed, bl_length, bl_extract, List.drop_zero, Nat.sub_zero]
  rw [decide_eq_true (by omega), Bool.true_and, show n + 4 - n = 4 by omega]

set_option maxRecDepth 100000 in
set_option maxHeartbeats 1600000 in
theorem firstSummed_any (s : ByteArray) (N : Int) (n : Nat) (w : World) (hN : N = n) (hn : n ≤ 70000) :
    Calls Tryz.prog 84 #[.string s, .int .i64 N] w fun e w' => e = .returned (fsV s n) ∧ Below w.heap.size w w' := by
  subst hN
  by_cases h1 : (s.size : Int) < (n : Int) + 4
  · go_enter Tryz.func84, Tryz.ntmps84
    go_wp2
    go_ret2
    exact ⟨fsV_no (summed_short (by omega)), Below.refl _ _⟩
  · have hse := summed_eq (s := s) (n := n) (by omega)
    go_enter Tryz.func84, Tryz.ntmps84
    go_wp2_with fail
    refine (sumOf_any (s.extract 0 n) _ (by simp; omega)).mono ?_
    rintro e w1 ⟨rfl, hB1⟩
    obtain ⟨a, b, c, d, hsum⟩ := sum_cell (bl (s.extract 0 n))
    unfold sumV
    rw [hsum]
    rw [hsum] at hse
    simp only [cellsOfBytes, List.map_cons, List.map_nil]
    have HSE : Hid (summed (bl s) n = (bl (s.extract n (n + 4)) == [a, b, c, d])) := hse
    clear hse hsum
    have hcv : ∀ k, (convert 64 9 (.slice (some ⟨w1.heap.size, 0, none⟩) 4 4)).run Tryz.prog ((w1.alloc (.cells #[.int .u8 a.toNat, .int .u8 b.toNat, .int .u8 c.toNat, .int .u8 d.toNat] 161)).drewN k) = .ok (.string ⟨#[a, b, c, d]⟩) ((w1.alloc (.cells #[.int .u8 a.toNat, .int .u8 b.toNat, .int .u8 c.toNat, .int .u8 d.toNat] 161)).drewN k) := fun k =>
      conv_cells _ w1.heap.size 4 [a, b, c, d] (fun j hj => by
        match j, hj with
        | 0, _ => simp
        | 1, _ => simp
        | 2, _ => simp
        | 3, _ => simp)
    have hc0 := hcv 0
    have hn4 : ((n : Int) + 4).toNat = n + 4 := by omega
    by_cases he : bl (s.extract n (n + 4)) = [a, b, c, d]
    · have q1 : ((s.extract n (n + 4)).toList == [a, b, c, d]) = true := by rw [toList_bl, he]; simp
      have S : Hid (summed (bl s) n = true) := by show _ = _; rw [HSE.out, he]; simp
      clear he
      go_wp2_with fail
      go_quiet (fail)
      clear hcv hc0
      go_wp2
      go_ret2
      exact ⟨fsV_yes S.out, below_drewN (hB1.alloc hB1.size _) _⟩
    · have q1 : ((s.extract n (n + 4)).toList == [a, b, c, d]) = false := by rw [toList_bl]; simpa using he
      have S : Hid (summed (bl s) n = false) := by show _ = _; rw [HSE.out]; simpa using he
      clear he
      go_wp2_with fail
      go_quiet (fail)
      clear hcv hc0
      go_wp2
      go_ret2
      exact ⟨fsV_no S.out, below_drewN (hB1.alloc hB1.size _) _⟩

end Go.Proofs.YtheichphnppagaaGreat
