/- Opens: RefMark. -/
import Derived.Test.YtheichphnppagaaGreatPush
namespace Go.Proofs.YtheichphnppagaaGreat
open Go.RowKit

theorem i64_xor_nat (a b : Nat) (ha : a < 9223372036854775808) (hb : b < 9223372036854775808) : bits .xor .i64 (a : Int) (b : Int) = ((a ^^^ b : Nat) : Int) := by
  have hx : a ^^^ b < 2 ^ 63 := Nat.xor_lt_two_pow (by omega) (by omega)
  show IntKind.i64.wrap ((BitVec.ofInt 64 (a : Int) ^^^ BitVec.ofInt 64 (b : Int)).toNat : Int) = _
  rw [BitVec.toNat_xor, ofInt_u64 a (by omega), ofInt_u64 b (by omega), IntKind.wrap_i64]
  omega

set_option maxRecDepth 100000 in
theorem power_any (n : Nat) (N : Int) (w : World) (hN : N = n) (h : n ≤ 12) :
    Calls Tryz.prog 124 #[.int .i64 N] w fun e w' => e = .returned (.int .i64 (2 ^ n : Nat)) ∧ w' = w := by
  subst hN
  go_enter Tryz.func124, Tryz.ntmps124
  go_wp2
  go_loop [3, 4] (fun v3 v4 => ∃ i p : Nat, v4 = .int .i64 i ∧ i ≤ n ∧ v3 = .int .i64 p ∧ p ≤ 4096 ∧ Hid (p = 2 ^ i)) (fun _ v4 => n - (intOf v4).toNat)
  case atStart => exact ⟨0, 1, rfl, by omega, rfl, by omega, rfl⟩
  case round =>
    obtain ⟨i, p, rfl, hi, rfl, hp, H⟩ := hrel
    by_cases hlt : (i : Int) < (n : Int)
    · have hp2 : 2 * p ≤ 4096 := by
        rw [H.out, ← Nat.pow_succ']
        exact Nat.pow_le_pow_right (n := 2) (by decide) (by omega : i + 1 ≤ 12)
      go_wp2
      exact ⟨⟨i + 1, 2 * p, by go_num, by omega, by go_num, hp2, (by show _ = _; rw [H.out, Nat.pow_succ']) ⟩, by simp [intOf]; omega⟩
    · have e : i = n := by omega
      subst e
      go_wp2
      go_ret
      exact ⟨ret_int (by rw [H.out]; simp), rfl⟩

theorem bit_of (c : UInt8) (k b : Nat) (hb : b = c.toNat / 2 ^ k % 2) : ((c.toNat : Int) / (2 : Int) ^ k).tmod 2 = (b : Int) := by
  rw [show ((2 : Int) ^ k) = ((2 ^ k : Nat) : Int) by simp, ← Int.natCast_ediv]
  generalize c.toNat / 2 ^ k = q at *
  rw [Int.tmod_eq_emod_of_nonneg (by omega)]
  omega

theorem mark_take (s : ByteArray) (p j : Nat) (c : UInt8) (h : 16 ≤ p) (hp : p ≤ s.size) (hj : j < 16) (hc : (bl s).getD (p - 16 + j) 0 = c) :
    markOf ((winAt (bl s) p).take (j + 1)) = pb (markOf ((winAt (bl s) p).take j)) c := by
  have hl := bl_length s
  have e : (winAt (bl s) p).getD j 0 = c := by
    unfold winAt
    rw [← hc]
    simp [List.getD_eq_getElem?_getD, hj]
  rw [take_snoc_getD _ j c (by unfold winAt; simp; omega) e]
  unfold markOf
  rw [List.foldl_append]
  rfl

set_option maxRecDepth 100000 in
set_option maxHeartbeats 1600000 in
theorem mark_any (s : ByteArray) (p : Nat) (P : Int) (w : World) (hs : s.size ≤ 2000) (hP : P = p) (h : 16 ≤ p) (hp : p ≤ s.size) :
    Calls Tryz.prog 125 #[.string s, .int .i64 P] w fun e w' => e = .returned (.int .i64 (markAt (bl s) p : Nat)) ∧ w' = w := by
  subst hP
  go_enter Tryz.func125, Tryz.ntmps125
  go_wp2
  go_loop [5, 6, 7, 8] (fun v5 v6 v7 v8 => ∃ i j m : Nat, v6 = .int .i64 i ∧ i = p - 16 + j ∧ j ≤ 16 ∧ v5 = .int .i64 m ∧ Hid (m = markOf ((winAt (bl s) p).take j))) (fun _ v6 _ _ => p - (intOf v6).toNat)
  case atStart => exact ⟨p - 16, 0, 0, by go_num, by omega, by omega, rfl, rfl⟩
  case round =>
    obtain ⟨i, j, m, rfl, hi, hj, rfl, H⟩ := hrel
    have hm : m < 2147483648 := by rw [H.out]; exact markOf_lt _
    by_cases hlt : (i : Int) < (p : Int)
    · obtain ⟨c, hc⟩ : ∃ c, (bl s).getD i 0 = c := ⟨_, rfl⟩
      have i1 := index_here s i i c rfl (by omega) hc
      have HT : Hid (markOf ((winAt (bl s) p).take (j + 1)) = pb m c) := by
        show _ = _
        rw [mark_take s p j c h hp (by omega) (by rw [← hi]; exact hc), H.out]
      have HI : Hid (i = p - 16 + j) := hi
      clear hc hi
      go_wp2
      go_loop [5, 7, 8] (fun v5 v7 v8 => ∃ q r : Nat, v7 = .int .i64 ((q : Int) - 1) ∧ q ≤ 8 ∧ v5 = .int .i64 r ∧ r < 2147483648 ∧ Hid (bitsFrom r c.toNat q = pb m c)) (fun _ v7 _ => (intOf v7 + 1).toNat)
      case atStart => exact ⟨8, m, rfl, by omega, rfl, hm, bits_byte hm c⟩
      case round =>
        obtain ⟨q, r, rfl, hq, rfl, hr, HB⟩ := hrel
        by_cases hq0 : q = 0
        · subst hq0
          go_wp2
          have hi := HI.out
          exact ⟨⟨i + 1, j + 1, r, by go_num, by omega, by omega, rfl, (by show _ = _; rw [HT.out, ← HB.out]; rfl)⟩, by simp [intOf]; omega⟩
        · obtain ⟨k, rfl⟩ : ∃ k, q = k + 1 := ⟨q - 1, by omega⟩
          have ek : ((k + 1 : Nat) : Int) - 1 = (k : Int) := by omega
          rw [ek]
          obtain ⟨b, hb⟩ : ∃ b, b = c.toNat / 2 ^ k % 2 := ⟨_, rfl⟩
          have hbit := bit_of c k b hb
          have hwc : wrap64 (c.toNat : Int) = (c.toNat : Int) := by have := c.toNat_lt; simp [wrap64]; omega
          have hb2 : b < 2 := by omega
          have HB2 : Hid (bitsFrom (bitStep r b) c.toNat k = pb m c) := by
            show _ = _
            rw [hb]
            exact HB.out
          have hst := bitStep_lt hr hb2
          clear hb
          by_cases hge : (2147483648 : Int) ≤ 2 * (r : Int) + (b : Int)
          · have hx : bits .xor .i64 (2 * (r : Int) + (b : Int) - 2147483648) 9 = (((2 * r + b - 2147483648) ^^^ 9 : Nat) : Int) := by
              rw [← i64_xor_nat _ _ (by omega) (by omega)]
              congr 1
              omega
            have e : bitStep r b = (2 * r + b - 2147483648) ^^^ 9 := by unfold bitStep; rw [if_pos (by omega)]
            rw [e] at HB2 hst
            go_wp2
            exact ⟨⟨k, _, by go_num, by omega, rfl, hst, HB2⟩, by simp [intOf]⟩
          · have e : bitStep r b = 2 * r + b := by unfold bitStep; rw [if_neg (by omega)]
            rw [e] at HB2 hst
            go_wp2
            exact ⟨⟨k, 2 * r + b, by go_num, by omega, by go_num, hst, HB2⟩, by simp [intOf]⟩
    · have e16 : j = 16 := by omega
      subst e16
      go_wp2
      go_ret
      have hw : (winAt (bl s) p).take 16 = winAt (bl s) p := List.take_of_length_le (by unfold winAt; simp; omega)
      have hH := H.out
      rw [hw] at hH
      exact ⟨ret_int (by rw [hH]; rfl), rfl⟩

end Go.Proofs.YtheichphnppagaaGreat
