/- Opens: RSum. -/
import Derived.Test.YtheichphnppagaaGreatSum
import Derived.Test.YtheichphnppagaaGreatRefMark
import Derived.Test.YtheichphnppagaaGreatRefPack
import Derived.Test.YtheichphnppagaaGreatStore
namespace Go.Proofs.YtheichphnppagaaGreat
open Go.RowKit
attribute [local go_sem ↓] Go.wp_at_zero Go.wp_at_succ

theorem refBit_lt {c b k : Nat} (h : c < 4294967296) : refBit c b k < 4294967296 := by
  unfold refBit
  split
  · exact Nat.xor_lt_two_pow (n := 32) (by omega) (by omega)
  · omega
theorem four_at (q : Nat) (hq : q < 4294967296) (w : World) (g : Nat) (h : Row w g 5 [.int .u8 ((q : Int) % 256), .int .u8 ((q : Int) / 256 % 256), .int .u8 ((q : Int) / 65536 % 256), .int .u8 ((q : Int) / 16777216)]) :
    (convert 64 9 (.slice (some ⟨g, 0, none⟩) 4 4)).run Tryz.prog w = .ok (.string ⟨(four q).toArray⟩) w := by
  have k0 := h.cell 0
  have k1 := h.cell 1
  have k2 := h.cell 2
  have k3 := h.cell 3
  refine conv_cells w g 4 (four q) (fun j hj => ?_)
  match j, hj with
  | 0, _ => rw [k0]; simp only [four]; show some _ = some (Value.int .u8 ((UInt8.ofNat _).toNat : Int)); rw [u8_ofNat_toNat (by omega)]; rfl
  | 1, _ => rw [k1]; simp only [four]; show some _ = some (Value.int .u8 ((UInt8.ofNat _).toNat : Int)); rw [u8_ofNat_toNat (by omega)]; rfl
  | 2, _ => rw [k2]; simp only [four]; show some _ = some (Value.int .u8 ((UInt8.ofNat _).toNat : Int)); rw [u8_ofNat_toNat (by omega)]; rfl
  | 3, _ => rw [k3]; simp only [four]; show some _ = some (Value.int .u8 ((UInt8.ofNat _).toNat : Int)); rw [u8_ofNat_toNat (by omega)]; rfl

set_option maxRecDepth 100000 in
set_option maxHeartbeats 1600000 in
theorem refSum_any (s : ByteArray) (w : World) (hs : s.size ≤ 1000000) :
    Calls Tryz.prog 82 #[.string s] w fun e w' => e = .returned (strV (sumL (bl s))) ∧ Grow w w' := by
  go_enter Tryz.func82, Tryz.ntmps82
  go_wp2
  go_loop [3, 4, 5, 6] (fun v3 v4 v5 v6 => ∃ k m : Nat, v4 = .int .i64 k ∧ k ≤ s.size ∧ v3 = .int .i64 m ∧ m < 4294967296 ∧ Hid (m = crcOf ((bl s).take k))) (fun _ v4 _ _ => s.size - (intOf v4).toNat)
  case atStart => exact ⟨0, 4294967295, rfl, by omega, rfl, by omega, rfl⟩
  case round =>
    obtain ⟨k, m, rfl, hk, rfl, hm, H⟩ := hrel
    by_cases hlt : (k : Int) < (s.size : Int)
    · obtain ⟨c, hc⟩ : ∃ c, (bl s).getD k 0 = c := ⟨_, rfl⟩
      have i1 := index_here s k k c rfl (by omega) hc
      have hlc := c.toNat_lt
      have HC : Hid (crcOf ((bl s).take (k + 1)) = refBits c.toNat 8 0 m) := by
        show _ = _
        rw [crc_snoc (bl s) k c (by rw [bl_length]; omega) hc, ← H.out]
        exact byte_eq _ _ hlc
      clear hc
      go_wp2
      go_loop [3, 5, 6] (fun v3 v5 v6 => ∃ j n : Nat, v5 = .int .i64 j ∧ j ≤ 8 ∧ v3 = .int .i64 n ∧ n < 4294967296 ∧ Hid (refBits c.toNat (8 - j) j n = refBits c.toNat 8 0 m)) (fun _ v5 _ => 8 - (intOf v5).toNat)
      case atStart => exact ⟨0, m, rfl, by omega, rfl, hm, rfl⟩
      case round =>
        obtain ⟨j, n, rfl, hj, rfl, hn, N⟩ := hrel
        by_cases hj2 : (j : Int) < 8
        · have HN : Hid (refBits c.toNat (8 - (j + 1)) (j + 1) (refBit n c.toNat j) = refBits c.toNat 8 0 m) := by
            show _ = _
            rw [← N.out]
            conv => rhs; rw [show 8 - j = (8 - (j + 1)) + 1 by omega, refBits]
          obtain ⟨b, hb⟩ : ∃ b, b = c.toNat / 2 ^ j % 2 := ⟨_, rfl⟩
          have hbit := bit_of c j b hb
          have hwc : wrap64 (c.toNat : Int) = (c.toNat : Int) := by simp [wrap64]; omega
          have hlt2 := refBit_lt (b := c.toNat) (k := j) hn
          have hnm : (n : Int).tmod 2 = ((n % 2 : Nat) : Int) := by rw [Int.tmod_eq_emod_of_nonneg (by omega)]; omega
          have hnq : (n : Int).tdiv 2 = ((n / 2 : Nat) : Int) := by rw [Int.tdiv_eq_ediv_of_nonneg (by omega)]; omega
          by_cases hne : n % 2 ≠ b
          · have hq : (((n % 2 : Nat) : Int) != (b : Int)) = true := by simp; omega
            have hx : bits .xor .i64 ((n / 2 : Nat) : Int) 3988292384 = ((refBit n c.toNat j : Nat) : Int) := by
              rw [show (3988292384 : Int) = ((3988292384 : Nat) : Int) from rfl, i64_xor_nat _ _ (by omega) (by omega)]
              unfold refBit
              rw [if_pos (by rw [← hb]; exact hne)]
            have hwz : wrap64 ((n / 2 : Nat) : Int) = ((n / 2 : Nat) : Int) := by simp only [wrap64]; omega
            clear hb hne
            generalize refBit n c.toNat j = n' at *
            generalize hz1 : n % 2 = z1 at *
            generalize hz2 : n / 2 = z2 at *
            clear hz1 hz2
            go_wp2
            exact ⟨⟨j + 1, n', by go_num, by omega, rfl, hlt2, HN⟩, by simp [intOf]; omega⟩
          · have hq : (((n % 2 : Nat) : Int) != (b : Int)) = false := by simp; omega
            have hx : n / 2 = refBit n c.toNat j := by
              unfold refBit
              rw [if_neg (by rw [← hb]; exact hne)]
            rw [← hx] at hlt2 HN
            clear hb hne hx
            generalize hz1 : n % 2 = z1 at *
            generalize hz2 : n / 2 = z2 at *
            clear hz1 hz2
            go_wp2
            exact ⟨⟨j + 1, z2, by go_num, by omega, rfl, hlt2, HN⟩, by simp [intOf]; omega⟩
        · go_wp2
          exact ⟨⟨k + 1, n, by go_num, by omega, rfl, hn, (by show _ = _; rw [HC.out, ← N.out, show 8 - j = 0 by omega]; rfl)⟩, by simp [intOf]; omega⟩
    · have e : (bl s).take k = bl s := List.take_of_length_le (by rw [bl_length]; omega)
      have hq : Hid (4294967295 - m = 4294967295 - crcOf (bl s)) := by show _ = _; rw [H.out, e]
      have hq0 : (4294967295 : Int) - (m : Int) = ((4294967295 - m : Nat) : Int) := by omega
      have hq2 : 4294967295 - m < 4294967296 := by omega
      generalize 4294967295 - m = q at *
      clear e
      have q1 : (q : Int).tmod 256 = (q : Int) % 256 := Int.tmod_eq_emod_of_nonneg (by omega)
      have q2 : ((q : Int).tdiv 256).tmod 256 = (q : Int) / 256 % 256 := by rw [Int.tdiv_eq_ediv_of_nonneg (by omega), Int.tmod_eq_emod_of_nonneg (by omega)]
      have q3 : ((q : Int).tdiv 65536).tmod 256 = (q : Int) / 65536 % 256 := by rw [Int.tdiv_eq_ediv_of_nonneg (by omega), Int.tmod_eq_emod_of_nonneg (by omega)]
      have q4 : ((q : Int).tdiv 16777216) = (q : Int) / 16777216 := Int.tdiv_eq_ediv_of_nonneg (by omega)
      have hcv := four_at q hq2 (w.alloc (.cells #[.int .u8 ((q : Int) % 256), .int .u8 ((q : Int) / 256 % 256), .int .u8 ((q : Int) / 65536 % 256), .int .u8 ((q : Int) / 16777216)] 5)) w.heap.size (Row.new w 5 [.int .u8 ((q : Int) % 256), .int .u8 ((q : Int) / 256 % 256), .int .u8 ((q : Int) / 65536 % 256), .int .u8 ((q : Int) / 16777216)])
      go_wp2
      go_ret
      exact ⟨ret_of (by unfold strV sumL; rw [← hq.out]; rfl), (Grow.refl _).alloc _⟩

/-- A name for a string. -/
theorem str_name (l : List UInt8) : ∃ t : ByteArray, strV l = .string t ∧ Hid (bl t = l) ∧ t.size = l.length := ⟨⟨l.toArray⟩, rfl, rfl, rfl⟩
theorem ret_strL {t : ByteArray} {l : List UInt8} (h : bl t = l) : Ending.returned (.string t) = .returned (strV l) := by rw [ba_eq h]; rfl

set_option maxRecDepth 100000 in
theorem refFrame_any (s : ByteArray) (w : World) (hs : s.size ≤ 65535) :
    Calls Tryz.prog 50 #[.string s] w fun e w' => e = .returned (strV (frameL (bl s))) ∧ Grow w w' := by
  have q1 : (s.size : Int).tmod 256 = (s.size : Int) % 256 := Int.tmod_eq_emod_of_nonneg (by omega)
  have q2 : (s.size : Int).tdiv 256 = (s.size : Int) / 256 := Int.tdiv_eq_ediv_of_nonneg (by omega)
  have hc2 := conv_two_new w ((s.size : Int) % 256) ((s.size : Int) / 256) (UInt8.ofNat (s.size % 256)) (UInt8.ofNat (s.size / 256)) (by rw [u8_ofNat_toNat (by omega)]; omega) (by rw [u8_ofNat_toNat (by omega)]; omega)
  have hl : Hid (lenL s.size = [UInt8.ofNat (s.size % 256), UInt8.ofNat (s.size / 256)]) := rfl
  generalize UInt8.ofNat (s.size % 256) = a at *
  generalize UInt8.ofNat (s.size / 256) = b at *
  obtain ⟨t0, ht0⟩ : ∃ t : ByteArray, (⟨#[a, b]⟩ : ByteArray) = t := ⟨_, rfl⟩
  have b0 : Hid (bl t0 = lenL s.size) := by show _ = _; rw [← ht0, hl.out]; rfl
  have z0 : t0.size = 2 := by rw [← ht0]; rfl
  rw [ht0] at hc2
  clear ht0
  go_enter Tryz.func50, Tryz.ntmps50
  go_wp2_with fail
  refine (refSum_any t0 _ (by omega)).mono ?_
  rintro e w2 ⟨rfl, hG2⟩
  obtain ⟨t1, e1, b1, z1⟩ := str_name (sumL (bl t0))
  rw [e1, sumL_length] at *
  clear e1
  go_wp2_with fail
  refine (refSum_any s _ (by omega)).mono ?_
  rintro e w3 ⟨rfl, hG3⟩
  obtain ⟨t2, e2, b2, z2⟩ := str_name (sumL (bl s))
  rw [e2, sumL_length] at *
  clear e2
  go_wp2
  go_ret
  refine ⟨ret_strL ?_, Grow.trans (Grow.trans ((Grow.refl w).alloc _) hG2) hG3⟩
  rw [bl_append, bl_append, bl_append, b2.out, b1.out, b0.out]
  unfold frameL
  rw [bl_length]

end Go.Proofs.YtheichphnppagaaGreat
