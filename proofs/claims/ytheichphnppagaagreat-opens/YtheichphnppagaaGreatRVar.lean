/- Opens: RVar. -/
import Derived.Test.YtheichphnppagaaGreatRSum
import Derived.Test.YtheichphnppagaaGreatWrite
namespace Go.Proofs.YtheichphnppagaaGreat
open Go.RowKit
attribute [local go_sem ↓] Go.wp_at_zero Go.wp_at_succ

theorem conv_one_at (w : World) (g : Nat) (c : Int) (a : UInt8) (h0 : w.cell? ⟨g, 0, none⟩ = some (.int .u8 c)) (hc : c = (a.toNat : Int)) :
    (convert 64 9 (.slice (some ⟨g, 0, none⟩) 1 1)).run Tryz.prog w = .ok (.string ⟨#[a]⟩) w := by
  subst hc
  refine conv_cells w g 1 [a] (fun j hj => ?_)
  match j, hj with
  | 0, _ => simpa using h0
theorem one_later {W w5 : World} {c : Int} (h : Grow (W.alloc (.cells #[.int .u8 c] 5)).drew w5) (a : UInt8) (hc : c = (a.toNat : Int)) :
    (convert 64 9 (.slice (some ⟨W.heap.size, 0, none⟩) 1 1)).run Tryz.prog w5 = .ok (.string ⟨#[a]⟩) w5 :=
  conv_one_at _ W.heap.size c a ((h.cell (p := ⟨W.heap.size, 0, none⟩) (by simp)).trans (by simp)) hc
theorem grow_b {W w5 : World} {o : Obj} (b : Grow (W.alloc o).drew w5) : Grow W w5 := Grow.trans ((Grow.refl W).alloc o).drew b
theorem grow_a {W w5 : World} (b : Grow W.drew w5) : Grow W w5 := Grow.trans (Grow.refl W).drew b

theorem varL_len (k : Nat) : ∀ n : Nat, n < 128 ^ (k + 1) → (varL n).length ≤ k + 1 := by
  induction k with
  | zero => intro n hn; rw [varL_small (by simpa using hn)]; simp
  | succ k ih =>
    intro n hn
    by_cases h : n < 128
    · rw [varL_small h]; simp
    · rw [varL_step h, List.length_cons]
      have := ih (n / 128) (by rw [Nat.div_lt_iff_lt_mul (by decide)]; rw [Nat.pow_succ] at hn; exact hn)
      omega

set_option maxRecDepth 100000 in
set_option maxHeartbeats 1600000 in
theorem refVarint_all (k : Nat) : ∀ (n : Nat) (N : Int) (w : World), N = n → n < 128 ^ (k + 1) → k ≤ 7 →
    Calls Tryz.prog 83 #[.int .i64 N] w fun e w' => e = .returned (strV (varL n)) ∧ Grow w w' := by
  induction k with
  | zero =>
    intro n N w hN hn _
    subst hN
    have h128 : (n : Int) < 128 := by simp at hn; omega
    have hw3 : IntKind.u8.wrap (n : Int) = (n : Int) := by rw [IntKind.wrap_u8]; omega
    obtain ⟨c, hc⟩ : ∃ c, c = UInt8.ofNat n := ⟨_, rfl⟩
    have C : Hid (c = UInt8.ofNat n) := hc
    have hcv := conv_one w (n : Int) c (u8_n hc (by omega))
    clear hc
    go_enter Tryz.func83, Tryz.ntmps83
    go_wp2_with fail
    go_ret
    exact ⟨ret_of (by rw [varL_small (by omega), ← C.out]; rfl), (Grow.refl _).alloc _⟩
  | succ k ih =>
    intro n N w hN hn hk
    subst hN
    by_cases h128 : (n : Int) < 128
    · have hw3 : IntKind.u8.wrap (n : Int) = (n : Int) := by rw [IntKind.wrap_u8]; omega
      obtain ⟨c, hc⟩ : ∃ c, c = UInt8.ofNat n := ⟨_, rfl⟩
      have C : Hid (c = UInt8.ofNat n) := hc
      have hcv := conv_one w (n : Int) c (u8_n hc (by omega))
      clear hc
      go_enter Tryz.func83, Tryz.ntmps83
      go_wp2_with fail
      go_ret
      exact ⟨ret_of (by rw [varL_small (by omega), ← C.out]; rfl), (Grow.refl _).alloc _⟩
    · have hn2 : n / 128 < 128 ^ (k + 1) := by rw [Nat.div_lt_iff_lt_mul (by decide)]; rw [Nat.pow_succ] at hn; exact hn
      have hln := varL_len k (n / 128) hn2
      obtain ⟨c, hc⟩ : ∃ c, c = UInt8.ofNat (128 + n % 128) := ⟨_, rfl⟩
      have S : Hid (varL n = [c] ++ varL (n / 128)) := by show _ = _; rw [varL_step (by omega), hc]; rfl
      have hbig : n < 9223372036854775808 := Nat.lt_of_lt_of_le hn (Nat.le_trans (Nat.pow_le_pow_right (by decide) (show k + 1 + 1 ≤ 9 by omega)) (by decide))
      have q1 : (n : Int).tmod 128 = ((n % 128 : Nat) : Int) := by rw [Int.tmod_eq_emod_of_nonneg (by omega)]; omega
      have q2 : (n : Int).tdiv 128 = ((n / 128 : Nat) : Int) := by rw [Int.tdiv_eq_ediv_of_nonneg (by omega)]; omega
      have hcc : (128 : Int) + ((n % 128 : Nat) : Int) = (c.toNat : Int) := by rw [hc, u8_ofNat_toNat (by omega)]; omega
      have hw1 : IntKind.i64.wrap (128 + ((n % 128 : Nat) : Int)) = 128 + ((n % 128 : Nat) : Int) := by rw [IntKind.wrap_i64]; omega
      have hw2 : IntKind.u8.wrap (128 + ((n % 128 : Nat) : Int)) = 128 + ((n % 128 : Nat) : Int) := by rw [IntKind.wrap_u8]; omega
      have hw4 : IntKind.i64.wrap ((n / 128 : Nat) : Int) = ((n / 128 : Nat) : Int) := by rw [IntKind.wrap_i64]; omega
      obtain ⟨t0, ht0⟩ : ∃ t : ByteArray, (⟨#[c]⟩ : ByteArray) = t := ⟨_, rfl⟩
      have b0 : Hid (bl t0 = [c]) := by show _ = _; rw [← ht0]; rfl
      have z0 : t0.size = 1 := by rw [← ht0]; rfl
      have kC := conv_one_drew w (128 + ((n % 128 : Nat) : Int)) c hcc
      rw [ht0] at kC
      obtain ⟨t1, e1, b1, z1⟩ := str_name (varL (n / 128))
      have ih' := fun W => ih (n / 128) ((n / 128 : Nat) : Int) W rfl hn2 (by omega)
      rw [e1] at ih'
      generalize hm : n % 128 = m at *
      generalize hd : n / 128 = d at *
      have HCC : Hid ((128 : Int) + (m : Int) = (c.toNat : Int)) := hcc
      have HT0 : Hid ((⟨#[c]⟩ : ByteArray) = t0) := ht0
      clear hm hd hc hcc ht0
      go_enter Tryz.func83, Tryz.ntmps83
      go_wp2_with fail
      go_region_with (go_at_call 83; refine (ih' _).mono ?_; rintro e w5 ⟨rfl, b5⟩; first | (have kB := one_later b5 c HCC.out; rw [HT0.out] at kB; have bz := grow_b b5; clear b5) | (have kA := conv_one w5 (128 + (m : Int)) c HCC.out; rw [HT0.out] at kA; have bz := grow_a b5; clear b5))
      all_goals
        clear kC hw1 hw2 hw4
        go_wp2_with fail
        go_ret
        refine ⟨ret_strL (by rw [bl_append, b0.out, b1.out, S.out]), ?_⟩
        first
          | exact bz
          | exact bz.alloc _

theorem refVarint_any (n : Nat) (N : Int) (w : World) (hN : N = n) (hn : n < 72057594037927936) : Calls Tryz.prog 83 #[.int .i64 N] w fun e w' => e = .returned (strV (varL n)) ∧ Grow w w' :=
  refVarint_all 7 n N w hN hn (by omega)

def HSt (w : World) (l : List Value) (w' : World) : Prop := Row w' w.heap.size 26 l ∧ Grow w w'
theorem HSt.next {w W W' : World} {l : List Value} (h : HSt w l W) (g : Grow W W') : HSt w l W' := ⟨h.1.grow g, Grow.trans h.2 g⟩
theorem HSt.nextD {w W W' : World} {l : List Value} (h : HSt w l W) (g : Grow W.drew W') : HSt w l W' := HSt.next (h.next (Grow.refl W).drew) g
theorem HSt.cells {w W : World} {a b c d : Value} (h : HSt w [a, b, c, d] W) : W.cell? ⟨w.heap.size, 0, none⟩ = some a ∧ W.cell? ⟨w.heap.size, 1, none⟩ = some b ∧ W.cell? ⟨w.heap.size, 2, none⟩ = some c ∧ W.cell? ⟨w.heap.size, 3, none⟩ = some d := ⟨h.1.cell 0, h.1.cell 1, h.1.cell 2, h.1.cell 3⟩

set_option maxRecDepth 100000 in
set_option maxHeartbeats 12800000 in
theorem refHead_any (a b c d : Nat) (w : World) (h : a < 2097152 ∧ b < 2097152 ∧ c < 2097152 ∧ d < 2097152) :
    Calls Tryz.prog 51 #[.agg #[.int .i64 a, .int .i64 b, .int .i64 c, .int .i64 d]] w fun e w' => e = .returned (strV (headL a b c d)) ∧ Grow w w' := by
  obtain ⟨t1, e1, b1, z1⟩ := str_name (varL a)
  obtain ⟨t2, e2, b2, z2⟩ := str_name (varL b)
  obtain ⟨t3, e3, b3, z3⟩ := str_name (varL c)
  obtain ⟨t4, e4, b4, z4⟩ := str_name (varL d)
  have l1 := varL_length h.1
  have l2 := varL_length h.2.1
  have l3 := varL_length h.2.2.1
  have l4 := varL_length h.2.2.2
  have c1 := fun W => refVarint_any a (a : Nat) W rfl (by omega)
  have c2 := fun W => refVarint_any b (b : Nat) W rfl (by omega)
  have c3 := fun W => refVarint_any c (c : Nat) W rfl (by omega)
  have c4 := fun W => refVarint_any d (d : Nat) W rfl (by omega)
  rw [e1] at c1
  rw [e2] at c2
  rw [e3] at c3
  rw [e4] at c4
  clear e1 e2 e3 e4
  go_enter Tryz.func51, Tryz.ntmps51
  go_wp2_with fail
  have hk : HSt w [.int .i64 a, .int .i64 b, .int .i64 c, .int .i64 d] (w.alloc (.cells #[.int .i64 a, .int .i64 b, .int .i64 c, .int .i64 d] 26)) := ⟨Row.new w 26 _, (Grow.refl w).alloc _⟩
  have n1 : (9223372036854775807 < 6 + t1.size) = False := eq_false (by omega)
  have n2 : (9223372036854775807 < 6 + t1.size + t2.size) = False := eq_false (by omega)
  have n3 : (9223372036854775807 < 6 + t1.size + t2.size + t3.size) = False := eq_false (by omega)
  have n4 : (9223372036854775807 < 6 + t1.size + t2.size + t3.size + t4.size) = False := eq_false (by omega)
  have zL : (ByteArray.mk #[76, 65, 82, 68, 69, 82]).size = 6 := rfl
  clear l1 l2 l3 l4 z1 z2 z3 z4
  have S : Hid (headL a b c d = [76, 65, 82, 68, 69, 82] ++ varL a ++ varL b ++ varL c ++ varL d) := rfl
  go_region_held3 (fun w' => w'.cell? ⟨w.heap.size, 0, none⟩ = some (.int .i64 a) ∧ w'.cell? ⟨w.heap.size, 1, none⟩ = some (.int .i64 b) ∧ w'.cell? ⟨w.heap.size, 2, none⟩ = some (.int .i64 c) ∧ w'.cell? ⟨w.heap.size, 3, none⟩ = some (.int .i64 d)) (first | exact hk.cells | go_keep)
    (first | (go_at_call_of 83 (Value.int IntKind.i64 ((a : Nat) : Int)); refine (c1 _).mono ?_; rintro e w5 ⟨rfl, g5⟩; first | (have hk := HSt.nextD hk g5) | (have hk := HSt.next hk g5)) | (go_at_call_of 83 (Value.int IntKind.i64 ((b : Nat) : Int)); refine (c2 _).mono ?_; rintro e w5 ⟨rfl, g5⟩; first | (have hk := HSt.nextD hk g5) | (have hk := HSt.next hk g5)) | (go_at_call_of 83 (Value.int IntKind.i64 ((c : Nat) : Int)); refine (c3 _).mono ?_; rintro e w5 ⟨rfl, g5⟩; first | (have hk := HSt.nextD hk g5) | (have hk := HSt.next hk g5)) | (go_at_call_of 83 (Value.int IntKind.i64 ((d : Nat) : Int)); refine (c4 _).mono ?_; rintro e w5 ⟨rfl, g5⟩; first | (have hk := HSt.nextD hk g5) | (have hk := HSt.next hk g5)))
  all_goals
    clear c1 c2 c3 c4 n1 n2 n3 n4 zL
    go_wp2_with fail
    go_ret
    exact ⟨ret_strL (by rw [bl_append, bl_append, bl_append, bl_append, b1.out, b2.out, b3.out, b4.out, S.out]; rfl), hk.2⟩

end Go.Proofs.YtheichphnppagaaGreat
