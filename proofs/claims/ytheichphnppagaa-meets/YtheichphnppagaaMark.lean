/- The plain mathematics of marks: a rest goes along by half bytes; what leaves the window is taken off. No program. -/
namespace Go.Proofs.Ytheichphnppagaa

/-- A half byte of zeros behind what made the rest. -/
def roll (m : Nat) : Nat := ((m <<< 4) &&& 2147483647) ^^^ (m >>> 27) ^^^ ((m >>> 27) <<< 3)
/-- A half byte more. -/
def push (m b : Nat) : Nat := roll m ^^^ b
/-- So many half bytes of zeros. -/
def rollN : Nat → Nat → Nat
  | 0, m => m
  | n + 1, m => rollN n (roll m)
/-- A byte more. -/
def pb (m : Nat) (c : UInt8) : Nat := push (push m (c.toNat / 16)) (c.toNat % 16)
def markOf (l : List UInt8) : Nat := l.foldl pb 0

theorem roll_xor (a b : Nat) : roll (a ^^^ b) = roll a ^^^ roll b := by
  unfold roll
  rw [Nat.shiftLeft_xor_distrib, Nat.and_xor_distrib_right, Nat.shiftRight_xor_distrib, Nat.shiftLeft_xor_distrib]
  ac_rfl
theorem roll_zero : roll 0 = 0 := by decide
theorem rollN_xor : ∀ (n a b : Nat), rollN n (a ^^^ b) = rollN n a ^^^ rollN n b
  | 0, _, _ => rfl
  | n + 1, a, b => by simp only [rollN]; rw [roll_xor, rollN_xor n]
theorem rollN_roll : ∀ (n a : Nat), rollN n (roll a) = roll (rollN n a)
  | 0, _ => rfl
  | n + 1, a => by simp only [rollN]; rw [rollN_roll n]
theorem rollN_succ (n a : Nat) : rollN (n + 1) a = roll (rollN n a) := by rw [← rollN_roll]; rfl

theorem roll_lt {m : Nat} (h : m < 2147483648) : roll m < 2147483648 := by
  unfold roll
  have h1 : (m <<< 4) &&& 2147483647 < 2 ^ 31 := Nat.lt_of_le_of_lt Nat.and_le_right (by decide)
  have h2 : m >>> 27 < 16 := by rw [Nat.shiftRight_eq_div_pow]; omega
  have h3 : (m >>> 27) <<< 3 < 2 ^ 31 := by rw [Nat.shiftLeft_eq]; omega
  exact Nat.xor_lt_two_pow (n := 31) (Nat.xor_lt_two_pow (n := 31) h1 (by omega)) h3
theorem push_lt {m b : Nat} (h : m < 2147483648) (hb : b < 16) : push m b < 2147483648 :=
  Nat.xor_lt_two_pow (n := 31) (roll_lt h) (by omega)
theorem rollN_lt : ∀ (n : Nat) {m : Nat}, m < 2147483648 → rollN n m < 2147483648
  | 0, _, h => h
  | n + 1, _, h => rollN_lt n (roll_lt h)
theorem pb_lt {m : Nat} (h : m < 2147483648) (c : UInt8) : pb m c < 2147483648 := by
  have := c.toNat_lt
  exact push_lt (push_lt h (by omega)) (by omega)
theorem foldl_pb_lt : ∀ (l : List UInt8) {m : Nat}, m < 2147483648 → l.foldl pb m < 2147483648
  | [], _, h => h
  | c :: l, _, h => foldl_pb_lt l (pb_lt h c)
theorem markOf_lt (l : List UInt8) : markOf l < 2147483648 := foldl_pb_lt l (by decide)

theorem pb_zero (c : UInt8) : pb 0 c = roll (c.toNat / 16) ^^^ (c.toNat % 16) := by
  unfold pb push
  rw [roll_zero, Nat.zero_xor]
theorem pb_lin (m : Nat) (c : UInt8) : pb m c = roll (roll m) ^^^ pb 0 c := by
  rw [pb_zero]
  unfold pb push
  rw [roll_xor]
  ac_rfl
theorem foldl_lin : ∀ (l : List UInt8) (m : Nat), l.foldl pb m = rollN (2 * l.length) m ^^^ l.foldl pb 0
  | [], m => by simp [rollN]
  | c :: l, m => by
    simp only [List.foldl_cons, List.length_cons]
    rw [foldl_lin l (pb m c), foldl_lin l (pb 0 c), pb_lin m c, rollN_xor, show 2 * (l.length + 1) = 2 * l.length + 1 + 1 by omega]
    simp only [rollN]
    ac_rfl

theorem xor_off {a b x : Nat} (h : a = b ^^^ x) : x = a ^^^ b := by
  rw [h, Nat.xor_comm b x, Nat.xor_assoc, Nat.xor_self, Nat.xor_zero]

/-- One place on: the byte o leaves the window, c enters. -/
theorem slide_eq (o c : UInt8) (r : List UInt8) (hr : r.length = 15) :
    push (push (markOf (o :: r)) (c.toNat / 16) ^^^ rollN 32 (o.toNat / 16)) (c.toNat % 16) ^^^ rollN 32 (o.toNat % 16) = markOf (r ++ [c]) := by
  have h1 : pb (markOf (o :: r)) c = rollN 32 (pb 0 o) ^^^ markOf (r ++ [c]) := by
    have e := foldl_lin (r ++ [c]) (pb 0 o)
    rw [List.length_append, hr] at e
    rw [show (32 : Nat) = 2 * (15 + [c].length) from rfl]
    unfold markOf
    rw [← e, List.foldl_append]
    rfl
  rw [xor_off h1, pb_zero, rollN_xor, rollN_roll]
  unfold pb push
  rw [roll_xor]
  ac_rfl

/-- A bit more, as the division goes. -/
def bitStep (r b : Nat) : Nat := if 2 * r + b ≥ 2147483648 then (2 * r + b - 2147483648) ^^^ 9 else 2 * r + b
def roll1 (m : Nat) : Nat := ((m <<< 1) &&& 2147483647) ^^^ (m >>> 30) ^^^ ((m >>> 30) <<< 3)
theorem roll1_xor (a b : Nat) : roll1 (a ^^^ b) = roll1 a ^^^ roll1 b := by
  unfold roll1
  rw [Nat.shiftLeft_xor_distrib, Nat.and_xor_distrib_right, Nat.shiftRight_xor_distrib, Nat.shiftLeft_xor_distrib]
  ac_rfl

theorem xor_top {m n : Nat} (h1 : 2 ^ n ≤ m) (h2 : m < 2 ^ (n + 1)) : m ^^^ 2 ^ n < 2 ^ n := by
  apply Nat.lt_pow_two_of_testBit
  intro i hi
  rw [Nat.testBit_xor, Nat.testBit_two_pow]
  by_cases e : n = i
  · subst e
    obtain ⟨k, rfl⟩ : ∃ k, m = 2 ^ n + k := ⟨m - 2 ^ n, by omega⟩
    rw [Nat.testBit_two_pow_add_eq, Nat.testBit_lt_two_pow (by rw [Nat.pow_succ] at h2; omega)]
    simp
  · rw [Nat.testBit_lt_two_pow (Nat.lt_of_lt_of_le h2 (Nat.pow_le_pow_right (by decide) (by omega)))]
    simp [e]

theorem lin_ext (f g : Nat → Nat) (hf : ∀ a b, f (a ^^^ b) = f a ^^^ f b) (hg : ∀ a b, g (a ^^^ b) = g a ^^^ g b) (N : Nat) (h : ∀ i, i < N → f (2 ^ i) = g (2 ^ i)) :
    ∀ n, n ≤ N → ∀ m, m < 2 ^ n → f m = g m
  | 0, _, m, hm => by
    obtain rfl : m = 0 := by simpa using hm
    have a := hf 0 0
    have b := hg 0 0
    rw [Nat.xor_self] at a b
    rw [Nat.xor_self] at a b
    rw [a, b]
  | n + 1, hn, m, hm => by
    by_cases hlt : m < 2 ^ n
    · exact lin_ext f g hf hg N h n (by omega) m hlt
    · have hk := xor_top (by omega) hm
      have e : m = (m ^^^ 2 ^ n) ^^^ 2 ^ n := by rw [Nat.xor_assoc, Nat.xor_self, Nat.xor_zero]
      rw [e, hf, hg, lin_ext f g hf hg N h n (by omega) _ hk, h n (by omega)]

theorem roll_eq {m : Nat} (h : m < 2147483648) : roll1 (roll1 (roll1 (roll1 m))) = roll m :=
  lin_ext (fun m => roll1 (roll1 (roll1 (roll1 m)))) roll (fun a b => by simp only [roll1_xor]) roll_xor 31 (by decide) 31 (Nat.le_refl _) m h

theorem xor4 (x b u v : Nat) : (x ^^^ b) ^^^ (u ^^^ v) = x ^^^ u ^^^ v ^^^ b := by ac_rfl
theorem bitStep_lin {r b : Nat} (hr : r < 2147483648) (hb : b < 2) : bitStep r b = roll1 r ^^^ b := by
  have hbit : ∀ k, k % 2 = 0 → k + b = k ^^^ b := fun k hk => by
    have : b = 0 ∨ b = 1 := by omega
    rcases this with rfl | rfl
    · simp
    · apply Nat.eq_of_testBit_eq
      intro i
      obtain ⟨j, rfl⟩ : ∃ j, k = 2 * j := ⟨k / 2, by omega⟩
      cases i with
      | zero => rw [Nat.testBit_xor, Nat.testBit_zero, Nat.testBit_zero]; simp
      | succ i =>
        rw [Nat.testBit_xor, Nat.testBit_succ, Nat.testBit_succ, Nat.testBit_succ, show (2 * j + 1) / 2 = j by omega, show 2 * j / 2 = j by omega, show 1 / 2 = 0 by decide]
        simp
  unfold bitStep roll1
  rw [Nat.shiftRight_eq_div_pow, show (2147483647 : Nat) = 2 ^ 31 - 1 by decide, Nat.and_two_pow_sub_one_eq_mod, Nat.shiftLeft_eq]
  by_cases hc : r < 1073741824
  · rw [if_neg (by omega), show r / 2 ^ 30 = 0 by omega, show r * 2 ^ 1 % 2 ^ 31 = 2 * r by omega, hbit (2 * r) (by omega), Nat.zero_shiftLeft, Nat.xor_zero, Nat.xor_zero]
  · rw [if_pos (by omega), show r / 2 ^ 30 = 1 by omega, show r * 2 ^ 1 % 2 ^ 31 = 2 * r - 2147483648 by omega, show 2 * r + b - 2147483648 = (2 * r - 2147483648) + b by omega, hbit (2 * r - 2147483648) (by omega), show (1 : Nat) <<< 3 = 8 by decide,
      show (9 : Nat) = 1 ^^^ 8 by decide]
    exact xor4 _ _ _ _
theorem roll1_lt {m : Nat} (h : m < 2147483648) : roll1 m < 2147483648 := by
  unfold roll1
  have h1 : (m <<< 1) &&& 2147483647 < 2 ^ 31 := Nat.lt_of_le_of_lt Nat.and_le_right (by decide)
  have h2 : m >>> 30 < 2 := by rw [Nat.shiftRight_eq_div_pow]; omega
  have h3 : (m >>> 30) <<< 3 < 2 ^ 31 := by rw [Nat.shiftLeft_eq]; omega
  exact Nat.xor_lt_two_pow (n := 31) (Nat.xor_lt_two_pow (n := 31) h1 (by omega)) h3
theorem bitStep_lt {r b : Nat} (hr : r < 2147483648) (hb : b < 2) : bitStep r b < 2147483648 := by
  rw [bitStep_lin hr hb]
  exact Nat.xor_lt_two_pow (n := 31) (roll1_lt hr) (by omega)

/-- The lowest k bits of c, the highest of them first. -/
def bitsFrom (r c : Nat) : Nat → Nat
  | 0 => r
  | k + 1 => bitsFrom (bitStep r (c / 2 ^ k % 2)) c k

theorem bits_half {r c : Nat} (hr : r < 2147483648) (hc : c < 16) : bitStep (bitStep (bitStep (bitStep r (c / 8 % 2)) (c / 4 % 2)) (c / 2 % 2)) (c % 2) = push r c := by
  have b3 : c / 8 % 2 < 2 := by omega
  have b2 : c / 4 % 2 < 2 := by omega
  have b1 : c / 2 % 2 < 2 := by omega
  have b0 : c % 2 < 2 := by omega
  have t : ∀ c, c < 16 → roll1 (roll1 (roll1 (c / 8 % 2))) ^^^ roll1 (roll1 (c / 4 % 2)) ^^^ roll1 (c / 2 % 2) ^^^ (c % 2) = c := by decide
  rw [bitStep_lin (bitStep_lt (bitStep_lt (bitStep_lt hr b3) b2) b1) b0, bitStep_lin (bitStep_lt (bitStep_lt hr b3) b2) b1, bitStep_lin (bitStep_lt hr b3) b2, bitStep_lin hr b3]
  simp only [roll1_xor]
  unfold push
  rw [← roll_eq hr]
  have := t c hc
  generalize roll1 (roll1 (roll1 (c / 8 % 2))) = x3 at *
  generalize roll1 (roll1 (c / 4 % 2)) = x2 at *
  generalize roll1 (c / 2 % 2) = x1 at *
  generalize c % 2 = x0 at *
  rw [← this]
  ac_rfl

theorem bits_byte {r : Nat} (hr : r < 2147483648) (c : UInt8) : bitsFrom r c.toNat 8 = pb r c := by
  have hc := c.toNat_lt
  unfold pb
  generalize c.toNat = n at *
  rw [← bits_half hr (c := n / 16) (by omega), ← bits_half (c := n % 16) ?_ (by omega)]
  · simp only [bitsFrom]
    rw [show n / 2 ^ 7 % 2 = n / 16 / 8 % 2 by omega, show n / 2 ^ 6 % 2 = n / 16 / 4 % 2 by omega, show n / 2 ^ 5 % 2 = n / 16 / 2 % 2 by omega, show n / 2 ^ 4 % 2 = n / 16 % 2 by omega,
      show n / 2 ^ 3 % 2 = n % 16 / 8 % 2 by omega, show n / 2 ^ 2 % 2 = n % 16 / 4 % 2 by omega, show n / 2 ^ 1 % 2 = n % 16 / 2 % 2 by omega, show n / 2 ^ 0 % 2 = n % 16 % 2 by omega]
  · exact bitStep_lt (bitStep_lt (bitStep_lt (bitStep_lt hr (by omega)) (by omega)) (by omega)) (by omega)

end Go.Proofs.Ytheichphnppagaa
