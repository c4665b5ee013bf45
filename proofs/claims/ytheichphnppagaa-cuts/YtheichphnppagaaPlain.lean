/- The plain mathematics of packing: what is packed, what is told by packed bytes. No program. -/
namespace Go.Proofs.Ytheichphnppagaa

/-- How many bytes two rows have in common at their beginning, at most so many. -/
def cpl : Nat → List UInt8 → List UInt8 → Nat
  | 0, _, _ => 0
  | _ + 1, [], _ => 0
  | _ + 1, _ :: _, [] => 0
  | k + 1, a :: x, b :: y => if a = b then cpl k x y + 1 else 0

theorem cpl_eq : ∀ (m k : Nat) (x y : List UInt8), k ≤ m → k ≤ x.length → k ≤ y.length → (∀ i, i < k → x.getD i 0 = y.getD i 0) →
    (k = m ∨ x.length = k ∨ y.length = k ∨ x.getD k 0 ≠ y.getD k 0) → cpl m x y = k
  | 0, k, _, _, h, _, _, _, _ => by simp [cpl]; omega
  | m + 1, k, [], y, _, h, _, _, _ => by simp at h; simp [cpl, h]
  | m + 1, k, a :: x, [], _, _, h, _, _ => by simp at h; simp [cpl, h]
  | m + 1, k, a :: x, b :: y, hm, hx, hy, he, hd => by
    cases k with
    | zero =>
      have hne : a ≠ b := by
        rcases hd with h | h | h | h
        · omega
        · simp at h
        · simp at h
        · simpa using h
      simp [cpl, hne]
    | succ k =>
      have h0 := he 0 (by omega)
      simp at h0
      subst h0
      simp only [cpl, if_true]
      rw [cpl_eq m k x y (by omega) (by simpa using hx) (by simpa using hy) (fun i hi => by have := he (i + 1) (by omega); simpa using this) ?_]
      rcases hd with h | h | h | h
      · exact .inl (by omega)
      · exact .inr (.inl (by simpa using h))
      · exact .inr (.inr (.inl (by simpa using h)))
      · exact .inr (.inr (.inr (by simpa using h)))

theorem cpl_le : ∀ (m : Nat) (x y : List UInt8), cpl m x y ≤ m ∧ cpl m x y ≤ x.length ∧ cpl m x y ≤ y.length ∧ ∀ i, i < cpl m x y → x.getD i 0 = y.getD i 0
  | 0, _, _ => by simp [cpl]
  | m + 1, [], y => by simp [cpl]
  | m + 1, a :: x, [] => by simp [cpl]
  | m + 1, a :: x, b :: y => by
    have h := cpl_le m x y
    by_cases e : a = b
    · simp only [cpl, e, if_true, List.length_cons]
      refine ⟨by omega, by omega, by omega, fun i hi => ?_⟩
      cases i with
      | zero => simp
      | succ i => simpa using h.2.2.2 i (by omega)
    · simp [cpl, e]

/-- How long the match is that begins so many bytes ahead. -/
def lenAt (l : List UInt8) (p b : Nat) : Nat := cpl 130 (l.drop (p - b)) (l.drop p)

theorem getD_drop (l : List UInt8) (a i : Nat) : (l.drop a).getD i 0 = l.getD (a + i) 0 := by
  simp [List.getD_eq_getElem?_getD, List.getElem?_drop]

theorem lenAt_eq (l : List UInt8) (p b k : Nat) (h1 : k ≤ 130) (h2 : p + k ≤ l.length) (he : ∀ i, i < k → l.getD (p - b + i) 0 = l.getD (p + i) 0)
    (hd : k = 130 ∨ p + k = l.length ∨ l.getD (p - b + k) 0 ≠ l.getD (p + k) 0) : lenAt l p b = k := by
  unfold lenAt
  refine cpl_eq 130 k _ _ h1 (by simp; omega) (by simp; omega) (fun i hi => by rw [getD_drop, getD_drop]; exact he i hi) ?_
  rw [getD_drop, getD_drop]
  rcases hd with h | h | h
  · exact .inl h
  · exact .inr (.inr (.inl (by simp; omega)))
  · exact .inr (.inr (.inr h))

theorem lenAt_le (l : List UInt8) (p b : Nat) : lenAt l p b ≤ 130 ∧ lenAt l p b ≤ l.length - p ∧ ∀ i, i < lenAt l p b → l.getD (p - b + i) 0 = l.getD (p + i) 0 := by
  have h := cpl_le 130 (l.drop (p - b)) (l.drop p)
  refine ⟨h.1, by have := h.2.2.1; simp only [List.length_drop] at this; exact this, fun i hi => ?_⟩
  have := h.2.2.2 i hi
  rw [getD_drop, getD_drop] at this
  exact this

/-- The best of the first k, as the program looks for it. -/
def bestTo (f : Nat → Nat) : Nat → Nat × Nat
  | 0 => (0, 0)
  | k + 1 => if 3 ≤ f (k + 1) ∧ (bestTo f k).1 < f (k + 1) then (f (k + 1), k + 1) else bestTo f k

/-- The best of the first k, whatever its length. -/
def bestRef (f : Nat → Nat) : Nat → Nat × Nat
  | 0 => (0, 0)
  | k + 1 => if (bestRef f k).1 < f (k + 1) then (f (k + 1), k + 1) else bestRef f k

theorem bestTo_eq (f : Nat → Nat) : ∀ k, bestTo f k = if 3 ≤ (bestRef f k).1 then bestRef f k else (0, 0)
  | 0 => by simp [bestTo, bestRef]
  | k + 1 => by
    have h := bestTo_eq f k
    simp only [bestTo, bestRef, h]
    by_cases a : 3 ≤ (bestRef f k).1
    · simp only [a, if_true]
      by_cases b : (bestRef f k).1 < f (k + 1)
      · have c : 3 ≤ f (k + 1) := by omega
        simp [b, c]
      · simp [b, a]
    · simp only [a, if_false]
      by_cases c : 3 ≤ f (k + 1)
      · have b : (bestRef f k).1 < f (k + 1) := by omega
        have d : 0 < f (k + 1) := by omega
        simp [b, c, d]
      · simp only [c, false_and, if_false]
        by_cases b : (bestRef f k).1 < f (k + 1)
        · simp [b, c]
        · simp [b, a]

theorem bestTo_sound (f : Nat → Nat) : ∀ k, (bestTo f k = (0, 0)) ∨ (3 ≤ (bestTo f k).1 ∧ 1 ≤ (bestTo f k).2 ∧ (bestTo f k).2 ≤ k ∧ (bestTo f k).1 = f (bestTo f k).2)
  | 0 => .inl rfl
  | k + 1 => by
    by_cases h : 3 ≤ f (k + 1) ∧ (bestTo f k).1 < f (k + 1)
    · right
      have e : bestTo f (k + 1) = (f (k + 1), k + 1) := by simp only [bestTo, h, and_self, if_true]
      rw [e]
      exact ⟨h.1, by simp, Nat.le_refl _, rfl⟩
    · have e : bestTo f (k + 1) = bestTo f k := by simp only [bestTo, h, if_false]
      rw [e]
      rcases bestTo_sound f k with a | a
      · exact .inl a
      · exact .inr ⟨a.1, a.2.1, by omega, a.2.2.2⟩

def longestAt (l : List UInt8) (p : Nat) : Nat × Nat := bestTo (lenAt l p) (min p 255)

theorem longestAt_sound (l : List UInt8) (p : Nat) (h0 : (longestAt l p).1 ≠ 0) :
    3 ≤ (longestAt l p).1 ∧ (longestAt l p).1 ≤ 130 ∧ 1 ≤ (longestAt l p).2 ∧ (longestAt l p).2 ≤ p ∧ (longestAt l p).2 ≤ 255 ∧ (longestAt l p).1 ≤ l.length - p ∧
    ∀ i, i < (longestAt l p).1 → l.getD (p - (longestAt l p).2 + i) 0 = l.getD (p + i) 0 := by
  unfold longestAt at *
  rcases bestTo_sound (lenAt l p) (min p 255) with h | ⟨h1, h2, h3, h4⟩
  · rw [h] at h0; simp at h0
  · have h := lenAt_le l p (bestTo (lenAt l p) (min p 255)).2
    rw [← h4] at h
    exact ⟨h1, h.1, h2, by omega, by omega, h.2.1, h.2.2⟩

/-- Plain bytes, told together. -/
def plainG : Nat → List UInt8 → List UInt8
  | 0, _ => []
  | f + 1, s => if s.length = 0 then [] else UInt8.ofNat (min s.length 128 - 1) :: (s.take 128 ++ plainG f (s.drop 128))

theorem plainG_fuel : ∀ (f g : Nat) (s : List UInt8), s.length ≤ f → s.length ≤ g → plainG f s = plainG g s
  | 0, 0, _, _, _ => rfl
  | 0, g + 1, s, h, _ => by have : s.length = 0 := by omega
                            simp [plainG, this]
  | f + 1, 0, s, _, h => by have : s.length = 0 := by omega
                            simp [plainG, this]
  | f + 1, g + 1, s, h, h' => by
    simp only [plainG]
    by_cases e : s.length = 0
    · simp [e]
    · simp only [e, if_false]
      rw [plainG_fuel f g (s.drop 128) (by simp; omega) (by simp; omega)]

def plainT (s : List UInt8) : List UInt8 := plainG s.length s

theorem plainT_nil : plainT [] = [] := rfl
theorem plainT_step (s : List UInt8) (h : s.length ≠ 0) : plainT s = UInt8.ofNat (min s.length 128 - 1) :: (s.take 128 ++ plainT (s.drop 128)) := by
  unfold plainT
  obtain ⟨n, hn⟩ : ∃ n, s.length = n + 1 := ⟨s.length - 1, by omega⟩
  rw [show plainG s.length s = plainG (n + 1) s by rw [hn]]
  simp only [plainG, h, if_false]
  rw [plainG_fuel n (s.drop 128).length (s.drop 128) (by simp; omega) (Nat.le_refl _)]

/-- What is packed from a place on, plain bytes from another one on not told yet. -/
def sqG : Nat → List UInt8 → Nat → Nat → List UInt8
  | 0, l, told, _ => plainT (l.drop told)
  | f + 1, l, told, p => if p < l.length then
      if (longestAt l p).1 = 0 then sqG f l told (p + 1)
      else plainT ((l.drop told).take (p - told)) ++ UInt8.ofNat (125 + (longestAt l p).1) :: UInt8.ofNat (longestAt l p).2 :: sqG f l (p + (longestAt l p).1) (p + (longestAt l p).1)
    else plainT (l.drop told)

def sq (l : List UInt8) : List UInt8 := sqG l.length l 0 0

theorem sqG_end (f : Nat) (l : List UInt8) (told p : Nat) (h : l.length ≤ p) : sqG f l told p = plainT (l.drop told) := by
  cases f with
  | zero => rfl
  | succ f => simp only [sqG]; rw [if_neg (by omega)]

theorem sqG_plain (f : Nat) (l : List UInt8) (told p : Nat) (h : p < l.length) (h0 : (longestAt l p).1 = 0) : sqG (f + 1) l told p = sqG f l told (p + 1) := by
  simp only [sqG, h, h0, if_true]

theorem sqG_match (f : Nat) (l : List UInt8) (told p : Nat) (h : p < l.length) (h0 : (longestAt l p).1 ≠ 0) :
    sqG (f + 1) l told p = plainT ((l.drop told).take (p - told)) ++ UInt8.ofNat (125 + (longestAt l p).1) :: UInt8.ofNat (longestAt l p).2 :: sqG f l (p + (longestAt l p).1) (p + (longestAt l p).1) := by
  simp only [sqG, h, h0, if_true, if_false]

/-- So many bytes more, each that which lies so many ahead. -/
def copyB : Nat → Nat → List UInt8 → List UInt8
  | 0, _, out => out
  | k + 1, m, out => copyB k m (out ++ [out.getD (out.length - m) 0])

theorem copyB_length : ∀ (k m : Nat) (out : List UInt8), (copyB k m out).length = out.length + k
  | 0, _, _ => by simp [copyB]
  | k + 1, m, out => by simp only [copyB]; rw [copyB_length]; simp; omega

theorem copyB_last : ∀ (k m : Nat) (out : List UInt8), copyB (k + 1) m out = copyB k m out ++ [(copyB k m out).getD ((copyB k m out).length - m) 0]
  | 0, m, out => by simp [copyB]
  | k + 1, m, out => by rw [copyB, copyB_last k m (out ++ [out.getD (out.length - m) 0])]; rfl

/-- The first part of packed bytes: what there is behind it, and how many bytes it takes. -/
def part (s out : List UInt8) : Option (List UInt8 × Nat) :=
  match s with
  | [] => none
  | c :: r =>
    if c.toNat < 128 then
      if r.length < c.toNat + 1 then none else some (out ++ r.take (c.toNat + 1), c.toNat + 2)
    else
      match r with
      | [] => none
      | m :: _ => if m.toNat = 0 ∨ out.length < m.toNat then none else some (copyB (c.toNat - 125) m.toNat out, 2)

theorem part_pos {s out o : List UInt8} {u : Nat} (h : part s out = some (o, u)) : 2 ≤ u ∧ u ≤ s.length := by
  unfold part at h
  match s with
  | [] => simp at h
  | c :: r =>
    simp only at h
    by_cases a : c.toNat < 128
    · by_cases b : r.length < c.toNat + 1
      · simp [a, b] at h
      · simp [a, b] at h; obtain ⟨_, rfl⟩ := h; simp; omega
    · match r with
      | [] => simp [a] at h
      | m :: r' =>
        by_cases b : m.toNat = 0 ∨ out.length < m.toNat
        · simp only [a, b, if_true, if_false] at h; simp at h
        · simp only [a, b, if_false] at h; simp at h; obtain ⟨_, rfl⟩ := h; simp

def loG : Nat → Nat → List UInt8 → List UInt8 → Option (List UInt8)
  | 0, _, _, _ => none
  | f + 1, most, s, out => if s.length = 0 then some out else
    match part s out with
    | none => none
    | some (o, u) => if most < o.length then none else loG f most (s.drop u) o

theorem loG_nil (f most : Nat) (s out : List UInt8) (h : s.length = 0) : loG (f + 1) most s out = some out := by simp [loG, h]
theorem loG_bad (f most : Nat) (s out : List UInt8) (h : s.length ≠ 0) (hp : part s out = none) : loG (f + 1) most s out = none := by simp [loG, h, hp]
theorem loG_big (f most : Nat) (s out : List UInt8) (h : s.length ≠ 0) {o : List UInt8} {u : Nat} (hp : part s out = some (o, u)) (hm : most < o.length) : loG (f + 1) most s out = none := by simp [loG, h, hp, hm]
theorem loG_step (f most : Nat) (s out : List UInt8) (h : s.length ≠ 0) {o : List UInt8} {u : Nat} (hp : part s out = some (o, u)) (hm : ¬ most < o.length) : loG (f + 1) most s out = loG f most (s.drop u) o := by simp [loG, h, hp, hm]

theorem loG_fuel : ∀ (f g most : Nat) (s out : List UInt8), s.length < f → s.length < g → loG f most s out = loG g most s out
  | 0, _, _, _, _, h, _ => by omega
  | _ + 1, 0, _, _, _, _, h => by omega
  | f + 1, g + 1, most, s, out, h, h' => by
    by_cases e : s.length = 0
    · rw [loG_nil _ _ _ _ e, loG_nil _ _ _ _ e]
    · cases hp : part s out with
      | none => rw [loG_bad _ _ _ _ e hp, loG_bad _ _ _ _ e hp]
      | some x =>
        obtain ⟨o, u⟩ := x
        have hu := part_pos hp
        by_cases hm : most < o.length
        · rw [loG_big _ _ _ _ e hp hm, loG_big _ _ _ _ e hp hm]
        · rw [loG_step _ _ _ _ e hp hm, loG_step _ _ _ _ e hp hm]
          exact loG_fuel f g most _ _ (by simp; omega) (by simp; omega)

theorem loG_length : ∀ (f most : Nat) (s out d : List UInt8), out.length ≤ most → loG f most s out = some d → d.length ≤ most
  | 0, _, _, _, _, _, h => by simp [loG] at h
  | f + 1, most, s, out, d, ho, h => by
    by_cases e : s.length = 0
    · rw [loG_nil _ _ _ _ e] at h; simp only [Option.some.injEq] at h; subst h; exact ho
    · cases hp : part s out with
      | none => rw [loG_bad _ _ _ _ e hp] at h; simp at h
      | some x =>
        obtain ⟨o, u⟩ := x
        by_cases hm : most < o.length
        · rw [loG_big _ _ _ _ e hp hm] at h; simp at h
        · rw [loG_step _ _ _ _ e hp hm] at h
          exact loG_length f most _ _ d (by omega) h

def loT (most : Nat) (s out : List UInt8) : Option (List UInt8) := loG (s.length + 1) most s out

theorem loT_nil (most : Nat) (out : List UInt8) : loT most [] out = some out := rfl
theorem loT_step (most : Nat) (s out o : List UInt8) (u : Nat) (h : s.length ≠ 0) (hp : part s out = some (o, u)) (hm : o.length ≤ most) : loT most s out = loT most (s.drop u) o := by
  unfold loT
  have hu := part_pos hp
  rw [loG_step _ _ _ _ h hp (by omega)]
  exact loG_fuel _ _ _ _ _ (by simp; omega) (by simp)

theorem u8_ofNat_toNat {n : Nat} (h : n < 256) : (UInt8.ofNat n).toNat = n := by
  simp; omega

theorem loT_plain (most : Nat) : ∀ (k : Nat) (x rest o : List UInt8), x.length ≤ k → o.length + x.length ≤ most → loT most (plainT x ++ rest) o = loT most rest (o ++ x)
  | 0, x, rest, o, hk, _ => by
    have : x = [] := List.eq_nil_of_length_eq_zero (by omega)
    subst this
    simp [plainT_nil]
  | k + 1, x, rest, o, hk, hm => by
    by_cases e : x.length = 0
    · have : x = [] := List.eq_nil_of_length_eq_zero e
      subst this
      simp [plainT_nil]
    · rw [plainT_step x e]
      have hc : (UInt8.ofNat (min x.length 128 - 1)).toNat = min x.length 128 - 1 := u8_ofNat_toNat (by omega)
      have hp : part (UInt8.ofNat (min x.length 128 - 1) :: (x.take 128 ++ plainT (x.drop 128)) ++ rest) o = some (o ++ x.take 128, min x.length 128 - 1 + 2) := by
        simp only [part, List.cons_append, hc]
        rw [if_pos (by omega), if_neg (by simp; omega)]
        congr 2
        rw [show min x.length 128 - 1 + 1 = (x.take 128).length by simp; omega, List.append_assoc, List.take_left]
      rw [loT_step most _ o _ _ (by simp) hp (by simp; omega)]
      have hd : List.drop (min x.length 128 - 1 + 2) (UInt8.ofNat (min x.length 128 - 1) :: (x.take 128 ++ plainT (x.drop 128)) ++ rest) = plainT (x.drop 128) ++ rest := by
        rw [show min x.length 128 - 1 + 2 = (x.take 128).length + 1 by simp; omega, List.cons_append, List.drop_succ_cons, List.append_assoc, List.drop_left]
      rw [hd, loT_plain most k (x.drop 128) rest (o ++ x.take 128) (by simp; omega) (by simp; omega), List.append_assoc, List.take_append_drop]

theorem take_snoc' (l : List UInt8) (p : Nat) (h : p < l.length) : l.take (p + 1) = l.take p ++ [l.getD p 0] := by
  rw [List.take_succ_eq_append_getElem h]
  simp [List.getD_eq_getElem?_getD, h]

theorem copyB_take (l : List UInt8) (b : Nat) (hb : 1 ≤ b) : ∀ (k p : Nat), b ≤ p → p + k ≤ l.length → (∀ i, i < k → l.getD (p - b + i) 0 = l.getD (p + i) 0) → copyB k b (l.take p) = l.take (p + k)
  | 0, p, _, _, _ => rfl
  | k + 1, p, h1, h2, he => by
    simp only [copyB]
    have h0 := he 0 (by omega)
    simp only [Nat.add_zero] at h0
    have hg : (l.take p).getD ((l.take p).length - b) 0 = l.getD p 0 := by
      rw [← h0]
      simp only [List.length_take, List.getD_eq_getElem?_getD]
      rw [show min p l.length - b = p - b by omega, List.getElem?_take, if_pos (by omega)]
    rw [hg, ← take_snoc' l p (by omega), copyB_take l b hb k (p + 1) (by omega) (by omega) (fun i hi => by
      have := he (i + 1) (by omega)
      rw [show p + 1 - b + i = p - b + (i + 1) by omega, show p + 1 + i = p + (i + 1) by omega]
      exact this)]
    congr 1
    omega

theorem loT_match (most : Nat) (l rest : List UInt8) (p n b : Nat) (h3 : 3 ≤ n) (h130 : n ≤ 130) (hb : 1 ≤ b) (hp : b ≤ p) (h255 : b ≤ 255) (hl : p + n ≤ l.length) (hm : l.length ≤ most)
    (he : ∀ i, i < n → l.getD (p - b + i) 0 = l.getD (p + i) 0) :
    loT most (UInt8.ofNat (125 + n) :: UInt8.ofNat b :: rest) (l.take p) = loT most rest (l.take (p + n)) := by
  have hc : (UInt8.ofNat (125 + n)).toNat = 125 + n := u8_ofNat_toNat (by omega)
  have hb' : (UInt8.ofNat b).toNat = b := u8_ofNat_toNat (by omega)
  have hpt : part (UInt8.ofNat (125 + n) :: UInt8.ofNat b :: rest) (l.take p) = some (l.take (p + n), 2) := by
    simp only [part, hc, hb']
    rw [if_neg (by omega), if_neg (by simp; omega), show 125 + n - 125 = n by omega, copyB_take l b hb n p hp hl he]
  rw [loT_step most _ _ _ _ (by simp) hpt (by simp; omega)]
  rfl

theorem loT_sqG (l : List UInt8) (most : Nat) (hm : l.length ≤ most) : ∀ (f told p : Nat), told ≤ p → p ≤ l.length → l.length - p ≤ f → loT most (sqG f l told p) (l.take told) = some l
  | f, told, p, h1, h2, h3 => by
    by_cases hlt : p < l.length
    · obtain ⟨f, rfl⟩ : ∃ g, f = g + 1 := ⟨f - 1, by omega⟩
      by_cases h0 : (longestAt l p).1 = 0
      · rw [sqG_plain f l told p hlt h0]
        exact loT_sqG l most hm f told (p + 1) (by omega) (by omega) (by omega)
      · obtain ⟨a1, a2, a3, a4, a5, a6, a7⟩ := longestAt_sound l p h0
        rw [sqG_match f l told p hlt h0, loT_plain most _ _ _ _ (Nat.le_refl _) (by simp; omega)]
        have : l.take told ++ (l.drop told).take (p - told) = l.take p := by
          rw [show l.take p = l.take (told + (p - told)) by rw [show told + (p - told) = p by omega], List.take_add]
        rw [this, loT_match most l _ p _ _ a1 a2 a3 a4 a5 (by omega) hm a7]
        exact loT_sqG l most hm f _ _ (Nat.le_refl _) (by omega) (by omega)
    · rw [sqG_end f l told p (by omega)]
      have := loT_plain most _ (l.drop told) [] (l.take told) (Nat.le_refl _) (by simp; omega)
      rw [List.append_nil, List.take_append_drop] at this
      rw [this]
      rfl

/-- What is packed tells what it was. -/
theorem loT_sq (l : List UInt8) (most : Nat) (hm : l.length ≤ most) : loT most (sq l) [] = some l :=
  loT_sqG l most hm l.length 0 0 (Nat.le_refl _) (Nat.zero_le _) (by omega)

theorem plainT_length : ∀ (k : Nat) (x : List UInt8), x.length ≤ k → (plainT x).length ≤ x.length + (x.length + 127) / 128
  | 0, x, h => by
    have : x = [] := List.eq_nil_of_length_eq_zero (by omega)
    subst this
    simp [plainT_nil]
  | k + 1, x, h => by
    by_cases e : x.length = 0
    · have : x = [] := List.eq_nil_of_length_eq_zero e
      subst this
      simp [plainT_nil]
    · rw [plainT_step x e]
      have := plainT_length k (x.drop 128) (by simp; omega)
      simp only [List.length_cons, List.length_append, List.length_take, List.length_drop] at *
      omega

theorem sqG_length (l : List UInt8) : ∀ (f told p : Nat), told ≤ p → p ≤ l.length → l.length - p ≤ f → (sqG f l told p).length ≤ (l.length - told) + (l.length - told) / 128 + 1
  | f, told, p, h1, h2, h3 => by
    by_cases hlt : p < l.length
    · obtain ⟨f, rfl⟩ : ∃ g, f = g + 1 := ⟨f - 1, by omega⟩
      by_cases h0 : (longestAt l p).1 = 0
      · rw [sqG_plain f l told p hlt h0]
        exact sqG_length l f told (p + 1) (by omega) (by omega) (by omega)
      · obtain ⟨a1, a2, a3, a4, a5, a6, _⟩ := longestAt_sound l p h0
        rw [sqG_match f l told p hlt h0]
        have i1 := sqG_length l f (p + (longestAt l p).1) (p + (longestAt l p).1) (Nat.le_refl _) (by omega) (by omega)
        have i2 := plainT_length _ ((l.drop told).take (p - told)) (Nat.le_refl _)
        have i3 : ((l.drop told).take (p - told)).length = p - told := by simp; omega
        rw [i3] at i2
        simp only [List.length_cons, List.length_append]
        omega
    · rw [sqG_end f l told p (by omega)]
      have := plainT_length _ (l.drop told) (Nat.le_refl _)
      simp only [List.length_drop] at this
      omega

theorem sq_length (l : List UInt8) : (sq l).length ≤ l.length + l.length / 128 + 1 := by
  have := sqG_length l l.length 0 0 (Nat.le_refl _) (Nat.zero_le _) (by omega)
  unfold sq
  simpa using this

/-- What packed bytes tell, if they are packed so. -/
def unp (s : List UInt8) : Option (List UInt8) :=
  match loT 2000 s [] with
  | none => none
  | some d => if sq d = s then some d else none

theorem unp_sq (l : List UInt8) (h : l.length ≤ 2000) : unp (sq l) = some l := by simp [unp, loT_sq l 2000 h]
theorem unp_some {s d : List UInt8} (h : unp s = some d) : d.length ≤ 2000 ∧ sq d = s := by
  unfold unp at h
  cases e : loT 2000 s [] with
  | none => rw [e] at h; simp at h
  | some x =>
    rw [e] at h
    simp only at h
    by_cases e' : sq x = s
    · simp [e'] at h; subst h; exact ⟨loG_length _ 2000 s [] x (by simp) e, e'⟩
    · simp [e'] at h

end Go.Proofs.Ytheichphnppagaa
