/- The plain mathematics of cutting: where a stream is cut; what the cuts are like; that they depend on what lies behind a cut alone. No program. -/
import Derived.Test.YtheichphnppagaaMark
namespace Go.Proofs.Ytheichphnppagaa

def winAt (l : List UInt8) (p : Nat) : List UInt8 := (l.drop (p - 16)).take 16
def markAt (l : List UInt8) (p : Nat) : Nat := markOf (winAt l p)
theorem markAt_lt (l : List UInt8) (p : Nat) : markAt l p < 2147483648 := markOf_lt _

theorem markAt_slide (l : List UInt8) (p : Nat) (h : 16 ≤ p) (hl : p < l.length) (o c : UInt8) (ho : l.getD (p - 16) 0 = o) (hc : l.getD p 0 = c) :
    push (push (markAt l p) (c.toNat / 16) ^^^ rollN 32 (o.toNat / 16)) (c.toNat % 16) ^^^ rollN 32 (o.toNat % 16) = markAt l (p + 1) := by
  obtain ⟨k, rfl⟩ : ∃ k, p = k + 16 := ⟨p - 16, by omega⟩
  have hk : k < l.length := by omega
  have hd : l.drop k = o :: l.drop (k + 1) := by
    rw [List.drop_eq_getElem_cons hk, ← ho]
    simp [List.getD_eq_getElem?_getD, hk]
  have e1 : winAt l (k + 16) = o :: (l.drop (k + 1)).take 15 := by
    unfold winAt
    rw [Nat.add_sub_cancel, hd]
    rfl
  have e2 : winAt l (k + 16 + 1) = (l.drop (k + 1)).take 15 ++ [c] := by
    unfold winAt
    rw [show k + 16 + 1 - 16 = k + 1 by omega, show (16 : Nat) = 15 + 1 from rfl, List.take_add_one, List.getElem?_drop, show k + 1 + 15 = k + 16 by omega]
    congr 1
    rw [← hc]
    simp [List.getD_eq_getElem?_getD, hl]
  unfold markAt
  rw [e1, e2]
  exact slide_eq o c _ (by simp; omega)

/-- The first place from p on, of so many, that is good; else the one behind them. -/
def scan (l : List UInt8) (bits : Nat) : Nat → Nat → Nat
  | 0, p => p
  | k + 1, p => if markAt l p % 2 ^ bits = 2 ^ bits - 1 then p else scan l bits k (p + 1)

def nextCut (l : List UInt8) (mn mx bits last : Nat) : Nat :=
  if min (last + mx) l.length ≤ last + mn then min (last + mx) l.length else scan l bits (min (last + mx) l.length - (last + mn)) (last + mn)

def cutsF (l : List UInt8) (mn mx bits : Nat) : Nat → Nat → List Nat
  | 0, _ => []
  | f + 1, last => if last < l.length then nextCut l mn mx bits last :: cutsF l mn mx bits f (nextCut l mn mx bits last) else []
def cuts (l : List UInt8) (mn mx bits : Nat) : List Nat := cutsF l mn mx bits l.length 0

theorem scan_ge (l : List UInt8) (bits : Nat) : ∀ k p, p ≤ scan l bits k p ∧ scan l bits k p ≤ p + k
  | 0, p => by simp [scan]
  | k + 1, p => by
    unfold scan
    have := scan_ge l bits k (p + 1)
    split <;> omega

theorem nextCut_gt (l : List UInt8) {mn mx bits last : Nat} (h1 : 1 ≤ mn) (h2 : mn ≤ mx) (h : last < l.length) : last < nextCut l mn mx bits last := by
  unfold nextCut
  split
  · omega
  · have := (scan_ge l bits (min (last + mx) l.length - (last + mn)) (last + mn)).1
    omega
theorem nextCut_le (l : List UInt8) (mn mx bits last : Nat) : nextCut l mn mx bits last ≤ min (last + mx) l.length := by
  unfold nextCut
  split
  · omega
  · have := (scan_ge l bits (min (last + mx) l.length - (last + mn)) (last + mn)).2
    omega
theorem nextCut_min (l : List UInt8) {mn mx bits last : Nat} (h2 : mn ≤ mx) : nextCut l mn mx bits last = l.length ∨ last + mn ≤ nextCut l mn mx bits last := by
  unfold nextCut
  split
  · omega
  · have := (scan_ge l bits (min (last + mx) l.length - (last + mn)) (last + mn)).1
    omega

/-- What the cuts are like: Whole. -/
theorem cutsF_whole (l : List UInt8) {mn mx bits : Nat} (h1 : 1 ≤ mn) (h2 : mn ≤ mx) : ∀ (f last : Nat), l.length - last ≤ f → last < l.length →
    (cutsF l mn mx bits f last) ≠ [] ∧ (cutsF l mn mx bits f last).getLast? = some l.length
  | 0, last, h, hl => by omega
  | f + 1, last, h, hl => by
    have a := nextCut_gt l (bits := bits) h1 h2 hl
    have b := nextCut_le l mn mx bits last
    simp only [cutsF, if_pos hl]
    refine ⟨by simp, ?_⟩
    by_cases e : nextCut l mn mx bits last < l.length
    · have r := cutsF_whole l h1 h2 (bits := bits) f _ (by omega) e
      rw [List.getLast?_cons, r.2]
      rfl
    · have e' : nextCut l mn mx bits last = l.length := by omega
      rw [e']
      cases f <;> simp [cutsF]

theorem cutsF_fuel (l : List UInt8) {mn mx bits : Nat} (h1 : 1 ≤ mn) (h2 : mn ≤ mx) : ∀ (f g last : Nat), l.length - last ≤ f → l.length - last ≤ g → cutsF l mn mx bits f last = cutsF l mn mx bits g last
  | 0, 0, _, _, _ => rfl
  | 0, g + 1, last, h, _ => by simp only [cutsF]; rw [if_neg (by omega)]
  | f + 1, 0, last, _, h => by simp only [cutsF]; rw [if_neg (by omega)]
  | f + 1, g + 1, last, hf, hg => by
    simp only [cutsF]
    by_cases hl : last < l.length
    · have a := nextCut_gt l (bits := bits) h1 h2 hl
      rw [if_pos hl, if_pos hl, cutsF_fuel l h1 h2 f g _ (by omega) (by omega)]
    · rw [if_neg hl, if_neg hl]

theorem cutsF_gt (l : List UInt8) {mn mx bits : Nat} (h1 : 1 ≤ mn) (h2 : mn ≤ mx) : ∀ (f last q : Nat), q ∈ cutsF l mn mx bits f last → last < q ∧ q ≤ l.length
  | 0, last, q, h => by simp [cutsF] at h
  | f + 1, last, q, h => by
    simp only [cutsF] at h
    by_cases hl : last < l.length
    · have a := nextCut_gt l (bits := bits) h1 h2 hl
      have b := nextCut_le l mn mx bits last
      rw [if_pos hl] at h
      rcases List.mem_cons.1 h with rfl | h
      · omega
      · have := cutsF_gt l h1 h2 f _ q h
        omega
    · rw [if_neg hl] at h
      simp at h

/-- Behind a cut the cuts are those from there on. -/
theorem cutsF_behind (l : List UInt8) {mn mx bits : Nat} (h1 : 1 ≤ mn) (h2 : mn ≤ mx) : ∀ (f last P : Nat), P ∈ cutsF l mn mx bits f last → l.length - last ≤ f → ∀ q, P < q → ∀ g, l.length - P ≤ g → (q ∈ cutsF l mn mx bits f last ↔ q ∈ cutsF l mn mx bits g P)
  | 0, last, P, h, _, _, _, _, _ => by simp [cutsF] at h
  | f + 1, last, P, h, hf, q, hq, g, hg => by
    have hP := cutsF_gt l h1 h2 _ _ _ h
    simp only [cutsF] at h ⊢
    by_cases hl : last < l.length
    · have a := nextCut_gt l (bits := bits) h1 h2 hl
      have b := nextCut_le l mn mx bits last
      rw [if_pos hl] at h ⊢
      rcases List.mem_cons.1 h with e | h
      · rw [List.mem_cons, ← e, cutsF_fuel l h1 h2 f g P (by omega) hg]
        exact ⟨fun x => x.resolve_left (by omega), .inr⟩
      · have hP' := cutsF_gt l h1 h2 _ _ _ h
        rw [List.mem_cons, ← cutsF_behind l h1 h2 f _ P h (by omega) q hq g hg]
        exact ⟨fun x => x.resolve_left (by omega), .inr⟩
    · rw [if_neg hl] at h
      simp at h

/-- A mark looks at what lies behind the last cut alone. -/
theorem markAt_drop (l : List UInt8) (d p : Nat) (h : 16 ≤ p) : markAt (l.drop d) p = markAt l (d + p) := by
  unfold markAt winAt
  rw [List.drop_drop, show d + (p - 16) = d + p - 16 by omega]
theorem scan_drop (l : List UInt8) (bits d : Nat) : ∀ k p, 16 ≤ p → d + scan (l.drop d) bits k p = scan l bits k (d + p)
  | 0, p, _ => rfl
  | k + 1, p, h => by
    unfold scan
    rw [markAt_drop l d p h, show d + p + 1 = d + (p + 1) by omega, ← scan_drop l bits d k (p + 1) (by omega)]
    split <;> rfl
theorem nextCut_drop (l : List UInt8) {mn mx bits : Nat} (h1 : 16 ≤ mn) (d : Nat) (hd : d ≤ l.length) (p : Nat) : d + nextCut (l.drop d) mn mx bits p = nextCut l mn mx bits (d + p) := by
  unfold nextCut
  rw [List.length_drop]
  have e : d + min (p + mx) (l.length - d) = min (d + p + mx) l.length := by omega
  by_cases c : min (p + mx) (l.length - d) ≤ p + mn
  · rw [if_pos c, if_pos (by omega), e]
  · rw [if_neg c, if_neg (by omega), scan_drop l bits d _ _ (by omega)]
    congr 1 <;> omega
theorem cutsF_drop (l : List UInt8) {mn mx bits : Nat} (h1 : 16 ≤ mn) (d : Nat) (hd : d ≤ l.length) : ∀ (f p : Nat), (cutsF (l.drop d) mn mx bits f p).map (d + ·) = cutsF l mn mx bits f (d + p)
  | 0, p => rfl
  | f + 1, p => by
    simp only [cutsF, List.length_drop]
    by_cases c : p < l.length - d
    · rw [if_pos c, if_pos (by omega), List.map_cons, cutsF_drop l h1 d hd f, nextCut_drop l h1 d hd]
    · rw [if_neg c, if_neg (by omega)]
      rfl

/-- Marks of places within a common beginning are the same. -/
theorem markAt_pre (u x y : List UInt8) (p : Nat) (h : 16 ≤ p) (hp : p ≤ u.length) : markAt (u ++ x) p = markAt (u ++ y) p := by
  unfold markAt winAt
  rw [List.drop_append_of_le_length (by omega), List.drop_append_of_le_length (by omega), List.take_append_of_le_length (by simp; omega), List.take_append_of_le_length (by simp; omega)]
theorem scan_pre (u x y : List UInt8) (bits : Nat) : ∀ k m p, 16 ≤ p → p + k ≤ (u ++ x).length → scan (u ++ x) bits k p < u.length → scan (u ++ x) bits k p < p + k ∨ k ≤ m → k ≤ m ∨ scan (u ++ x) bits k p < p + m → scan (u ++ y) bits m p = scan (u ++ x) bits k p ∨ (scan (u ++ x) bits k p = p + k ∧ k < m)
  | 0, m, p, h, _, hlt, ho, _ => by
    cases m with
    | zero => exact .inl rfl
    | succ m => exact .inr ⟨rfl, by omega⟩
  | k + 1, 0, p, h, hl, hlt, ho, hm => by
    have := (scan_ge (u ++ x) bits (k + 1) p).1
    omega
  | k + 1, m + 1, p, h, hl, hlt, ho, hm => by
    have hg := (scan_ge (u ++ x) bits (k + 1) p).1
    have e := markAt_pre u x y p h (by omega)
    unfold scan at hlt ho hm ⊢
    rw [← e]
    by_cases c : markAt (u ++ x) p % 2 ^ bits = 2 ^ bits - 1
    · rw [if_pos c, if_pos c]
      exact .inl rfl
    · rw [if_neg c] at hlt ho hm ⊢
      rw [if_neg c]
      have r := scan_pre u x y bits k m (p + 1) (by omega) (by omega) hlt (by omega) (by omega)
      omega

/-- A next cut within a common beginning is the same. -/
theorem nextCut_pre (u x y : List UInt8) {mn mx bits : Nat} (h1 : 16 ≤ mn) (h2 : mn ≤ mx) (h : nextCut (u ++ x) mn mx bits 0 < u.length) : nextCut (u ++ y) mn mx bits 0 = nextCut (u ++ x) mn mx bits 0 := by
  have lx : (u ++ x).length = u.length + x.length := List.length_append
  have ly : (u ++ y).length = u.length + y.length := List.length_append
  unfold nextCut at h ⊢
  rw [lx] at h ⊢
  rw [ly]
  simp only [Nat.zero_add] at h ⊢
  by_cases c : min mx (u.length + x.length) ≤ mn
  · rw [if_pos c] at h ⊢
    rw [if_pos (by omega)]
    omega
  · rw [if_neg c] at h ⊢
    have hs := scan_ge (u ++ x) bits (min mx (u.length + x.length) - mn) mn
    have hsy := scan_ge (u ++ y) bits (min mx (u.length + y.length) - mn) mn
    rw [if_neg (by omega)]
    have r := scan_pre u x y bits (min mx (u.length + x.length) - mn) (min mx (u.length + y.length) - mn) mn h1 (by omega) h (by omega) (by omega)
    rcases r with r | ⟨r, r'⟩
    · exact r
    · omega

/-- Cuts within a common beginning are the same. -/
theorem cuts_pre (x y : List UInt8) {mn mx bits : Nat} (h1 : 16 ≤ mn) (h2 : mn ≤ mx) : ∀ (n : Nat) (u : List UInt8), u.length ≤ n → ∀ f g, (u ++ x).length ≤ f → (u ++ y).length ≤ g → ∀ q, q < u.length → q ∈ cutsF (u ++ x) mn mx bits f 0 → q ∈ cutsF (u ++ y) mn mx bits g 0
  | 0, u, hu, _, _, _, _, q, hq, _ => by omega
  | n + 1, u, hu, f, g, hf, hg, q, hq, h => by
    have lx : (u ++ x).length = u.length + x.length := List.length_append
    have ly : (u ++ y).length = u.length + y.length := List.length_append
    obtain ⟨f, rfl⟩ : ∃ k, f = k + 1 := ⟨f - 1, by omega⟩
    obtain ⟨g, rfl⟩ : ∃ k, g = k + 1 := ⟨g - 1, by omega⟩
    simp only [cutsF] at h ⊢
    rw [if_pos (by omega)] at h ⊢
    have a := nextCut_gt (u ++ x) (bits := bits) (last := 0) (by omega) h2 (by omega : 0 < (u ++ x).length)
    by_cases c : nextCut (u ++ x) mn mx bits 0 < u.length
    · have e := nextCut_pre u x y h1 h2 c
      rw [e]
      generalize nextCut (u ++ x) mn mx bits 0 = d at *
      rcases List.mem_cons.1 h with rfl | h
      · exact List.mem_cons_self
      · refine List.mem_cons_of_mem _ ?_
        have hgt := cutsF_gt (u ++ x) (by omega : 1 ≤ mn) h2 _ _ _ h
        have dx := cutsF_drop (u ++ x) (mx := mx) (bits := bits) h1 d (by omega) f 0
        have dy := cutsF_drop (u ++ y) (mx := mx) (bits := bits) h1 d (by omega) g 0
        rw [Nat.add_zero] at dx dy
        rw [← dx] at h
        rw [← dy]
        rw [List.drop_append_of_le_length (by omega)] at h ⊢
        obtain ⟨r, hr, rfl⟩ := List.mem_map.1 h
        refine List.mem_map.2 ⟨r, ?_, rfl⟩
        exact cuts_pre x y h1 h2 n (u.drop d) (by simp; omega) f g (by simp; omega) (by simp; omega) r (by simp; omega) hr
    · rcases List.mem_cons.1 h with rfl | h
      · exact absurd hq c
      · have hgt := cutsF_gt (u ++ x) (by omega : 1 ≤ mn) h2 _ _ _ h
        omega

/-- THE PROMISE P14: cut at one place of a stretch in common, two streams are cut alike from there on. -/
theorem cuts_meet (a b m x y : List UInt8) {mn mx bits : Nat} (h1 : 16 ≤ mn) (h2 : mn ≤ mx) (p q : Nat) (hpq : p < q) (hq : q < m.length)
    (ha : a.length + p ∈ cuts (a ++ m ++ x) mn mx bits) (hb : b.length + p ∈ cuts (b ++ m ++ y) mn mx bits) (h : a.length + q ∈ cuts (a ++ m ++ x) mn mx bits) : b.length + q ∈ cuts (b ++ m ++ y) mn mx bits := by
  have side : ∀ (c z : List UInt8), c.length + p ∈ cuts (c ++ m ++ z) mn mx bits → (c.length + q ∈ cuts (c ++ m ++ z) mn mx bits ↔ q - p ∈ cutsF (m.drop p ++ z) mn mx bits (c.length + m.length + z.length) 0) := by
    intro c z hc
    have hl : (c ++ m ++ z).length = c.length + m.length + z.length := by simp [Nat.add_assoc]
    unfold cuts at hc ⊢
    rw [cutsF_behind (c ++ m ++ z) (by omega : 1 ≤ mn) h2 _ _ _ hc (by omega) (c.length + q) (by omega) (c.length + m.length + z.length) (by omega)]
    have d := cutsF_drop (c ++ m ++ z) (mx := mx) (bits := bits) h1 (c.length + p) (by omega) (c.length + m.length + z.length) 0
    rw [Nat.add_zero] at d
    rw [← d, List.append_assoc, ← List.drop_drop, List.drop_left, List.drop_append_of_le_length (by omega), List.mem_map]
    constructor
    · rintro ⟨r, hr, e⟩
      rw [show q - p = r by omega]
      exact hr
    · intro hr
      exact ⟨q - p, hr, by omega⟩
  rw [side b y hb]
  rw [side a x ha] at h
  exact cuts_pre x y h1 h2 _ (m.drop p) (Nat.le_refl _) _ _ (by simp; omega) (by simp; omega) (q - p) (by simp; omega) h

end Go.Proofs.Ytheichphnppagaa
