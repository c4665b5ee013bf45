/- Opens: RefUn. -/
import Derived.Test.YtheichphnppagaaGreatRefPlain
namespace Go.Proofs.YtheichphnppagaaGreat
open Go.RowKit

theorem bl_empty : bl ⟨#[]⟩ = [] := rfl
theorem lo_no {o : Option (List UInt8)} (h : o = none) : Ending.returned (.tuple #[.string ⟨#[]⟩, .bool false]) = .returned (.tuple #[strO o, .bool o.isSome]) := read_no h

theorem lo_yes {o : Option (List UInt8)} {y : ByteArray} (h : o = some (bl y)) : Ending.returned (.tuple #[.string y, .bool true]) = .returned (.tuple #[strO o, .bool o.isSome]) := by
  subst h
  show Ending.returned (.tuple #[.string y, .bool true]) = .returned (.tuple #[.string ⟨(bl y).toArray⟩, .bool true])
  rw [← ba_eq (a := y) rfl]

/-- A byte of a row, and what follows: the row from a place on. -/
theorem tail_at (s : ByteArray) (p : Nat) : bl (s.extract p s.size) = (bl s).drop p := bl_from s p
theorem size_from (s : ByteArray) (p : Nat) (_h : p ≤ s.size) : (s.extract p s.size).size = s.size - p := by simp
theorem getD_from (s : ByteArray) (p i : Nat) : (bl (s.extract p s.size)).getD i 0 = (bl s).getD (p + i) 0 := by rw [bl_from, getD_drop]
theorem bl_cut (s : ByteArray) (p a b : Nat) (_h : p + b ≤ s.size) : bl ((s.extract p s.size).extract a b) = bl (s.extract (p + a) (p + b)) := by
  rw [bl_extract, bl_from, bl_extract, List.drop_drop, show p + b - (p + a) = b - a by omega]

theorem lpart_short {s : ByteArray} {p : Nat} {o : List UInt8} {c : UInt8} (hp : p < s.size) (hc : (bl s).getD p 0 = c) (h1 : c.toNat < 128) (h2 : s.size < p + c.toNat + 2) : part ((bl s).drop p) o = none := by
  rw [← bl_from]
  exact part_short (by rw [size_from s p (by omega)]; omega) (by rw [getD_from]; exact hc) h1 (by rw [size_from s p (by omega)]; omega)
theorem lpart_plain {s : ByteArray} {p : Nat} {o : List UInt8} {c : UInt8} (hp : p < s.size) (hc : (bl s).getD p 0 = c) (h1 : c.toNat < 128) (h2 : ¬ s.size < p + c.toNat + 2) :
    part ((bl s).drop p) o = some (o ++ bl (s.extract (p + 1) (p + c.toNat + 2)), c.toNat + 2) := by
  rw [← bl_from, part_plain (by rw [size_from s p (by omega)]; omega) (by rw [getD_from]; exact hc) h1 (by rw [size_from s p (by omega)]; omega), bl_cut s p 1 (c.toNat + 2) (by omega)]
  rfl
theorem lpart_one {s : ByteArray} {p : Nat} {o : List UInt8} {c : UInt8} (hp : p < s.size) (hc : (bl s).getD p 0 = c) (h1 : ¬ c.toNat < 128) (h2 : s.size < p + 2) : part ((bl s).drop p) o = none := by
  rw [← bl_from]
  exact part_one (by rw [size_from s p (by omega)]; omega) (by rw [getD_from]; exact hc) h1 (by rw [size_from s p (by omega)]; omega)
theorem lpart_bad {s : ByteArray} {p : Nat} {o : List UInt8} {c m : UInt8} (hp : p + 1 < s.size) (hc : (bl s).getD p 0 = c) (hm : (bl s).getD (p + 1) 0 = m) (h1 : ¬ c.toNat < 128) (h2 : m.toNat = 0 ∨ o.length < m.toNat) : part ((bl s).drop p) o = none := by
  rw [← bl_from]
  exact part_bad (by rw [size_from s p (by omega)]; omega) (by rw [getD_from]; exact hc) (by rw [getD_from]; exact hm) h1 h2
theorem lpart_match {s : ByteArray} {p : Nat} {o : List UInt8} {c m : UInt8} (hp : p + 1 < s.size) (hc : (bl s).getD p 0 = c) (hm : (bl s).getD (p + 1) 0 = m) (h1 : ¬ c.toNat < 128) (h2 : ¬ (m.toNat = 0 ∨ o.length < m.toNat)) :
    part ((bl s).drop p) o = some (copyB (c.toNat - 125) m.toNat o, 2) := by
  rw [← bl_from]
  exact part_match (by rw [size_from s p (by omega)]; omega) (by rw [getD_from]; exact hc) (by rw [getD_from]; exact hm) h1 h2

theorem lo_go {M : Nat} {s y Z : ByteArray} {p f u : Nat} {R : Option (List UInt8)} (H : loG (f + 1) M ((bl s).drop p) (bl y) = R) (hne : ((bl s).drop p).length ≠ 0) (hp : part ((bl s).drop p) (bl y) = some (bl Z, u)) (hb : Z.size ≤ M)
    (q : Nat) (hq : q = p + u) : loG f M ((bl s).drop q) (bl Z) = R := by
  rw [← H, loG_step _ _ _ _ hne hp (by rw [bl_length]; omega), List.drop_drop, hq]
theorem lo_big {M : Nat} {s y Z : ByteArray} {p f u : Nat} {R : Option (List UInt8)} (H : loG (f + 1) M ((bl s).drop p) (bl y) = R) (hne : ((bl s).drop p).length ≠ 0) (hp : part ((bl s).drop p) (bl y) = some (bl Z, u)) (hb : M < Z.size) : R = none := by
  rw [← H, loG_big _ _ _ _ hne hp (by rw [bl_length]; exact hb)]
theorem copy_snoc {y : ByteArray} {l : List UInt8} {k m : Nat} (h : bl y = copyB k m l) (h1 : 1 ≤ m) (h2 : m ≤ y.size) (z : ByteArray) (hz : z = y.extract (y.size - m) (y.size - m + 1)) : bl (y ++ z) = copyB (k + 1) m l := by
  subst hz
  have e := copyB_last k m l
  have hy := bl_length y
  rw [bl_append, bl_extract, e, ← h, show y.size - m + 1 - (y.size - m) = 1 by omega, hy]
  congr 1
  have : y.size - m < (bl y).length := by omega
  rw [List.drop_eq_getElem_cons this, List.take_succ_cons, List.take_zero, List.getD_eq_getElem?_getD, List.getElem?_eq_getElem this]
  rfl

set_option maxRecDepth 100000 in
set_option maxHeartbeats 3200000 in
theorem loose_any (s : ByteArray) (M : Nat) (w : World) (hM : M ≤ 2000) (hs : s.size ≤ 4611686018427387904) :
    Calls Tryz.prog 106 #[.string s, .int .i64 (M : Int)] w fun e w' => e = .returned (.tuple #[strO (loT M (bl s) []), .bool (loT M (bl s) []).isSome]) ∧ w' = w := by
  go_enter Tryz.func106, Tryz.ntmps106
  go_wp2
  go_loop [6, 7] (fun v6 v7 => ∃ (y : ByteArray) (p f : Nat), v6 = .string y ∧ v7 = .int .i64 p ∧ p ≤ s.size ∧ s.size - p < f ∧ y.size ≤ M ∧ Hid (loG f M ((bl s).drop p) (bl y) = loT M (bl s) [])) (fun _ v7 => s.size - (intOf v7).toNat)
  case atStart => exact ⟨⟨#[]⟩, 0, s.size + 1, rfl, rfl, Nat.zero_le _, by omega, by rw [show (ByteArray.mk #[]).size = 0 from rfl]; omega, (by show _ = _; unfold loT; rw [bl_length]; rfl)⟩
  case round =>
    obtain ⟨y, p, f, rfl, rfl, hp, hf, hy, H⟩ := hrel
    obtain ⟨f, rfl⟩ : ∃ g, f = g + 1 := ⟨f - 1, by omega⟩
    by_cases hlt : (p : Int) < (s.size : Int)
    · have hne : ((bl s).drop p).length ≠ 0 := by simp [bl_length]; omega
      have HNE : Hid (((bl s).drop p).length ≠ 0) := hne
      clear hne
      have i0 := index_lit s (p : Int) p rfl (by omega)
      generalize hc : (bl s).getD p 0 = c at i0
      have C : Hid ((bl s).getD p 0 = c) := hc
      clear hc
      have c256 : (c.toNat : Int) < 256 := by have := c.toNat_lt; omega
      by_cases h1 : (c.toNat : Int) < 128
      · by_cases h2 : (s.size : Int) < (p : Int) + (c.toNat : Int) + 2
        · go_wp2
          go_ret2
          exact ⟨lo_no (by rw [← H.out, loG_bad _ _ _ _ HNE.out (lpart_short (by omega) C.out (by omega) (by omega))]), rfl⟩
        · have hex : Hid (part ((bl s).drop p) (bl y) = some (bl (y ++ s.extract (p + 1) (p + c.toNat + 2)), c.toNat + 2)) := by show _ = _; rw [bl_append]; exact lpart_plain (by omega) C.out (by omega) (by omega)
          have hsz : (s.extract (p + 1) (p + c.toNat + 2)).size = c.toNat + 1 := by simp; omega
          have hs1 : ((p : Int) + 1).toNat = p + 1 := by omega
          have hs2 : ((p : Int) + (c.toNat : Int) + 2).toNat = p + c.toNat + 2 := by omega
          by_cases h3 : (M : Int) < (y.size : Int) + ((c.toNat : Int) + 1)
          · go_wp2
            go_ret2
            exact ⟨lo_no (lo_big H.out HNE.out hex.out (by rw [ByteArray.size_append', hsz]; omega)), rfl⟩
          · go_wp2
            exact ⟨⟨_, p + c.toNat + 2, f, rfl, by go_num, by omega, by omega, by rw [ByteArray.size_append', hsz]; omega, lo_go H.out HNE.out hex.out (by rw [ByteArray.size_append', hsz]; omega) _ (by omega)⟩, by simp [intOf]; omega⟩
      · by_cases h2 : (s.size : Int) < (p : Int) + 2
        · go_wp2
          go_ret2
          exact ⟨lo_no (by rw [← H.out, loG_bad _ _ _ _ HNE.out (lpart_one (by omega) C.out (by omega) (by omega))]), rfl⟩
        · have i1 := index_lit s ((p : Int) + 1) (p + 1) (by omega) (by omega)
          generalize hm : (bl s).getD (p + 1) 0 = m at i1
          have MM : Hid ((bl s).getD (p + 1) 0 = m) := hm
          clear hm
          have m256 : (m.toNat : Int) < 256 := by have := m.toNat_lt; omega
          by_cases h3 : m.toNat = 0
          · have hm0 : ((m.toNat : Int) == 0) = true := beq_iff_eq.2 (by omega)
            go_wp2
            go_ret2
            exact ⟨lo_no (by rw [← H.out, loG_bad _ _ _ _ HNE.out (lpart_bad (by omega) C.out MM.out (by omega) (.inl h3))]), rfl⟩
          · have hm0 : ((m.toNat : Int) == 0) = false := beq_eq_false_iff_ne.2 (by omega)
            have hm1 : (0 : Int) < (m.toNat : Int) := by omega
            by_cases h4 : (y.size : Int) < (m.toNat : Int)
            · go_wp2
              go_ret2
              exact ⟨lo_no (by rw [← H.out, loG_bad _ _ _ _ HNE.out (lpart_bad (by omega) C.out MM.out (by omega) (.inr (by rw [bl_length]; omega)))]), rfl⟩
            · have P : Hid (part ((bl s).drop p) (bl y) = some (copyB (c.toNat - 125) m.toNat (bl y), 2)) := lpart_match (by omega) C.out MM.out (by omega) (by rw [bl_length]; omega)
              go_wp2
              clear i0 i1
              go_loop [6, 10, 11] (fun v6 v10 _ => ∃ (z : ByteArray) (k : Nat), v6 = .string z ∧ v10 = .int .i64 k ∧ k ≤ c.toNat - 125 ∧ (z.size : Int) = (y.size : Int) + (k : Int) ∧ Hid (bl z = copyB k m.toNat (bl y))) (fun _ v10 _ => 300 - (intOf v10).toNat)
              case atStart => exact ⟨y, 0, rfl, rfl, by omega, by omega, rfl⟩
              case round =>
                obtain ⟨z, k, rfl, rfl, hk, hz, Z⟩ := hrel
                have HZ : Hid ((z.size : Int) = (y.size : Int) + (k : Int)) := hz
                have hz1 : (m.toNat : Int) ≤ (z.size : Int) := by omega
                have hz2 : (z.size : Int) ≤ 3000 := by omega
                clear hz
                by_cases h5 : (k : Int) < (c.toNat : Int) - 125
                · have hs1 : ((z.size : Int) - (m.toNat : Int)).toNat = z.size - m.toNat := by omega
                  have hs2 : ((z.size : Int) - (m.toNat : Int) + 1).toNat = z.size - m.toNat + 1 := by omega
                  have hsz : (z.extract (z.size - m.toNat) (z.size - m.toNat + 1)).size = 1 := by simp; omega
                  go_wp2
                  exact ⟨⟨_, k + 1, rfl, by go_num, by omega, by have := HZ.out; rw [ByteArray.size_append', hsz]; omega, copy_snoc Z.out (by omega) (by omega) _ rfl⟩, by simp [intOf]; omega⟩
                · by_cases h6 : (M : Int) < (z.size : Int)
                  · have PZ : Hid (part ((bl s).drop p) (bl y) = some (bl z, 2)) := by show _ = _; rw [P.out, Z.out, show k = c.toNat - 125 by omega]
                    go_wp2
                    go_ret2
                    exact ⟨lo_no (lo_big H.out HNE.out PZ.out (by omega)), rfl⟩
                  · have PZ : Hid (part ((bl s).drop p) (bl y) = some (bl z, 2)) := by show _ = _; rw [P.out, Z.out, show k = c.toNat - 125 by omega]
                    go_wp2
                    exact ⟨⟨_, p + 2, f, rfl, by go_num, by omega, by omega, by omega, lo_go H.out HNE.out PZ.out (by omega) _ rfl⟩, by simp [intOf]; omega⟩
    · go_wp2
      go_ret2
      exact ⟨lo_yes (by rw [← H.out, loG_nil _ _ _ _ (by simp [bl_length]; omega)]), rfl⟩

end Go.Proofs.YtheichphnppagaaGreat
