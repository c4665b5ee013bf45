/- Opens: Part. -/
import Derived.Test.YtheichphnppagaaGreatTell
namespace Go.Proofs.YtheichphnppagaaGreat
open Go.RowKit

theorem index_lit (s : ByteArray) (I : Int) (j : Nat) (hI : I = j) (hj : j < s.size) (w : World) :
    (Instr.index 9 (.string s) (.int .i64 I)).run Tryz.prog w = .ok (.int .u8 (((bl s).getD j 0).toNat : Int)) w := by
  rw [hI, run_index_string w 9 s .i64 j Tryz.underlying9, dif_pos ⟨by omega, by omega⟩, bl_get s j hj]
  rfl

theorem bl_cons (s : ByteArray) (h : 0 < s.size) : bl s = (bl s).getD 0 0 :: (bl s).drop 1 := by
  have hl := bl_length s
  cases e : bl s with
  | nil => rw [e] at hl; simp at hl; omega
  | cons a r => simp

theorem bl_head {s : ByteArray} {c : UInt8} (h : 0 < s.size) (hc : (bl s).getD 0 0 = c) : ∃ r, bl s = c :: r ∧ r.length + 1 = s.size ∧ (bl s).drop 1 = r := by
  refine ⟨(bl s).drop 1, ?_, ?_, rfl⟩
  · rw [← hc]; exact bl_cons s h
  · simp [bl_length]; omega

theorem part_short {s : ByteArray} {l : List UInt8} {c : UInt8} (h : 0 < s.size) (hc : (bl s).getD 0 0 = c) (h1 : c.toNat < 128) (h2 : s.size < c.toNat + 2) : part (bl s) l = none := by
  obtain ⟨r, e, hr, _⟩ := bl_head h hc
  rw [e]
  simp only [part]
  rw [if_pos h1, if_pos (by omega)]

theorem part_plain {s : ByteArray} {l : List UInt8} {c : UInt8} (h : 0 < s.size) (hc : (bl s).getD 0 0 = c) (h1 : c.toNat < 128) (h2 : ¬ s.size < c.toNat + 2) :
    part (bl s) l = some (l ++ bl (s.extract 1 (c.toNat + 2)), c.toNat + 2) := by
  obtain ⟨r, e, hr, hd⟩ := bl_head h hc
  rw [bl_extract, hd, e]
  simp only [part]
  rw [if_pos h1, if_neg (by omega)]
  rfl

theorem bl_cons2 (s : ByteArray) (h : 1 < s.size) : bl s = (bl s).getD 0 0 :: (bl s).getD 1 0 :: (bl s).drop 2 := by
  have hl := bl_length s
  match e : bl s with
  | [] => rw [e] at hl; simp at hl; omega
  | [a] => rw [e] at hl; simp at hl; omega
  | a :: b :: r => simp

theorem part_one {s : ByteArray} {l : List UInt8} {c : UInt8} (h : 0 < s.size) (hc : (bl s).getD 0 0 = c) (h1 : ¬ c.toNat < 128) (h2 : s.size < 2) : part (bl s) l = none := by
  have hl := bl_length s
  match e : bl s with
  | [] => rfl
  | [a] =>
    rw [e] at hc
    simp at hc
    subst hc
    simp [part, h1]
  | a :: b :: r => rw [e] at hl; simp at hl; omega

theorem part_bad {s : ByteArray} {l : List UInt8} {c m : UInt8} (h : 1 < s.size) (hc : (bl s).getD 0 0 = c) (hm : (bl s).getD 1 0 = m) (h1 : ¬ c.toNat < 128) (h2 : m.toNat = 0 ∨ l.length < m.toNat) : part (bl s) l = none := by
  rw [bl_cons2 s h, hc, hm]
  simp only [part]
  rw [if_neg h1, if_pos h2]

theorem part_match {s : ByteArray} {l : List UInt8} {c m : UInt8} (h : 1 < s.size) (hc : (bl s).getD 0 0 = c) (hm : (bl s).getD 1 0 = m) (h1 : ¬ c.toNat < 128) (h2 : ¬ (m.toNat = 0 ∨ l.length < m.toNat)) :
    part (bl s) l = some (copyB (c.toNat - 125) m.toNat l, 2) := by
  rw [bl_cons2 s h, hc, hm]
  simp only [part]
  rw [if_neg h1, if_neg h2]

theorem cells_get (L : List UInt8) (j : Nat) (h : j < L.length) : (cellsOfBytes L)[j]? = some (.int .u8 ((L.getD j 0).toNat : Int)) := by
  simp [cellsOfBytes, List.getD_eq_getElem?_getD, h]

def PartPost (B : Nat) (w w' : World) (s : ByteArray) (l : List UInt8) (v' : Value) (u : Nat) : Prop :=
  Below B w w' ∧ ((part (bl s) l = none ∧ u = 0) ∨ (∃ o, part (bl s) l = some (o, u) ∧ Buf B w' v' o))

theorem part_ret {u : Int} {v : Value} {k : Nat} (h : u = k) : Ending.returned (.tuple #[v, .int .i64 u]) = .returned (.tuple #[v, .int .i64 (k : Int)]) := by rw [h]

set_option maxRecDepth 100000 in
set_option maxHeartbeats 1600000 in
theorem part_any (s : ByteArray) (v : Value) (l : List UInt8) (B : Nat) (w : World) (hb : Buf B w v l) (hB : B ≤ w.heap.size) (hs : 0 < s.size) (hs2 : s.size ≤ 9223372036854775807) (hl : l.length ≤ 2000) :
    Calls Tryz.prog 203 #[v, .string s] w fun e w' => ∃ v' u, e = .returned (.tuple #[v', .int .i64 ((u : Nat) : Int)]) ∧ PartPost B w w' s l v' u := by
  have i0 := index_lit s 0 0 rfl hs
  generalize hc : (bl s).getD 0 0 = c at i0
  have C : Hid ((bl s).getD 0 0 = c) := hc
  clear hc
  have c256 : (c.toNat : Int) < 256 := by have := c.toNat_lt; omega
  by_cases h1 : (c.toNat : Int) < 128
  · by_cases h2 : (s.size : Int) < (c.toNat : Int) + 2
    · go_enter Tryz.func203, Tryz.ntmps203
      go_wp2
      go_ret2
      exact ⟨_, 0, rfl, Below.refl _ _, .inl ⟨part_short hs C.out (by omega) (by omega), rfl⟩⟩
    · go_enter Tryz.func203, Tryz.ntmps203
      go_wp2_with (at_builtin; refine wpList_append_buf rfl (.tmp 20) (.tmp 23) 9 rfl B _ _ l (bl (s.extract 1 (c.toNat + 2))) rfl rfl hb (by rw [bl_length]; simp; omega) (src_string _ _) (by rw [bl_length]; simp; omega) hB ?_; intro v2 w2 hb2 hbw2)
      go_ret2
      exact ⟨_, c.toNat + 2, part_ret (by omega), hbw2, .inr ⟨_, part_plain hs C.out (by omega) (by omega), hb2⟩⟩
  · by_cases h2 : (s.size : Int) < 2
    · go_enter Tryz.func203, Tryz.ntmps203
      go_wp2
      go_ret2
      exact ⟨_, 0, rfl, Below.refl _ _, .inl ⟨part_one hs C.out (by omega) (by omega), rfl⟩⟩
    · have i1 := index_lit s 1 1 rfl (by omega)
      generalize hm : (bl s).getD 1 0 = m at i1
      have M : Hid ((bl s).getD 1 0 = m) := hm
      clear hm
      have m256 : (m.toNat : Int) < 256 := by have := m.toNat_lt; omega
      by_cases h3 : m.toNat = 0
      · have hm0 : ((m.toNat : Int) == 0) = true := beq_iff_eq.2 (by omega)
        go_enter Tryz.func203, Tryz.ntmps203
        go_wp2
        go_ret2
        exact ⟨_, 0, rfl, Below.refl _ _, .inl ⟨part_bad (by omega) C.out M.out (by omega) (.inl h3), rfl⟩⟩
      · have hm0 : ((m.toNat : Int) == 0) = false := beq_eq_false_iff_ne.2 (by omega)
        have hm1 : (0 : Int) < (m.toNat : Int) := by omega
        rcases hb.form with ⟨rfl, rfl⟩ | ⟨g, cap, rfl⟩
        · go_enter Tryz.func203, Tryz.ntmps203
          go_wp2
          go_ret2
          exact ⟨_, 0, rfl, Below.refl _ _, .inl ⟨part_bad (by omega) C.out M.out (by omega) (.inr (by simp; omega)), rfl⟩⟩
        · by_cases h4 : (l.length : Int) < (m.toNat : Int)
          · go_enter Tryz.func203, Tryz.ntmps203
            go_wp2
            go_ret2
            exact ⟨_, 0, rfl, Below.refl _ _, .inl ⟨part_bad (by omega) C.out M.out (by omega) (.inr (by omega)), rfl⟩⟩
          · go_enter Tryz.func203, Tryz.ntmps203
            go_wp2
            go_loopw [0, 47] (fun v0 v47 wr => ∃ k : Nat, v47 = .int .i64 k ∧ k ≤ c.toNat - 125 ∧ Buf B wr v0 (copyB k m.toNat l) ∧ Below B w wr) (fun _ v47 _ => 300 - (intOf v47).toNat)
            case atStart => exact ⟨0, rfl, by omega, hb, Below.refl _ _⟩
            case round =>
              obtain ⟨k, rfl, hk, hbr, hbw⟩ := hrel
              have hLl := copyB_length k m.toNat l
              have hlast := copyB_last k m.toNat l
              generalize hL : copyB k m.toNat l = L at hbr hLl hlast
              have LL : Hid (copyB k m.toNat l = L) := hL
              have LAST : Hid (copyB (k + 1) m.toNat l = L ++ [L.getD (L.length - m.toNat) 0]) := hlast
              clear hL hlast
              have hLn : (L.length : Int) = (l.length : Int) + (k : Int) := by omega
              clear hLl
              rcases hbr.form with ⟨_, hL0⟩ | ⟨g', cap', rfl⟩
              · rw [hL0] at hLn; simp at hLn; omega
              have hsz := hbw.size
              by_cases hlt : (k : Int) < (c.toNat : Int) - 128 + 3
              · have hcell := World.ownsRow.cellAt hbr (L.length - m.toNat) (by omega)
                generalize hd : L.getD (L.length - m.toNat) 0 = d at LAST
                have hcell2 : wr.cell? ⟨g', L.length - m.toNat, none⟩ = some (.int .u8 (d.toNat : Int)) := by
                  rw [hcell, ← hd]
                  exact cells_get L _ (by omega)
                clear hcell hd
                have S1 := src_one wr (d.toNat : Int) d rfl
                have hi1 : ((L.length : Int) - (m.toNat : Int)).toNat = L.length - m.toNat := by omega
                have E : Hid ((L.length : Int) = (l.length : Int) + (k : Int)) := hLn
                have hL1 : (m.toNat : Int) ≤ (L.length : Int) := by omega
                have hL2 : (L.length : Int) ≤ 3000 := by omega
                clear hLn
                go_wp2_with (at_builtin; refine wpList_append_buf rfl (.tmp 49) (.tmp 57) 64 rfl B _ _ L [d] rfl rfl (hbr.alloc _) (by simp) S1 (by simp; omega) (by simp; omega) ?_; intro v2 w2 hb2 hbw2)
                exact ⟨⟨k + 1, by go_num, by omega, by rw [LAST.out]; exact hb2, (hbw.alloc (by omega) _).trans hbw2⟩, by simp [intOf]; omega⟩
              · go_wp2
                go_ret2
                exact ⟨_, 2, rfl, hbw, .inr ⟨L, (part_match (by omega) C.out M.out (by omega) (by omega)).trans (by rw [← LL.out, show k = c.toNat - 125 by omega]), hbr⟩⟩

end Go.Proofs.YtheichphnppagaaGreat
