/- Opens: RStrm, RName. -/
import Derived.Test.YtheichphnppagaaGreatRStore
import Derived.Test.YtheichphnppagaaGreatKnown
import Derived.Test.YtheichphnppagaaGreatRec
import Derived.Test.YtheichphnppagaaGreatRefPack
namespace Go.Proofs.YtheichphnppagaaGreat
open Go.RowKit
attribute [local go_sem ↓] Go.wp_at_zero Go.wp_at_succ

theorem strs_form {B : Nat} {w : World} {v : Value} {n : Nat} {l : List Value} (h : w.ownsRow B 58 2 v n l) : (v = .slice none 0 0 ∧ n = 0) ∨ ∃ g cap, v = .slice (some ⟨g, 0, none⟩) n cap ∧ B ≤ g ∧ g < w.heap.size := by
  rcases h.2 with ⟨rfl, hn⟩ | ⟨g, cap, cur, rfl, hb, hg, _⟩
  · exact .inl ⟨rfl, hn⟩
  · exact .inr ⟨g, cap, rfl, hb, (Array.getElem?_eq_some_iff.1 hg).1⟩
theorem len_strs {B : Nat} {w : World} {v : Value} {n : Nat} {l : List Value} (h : w.ownsRow B 58 2 v n l) (W : World) : (Builtin.len_ #[53] 3 #[v]).run Tryz.prog W = .ok (.int .i64 n) W := by
  rcases strs_form h with ⟨rfl, h0⟩ | ⟨g, cap, rfl, _, _⟩
  · subst h0
    simp [Builtin.len_, run_underlying Tryz.underlying53, goInt]
  · simp [Builtin.len_, run_underlying Tryz.underlying53, goInt]
theorem strCells_get (G : List UInt8 → Value) : ∀ (xs : List (List UInt8 × List Nat)) (k : Nat) (x : List UInt8 × List Nat), xs[k]? = some x → (strCells G xs)[k * 2]? = some (strV x.1) ∧ (strCells G xs)[k * 2 + 1]? = some (G x.1)
  | [], k, x, h => by simp at h
  | a :: t, 0, x, h => by
    simp at h
    subst h
    exact ⟨rfl, rfl⟩
  | a :: t, k + 1, x, h => by
    have := strCells_get G t k x (by simpa using h)
    rw [show (k + 1) * 2 = k * 2 + 2 by omega]
    exact this
theorem strs_cell {B : Nat} {w : World} {g cap : Nat} {xs : List (List UInt8 × List Nat)} {G : List UInt8 → Value} {k : Nat} {x : List UInt8 × List Nat} (h : w.ownsRow B 58 2 (.slice (some ⟨g, 0, none⟩) xs.length cap) xs.length (strCells G xs)) (hx : xs[k]? = some x) :
    w.cell? ⟨g, k * 2, none⟩ = some (strV x.1) ∧ w.cell? ⟨g, k * 2 + 1, none⟩ = some (G x.1) := by
  have hk : k < xs.length := (List.getElem?_eq_some_iff.1 hx).1
  obtain ⟨a, b⟩ := strCells_get G xs k x hx
  exact ⟨(World.ownsRow.cellAt h (k * 2) (by omega)).trans a, (World.ownsRow.cellAt h (k * 2 + 1) (by omega)).trans b⟩

/-- The number of a stream, or -1. -/
def FoundS (st : St) (name : List UInt8) (n : Int) : Prop := (n = -1 ∧ ∀ y ∈ st.streams, y.1 ≠ name) ∨ ∃ (k : Nat) (y : List UInt8 × List Nat), n = k ∧ st.streams[k]? = some y ∧ y.1 = name

set_option maxRecDepth 100000 in
theorem refStream_any (x : ByteArray) (B q : Nat) (st : St) (w : World) (h : Rf B w q st) (hl : st.streams.length ≤ 100000) :
    Calls Tryz.prog 73 #[.pointer (some ⟨q, 0, none⟩), .string x] w fun e w' => ∃ n : Int, e = .returned (.int .i64 n) ∧ w' = w ∧ FoundS st (bl x) n := by
  obtain ⟨cv, sv, G, h⟩ := h
  have k6 : w.cell? ⟨q, 6, none⟩ = some sv := h.row.cell 6
  have hln := len_strs h.strs
  go_enter Tryz.func73, Tryz.ntmps73
  go_wp2
  go_loop [5] (fun v5 => ∃ k : Nat, v5 = .int .i64 k ∧ k ≤ st.streams.length ∧ Hid (∀ i y, i < k → st.streams[i]? = some y → y.1 ≠ bl x)) (fun v5 => st.streams.length - (intOf v5).toNat)
  case atStart => exact ⟨0, rfl, by omega, (fun i y hi => by omega)⟩
  case round =>
    obtain ⟨k, rfl, hk, H⟩ := hrel
    by_cases h1 : (k : Int) < (st.streams.length : Int)
    · have hkl : k < st.streams.length := by omega
      rcases strs_form h.strs with ⟨_, h0⟩ | ⟨g, cap, rfl, _, _⟩
      · rw [h0] at hkl; simp at hkl
      obtain ⟨y, hy⟩ : ∃ y, st.streams[k]? = some y := ⟨_, List.getElem?_eq_getElem hkl⟩
      obtain ⟨kc, _⟩ := strs_cell h.strs hy
      unfold strV at kc
      have HC : Hid (st.streams[k]? = some y) := hy
      clear hy
      clear hln
      obtain ⟨c, hc⟩ : ∃ c, y.1 = c := ⟨_, rfl⟩
      have HY : Hid (y.1 = c) := hc
      rw [hc] at kc
      clear hc
      by_cases he : c = bl x
      · have q1 : (c == x.toList) = true := by rw [toList_bl, he]; simp
        have M : Hid (c = bl x) := he
        clear he
        go_wp2
        go_ret
        exact ⟨_, rfl, rfl, .inr ⟨k, y, rfl, HC.out, HY.out.trans M.out⟩⟩
      · have q1 : (c == x.toList) = false := by rw [toList_bl]; simpa using he
        have HH : Hid (∀ i y, i < k + 1 → st.streams[i]? = some y → y.1 ≠ bl x) := by
          intro i y' hi hy
          by_cases c1 : i < k
          · exact H.out i y' c1 hy
          · rw [show i = k by omega, HC.out] at hy
            obtain rfl := Option.some.inj hy
            rw [HY.out]
            exact he
        clear he
        go_wp2
        exact ⟨⟨k + 1, by go_num, by omega, HH⟩, by simp [intOf]; omega⟩
    · have N : Hid (∀ y ∈ st.streams, y.1 ≠ bl x) := fun y hm => by
        obtain ⟨i, hi, e⟩ := List.getElem_of_mem hm
        exact H.out i y (by omega) (by rw [List.getElem?_eq_getElem hi, e])
      go_wp2
      go_ret
      exact ⟨_, rfl, rfl, .inl ⟨rfl, N.out⟩⟩

set_option maxRecDepth 100000 in
set_option maxHeartbeats 1600000 in
theorem refJoin_any (B q : Nat) (st : St) (nv : Value) (l : List Nat) (w : World) (h : Rf B w q st) (hl : ∀ n ∈ l, n < st.chunks.length) (hl2 : l.length ≤ 70000) (hc : ∀ c ∈ st.chunks, 1 ≤ c.length ∧ c.length ≤ 200) (B' : Nat) (hnv : IBuf B' w nv (ints l)) :
    Calls Tryz.prog 78 #[.pointer (some ⟨q, 0, none⟩), nv] w fun e w' => e = .returned (strV (joinL st.chunks l)) ∧ Grow w w' := by
  obtain ⟨cv, sv, G, h⟩ := h
  have hc2 : ∀ c ∈ st.chunks, c.length ≤ 200 := fun c h => (hc c h).2
  have k5 : w.cell? ⟨q, 5, none⟩ = some cv := h.row.cell 5
  have hln := len_ibuf hnv
  go_enter Tryz.func78, Tryz.ntmps78
  go_wp2
  go_loopw [5, 6] (fun v5 v6 wr => ∃ (k : Nat) (t : ByteArray), v6 = .int .i64 k ∧ k ≤ l.length ∧ v5 = .string t ∧ t.size ≤ 200 * k ∧ Hid (bl t = joinL st.chunks (l.take k)) ∧ ∃ m, wr = w.drewN m) (fun _ v6 _ => l.length - (intOf v6).toNat)
  case atStart => exact ⟨0, ⟨#[]⟩, rfl, by omega, rfl, by rw [show (ByteArray.mk #[]).size = 0 from rfl]; omega, rfl, 0, rfl⟩
  case round =>
    obtain ⟨k, t, rfl, hk, rfl, ht, T, m, rfl⟩ := hrel
    by_cases hlt : (k : Int) < (l.length : Int)
    · obtain ⟨n, hn⟩ : ∃ n, l.getD k 0 = n := ⟨_, rfl⟩
      have hkl : k < l.length := by omega
      have hmem : n ∈ l := by rw [← hn, List.getD_eq_getElem?_getD, List.getElem?_eq_getElem hkl]; exact List.getElem_mem _
      have hnl := hl n hmem
      have hck := hc (st.chunks.getD n []) (by rw [List.getD_eq_getElem?_getD, List.getElem?_eq_getElem hnl]; exact List.getElem_mem _)
      have J : Hid (joinL st.chunks (l.take (k + 1)) = joinL st.chunks (l.take k) ++ st.chunks.getD n []) := join_snoc hkl hn
      rcases hnv.form with ⟨_, h0⟩ | ⟨g, cap, rfl, _, hgl⟩
      · have hl0 : l = [] := by simpa [ints] using h0
        rw [hl0] at hkl
        simp at hkl
      rw [ints_length] at hnv ⊢
      have kc := hnv.cellN k hkl
      rw [hn] at kc
      rcases h.chunks.form with ⟨_, h0⟩ | ⟨g2, cap2, rfl, _, _⟩
      · rw [h0] at hnl; simp at hnl
      have kd := h.chunks.cell n hnl
      unfold strV at kd
      obtain ⟨z, hz⟩ : ∃ z : ByteArray, (⟨(st.chunks.getD n []).toArray⟩ : ByteArray) = z := ⟨_, rfl⟩
      have Z : Hid (bl z = st.chunks.getD n []) := by show _ = _; rw [← hz]; rfl
      have hzs : z.size ≤ 200 := by rw [← hz, size_mk]; exact hck.2
      rw [hz] at kd
      have hn2 : (n : Int) < (st.chunks.length : Int) := by omega
      have na : (9223372036854775807 < t.size + z.size) = False := eq_false (by omega)
      clear hn hz hck hln hmem hkl
      go_wp2_with fail
      go_quiet (fail)
      go_wp2
      exact ⟨⟨k + 1, t ++ z, by go_num, by omega, rfl, by rw [ByteArray.size_append']; omega, (by show _ = _; rw [bl_append, T.out, Z.out, J.out]), _, rfl⟩, by simp [intOf]; omega⟩
    · have e : l.take k = l := List.take_of_length_le (by omega)
      go_wp2
      go_ret
      exact ⟨ret_strL (by rw [T.out, e]), below_drewN (Below.refl _ _) _⟩

end Go.Proofs.YtheichphnppagaaGreat
namespace Go.Proofs.YtheichphnppagaaGreat
open Go.RowKit
attribute [local go_sem ↓] Go.wp_at_zero Go.wp_at_succ

theorem refName_any (s : ByteArray) (w : World) (hs : s.size ≤ 1000000) :
    Calls Tryz.prog 72 #[.string s] w fun e w' => e = .returned (.bool (nameL (bl s))) ∧ w' = w := by
  go_enter Tryz.func72, Tryz.ntmps72
  go_wp2
  go_loop [3] (fun v3 => ∃ k : Nat, v3 = .int .i64 k ∧ k ≤ s.size ∧ Hid (∀ i, i < k → 97 ≤ ((bl s).getD i 0).toNat ∧ ((bl s).getD i 0).toNat ≤ 122)) (fun v3 => s.size - (intOf v3).toNat)
  case atStart => exact ⟨0, rfl, by omega, (fun i hi => by omega)⟩
  case round =>
    obtain ⟨k, rfl, hk, H⟩ := hrel
    by_cases hlt : (k : Int) < (s.size : Int)
    · obtain ⟨c, hc⟩ : ∃ c, (bl s).getD k 0 = c := ⟨_, rfl⟩
      have i1 := index_here s k k c rfl (by omega) hc
      have C : Hid ((bl s).getD k 0 = c) := hc
      clear hc
      have hlc := c.toNat_lt
      have HK : Hid (k < (bl s).length) := (by rw [bl_length]; omega : k < (bl s).length)
      by_cases h1 : (c.toNat : Int) < 97
      · go_wp2
        go_ret
        exact ⟨ret_of (by rw [nameL_bad HK.out C.out (by omega)]; rfl), rfl⟩
      · by_cases h2 : (122 : Int) < (c.toNat : Int)
        · go_wp2
          go_ret
          exact ⟨ret_of (by rw [nameL_bad HK.out C.out (by omega)]; rfl), rfl⟩
        · have HH : Hid (∀ i, i < k + 1 → 97 ≤ ((bl s).getD i 0).toNat ∧ ((bl s).getD i 0).toNat ≤ 122) := by
            intro i hi
            by_cases c1 : i < k
            · exact H.out i c1
            · rw [show i = k by omega, C.out]
              omega
          go_wp2
          exact ⟨⟨k + 1, by go_num, by omega, HH⟩, by simp [intOf]; omega⟩
    · have R : Hid (nameL (bl s) = decide (1 ≤ s.size ∧ s.size ≤ 12)) := by
        show _ = _
        rw [nameL_end (fun i hi => H.out i (by rw [bl_length] at hi; omega)), bl_length]
      by_cases h1 : (1 : Int) ≤ (s.size : Int)
      · by_cases h2 : (s.size : Int) ≤ 12
        · go_wp2
          go_ret
          exact ⟨ret_of (by rw [R.out, decide_eq_true (by omega)]; rfl), rfl⟩
        · go_wp2
          go_ret
          exact ⟨ret_of (by rw [R.out, decide_eq_false (by omega)]; rfl), rfl⟩
      · go_wp2
        go_ret
        exact ⟨ret_of (by rw [R.out, decide_eq_false (by omega)]; rfl), rfl⟩

set_option maxRecDepth 100000 in
theorem refWritten_any (s : ByteArray) (w : World) (hs : s.size ≤ 2000) :
    Calls Tryz.prog 76 #[.string s] w fun e w' => e = .returned (strV (writtenL (bl s))) ∧ Grow w w' := by
  have hlen := sq_length (bl s)
  rw [bl_length] at hlen
  go_enter Tryz.func76, Tryz.ntmps76
  go_wp2_with fail
  refine (squeeze_any s _ hs).mono ?_
  rintro e w1 ⟨rfl, hB1⟩
  obtain ⟨t, ht⟩ : ∃ t : ByteArray, (⟨(sq (bl s)).toArray⟩ : ByteArray) = t := ⟨_, rfl⟩
  have b1 : Hid (bl t = sq (bl s)) := by show _ = _; rw [← ht]; rfl
  have z1 : t.size = (sq (bl s)).length := by rw [← ht]; rfl
  rw [ht]
  clear ht
  have z2 : t.size ≤ 10000 := by omega
  have k1 : (ByteArray.mk #[1]).size = 1 := rfl
  have k0 : (ByteArray.mk #[0]).size = 1 := rfl
  have Z1 : Hid (t.size = (sq (bl s)).length) := z1
  clear z1 hlen
  by_cases h : (t.size : Int) < (s.size : Int)
  · go_wp2
    go_ret
    refine ⟨ret_of ?_, hB1⟩
    unfold writtenL
    rw [if_pos (by rw [← Z1.out, bl_length]; omega)]
    unfold strV
    congr 1
    apply (ba_eq _).symm
    rw [bl_append, b1.out]
    rfl
  · go_wp2
    go_ret
    refine ⟨ret_of ?_, hB1⟩
    unfold writtenL
    rw [if_neg (by rw [← Z1.out, bl_length]; omega)]
    unfold strV
    congr 1

end Go.Proofs.YtheichphnppagaaGreat
