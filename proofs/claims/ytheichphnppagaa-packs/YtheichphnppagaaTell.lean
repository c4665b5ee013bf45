/- THE WALK of pack.tellPlain. -/
import Derived.Test.YtheichphnppagaaBytes
namespace Go.Proofs.Ytheichphnppagaa
open Go.RowKit

theorem bl_extract (t : ByteArray) (a b : Nat) : bl (t.extract a b) = ((bl t).drop a).take (b - a) := by
  unfold bl
  rw [ByteArray.data_extract, Array.toList_extract]

theorem src_one (w : World) (c : Int) (b : UInt8) (h : c = (b.toNat : Int)) :
    Src Try.prog 1 74 (.slice (some ⟨w.heap.size, 0, none⟩) 1 1) [b].length (cellsOfBytes [b]) (w.alloc (.cells #[.int .u8 c] 5)) := by
  subst h
  refine src_cells _ ⟨w.heap.size, 0, none⟩ 1 [b] (fun j u hj => ?_)
  match j, hj with
  | 0, hj => simp [cellsOfBytes] at hj; subst hj; simp [Addr.add]

theorem tell_step (t : ByteArray) (x T : List UInt8) (n : Nat) (h0 : t.size ≠ 0) (hn : n = min t.size 128) (H : x ++ plainT (bl t) = T) :
    (x ++ [UInt8.ofNat (n - 1)] ++ bl (t.extract 0 n)) ++ plainT (bl (t.extract n t.size)) = T := by
  have e : (bl t).length ≠ 0 := by rw [bl_length]; exact h0
  rw [← H, plainT_step (bl t) e, bl_length, ← hn, bl_extract, bl_extract, Nat.sub_zero, List.drop_zero]
  have h1 : ((bl t).drop n).take (t.size - n) = (bl t).drop 128 := by
    rw [List.take_of_length_le (by simp [bl_length])]
    rcases Nat.le_total t.size 128 with c | c
    · rw [List.drop_of_length_le (by rw [bl_length]; omega), List.drop_of_length_le (by rw [bl_length]; omega)]
    · rw [show n = 128 by omega]
  have h2 : (bl t).take n = (bl t).take 128 := by
    rcases Nat.le_total t.size 128 with c | c
    · rw [List.take_of_length_le (by rw [bl_length]; omega), List.take_of_length_le (by rw [bl_length]; omega)]
    · rw [show n = 128 by omega]
  rw [h1, h2]
  simp

theorem tell_last (t : ByteArray) (x T : List UInt8) (h0 : t.size ≠ 0) (hn : t.size ≤ 128) (H : x ++ plainT (bl t) = T) :
    (x ++ [UInt8.ofNat (t.size - 1)] ++ bl t) ++ plainT (bl ByteArray.empty) = T := by
  have h := tell_step t x T t.size h0 (by omega) H
  rw [bl_extract, bl_extract, Nat.sub_zero, List.drop_zero, List.take_of_length_le (by rw [bl_length]; exact Nat.le_refl _), Nat.sub_self, List.take_zero] at h
  exact h

set_option maxRecDepth 100000 in
set_option maxHeartbeats 1600000 in
theorem tell_any (s : ByteArray) (v : Value) (l : List UInt8) (B : Nat) (w : World) (hb : Buf B w v l) (hB : B ≤ w.heap.size) (hs : s.size ≤ 2000) (hl : l.length ≤ 100000) :
    Calls Try.prog 35 #[v, .string s] w fun e w' => ∃ v', e = .returned v' ∧ Buf B w' v' (l ++ plainT (bl s)) ∧ Below B w w' := by
  go_enter Try.func35, Try.ntmps35
  go_wp2
  go_loopw [0, 1] (fun v0 v1 wr => ∃ (x : List UInt8) (t : ByteArray), v1 = .string t ∧ t.size ≤ 2000 ∧ x.length + 2 * t.size ≤ 104000 ∧ Buf B wr v0 x ∧ Hid (x ++ plainT (bl t) = l ++ plainT (bl s)) ∧ Below B w wr) (fun _ v1 _ => match v1 with | .string t => t.size | _ => 0)
  case atStart => exact ⟨l, s, rfl, hs, by omega, hb, rfl, Below.refl _ _⟩
  case round =>
    obtain ⟨x, t, rfl, ht, hx, hb', H, hbw⟩ := hrel
    have hsz := hbw.size
    by_cases h0 : (0 : Int) < (t.size : Int)
    · by_cases h1 : (t.size : Int) ≤ 128
      · have S1 := src_one wr ((t.size : Int) - 1) (UInt8.ofNat (t.size - 1)) (by rw [u8_ofNat_toNat (by omega)]; omega)
        go_wp2_with (first
          | (at_builtin; refine wpList_append_buf rfl (.tmp 12) (.tmp 16) 74 rfl B _ _ x [UInt8.ofNat (t.size - 1)] rfl rfl (hb'.alloc _) (by simp) S1 (by simp; omega) (by simp; omega) ?_; intro v1 w1 hb1 hbw1; have hz1 := hbw1.size; simp only [World.size_alloc] at hz1)
          | (at_builtin; refine wpList_append_buf rfl (.tmp 18) (.tmp 21) 9 rfl B _ _ (x ++ [UInt8.ofNat (t.size - 1)]) (bl t) rfl rfl hb1 (by rw [bl_length]; omega) (src_string _ _) (by rw [bl_length]; simp; omega) (by omega) ?_; intro v2 w2 hb2 hbw2))
        exact ⟨⟨_, _, rfl, by simp, by simp [bl_length]; omega, hb2, tell_last t x _ (by omega) (by omega) H.out, ((hbw.alloc (by omega) _).trans hbw1).trans hbw2⟩, by simp; omega⟩
      · have h2 : (128 : Int) ≤ (t.size : Int) := by omega
        have S1 := src_one wr 127 (UInt8.ofNat (128 - 1)) (by decide)
        go_wp2_with (first
          | (at_builtin; refine wpList_append_buf rfl (.tmp 12) (.tmp 16) 74 rfl B _ _ x [UInt8.ofNat (128 - 1)] rfl rfl (hb'.alloc _) (by simp) S1 (by simp; omega) (by simp; omega) ?_; intro v1 w1 hb1 hbw1; have hz1 := hbw1.size; simp only [World.size_alloc] at hz1)
          | (at_builtin; refine wpList_append_buf rfl (.tmp 18) (.tmp 21) 9 rfl B _ _ (x ++ [UInt8.ofNat (128 - 1)]) (bl (t.extract 0 128)) rfl rfl hb1 (by rw [bl_length]; simp; omega) (src_string _ _) (by rw [bl_length]; simp; omega) (by omega) ?_; intro v2 w2 hb2 hbw2))
        exact ⟨⟨_, _, rfl, by simp; omega, by simp [bl_length]; omega, hb2, tell_step t x _ 128 (by omega) (by omega) H.out, ((hbw.alloc (by omega) _).trans hbw1).trans hbw2⟩, by simp; omega⟩
    · go_wp2_with fail
      go_ret
      exact ⟨_, rfl, by rw [← H.out, List.eq_nil_of_length_eq_zero (show (bl t).length = 0 by rw [bl_length]; omega), plainT_nil, List.append_nil]; exact hb', hbw⟩

end Go.Proofs.Ytheichphnppagaa
