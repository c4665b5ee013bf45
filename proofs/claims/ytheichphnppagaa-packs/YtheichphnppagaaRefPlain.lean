/- THE WALK of larderref.Plain. -/
import Derived.Test.YtheichphnppagaaUnpack
namespace Go.Proofs.Ytheichphnppagaa
open Go.RowKit

theorem ba_eq {a : ByteArray} {l : List UInt8} (h : bl a = l) : a = ⟨l.toArray⟩ := by
  subst h
  apply ByteArray.ext
  simp [bl]
theorem bl_append (a b : ByteArray) : bl (a ++ b) = bl a ++ bl b := by simp [bl, ByteArray.data_append]
theorem toList_some {t : ByteArray} (h : t.size ≠ 0) : t.toList.isEmpty = false := by
  rw [toList_bl]
  have := bl_length t
  cases e : bl t with
  | nil => rw [e] at this; simp at this; omega
  | cons a r => rfl
theorem ba_empty {t : ByteArray} (h : t.size = 0) : t = ByteArray.empty := by
  rw [ba_eq (List.eq_nil_of_length_eq_zero (show (bl t).length = 0 by rw [bl_length]; exact h))]
  rfl

/-- string([]byte{..}) of bytes in a block of their own. -/
theorem conv_cells (w : World) (g cap : Nat) (l : List UInt8) (h : ∀ j, j < l.length → w.cell? ⟨g, j, none⟩ = some (.int .u8 ((l.getD j 0).toNat : Int))) :
    (convert 74 9 (.slice (some ⟨g, 0, none⟩) l.length cap)).run Try.prog w = .ok (.string ⟨l.toArray⟩) w := by
  refine run_convert_bytes_back w 74 9 5 ⟨g, 0, none⟩ cap l Try.underlying74 Try.underlying5 Try.underlying9 (fun j hj => ?_)
  rw [show (⟨g, 0, none⟩ : Addr).add j = ⟨g, j, none⟩ by simp [Addr.add]; omega, h j hj]
  simp [List.getD_eq_getElem?_getD, hj]

theorem conv_one (w : World) (c : Int) (b : UInt8) (hc : c = (b.toNat : Int)) :
    (convert 74 9 (.slice (some ⟨w.heap.size, 0, none⟩) 1 1)).run Try.prog (w.alloc (.cells #[.int .u8 c] 5)) = .ok (.string ⟨#[b]⟩) (w.alloc (.cells #[.int .u8 c] 5)) := by
  subst hc
  refine conv_cells _ w.heap.size 1 [b] (fun j hj => ?_)
  match j, hj with
  | 0, _ => simp

theorem conv_one_drew (w : World) (c : Int) (b : UInt8) (hc : c = (b.toNat : Int)) :
    (convert 74 9 (.slice (some ⟨w.heap.size, 0, none⟩) 1 1)).run Try.prog (w.alloc (.cells #[.int .u8 c] 5)).drew = .ok (.string ⟨#[b]⟩) (w.alloc (.cells #[.int .u8 c] 5)).drew := by
  subst hc
  refine conv_cells _ w.heap.size 1 [b] (fun j hj => ?_)
  match j, hj with
  | 0, _ => simp

theorem plain_step {t y : ByteArray} {T : List UInt8} (h : 128 < t.size) (H : bl y ++ plainT (bl t) = T) : bl (y ++ ⟨#[127]⟩ ++ t.extract 0 128) ++ plainT (bl (t.extract 128 t.size)) = T := by
  rw [bl_append, bl_append]
  exact tell_step t (bl y) T 128 (by omega) (by omega) H
theorem plain_last {t y : ByteArray} {T : List UInt8} (h : t.size ≠ 0) (h1 : t.size ≤ 128) (H : bl y ++ plainT (bl t) = T) : bl (y ++ ⟨#[UInt8.ofNat (t.size - 1)]⟩ ++ t) = T := by
  have := tell_last t (bl y) T h h1 H
  rw [bl_append, bl_append, ← this]
  simp [bl, plainT_nil]
theorem ret_str {a b : ByteArray} (h : a = b) : Ending.returned (.string a) = .returned (.string b) := by rw [h]

set_option maxRecDepth 100000 in
set_option maxHeartbeats 1600000 in
theorem plain_any (s : ByteArray) (w : World) (hs : s.size ≤ 2000) :
    Calls Try.prog 37 #[.string s] w fun e w' => e = .returned (.string ⟨(plainT (bl s)).toArray⟩) ∧ Below w.heap.size w w' := by
  go_enter Try.func37, Try.ntmps37
  go_wp2
  go_loopw [0, 3] (fun v0 v3 wr => ∃ (t y : ByteArray), v0 = .string t ∧ v3 = .string y ∧ t.size ≤ 2000 ∧ y.size + 2 * t.size ≤ 4000 ∧ Hid (bl y ++ plainT (bl t) = plainT (bl s)) ∧ Below w.heap.size w wr) (fun v0 _ _ => match v0 with | .string t => t.size | _ => 0)
  case atStart => exact ⟨s, ⟨#[]⟩, rfl, rfl, hs, by rw [show (ByteArray.mk #[]).size = 0 from rfl]; omega, rfl, Below.refl _ _⟩
  case round =>
    obtain ⟨t, y, rfl, rfl, ht, hx, H, hbw⟩ := hrel
    have hsz := hbw.size
    by_cases h0 : (128 : Int) < (t.size : Int)
    · have k1 := conv_one wr 127 127 (by decide)
      have k2 := conv_one_drew wr 127 127 (by decide)
      go_wp2_with fail
      go_region
      all_goals (clear k1 k2)
      all_goals go_wp2
      all_goals exact ⟨⟨_, _, rfl, rfl, by simp; omega, by simp [show (ByteArray.mk #[(127 : UInt8)]).size = 1 from rfl]; omega, plain_step (by omega) H.out, (hbw.alloc hsz _).drew⟩, by simp; omega⟩
    · by_cases h1 : t.size = 0
      · obtain rfl := ba_empty h1
        go_wp2
        go_ret
        exact ⟨ret_str (ba_eq (by rw [← H.out]; simp [bl, plainT_nil])), hbw⟩
      · have q := toList_some h1
        have h2 : (1 : Int) ≤ (t.size : Int) := by omega
        have k1 := conv_one wr ((t.size : Int) - 1) (UInt8.ofNat (t.size - 1)) (by rw [u8_ofNat_toNat (by omega)]; omega)
        go_wp2
        go_ret
        exact ⟨ret_str (ba_eq (plain_last h1 (by omega) H.out)), hbw.alloc hsz _⟩

end Go.Proofs.Ytheichphnppagaa
