/- THE WALK of pack.Pack. -/
import Derived.Test.YtheichphnppagaaLongest
import Derived.Test.YtheichphnppagaaTell
namespace Go.Proofs.Ytheichphnppagaa
open Go.RowKit

theorem src_two (w : World) (c d : Int) (a b : UInt8) (hc : c = (a.toNat : Int)) (hd : d = (b.toNat : Int)) :
    Src Try.prog 1 74 (.slice (some ⟨w.heap.size, 0, none⟩) 2 2) [a, b].length (cellsOfBytes [a, b]) (w.alloc (.cells #[.int .u8 c, .int .u8 d] 5)) := by
  subst hc; subst hd
  refine src_cells _ ⟨w.heap.size, 0, none⟩ 2 [a, b] (fun j u hj => ?_)
  match j, hj with
  | 0, hj => simp [cellsOfBytes] at hj; subst hj; simp [Addr.add]
  | 1, hj => simp [cellsOfBytes] at hj; subst hj; simp [Addr.add]

theorem bl_mid (s : ByteArray) (a b : Nat) : bl (s.extract a b) = ((bl s).drop a).take (b - a) := bl_extract s a b
theorem bl_from (s : ByteArray) (a : Nat) : bl (s.extract a s.size) = (bl s).drop a := by
  rw [bl_extract, List.take_of_length_le (by simp [bl_length])]

theorem pack_plain {s : ByteArray} {x : List UInt8} {told p f : Nat} {T : List UInt8} (h3 : s.size - p ≤ f) (hp : p < s.size) (hn : (longestAt (bl s) p).1 = 0) (H : x ++ sqG f (bl s) told p = T) :
    x ++ sqG (f - 1) (bl s) told (p + 1) = T := by
  obtain ⟨g, rfl⟩ : ∃ g, f = g + 1 := ⟨f - 1, by omega⟩
  rw [← H, sqG_plain g (bl s) told p (by rw [bl_length]; exact hp) hn]
  rfl

theorem pack_match {s : ByteArray} {x : List UInt8} {told p f n1 n2 : Nat} {T : List UInt8} (h3 : s.size - p ≤ f) (hp : p < s.size) (h0 : n1 ≠ 0) (hn : (longestAt (bl s) p).1 = n1) (hm : (longestAt (bl s) p).2 = n2) (H : x ++ sqG f (bl s) told p = T) :
    (x ++ plainT (bl (s.extract told p)) ++ [UInt8.ofNat (125 + n1), UInt8.ofNat n2]) ++ sqG (f - 1) (bl s) (p + n1) (p + n1) = T := by
  obtain ⟨g, rfl⟩ : ∃ g, f = g + 1 := ⟨f - 1, by omega⟩
  rw [← H, sqG_match g (bl s) told p (by rw [bl_length]; exact hp) (by rw [hn]; exact h0), hn, hm, bl_mid]
  simp

set_option maxRecDepth 100000 in
set_option maxHeartbeats 1600000 in
theorem pack_any (s : ByteArray) (w : World) (hs : s.size ≤ 2000) :
    Calls Try.prog 26 #[.string s] w fun e w' => e = .returned (.string ⟨(sq (bl s)).toArray⟩) ∧ Below w.heap.size w w' := by
  go_enter Try.func26, Try.ntmps26
  go_wp2
  go_loopw [3, 4, 5] (fun v3 v4 v5 wr => ∃ (x : List UInt8) (told p f : Nat), v4 = .int .i64 told ∧ v5 = .int .i64 p ∧ told ≤ p ∧ p ≤ s.size ∧ s.size - p ≤ f ∧ Buf w.heap.size wr v3 x ∧ Hid (x ++ sqG f (bl s) told p = sq (bl s)) ∧ Below w.heap.size w wr) (fun _ _ v5 _ => s.size - (intOf v5).toNat)
  case atStart => exact ⟨[], 0, 0, s.size, rfl, rfl, Nat.le_refl _, Nat.zero_le _, by omega, Buf.nil _ _, (by show _ = _; unfold sq; rw [bl_length]; rfl), Below.refl _ _⟩
  case round =>
    obtain ⟨x, told, p, f, rfl, rfl, h1, h2, h3, hb, H, hbw⟩ := hrel
    have hsz := hbw.size
    have hxl : x.length ≤ 3000 := by
      have e := congrArg List.length H.out
      have := sq_length (bl s)
      rw [bl_length] at this
      rw [List.length_append] at e
      omega
    by_cases hlt : (p : Int) < (s.size : Int)
    · go_wp2_with fail
      refine (longest_any s _ p _ hs rfl (by omega)).mono ?_
      rintro e w' ⟨rfl, m, rfl⟩
      have hsound := longestAt_sound (bl s) p
      generalize hn : (longestAt (bl s) p).1 = n1 at hsound
      generalize hm : (longestAt (bl s) p).2 = n2 at hsound
      have N : Hid ((longestAt (bl s) p).1 = n1) := hn
      have M : Hid ((longestAt (bl s) p).2 = n2) := hm
      clear hn hm
      by_cases c0 : n1 = 0
      · subst c0
        clear hsound
        go_wp2
        exact ⟨⟨x, told, p + 1, f - 1, rfl, by go_num, by omega, by omega, by omega, hb.drewN m, pack_plain h3 (by omega) N.out H.out, below_drewN hbw m⟩, by simp [intOf]; omega⟩
      · obtain ⟨a1, a2, a3, a4, a5, a6, _⟩ := hsound c0
        clear hsound
        rw [bl_length] at a6
        have c1 : ((n1 : Int) == 0) = false := beq_eq_false_iff_ne.2 (by omega)
        go_wp2_with fail
        refine (tell_any (s.extract told p) _ x w.heap.size _ (hb.drewN m) (by simpa using hsz) (by simp; omega) (by omega)).mono ?_
        rintro e w1 ⟨v1, rfl, hb1, hbw1⟩
        have hz1 := hbw1.size
        simp only [World.heap_drewN] at hz1
        have hpl := plainT_length _ (bl (s.extract told p)) (Nat.le_refl _)
        rw [bl_length] at hpl
        simp only [ByteArray.size_extract] at hpl
        have S := src_two w1 (128 + (n1 : Int) - 3) (n2 : Int) (UInt8.ofNat (125 + n1)) (UInt8.ofNat n2) (by rw [u8_ofNat_toNat (by omega)]; omega) (by rw [u8_ofNat_toNat (by omega)])
        go_wp2_with (at_builtin; refine wpList_append_buf rfl (.tmp 28) (.tmp 35) 74 rfl w.heap.size _ _ (x ++ plainT (bl (s.extract told p))) [UInt8.ofNat (125 + n1), UInt8.ofNat n2] rfl rfl (hb1.alloc _) (by simp) S (by simp; omega) (by simp; omega) ?_; intro v2 w2 hb2 hbw2)
        exact ⟨⟨_, p + n1, p + n1, f - 1, by go_num, by go_num, by omega, by omega, by omega, hb2, pack_match h3 (by omega) c0 N.out M.out H.out, (((below_drewN hbw m).trans hbw1).alloc (by omega) _).trans hbw2⟩, by simp [intOf]; omega⟩
    · go_wp2_with fail
      refine (tell_any (s.extract told s.size) _ x w.heap.size _ hb hsz (by simp; omega) (by omega)).mono ?_
      rintro e w1 ⟨v1, rfl, hb1, hbw1⟩
      rw [bl_from, ← sqG_end f (bl s) told p (by rw [bl_length]; omega), H.out] at hb1
      have hc := run_string_buf w1 _ v1 _ hb1
      go_wp2
      go_ret
      exact ⟨rfl, hbw.trans hbw1⟩

end Go.Proofs.Ytheichphnppagaa
