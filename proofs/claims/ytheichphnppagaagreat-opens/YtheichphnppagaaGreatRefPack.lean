/- Opens: RefPack. -/
import Derived.Test.YtheichphnppagaaGreatRefPlain
import Derived.Test.YtheichphnppagaaGreatCommon
import Derived.Deep.RegionWith
namespace Go.Proofs.YtheichphnppagaaGreat
open Go.RowKit

theorem ref_yes {f : Nat → Nat} {k b1 b2 g : Nat} (h : bestRef f k = (b1, b2)) (hg : f (k + 1) = g) (hb : b1 < g) : bestRef f (k + 1) = (g, k + 1) := by
  simp only [bestRef, h, hg]
  rw [if_pos hb]
theorem ref_no {f : Nat → Nat} {k b1 b2 g : Nat} (h : bestRef f k = (b1, b2)) (hg : f (k + 1) = g) (hb : ¬ b1 < g) : bestRef f (k + 1) = (b1, b2) := by
  simp only [bestRef, h, hg]
  rw [if_neg hb]
theorem ref_longest {l : List UInt8} {p k b1 b2 : Nat} (h : bestRef (lenAt l p) k = (b1, b2)) (hk : k = min p 255) : longestAt l p = if 3 ≤ b1 then (b1, b2) else (0, 0) := by
  unfold longestAt
  rw [← hk, bestTo_eq, h]

theorem conv_two_at (w : World) (g : Nat) (c d : Int) (a b : UInt8) (h0 : w.cell? ⟨g, 0, none⟩ = some (.int .u8 c)) (h1 : w.cell? ⟨g, 1, none⟩ = some (.int .u8 d)) (hc : c = (a.toNat : Int)) (hd : d = (b.toNat : Int)) :
    (convert 64 9 (.slice (some ⟨g, 0, none⟩) 2 2)).run Tryz.prog w = .ok (.string ⟨#[a, b]⟩) w := by
  subst hc; subst hd
  refine conv_cells w g 2 [a, b] (fun j hj => ?_)
  match j, hj with
  | 0, _ => simpa using h0
  | 1, _ => simpa using h1

theorem conv_two_new (w : World) (c d : Int) (a b : UInt8) (hc : c = (a.toNat : Int)) (hd : d = (b.toNat : Int)) :
    (convert 64 9 (.slice (some ⟨w.heap.size, 0, none⟩) 2 2)).run Tryz.prog (w.alloc (.cells #[.int .u8 c, .int .u8 d] 5)) = .ok (.string ⟨#[a, b]⟩) (w.alloc (.cells #[.int .u8 c, .int .u8 d] 5)) :=
  conv_two_at _ w.heap.size c d a b (by simp) (by simp) hc hd
theorem conv_two_drew (w : World) (c d : Int) (a b : UInt8) (hc : c = (a.toNat : Int)) (hd : d = (b.toNat : Int)) :
    (convert 64 9 (.slice (some ⟨w.heap.size, 0, none⟩) 2 2)).run Tryz.prog (w.alloc (.cells #[.int .u8 c, .int .u8 d] 5)).drew = .ok (.string ⟨#[a, b]⟩) (w.alloc (.cells #[.int .u8 c, .int .u8 d] 5)).drew :=
  conv_two_at _ w.heap.size c d a b (by simp) (by simp) hc hd
theorem conv_later {W w5 : World} {c d : Int} (h : Below (W.alloc (.cells #[.int .u8 c, .int .u8 d] 5)).drew.heap.size (W.alloc (.cells #[.int .u8 c, .int .u8 d] 5)).drew w5) (a b : UInt8) (hc : c = (a.toNat : Int)) (hd : d = (b.toNat : Int)) :
    (convert 64 9 (.slice (some ⟨W.heap.size, 0, none⟩) 2 2)).run Tryz.prog w5 = .ok (.string ⟨#[a, b]⟩) w5 :=
  conv_two_at _ W.heap.size c d a b ((h.cell (p := ⟨W.heap.size, 0, none⟩) (by simp)).trans (by simp)) ((h.cell (p := ⟨W.heap.size, 1, none⟩) (by simp)).trans (by simp)) hc hd
theorem below_a {w W w5 : World} (h : Below w.heap.size w W) (hz : w.heap.size ≤ W.heap.size) (b : Below W.drew.heap.size W.drew w5) : Below w.heap.size w w5 := h.drew.trans (b.mono hz)
theorem below_b {w W w5 : World} {o : Obj} (h : Below w.heap.size w W) (hz : w.heap.size ≤ W.heap.size) (b : Below (W.alloc o).drew.heap.size (W.alloc o).drew w5) : Below w.heap.size w w5 :=
  (h.alloc hz o).drew.trans (b.mono (by simp; omega))
theorem u8_125 {n : Nat} {c : UInt8} (hc : c = UInt8.ofNat (125 + n)) (h : 125 + n < 256) : 125 + (n : Int) = (c.toNat : Int) := by rw [hc, u8_ofNat_toNat h]; omega
theorem u8_n {n : Nat} {c : UInt8} (hc : c = UInt8.ofNat n) (h : n < 256) : (n : Int) = (c.toNat : Int) := by rw [hc, u8_ofNat_toNat h]
theorem sq_bytes {y : ByteArray} {z : List UInt8} {c1 c2 d1 d2 : UInt8} (h1 : c1 = d1) (h2 : c2 = d2) : bl (y ++ ⟨z.toArray⟩ ++ ⟨#[c1, c2]⟩) = bl y ++ z ++ [d1, d2] := by
  rw [bl_append, bl_append, h1, h2]
  rfl

/-- The state of Squeeze ahead of a round. -/
def SqSt (s y q : ByteArray) (told p f : Nat) : Prop :=
  told ≤ p ∧ p ≤ s.size ∧ s.size - p ≤ f ∧ bl q = ((bl s).drop told).take (p - told) ∧ bl y ++ sqG f (bl s) told p = sq (bl s)

theorem SqSt.q_size {s y q : ByteArray} {told p f : Nat} (h : SqSt s y q told p f) : q.size = p - told := by
  obtain ⟨h1, h2, h3, h4, h5⟩ := h
  rw [← bl_length, h4]
  simp [bl_length]
  omega
theorem SqSt.y_size {s y q : ByteArray} {told p f : Nat} (h : SqSt s y q told p f) (hs : s.size ≤ 2000) : y.size ≤ 3000 := by
  obtain ⟨h1, h2, h3, h4, h5⟩ := h
  have e := congrArg List.length h5
  have := sq_length (bl s)
  rw [bl_length] at this
  rw [List.length_append, bl_length] at e
  omega
theorem SqSt.plain {s y q : ByteArray} {told p f : Nat} (h : SqSt s y q told p f) (hp : p < s.size) (hn : (longestAt (bl s) p).1 = 0) : SqSt s y (q ++ s.extract p (p + 1)) told (p + 1) (f - 1) := by
  obtain ⟨h1, h2, h3, h4, h5⟩ := h
  refine ⟨by omega, by omega, by omega, ?_, pack_plain h3 hp hn h5⟩
  rw [bl_append, h4, bl_extract]
  have e : (bl s).drop p = ((bl s).drop told).drop (p - told) := by rw [List.drop_drop]; congr 1; omega
  rw [e, show p + 1 - p = 1 by omega, ← List.take_add, show p - told + 1 = p + 1 - told by omega]
theorem SqSt.done {s y q : ByteArray} {told p f n1 n2 : Nat} (h : SqSt s y q told p f) (hp : p < s.size) (hn : longestAt (bl s) p = (n1, n2)) (h0 : n1 ≠ 0) (z : ByteArray) (hz : bl z = bl y ++ plainT (bl q) ++ [UInt8.ofNat (125 + n1), UInt8.ofNat n2])
    (e : ByteArray) (he : bl e = []) : SqSt s z e (p + n1) (p + n1) (f - 1) := by
  have hsound := longestAt_sound (bl s) p (by rw [hn]; exact h0)
  rw [hn, bl_length] at hsound
  obtain ⟨h1, h2, h3, h4, h5⟩ := h
  refine ⟨Nat.le_refl _, by omega, by omega, by rw [he, Nat.sub_self, List.take_zero], ?_⟩
  have hm := pack_match h3 hp h0 (by rw [hn]) (by rw [hn]) h5
  rw [hz, h4, ← hm, bl_mid]

set_option maxRecDepth 100000 in
set_option maxHeartbeats 3200000 in
theorem squeeze_any (s : ByteArray) (w : World) (hs : s.size ≤ 2000) :
    Calls Tryz.prog 104 #[.string s] w fun e w' => e = .returned (.string ⟨(sq (bl s)).toArray⟩) ∧ Below w.heap.size w w' := by
  go_enter Tryz.func104, Tryz.ntmps104
  go_wp2
  go_loopw [3, 4, 5] (fun v3 v4 v5 wr => ∃ (y q : ByteArray) (told p f : Nat), v3 = .string y ∧ v4 = .string q ∧ v5 = .int .i64 p ∧ p ≤ 2000 ∧ Hid (SqSt s y q told p f) ∧ Below w.heap.size w wr) (fun _ _ v5 _ => s.size - (intOf v5).toNat)
  case atStart => exact ⟨⟨#[]⟩, ⟨#[]⟩, 0, 0, s.size, rfl, rfl, rfl, by omega, ⟨Nat.le_refl _, Nat.zero_le _, by omega, rfl, by unfold sq; rw [bl_length]; rfl⟩, Below.refl _ _⟩
  case round =>
    obtain ⟨y, q, told, p, f, rfl, rfl, rfl, hp2, H, hbw⟩ := hrel
    have hsz := hbw.size
    obtain ⟨wo, rfl⟩ : ∃ wo : World, wo = wr := ⟨_, rfl⟩
    have hqs := H.out.q_size
    have hys := H.out.y_size hs
    have hq2 : q.size ≤ 2000 := by omega
    clear hqs
    by_cases hlt : (p : Int) < (s.size : Int)
    · go_wp2_with fail
      go_loopw [6, 7, 8] (fun v6 v7 v8 wr => ∃ (k n b1 b2 : Nat), v8 = .int .i64 ((p : Int) - 1 - (k : Int)) ∧ v6 = .int .i64 b1 ∧ v7 = .int .i64 b2 ∧ k ≤ p ∧ k ≤ 255 ∧ Hid (bestRef (lenAt (bl s) p) k = (b1, b2)) ∧ wr = wo.drewN n) (fun _ _ v8 _ => ((intOf v8) + 1).toNat)
      case atStart => exact ⟨0, 0, 0, 0, by go_num, rfl, rfl, by omega, by omega, rfl, rfl⟩
      case round =>
        obtain ⟨k, n, b1, b2, rfl, rfl, rfl, hk1, hk2, R, rfl⟩ := hrel
        by_cases gg : (0 : Int) ≤ (p : Int) - 1 - (k : Int) ∧ (p : Int) - 255 ≤ (p : Int) - 1 - (k : Int)
        · obtain ⟨g1, g2⟩ := gg
          go_wp2_with fail
          refine (common_back s _ _ p (k + 1) _ hs rfl (by omega) (by omega) (by omega) (by omega)).mono ?_
          rintro e w' ⟨rfl, m, rfl⟩
          generalize hg : lenAt (bl s) p (k + 1) = g
          have G : Hid (lenAt (bl s) p (k + 1) = g) := hg
          clear hg
          by_cases c2 : (b1 : Int) < (g : Int)
          · go_wp2
            go_roundw
            case rel => exact ⟨k + 1, n + m, g, k + 1, by go_num, rfl, by go_num, by omega, by omega, ref_yes R.out G.out (by omega), rfl⟩
            case measure => simp [intOf]; omega
          · go_wp2
            go_roundw
            case rel => exact ⟨k + 1, n + m, b1, b2, by go_num, rfl, rfl, by omega, by omega, ref_no R.out G.out (by omega), rfl⟩
            case measure => simp [intOf]; omega
        · have hk : k = min p 255 := by omega
          have LG : Hid (longestAt (bl s) p = if 3 ≤ b1 then (b1, b2) else (0, 0)) := ref_longest R.out hk
          clear R
          have HK : Hid (k = min p 255) := hk
          have hk3 : (p : Int) - 1 - (k : Int) < 0 ∨ (p : Int) - 1 - (k : Int) < (p : Int) - 255 := by omega
          clear hk
          have hbn := below_drewN hbw n
          have hzn : w.heap.size ≤ (wo.drewN n).heap.size := hbn.size
          by_cases h3 : (b1 : Int) < 3
          · have L0 : Hid ((longestAt (bl s) p).1 = 0) := by show _ = _; rw [LG.out, if_neg (by omega)]
            clear LG
            by_cases g1 : (0 : Int) ≤ (p : Int) - 1 - (k : Int)
            · go_wp2
              exact ⟨⟨y, _, told, p + 1, f - 1, rfl, rfl, by go_num, by omega, H.out.plain (by omega) L0.out, hbn⟩, by simp [intOf]; omega⟩
            · go_wp2
              exact ⟨⟨y, _, told, p + 1, f - 1, rfl, rfl, by go_num, by omega, H.out.plain (by omega) L0.out, hbn⟩, by simp [intOf]; omega⟩
          · have L1 : Hid (longestAt (bl s) p = (b1, b2)) := by show _ = _; rw [LG.out, if_pos (by omega)]
            clear LG
            have hsound := longestAt_sound (bl s) p (by rw [L1.out]; show b1 ≠ 0; omega)
            rw [L1.out, bl_length] at hsound
            obtain ⟨a1, a2, a3, a4, a5, a6, _⟩ := hsound
            simp only at a1 a2 a3 a4 a5 a6
            have hpl := plainT_length _ (bl q) (Nat.le_refl _)
            rw [bl_length] at hpl
            obtain ⟨c1, hc1⟩ : ∃ c : UInt8, c = UInt8.ofNat (125 + b1) := ⟨_, rfl⟩
            obtain ⟨c2, hc2⟩ : ∃ c : UInt8, c = UInt8.ofNat b2 := ⟨_, rfl⟩
            have C1 : Hid (c1 = UInt8.ofNat (125 + b1)) := hc1
            have C2 : Hid (c2 = UInt8.ofNat b2) := hc2
            clear hc1 hc2
            by_cases g1 : (0 : Int) ≤ (p : Int) - 1 - (k : Int)
            all_goals
              go_wp2_with fail
              generalize wo.drewN n = W at hbn hzn
              have hw1 : IntKind.i64.wrap (125 + (b1 : Int)) = 125 + (b1 : Int) := by rw [IntKind.wrap_i64]; omega
              have hw2 : IntKind.u8.wrap (125 + (b1 : Int)) = 125 + (b1 : Int) := by rw [IntKind.wrap_u8]; omega
              have hw3 : IntKind.u8.wrap (b2 : Int) = (b2 : Int) := by rw [IntKind.wrap_u8]; omega
              have kC := conv_two_drew W (125 + (b1 : Int)) (b2 : Int) c1 c2 (u8_125 C1.out (by omega)) (u8_n C2.out (by omega))
              go_region_with (go_at_call 127; refine (plain_any q _ hq2).mono ?_; rintro e w5 ⟨rfl, b5⟩; first | (have kB := conv_later b5 c1 c2 (u8_125 C1.out (by omega)) (u8_n C2.out (by omega)); have bz := below_b hbn hzn b5; clear b5) | (have kA := conv_two_new w5 (125 + (b1 : Int)) (b2 : Int) c1 c2 (u8_125 C1.out (by omega)) (u8_n C2.out (by omega)); have bz := below_a hbn hzn b5; clear b5))
              all_goals
                clear kC hw1 hw2 hw3
                go_wp2
                first
                  | exact ⟨⟨_, ⟨#[]⟩, p + b1, p + b1, f - 1, rfl, rfl, by go_num, by omega, H.out.done (by omega) L1.out (by omega) _ (sq_bytes C1.out C2.out) _ rfl, bz⟩, by simp [intOf]; omega⟩
                  | exact ⟨⟨_, ⟨#[]⟩, p + b1, p + b1, f - 1, rfl, rfl, by go_num, by omega, H.out.done (by omega) L1.out (by omega) _ (sq_bytes C1.out C2.out) _ rfl, bz.alloc bz.size _⟩, by simp [intOf]; omega⟩
    · go_wp2_with fail
      refine (plain_any q _ hq2).mono ?_
      rintro e w1 ⟨rfl, b1⟩
      have hpl := plainT_length _ (bl q) (Nat.le_refl _)
      rw [bl_length] at hpl
      have E : Hid (bl y ++ plainT (bl q) = sq (bl s)) := by
        obtain ⟨h1, h2, h3, h4, h5⟩ := H.out
        show _ = _
        rw [h4, ← h5, sqG_end _ _ _ _ (by rw [bl_length]; omega), List.take_of_length_le (by simp [bl_length]; omega)]
      generalize plainT (bl q) = z at hpl E
      go_wp2
      go_ret
      exact ⟨ret_str (ba_eq (by rw [bl_append, ← E.out]; rfl)), hbw.trans (b1.mono hsz)⟩

end Go.Proofs.YtheichphnppagaaGreat
