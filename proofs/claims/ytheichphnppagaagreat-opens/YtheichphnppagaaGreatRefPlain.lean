/- Opens: Longest, Pack, Unpack, RefPlain. -/
import Derived.Test.YtheichphnppagaaGreatPush
import Derived.Test.YtheichphnppagaaGreatTell
import Derived.Test.YtheichphnppagaaGreatPart
namespace Go.Proofs.YtheichphnppagaaGreat
open Go.RowKit

theorem best_yes {f : Nat → Nat} {k b1 b2 g : Nat} (h : bestTo f k = (b1, b2)) (hg : f (k + 1) = g) (h3 : 3 ≤ g) (hb : b1 < g) : bestTo f (k + 1) = (g, k + 1) := by
  simp only [bestTo, h, hg]
  rw [if_pos ⟨h3, hb⟩]
theorem best_no {f : Nat → Nat} {k b1 b2 g : Nat} (h : bestTo f k = (b1, b2)) (hg : f (k + 1) = g) (hb : ¬ (3 ≤ g ∧ b1 < g)) : bestTo f (k + 1) = (b1, b2) := by
  simp only [bestTo, h, hg]
  rw [if_neg hb]
theorem longest_ret {x : Nat × Nat} {b1 b2 : Nat} (h : x = (b1, b2)) : Ending.returned (.tuple #[.int .i64 (b1 : Int), .int .i64 (b2 : Int)]) = .returned (.tuple #[.int .i64 (x.1 : Int), .int .i64 (x.2 : Int)]) := by
  subst h; rfl

set_option maxRecDepth 100000 in
set_option maxHeartbeats 1600000 in
theorem longest_any (s : ByteArray) (A : Int) (a : Nat) (w : World) (hs : s.size ≤ 2000) (hA : A = a) (ha : a ≤ s.size) :
    Calls Tryz.prog 184 #[.string s, .int .i64 A] w fun e w' => e = .returned (.tuple #[.int .i64 ((longestAt (bl s) a).1 : Int), .int .i64 ((longestAt (bl s) a).2 : Int)]) ∧ ∃ n, w' = w.drewN n := by
  subst hA
  by_cases hm : (a : Int) ≤ 255
  · go_enter Tryz.func184, Tryz.ntmps184
    go_wp2
    go_loopw [6, 7, 8] (fun v6 v7 v8 wr => ∃ k n b1 b2 : Nat, v8 = .int .i64 ((k : Int) + 1) ∧ (k : Int) ≤ (a : Int) ∧ v6 = .int .i64 b1 ∧ v7 = .int .i64 b2 ∧ Hid (bestTo (lenAt (bl s) a) k = (b1, b2)) ∧ wr = w.drewN n) (fun _ _ v8 _ => 300 - (intOf v8).toNat)
    case atStart => exact ⟨0, 0, 0, 0, rfl, by omega, rfl, rfl, rfl, rfl⟩
    case round =>
      obtain ⟨k, n, b1, b2, rfl, hk, rfl, rfl, H, rfl⟩ := hrel
      by_cases hlt : (k : Int) + 1 ≤ (a : Int)
      · go_wp2_with fail
        refine (alike_back s _ _ a (k + 1) _ hs (by omega) rfl (by omega) (by omega) ha).mono ?_
        rintro e w' ⟨rfl, m, rfl⟩
        generalize hg : lenAt (bl s) a (k + 1) = g
        have G : Hid (lenAt (bl s) a (k + 1) = g) := hg
        clear hg
        by_cases c1 : (3 : Int) ≤ (g : Int)
        · by_cases c2 : (b1 : Int) < (g : Int)
          · go_wp2
            go_roundw
            case rel => exact ⟨k + 1, n + m, g, k + 1, by go_num, by omega, rfl, by go_num, best_yes H.out G.out (by omega) (by omega), rfl⟩
            case measure => simp [intOf]; omega
          · go_wp2
            go_roundw
            case rel => exact ⟨k + 1, n + m, b1, b2, by go_num, by omega, rfl, rfl, best_no H.out G.out (by omega), rfl⟩
            case measure => simp [intOf]; omega
        · go_wp2
          go_roundw
          case rel => exact ⟨k + 1, n + m, b1, b2, by go_num, by omega, rfl, rfl, best_no H.out G.out (by omega), rfl⟩
          case measure => simp [intOf]; omega
      · go_wp2
        go_ret2
        exact ⟨longest_ret (by rw [← H.out]; unfold longestAt; congr 1; omega), _, rfl⟩
  · go_enter Tryz.func184, Tryz.ntmps184
    go_wp2
    go_loopw [6, 7, 8] (fun v6 v7 v8 wr => ∃ k n b1 b2 : Nat, v8 = .int .i64 ((k : Int) + 1) ∧ (k : Int) ≤ (255 : Int) ∧ v6 = .int .i64 b1 ∧ v7 = .int .i64 b2 ∧ Hid (bestTo (lenAt (bl s) a) k = (b1, b2)) ∧ wr = w.drewN n) (fun _ _ v8 _ => 300 - (intOf v8).toNat)
    case atStart => exact ⟨0, 0, 0, 0, rfl, by omega, rfl, rfl, rfl, rfl⟩
    case round =>
      obtain ⟨k, n, b1, b2, rfl, hk, rfl, rfl, H, rfl⟩ := hrel
      by_cases hlt : (k : Int) + 1 ≤ (255 : Int)
      · go_wp2_with fail
        refine (alike_back s _ _ a (k + 1) _ hs (by omega) rfl (by omega) (by omega) ha).mono ?_
        rintro e w' ⟨rfl, m, rfl⟩
        generalize hg : lenAt (bl s) a (k + 1) = g
        have G : Hid (lenAt (bl s) a (k + 1) = g) := hg
        clear hg
        by_cases c1 : (3 : Int) ≤ (g : Int)
        · by_cases c2 : (b1 : Int) < (g : Int)
          · go_wp2
            go_roundw
            case rel => exact ⟨k + 1, n + m, g, k + 1, by go_num, by omega, rfl, by go_num, best_yes H.out G.out (by omega) (by omega), rfl⟩
            case measure => simp [intOf]; omega
          · go_wp2
            go_roundw
            case rel => exact ⟨k + 1, n + m, b1, b2, by go_num, by omega, rfl, rfl, best_no H.out G.out (by omega), rfl⟩
            case measure => simp [intOf]; omega
        · go_wp2
          go_roundw
          case rel => exact ⟨k + 1, n + m, b1, b2, by go_num, by omega, rfl, rfl, best_no H.out G.out (by omega), rfl⟩
          case measure => simp [intOf]; omega
      · go_wp2
        go_ret2
        exact ⟨longest_ret (by rw [← H.out]; unfold longestAt; congr 1; omega), _, rfl⟩

end Go.Proofs.YtheichphnppagaaGreat
namespace Go.Proofs.YtheichphnppagaaGreat
open Go.RowKit

theorem src_two (w : World) (c d : Int) (a b : UInt8) (hc : c = (a.toNat : Int)) (hd : d = (b.toNat : Int)) :
    Src Tryz.prog 1 64 (.slice (some ⟨w.heap.size, 0, none⟩) 2 2) [a, b].length (cellsOfBytes [a, b]) (w.alloc (.cells #[.int .u8 c, .int .u8 d] 5)) := by
  subst hc; subst hd
  refine src_cells _ ⟨w.heap.size, 0, none⟩ 2 [a, b] (fun j u hj => ?_)
  match j, hj with
  | 0, hj => simp [cellsOfBytes] at hj; subst hj; simp [Addr.add]
  | 1, hj => simp [cellsOfBytes] at hj; subst hj; simp [Addr.add]

theorem bl_mid (s : ByteArray) (a b : Nat) : bl (s.extract a b) = ((bl s).drop a).take (b - a) := bl_extract s a b
theorem bl_from (s : ByteArray) (a : Nat) : bl (s.extract a s.size) = (bl s).drop a := by
  rw [bl_extract, List.take_of_length_le (by simp [bl_length])]

theorem pack_plain {s : ByteArray} {x : List UInt8} {told p f : Nat} {T : List UInt8} (h3 : s.size - p ≤ f) (hp : p < s.size) (hn : (longestAt (bl s) p).1 = 0) (H : x ++ sqG f (bl s) told p = T) :
    x ++ sqG (f - 1) (bl s) told (p + 1) = T := by
  obtain ⟨g, rfl⟩ : ∃ g, f = g + 1 := ⟨f - 1, by omega⟩
  rw [← H, sqG_plain g (bl s) told p (by rw [bl_length]; exact hp) hn]
  rfl

theorem pack_match {s : ByteArray} {x : List UInt8} {told p f n1 n2 : Nat} {T : List UInt8} (h3 : s.size - p ≤ f) (hp : p < s.size) (h0 : n1 ≠ 0) (hn : (longestAt (bl s) p).1 = n1) (hm : (longestAt (bl s) p).2 = n2) (H : x ++ sqG f (bl s) told p = T) :
    (x ++ plainT (bl (s.extract told p)) ++ [UInt8.ofNat (125 + n1), UInt8.ofNat n2]) ++ sqG (f - 1) (bl s) (p + n1) (p + n1) = T := by
  obtain ⟨g, rfl⟩ : ∃ g, f = g + 1 := ⟨f - 1, by omega⟩
  rw [← H, sqG_match g (bl s) told p (by rw [bl_length]; exact hp) (by rw [hn]; exact h0), hn, hm, bl_mid]
  simp

set_option maxRecDepth 100000 in
set_option maxHeartbeats 1600000 in
theorem pack_any (s : ByteArray) (w : World) (hs : s.size ≤ 2000) :
    Calls Tryz.prog 150 #[.string s] w fun e w' => e = .returned (.string ⟨(sq (bl s)).toArray⟩) ∧ Below w.heap.size w w' := by
  go_enter Tryz.func150, Tryz.ntmps150
  go_wp2
  go_loopw [3, 4, 5] (fun v3 v4 v5 wr => ∃ (x : List UInt8) (told p f : Nat), v4 = .int .i64 told ∧ v5 = .int .i64 p ∧ told ≤ p ∧ p ≤ s.size ∧ s.size - p ≤ f ∧ Buf w.heap.size wr v3 x ∧ Hid (x ++ sqG f (bl s) told p = sq (bl s)) ∧ Below w.heap.size w wr) (fun _ _ v5 _ => s.size - (intOf v5).toNat)
  case atStart => exact ⟨[], 0, 0, s.size, rfl, rfl, Nat.le_refl _, Nat.zero_le _, by omega, Buf.nil _ _, (by show _ = _; unfold sq; rw [bl_length]; rfl), Below.refl _ _⟩
  case round =>
    obtain ⟨x, told, p, f, rfl, rfl, h1, h2, h3, hb, H, hbw⟩ := hrel
    have hsz := hbw.size
    have hxl : x.length ≤ 3000 := by
      have e := congrArg List.length H.out
      have := sq_length (bl s)
      rw [bl_length] at this
      rw [List.length_append] at e
      omega
    by_cases hlt : (p : Int) < (s.size : Int)
    · go_wp2_with fail
      refine (longest_any s _ p _ hs rfl (by omega)).mono ?_
      rintro e w' ⟨rfl, m, rfl⟩
      have hsound := longestAt_sound (bl s) p
      generalize hn : (longestAt (bl s) p).1 = n1 at hsound
      generalize hm : (longestAt (bl s) p).2 = n2 at hsound
      have N : Hid ((longestAt (bl s) p).1 = n1) := hn
      have M : Hid ((longestAt (bl s) p).2 = n2) := hm
      clear hn hm
      by_cases c0 : n1 = 0
      · subst c0
        clear hsound
        go_wp2
        exact ⟨⟨x, told, p + 1, f - 1, rfl, by go_num, by omega, by omega, by omega, hb.drewN m, pack_plain h3 (by omega) N.out H.out, below_drewN hbw m⟩, by simp [intOf]; omega⟩
      · obtain ⟨a1, a2, a3, a4, a5, a6, _⟩ := hsound c0
        clear hsound
        rw [bl_length] at a6
        have c1 : ((n1 : Int) == 0) = false := beq_eq_false_iff_ne.2 (by omega)
        go_wp2_with fail
        refine (tell_any (s.extract told p) _ x w.heap.size _ (hb.drewN m) (by simpa using hsz) (by simp; omega) (by omega)).mono ?_
        rintro e w1 ⟨v1, rfl, hb1, hbw1⟩
        have hz1 := hbw1.size
        simp only [World.heap_drewN] at hz1
        have hpl := plainT_length _ (bl (s.extract told p)) (Nat.le_refl _)
        rw [bl_length] at hpl
        simp only [ByteArray.size_extract] at hpl
        have S := src_two w1 (128 + (n1 : Int) - 3) (n2 : Int) (UInt8.ofNat (125 + n1)) (UInt8.ofNat n2) (by rw [u8_ofNat_toNat (by omega)]; omega) (by rw [u8_ofNat_toNat (by omega)])
        go_wp2_with (at_builtin; refine wpList_append_buf rfl (.tmp 28) (.tmp 35) 64 rfl w.heap.size _ _ (x ++ plainT (bl (s.extract told p))) [UInt8.ofNat (125 + n1), UInt8.ofNat n2] rfl rfl (hb1.alloc _) (by simp) S (by simp; omega) (by simp; omega) ?_; intro v2 w2 hb2 hbw2)
        exact ⟨⟨_, p + n1, p + n1, f - 1, by go_num, by go_num, by omega, by omega, by omega, hb2, pack_match h3 (by omega) c0 N.out M.out H.out, (((below_drewN hbw m).trans hbw1).alloc (by omega) _).trans hbw2⟩, by simp [intOf]; omega⟩
    · go_wp2_with fail
      refine (tell_any (s.extract told s.size) _ x w.heap.size _ hb hsz (by simp; omega) (by omega)).mono ?_
      rintro e w1 ⟨v1, rfl, hb1, hbw1⟩
      rw [bl_from, ← sqG_end f (bl s) told p (by rw [bl_length]; omega), H.out] at hb1
      have hc := run_string_buf w1 _ v1 _ hb1
      go_wp2
      go_ret
      exact ⟨rfl, hbw.trans hbw1⟩

end Go.Proofs.YtheichphnppagaaGreat
namespace Go.Proofs.YtheichphnppagaaGreat
open Go.RowKit

/-- The string of bytes, or the empty one. -/
def strO (o : Option (List UInt8)) : Value := .string ⟨(o.getD []).toArray⟩

theorem read_no {o : Option (List UInt8)} (h : o = none) : Ending.returned (.tuple #[.string ⟨#[]⟩, .bool false]) = .returned (.tuple #[strO o, .bool o.isSome]) := by subst h; rfl
theorem read_yes {o : Option (List UInt8)} {d : List UInt8} (h : o = some d) : Ending.returned (.tuple #[.string ⟨d.toArray⟩, .bool true]) = .returned (.tuple #[strO o, .bool o.isSome]) := by subst h; rfl

set_option maxRecDepth 100000 in
set_option maxHeartbeats 1600000 in
theorem read_any (s : ByteArray) (w : World) (hs : s.size ≤ 9223372036854775807) :
    Calls Tryz.prog 198 #[.string s] w fun e w' => e = .returned (.tuple #[strO (loT 2000 (bl s) []), .bool (loT 2000 (bl s) []).isSome]) ∧ Below w.heap.size w w' := by
  go_enter Tryz.func198, Tryz.ntmps198
  go_wp2
  go_loopw [0, 4] (fun v0 v4 wr => ∃ (t : ByteArray) (x : List UInt8) (f : Nat), v0 = .string t ∧ t.size < f ∧ t.size ≤ 9223372036854775807 ∧ x.length ≤ 2000 ∧ Buf w.heap.size wr v4 x ∧ Hid (loG f 2000 (bl t) x = loT 2000 (bl s) []) ∧ Below w.heap.size w wr) (fun v0 _ _ => match v0 with | .string t => t.size | _ => 0)
  case atStart => exact ⟨s, [], s.size + 1, rfl, by omega, hs, by simp, Buf.nil _ _, (by show _ = _; unfold loT; rw [bl_length]), Below.refl _ _⟩
  case round =>
    obtain ⟨t, x, f, rfl, hf, ht, hx, hb, H, hbw⟩ := hrel
    have hsz := hbw.size
    obtain ⟨f, rfl⟩ : ∃ g, f = g + 1 := ⟨f - 1, by omega⟩
    by_cases h0 : (0 : Int) < (t.size : Int)
    · go_wp2_with fail
      refine (part_any t _ x w.heap.size _ hb hsz (by omega) ht hx).mono ?_
      rintro e w1 ⟨v1, u, rfl, hbw1, hp⟩
      have hne : (bl t).length ≠ 0 := by rw [bl_length]; omega
      rcases hp with ⟨hp, rfl⟩ | ⟨o, hp, hb1⟩
      · have R : Hid (loT 2000 (bl s) [] = none) := by show _ = _; rw [← H.out, loG_bad _ _ _ _ hne hp]
        clear hp
        go_wp2
        go_ret2
        exact ⟨read_no R.out, hbw.trans hbw1⟩
      · have hu := part_pos hp
        rw [bl_length] at hu
        have P : Hid (part (bl t) x = some (o, u)) := hp
        clear hp
        have hu0 : ((u : Int) == 0) = false := beq_eq_false_iff_ne.2 (by omega)
        by_cases hbig : (2000 : Int) < (o.length : Int)
        · have R : Hid (loT 2000 (bl s) [] = none) := by show _ = _; rw [← H.out, loG_big _ _ _ _ hne P.out (by omega)]
          rcases hb1.form with ⟨_, h⟩ | ⟨g, cap, rfl⟩
          · rw [h] at hbig; simp at hbig
          go_wp2
          go_ret2
          exact ⟨read_no R.out, hbw.trans hbw1⟩
        · have R : Hid (loG f 2000 (bl (t.extract u t.size)) o = loT 2000 (bl s) []) := by show _ = _; rw [← H.out, loG_step _ _ _ _ hne P.out (by omega), bl_from]
          rcases hb1.form with ⟨rfl, rfl⟩ | ⟨g, cap, rfl⟩
          · go_wp2
            exact ⟨⟨_, _, f, rfl, by simp; omega, by simp; omega, by omega, hb1, R.out, hbw.trans hbw1⟩, by simp; omega⟩
          · go_wp2
            exact ⟨⟨_, _, f, rfl, by simp; omega, by simp; omega, by omega, hb1, R.out, hbw.trans hbw1⟩, by simp; omega⟩
    · have R : Hid (loT 2000 (bl s) [] = some x) := by show _ = _; rw [← H.out, loG_nil _ _ _ _ (by rw [bl_length]; omega)]
      have hc := run_string_buf wr _ _ _ hb
      go_wp2
      go_ret2
      exact ⟨read_yes R.out, hbw⟩

theorem bl_mk (d : List UInt8) : bl ⟨d.toArray⟩ = d := rfl
theorem size_mk (d : List UInt8) : (ByteArray.mk d.toArray).size = d.length := rfl
theorem toList_bl (s : ByteArray) : s.toList = bl s := ByteArray.toList_eq s

set_option maxHeartbeats 800000 in
theorem unpack_any (s : ByteArray) (w : World) (hs : s.size ≤ 9223372036854775807) :
    Calls Tryz.prog 188 #[.string s] w fun e w' => e = .returned (.tuple #[strO (unp (bl s)), .bool (unp (bl s)).isSome]) ∧ Below w.heap.size w w' := by
  cases h : loT 2000 (bl s) [] with
  | none =>
    have R : Hid (unp (bl s) = none) := by show _ = _; simp [unp, h]
    go_enter Tryz.func188, Tryz.ntmps188
    go_wp2_with fail
    refine (read_any s _ hs).mono ?_
    rintro e w1 ⟨rfl, hbw1⟩
    rw [h]
    clear h
    simp only [strO, Option.getD_none, Option.isSome_none]
    go_wp2
    go_ret2
    exact ⟨read_no R.out, hbw1⟩
  | some d =>
    have hd : d.length ≤ 2000 := loG_length _ 2000 (bl s) [] d (by simp) h
    by_cases hq : sq d = bl s
    · have R : Hid (unp (bl s) = some d) := by show _ = _; simp [unp, h, hq]
      have q1 : (sq d == s.toList) = true := by rw [toList_bl, hq]; simp
      clear hq
      go_enter Tryz.func188, Tryz.ntmps188
      go_wp2_with fail
      refine (read_any s _ hs).mono ?_
      rintro e w1 ⟨rfl, hbw1⟩
      rw [h]
      clear h
      simp only [strO, Option.getD_some, Option.isSome_some]
      go_wp2_with fail
      refine (pack_any ⟨d.toArray⟩ _ (by rw [size_mk]; exact hd)).mono ?_
      rintro e w2 ⟨rfl, hbw2⟩
      rw [bl_mk]
      go_wp2
      go_ret2
      exact ⟨read_yes R.out, hbw1.trans (hbw2.mono hbw1.size)⟩
    · have R : Hid (unp (bl s) = none) := by show _ = _; simp [unp, h, hq]
      have q1 : (sq d == s.toList) = false := by rw [toList_bl]; simp [hq]
      clear hq
      go_enter Tryz.func188, Tryz.ntmps188
      go_wp2_with fail
      refine (read_any s _ hs).mono ?_
      rintro e w1 ⟨rfl, hbw1⟩
      rw [h]
      clear h
      simp only [strO, Option.getD_some, Option.isSome_some]
      go_wp2_with fail
      refine (pack_any ⟨d.toArray⟩ _ (by rw [size_mk]; exact hd)).mono ?_
      rintro e w2 ⟨rfl, hbw2⟩
      rw [bl_mk]
      go_wp2
      go_ret2
      exact ⟨read_no R.out, hbw1.trans (hbw2.mono hbw1.size)⟩

end Go.Proofs.YtheichphnppagaaGreat
namespace Go.Proofs.YtheichphnppagaaGreat
open Go.RowKit

theorem ba_eq {a : ByteArray} {l : List UInt8} (h : bl a = l) : a = ⟨l.toArray⟩ := by
  subst h
  apply ByteArray.ext
  simp [bl]
theorem bl_append (a b : ByteArray) : bl (a ++ b) = bl a ++ bl b := by simp [bl, ByteArray.data_append]
theorem toList_some {t : ByteArray} (h : t.size ≠ 0) : t.toList.isEmpty = false := by
  rw [toList_bl]
  have := bl_length t
  cases e : bl t with
  | nil => rw [e] at this; simp at this; omega
  | cons a r => rfl
theorem ba_empty {t : ByteArray} (h : t.size = 0) : t = ByteArray.empty := by
  rw [ba_eq (List.eq_nil_of_length_eq_zero (show (bl t).length = 0 by rw [bl_length]; exact h))]
  rfl

/-- string([]byte{..}) of bytes in a block of their own. -/
theorem conv_cells (w : World) (g cap : Nat) (l : List UInt8) (h : ∀ j, j < l.length → w.cell? ⟨g, j, none⟩ = some (.int .u8 ((l.getD j 0).toNat : Int))) :
    (convert 64 9 (.slice (some ⟨g, 0, none⟩) l.length cap)).run Tryz.prog w = .ok (.string ⟨l.toArray⟩) w := by
  refine run_convert_bytes_back w 64 9 5 ⟨g, 0, none⟩ cap l Tryz.underlying64 Tryz.underlying5 Tryz.underlying9 (fun j hj => ?_)
  rw [show (⟨g, 0, none⟩ : Addr).add j = ⟨g, j, none⟩ by simp [Addr.add]; omega, h j hj]
  simp [List.getD_eq_getElem?_getD, hj]

theorem conv_one (w : World) (c : Int) (b : UInt8) (hc : c = (b.toNat : Int)) :
    (convert 64 9 (.slice (some ⟨w.heap.size, 0, none⟩) 1 1)).run Tryz.prog (w.alloc (.cells #[.int .u8 c] 5)) = .ok (.string ⟨#[b]⟩) (w.alloc (.cells #[.int .u8 c] 5)) := by
  subst hc
  refine conv_cells _ w.heap.size 1 [b] (fun j hj => ?_)
  match j, hj with
  | 0, _ => simp

theorem conv_one_drew (w : World) (c : Int) (b : UInt8) (hc : c = (b.toNat : Int)) :
    (convert 64 9 (.slice (some ⟨w.heap.size, 0, none⟩) 1 1)).run Tryz.prog (w.alloc (.cells #[.int .u8 c] 5)).drew = .ok (.string ⟨#[b]⟩) (w.alloc (.cells #[.int .u8 c] 5)).drew := by
  subst hc
  refine conv_cells _ w.heap.size 1 [b] (fun j hj => ?_)
  match j, hj with
  | 0, _ => simp

theorem plain_step {t y : ByteArray} {T : List UInt8} (h : 128 < t.size) (H : bl y ++ plainT (bl t) = T) : bl (y ++ ⟨#[127]⟩ ++ t.extract 0 128) ++ plainT (bl (t.extract 128 t.size)) = T := by
  rw [bl_append, bl_append]
  exact tell_step t (bl y) T 128 (by omega) (by omega) H
theorem plain_last {t y : ByteArray} {T : List UInt8} (h : t.size ≠ 0) (h1 : t.size ≤ 128) (H : bl y ++ plainT (bl t) = T) : bl (y ++ ⟨#[UInt8.ofNat (t.size - 1)]⟩ ++ t) = T := by
  have := tell_last t (bl y) T h h1 H
  rw [bl_append, bl_append, ← this]
  simp [bl, plainT_nil]
theorem ret_str {a b : ByteArray} (h : a = b) : Ending.returned (.string a) = .returned (.string b) := by rw [h]

set_option maxRecDepth 100000 in
set_option maxHeartbeats 1600000 in
theorem plain_any (s : ByteArray) (w : World) (hs : s.size ≤ 2000) :
    Calls Tryz.prog 127 #[.string s] w fun e w' => e = .returned (.string ⟨(plainT (bl s)).toArray⟩) ∧ Below w.heap.size w w' := by
  go_enter Tryz.func127, Tryz.ntmps127
  go_wp2
  go_loopw [0, 3] (fun v0 v3 wr => ∃ (t y : ByteArray), v0 = .string t ∧ v3 = .string y ∧ t.size ≤ 2000 ∧ y.size + 2 * t.size ≤ 4000 ∧ Hid (bl y ++ plainT (bl t) = plainT (bl s)) ∧ Below w.heap.size w wr) (fun v0 _ _ => match v0 with | .string t => t.size | _ => 0)
  case atStart => exact ⟨s, ⟨#[]⟩, rfl, rfl, hs, by rw [show (ByteArray.mk #[]).size = 0 from rfl]; omega, rfl, Below.refl _ _⟩
  case round =>
    obtain ⟨t, y, rfl, rfl, ht, hx, H, hbw⟩ := hrel
    have hsz := hbw.size
    by_cases h0 : (128 : Int) < (t.size : Int)
    · have k1 := conv_one wr 127 127 (by decide)
      have k2 := conv_one_drew wr 127 127 (by decide)
      go_wp2_with fail
      go_region
      all_goals (clear k1 k2)
      all_goals go_wp2
      all_goals exact ⟨⟨_, _, rfl, rfl, by simp; omega, by simp [show (ByteArray.mk #[(127 : UInt8)]).size = 1 from rfl]; omega, plain_step (by omega) H.out, (hbw.alloc hsz _).drew⟩, by simp; omega⟩
    · by_cases h1 : t.size = 0
      · obtain rfl := ba_empty h1
        go_wp2
        go_ret
        exact ⟨ret_str (ba_eq (by rw [← H.out]; simp [bl, plainT_nil])), hbw⟩
      · have q := toList_some h1
        have h2 : (1 : Int) ≤ (t.size : Int) := by omega
        have k1 := conv_one wr ((t.size : Int) - 1) (UInt8.ofNat (t.size - 1)) (by rw [u8_ofNat_toNat (by omega)]; omega)
        go_wp2
        go_ret
        exact ⟨ret_str (ba_eq (plain_last h1 (by omega) H.out)), hbw.alloc hsz _⟩

end Go.Proofs.YtheichphnppagaaGreat
