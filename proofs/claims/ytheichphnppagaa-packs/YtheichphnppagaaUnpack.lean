/- THE WALKS of pack.read, pack.Unpack, larder.Pack, larder.Unpack, larderkeep.short. -/
import Derived.Test.YtheichphnppagaaPart
import Derived.Test.YtheichphnppagaaPack
namespace Go.Proofs.Ytheichphnppagaa
open Go.RowKit

/-- The string of bytes, or the empty one. -/
def strO (o : Option (List UInt8)) : Value := .string ⟨(o.getD []).toArray⟩

theorem read_no {o : Option (List UInt8)} (h : o = none) : Ending.returned (.tuple #[.string ⟨#[]⟩, .bool false]) = .returned (.tuple #[strO o, .bool o.isSome]) := by subst h; rfl
theorem read_yes {o : Option (List UInt8)} {d : List UInt8} (h : o = some d) : Ending.returned (.tuple #[.string ⟨d.toArray⟩, .bool true]) = .returned (.tuple #[strO o, .bool o.isSome]) := by subst h; rfl

set_option maxRecDepth 100000 in
set_option maxHeartbeats 1600000 in
theorem read_any (s : ByteArray) (w : World) (hs : s.size ≤ 9223372036854775807) :
    Calls Try.prog 38 #[.string s] w fun e w' => e = .returned (.tuple #[strO (loT 2000 (bl s) []), .bool (loT 2000 (bl s) []).isSome]) ∧ Below w.heap.size w w' := by
  go_enter Try.func38, Try.ntmps38
  go_wp2
  go_loopw [0, 4] (fun v0 v4 wr => ∃ (t : ByteArray) (x : List UInt8) (f : Nat), v0 = .string t ∧ t.size < f ∧ t.size ≤ 9223372036854775807 ∧ x.length ≤ 2000 ∧ Buf w.heap.size wr v4 x ∧ Hid (loG f 2000 (bl t) x = loT 2000 (bl s) []) ∧ Below w.heap.size w wr) (fun v0 _ _ => match v0 with | .string t => t.size | _ => 0)
  case atStart => exact ⟨s, [], s.size + 1, rfl, by omega, hs, by simp, Buf.nil _ _, (by show _ = _; unfold loT; rw [bl_length]), Below.refl _ _⟩
  case round =>
    obtain ⟨t, x, f, rfl, hf, ht, hx, hb, H, hbw⟩ := hrel
    have hsz := hbw.size
    obtain ⟨f, rfl⟩ : ∃ g, f = g + 1 := ⟨f - 1, by omega⟩
    by_cases h0 : (0 : Int) < (t.size : Int)
    · go_wp2_with fail
      refine (part_any t _ x w.heap.size _ hb hsz (by omega) ht hx).mono ?_
      rintro e w1 ⟨v1, u, rfl, hbw1, hp⟩
      have hne : (bl t).length ≠ 0 := by rw [bl_length]; omega
      rcases hp with ⟨hp, rfl⟩ | ⟨o, hp, hb1⟩
      · have R : Hid (loT 2000 (bl s) [] = none) := by show _ = _; rw [← H.out, loG_bad _ _ _ _ hne hp]
        clear hp
        go_wp2
        go_ret2
        exact ⟨read_no R.out, hbw.trans hbw1⟩
      · have hu := part_pos hp
        rw [bl_length] at hu
        have P : Hid (part (bl t) x = some (o, u)) := hp
        clear hp
        have hu0 : ((u : Int) == 0) = false := beq_eq_false_iff_ne.2 (by omega)
        by_cases hbig : (2000 : Int) < (o.length : Int)
        · have R : Hid (loT 2000 (bl s) [] = none) := by show _ = _; rw [← H.out, loG_big _ _ _ _ hne P.out (by omega)]
          rcases hb1.form with ⟨_, h⟩ | ⟨g, cap, rfl⟩
          · rw [h] at hbig; simp at hbig
          go_wp2
          go_ret2
          exact ⟨read_no R.out, hbw.trans hbw1⟩
        · have R : Hid (loG f 2000 (bl (t.extract u t.size)) o = loT 2000 (bl s) []) := by show _ = _; rw [← H.out, loG_step _ _ _ _ hne P.out (by omega), bl_from]
          rcases hb1.form with ⟨rfl, rfl⟩ | ⟨g, cap, rfl⟩
          · go_wp2
            exact ⟨⟨_, _, f, rfl, by simp; omega, by simp; omega, by omega, hb1, R.out, hbw.trans hbw1⟩, by simp; omega⟩
          · go_wp2
            exact ⟨⟨_, _, f, rfl, by simp; omega, by simp; omega, by omega, hb1, R.out, hbw.trans hbw1⟩, by simp; omega⟩
    · have R : Hid (loT 2000 (bl s) [] = some x) := by show _ = _; rw [← H.out, loG_nil _ _ _ _ (by rw [bl_length]; omega)]
      have hc := run_string_buf wr _ _ _ hb
      go_wp2
      go_ret2
      exact ⟨read_yes R.out, hbw⟩

theorem bl_mk (d : List UInt8) : bl ⟨d.toArray⟩ = d := rfl
theorem size_mk (d : List UInt8) : (ByteArray.mk d.toArray).size = d.length := rfl
theorem toList_bl (s : ByteArray) : s.toList = bl s := ByteArray.toList_eq s

set_option maxHeartbeats 800000 in
theorem unpack_any (s : ByteArray) (w : World) (hs : s.size ≤ 9223372036854775807) :
    Calls Try.prog 28 #[.string s] w fun e w' => e = .returned (.tuple #[strO (unp (bl s)), .bool (unp (bl s)).isSome]) ∧ Below w.heap.size w w' := by
  cases h : loT 2000 (bl s) [] with
  | none =>
    have R : Hid (unp (bl s) = none) := by show _ = _; simp [unp, h]
    go_enter Try.func28, Try.ntmps28
    go_wp2_with fail
    refine (read_any s _ hs).mono ?_
    rintro e w1 ⟨rfl, hbw1⟩
    rw [h]
    clear h
    simp only [strO, Option.getD_none, Option.isSome_none]
    go_wp2
    go_ret2
    exact ⟨read_no R.out, hbw1⟩
  | some d =>
    have hd : d.length ≤ 2000 := loG_length _ 2000 (bl s) [] d (by simp) h
    by_cases hq : sq d = bl s
    · have R : Hid (unp (bl s) = some d) := by show _ = _; simp [unp, h, hq]
      have q1 : (sq d == s.toList) = true := by rw [toList_bl, hq]; simp
      clear hq
      go_enter Try.func28, Try.ntmps28
      go_wp2_with fail
      refine (read_any s _ hs).mono ?_
      rintro e w1 ⟨rfl, hbw1⟩
      rw [h]
      clear h
      simp only [strO, Option.getD_some, Option.isSome_some]
      go_wp2_with fail
      refine (pack_any ⟨d.toArray⟩ _ (by rw [size_mk]; exact hd)).mono ?_
      rintro e w2 ⟨rfl, hbw2⟩
      rw [bl_mk]
      go_wp2
      go_ret2
      exact ⟨read_yes R.out, hbw1.trans (hbw2.mono hbw1.size)⟩
    · have R : Hid (unp (bl s) = none) := by show _ = _; simp [unp, h, hq]
      have q1 : (sq d == s.toList) = false := by rw [toList_bl]; simp [hq]
      clear hq
      go_enter Try.func28, Try.ntmps28
      go_wp2_with fail
      refine (read_any s _ hs).mono ?_
      rintro e w1 ⟨rfl, hbw1⟩
      rw [h]
      clear h
      simp only [strO, Option.getD_some, Option.isSome_some]
      go_wp2_with fail
      refine (pack_any ⟨d.toArray⟩ _ (by rw [size_mk]; exact hd)).mono ?_
      rintro e w2 ⟨rfl, hbw2⟩
      rw [bl_mk]
      go_wp2
      go_ret2
      exact ⟨read_no R.out, hbw1.trans (hbw2.mono hbw1.size)⟩

theorem lpack_ok (s : ByteArray) (w : World) (hs : s.size ≤ 2000) :
    Calls Try.prog 15 #[.string s] w fun e w' => e = .returned (.tuple #[.string ⟨(sq (bl s)).toArray⟩, .int .i64 0]) ∧ Below w.heap.size w w' := by
  have h1 : ¬ (2000 : Int) < (s.size : Int) := by omega
  go_enter Try.func15, Try.ntmps15
  go_wp2_with fail
  refine (pack_any s _ hs).mono ?_
  rintro e w1 ⟨rfl, hbw1⟩
  go_wp2
  go_ret2
  exact ⟨rfl, hbw1⟩

theorem lpack_big (s : ByteArray) (w : World) (hs : 2000 < s.size) :
    Calls Try.prog 15 #[.string s] w fun e w' => e = .returned (.tuple #[.string ⟨#[]⟩, .int .i64 6]) ∧ w' = w := by
  have h1 : (2000 : Int) < (s.size : Int) := by omega
  go_enter Try.func15, Try.ntmps15
  go_wp2
  go_ret2
  exact ⟨rfl, rfl⟩

def errO (o : Option (List UInt8)) : Int := if o.isSome then 0 else 2

theorem lun_no {o : Option (List UInt8)} (h : o = none) : Ending.returned (.tuple #[.string ⟨#[]⟩, .int .i64 2]) = .returned (.tuple #[strO o, .int .i64 (errO o)]) := by subst h; rfl
theorem lun_yes {o : Option (List UInt8)} {d : List UInt8} (h : o = some d) : Ending.returned (.tuple #[.string ⟨d.toArray⟩, .int .i64 0]) = .returned (.tuple #[strO o, .int .i64 (errO o)]) := by subst h; rfl

theorem lunpack_any (s : ByteArray) (w : World) (hs : s.size ≤ 9223372036854775807) :
    Calls Try.prog 17 #[.string s] w fun e w' => e = .returned (.tuple #[strO (unp (bl s)), .int .i64 (errO (unp (bl s)))]) ∧ Below w.heap.size w w' := by
  cases h : unp (bl s) with
  | none =>
    go_enter Try.func17, Try.ntmps17
    go_wp2_with fail
    refine (unpack_any s _ hs).mono ?_
    rintro e w1 ⟨rfl, hbw1⟩
    rw [h]
    clear h
    simp only [strO, Option.getD_none, Option.isSome_none]
    go_wp2
    go_ret2
    exact ⟨lun_no rfl, hbw1⟩
  | some d =>
    go_enter Try.func17, Try.ntmps17
    go_wp2_with fail
    refine (unpack_any s _ hs).mono ?_
    rintro e w1 ⟨rfl, hbw1⟩
    rw [h]
    clear h
    simp only [strO, Option.getD_some, Option.isSome_some]
    go_wp2
    go_ret2
    exact ⟨lun_yes rfl, hbw1⟩

theorem short_any (s : ByteArray) (w : World) (hs : s.size ≤ 9223372036854775807) :
    Calls Try.prog 13 #[.string s, .int .i64 2000] w fun e w' => ∃ t : ByteArray, e = .returned (.string t) ∧ t.size ≤ 2000 ∧ w' = w := by
  by_cases h : (2000 : Int) < (s.size : Int)
  · go_enter Try.func13, Try.ntmps13
    go_wp2
    go_ret
    exact ⟨_, rfl, by simp; omega, rfl⟩
  · go_enter Try.func13, Try.ntmps13
    go_wp2
    go_ret
    exact ⟨_, rfl, by omega, rfl⟩

end Go.Proofs.Ytheichphnppagaa
