/- Opens: Head. -/
import Derived.Test.YtheichphnppagaaGreatVint
import Derived.Test.YtheichphnppagaaGreatRefPlain
import Derived.Test.YtheichphnppagaaGreatCuts0
import Derived.Deep.RegionHeld3
import Derived.Deep.DrawnRows
namespace Go.Proofs.YtheichphnppagaaGreat
open Go.RowKit
attribute [local go_sem ↓] Go.wp_at_zero Go.wp_at_succ

/-- What a head begins with. -/
def larderL : List UInt8 := [76, 65, 82, 68, 69, 82]

set_option maxRecDepth 100000 in
theorem hasPrefix_yes (s : ByteArray) (w : World) (h6 : 6 ≤ s.size) (h : bl (s.extract 0 6) = larderL) :
    Calls Tryz.prog 128 #[.string s, .string ⟨#[76, 65, 82, 68, 69, 82]⟩] w fun e w' => e = .returned (.bool true) ∧ w' = w := by
  have h1 : (6 : Int) ≤ (s.size : Int) := by omega
  have q1 : ((s.extract 0 6).toList == [76, 65, 82, 68, 69, 82]) = true := by rw [toList_bl, h]; rfl
  go_enter Tryz.func128, Tryz.ntmps128
  go_wp2
  go_ret
  exact ⟨rfl, rfl⟩

set_option maxRecDepth 100000 in
theorem hasPrefix_no (s : ByteArray) (w : World) (h : ¬ (6 ≤ s.size ∧ bl (s.extract 0 6) = larderL)) :
    Calls Tryz.prog 128 #[.string s, .string ⟨#[76, 65, 82, 68, 69, 82]⟩] w fun e w' => e = .returned (.bool false) ∧ w' = w := by
  by_cases h1 : (6 : Int) ≤ (s.size : Int)
  · have q1 : ((s.extract 0 6).toList == [76, 65, 82, 68, 69, 82]) = false := by
      rw [toList_bl]
      have : bl (s.extract 0 6) ≠ larderL := fun e => h ⟨by omega, e⟩
      simpa [larderL] using this
    go_enter Tryz.func128, Tryz.ntmps128
    go_wp2
    go_ret
    exact ⟨rfl, rfl⟩
  · go_enter Tryz.func128, Tryz.ntmps128
    go_wp2
    go_ret
    exact ⟨rfl, rfl⟩

/-- What CutPrefix answers. -/
def cutP (s : ByteArray) : Value := if 6 ≤ s.size ∧ bl (s.extract 0 6) = larderL then .tuple #[.string (s.extract 6 s.size), .bool true] else .tuple #[.string s, .bool false]
theorem cutP_yes {s : ByteArray} (h : 6 ≤ s.size ∧ bl (s.extract 0 6) = larderL) : cutP s = .tuple #[.string (s.extract 6 s.size), .bool true] := if_pos h
theorem cutP_no {s : ByteArray} (h : ¬ (6 ≤ s.size ∧ bl (s.extract 0 6) = larderL)) : cutP s = .tuple #[.string s, .bool false] := if_neg h

set_option maxRecDepth 100000 in
theorem cutPrefix_lite (s : ByteArray) (w : World) : Calls Tryz.prog 109 #[.string s, .string ⟨#[76, 65, 82, 68, 69, 82]⟩] w fun e w' => e = .returned (cutP s) ∧ w' = w := by
  by_cases h : 6 ≤ s.size ∧ bl (s.extract 0 6) = larderL
  · have R : Hid (cutP s = .tuple #[.string (s.extract 6 s.size), .bool true]) := cutP_yes h
    have h1 : (6 : Int) ≤ (s.size : Int) := by omega
    go_enter Tryz.func109, Tryz.ntmps109
    go_wp2_with fail
    refine (hasPrefix_yes s _ h.1 h.2).mono ?_
    rintro e w1 ⟨rfl, rfl⟩
    go_wp2
    go_ret2
    exact ⟨by rw [R.out]; rfl, rfl⟩
  · have R : Hid (cutP s = .tuple #[.string s, .bool false]) := cutP_no h
    go_enter Tryz.func109, Tryz.ntmps109
    go_wp2_with fail
    refine (hasPrefix_no s _ h).mono ?_
    rintro e w1 ⟨rfl, rfl⟩
    go_wp2
    go_ret2
    exact ⟨by rw [R.out]; rfl, rfl⟩

set_option maxRecDepth 100000 in
theorem cutPrefix_any (s : ByteArray) (w : World) : Calls Tryz.prog 85 #[.string s, .string ⟨#[76, 65, 82, 68, 69, 82]⟩] w fun e w' => e = .returned (cutP s) ∧ w' = w := by
  by_cases h : 6 ≤ s.size ∧ bl (s.extract 0 6) = larderL
  · go_enter Tryz.func85, Tryz.ntmps85
    go_wp2_with fail
    refine (cutPrefix_lite s _).mono ?_
    rintro e w1 ⟨rfl, rfl⟩
    have R : Hid (cutP s = _) := cutP_yes h
    rw [cutP_yes h]
    clear h
    go_wp2
    go_ret2
    exact ⟨by rw [R.out]; rfl, rfl⟩
  · go_enter Tryz.func85, Tryz.ntmps85
    go_wp2_with fail
    refine (cutPrefix_lite s _).mono ?_
    rintro e w1 ⟨rfl, rfl⟩
    have R : Hid (cutP s = _) := cutP_no h
    rw [cutP_no h]
    clear h
    go_wp2
    go_ret2
    exact ⟨by rw [R.out]; rfl, rfl⟩

/-- The four numbers of a head. -/
def headL? (x : List UInt8) : Option (List Nat) := if x.take 6 = larderL then (match vints 3 (x.drop 6) with
  | some l => if l.length = 4 then some l else none
  | none => none) else none
def confV (l : List Nat) : Value := .agg #[.int .i64 (l.getD 0 0 : Nat), .int .i64 (l.getD 1 0 : Nat), .int .i64 (l.getD 2 0 : Nat), .int .i64 (l.getD 3 0 : Nat)]
def headV (x : List UInt8) : Value := match headL? x with
  | some l => .tuple #[confV l, .bool true]
  | none => .tuple #[.agg #[.int .i64 0, .int .i64 0, .int .i64 0, .int .i64 0], .bool false]
theorem headV_no {x : List UInt8} (h : headL? x = none) : headV x = .tuple #[.agg #[.int .i64 0, .int .i64 0, .int .i64 0, .int .i64 0], .bool false] := by unfold headV; rw [h]
theorem headV_yes {x : List UInt8} {l : List Nat} (h : headL? x = some l) : headV x = .tuple #[confV l, .bool true] := by unfold headV; rw [h]
theorem head_pre {s : ByteArray} : (6 ≤ s.size ∧ bl (s.extract 0 6) = larderL) ↔ (bl s).take 6 = larderL := by
  rw [bl_extract]
  simp only [List.drop_zero, Nat.sub_zero]
  refine ⟨fun h => h.2, fun h => ⟨?_, h⟩⟩
  have := congrArg List.length h
  simp [larderL, bl_length] at this
  omega

theorem below_four {B b : Nat} {w w2 : World} (h : Below B w w2) (hb : B ≤ b) (x0 x1 x2 x3 : Value) : Below B w ((((w2.setCell ⟨b, 0, none⟩ x0).setCell ⟨b, 1, none⟩ x1).setCell ⟨b, 2, none⟩ x2).setCell ⟨b, 3, none⟩ x3) :=
  (((h.setCell hb _).setCell hb _).setCell hb _).setCell hb _
theorem ret_of {a b : Value} (h : b = a) : Ending.returned a = .returned b := by rw [h]

set_option maxRecDepth 100000 in
set_option maxHeartbeats 3200000 in
theorem readHead_any (s : ByteArray) (w : World) (hs : s.size ≤ 70000) :
    Calls Tryz.prog 53 #[.string s] w fun e w' => e = .returned (headV (bl s)) ∧ Below w.heap.size w w' := by
  have hnot := not_law
  have hB0 : Below w.heap.size w (w.alloc (.cells #[.int .i64 0, .int .i64 0, .int .i64 0, .int .i64 0] 26)) := (Below.refl _ _).alloc (Nat.le_refl _) _
  have hR0 : Row (w.alloc (.cells #[.int .i64 0, .int .i64 0, .int .i64 0, .int .i64 0] 26)) w.heap.size 26 [.int .i64 0, .int .i64 0, .int .i64 0, .int .i64 0] := Row.new w 26 [.int .i64 0, .int .i64 0, .int .i64 0, .int .i64 0]
  by_cases h : 6 ≤ s.size ∧ bl (s.extract 0 6) = larderL
  · have hp := head_pre.1 h
    go_enter Tryz.func53, Tryz.ntmps53
    go_wp2_with fail
    refine (cutPrefix_any s _).mono ?_
    rintro e w1 ⟨rfl, rfl⟩
    rw [cutP_yes h]
    go_wp2_with fail
    refine (readVarints_any (s.extract 6 s.size) _ (by simp; omega)).mono ?_
    rintro e w2 ⟨v, rfl, hr, hB2⟩
    rw [bl_from] at hr
    have hRow : Row w2 w.heap.size 26 [.int .i64 0, .int .i64 0, .int .i64 0, .int .i64 0] := hR0.below hB2 (by simp)
    have hB := hB0.trans (hB2.mono (by simp))
    have k0 : w2.cell? ⟨w.heap.size, 0, none⟩ = some (.int .i64 0) := hRow.cell 0
    have k1 : w2.cell? ⟨w.heap.size, 1, none⟩ = some (.int .i64 0) := hRow.cell 1
    have k2 : w2.cell? ⟨w.heap.size, 2, none⟩ = some (.int .i64 0) := hRow.cell 2
    have k3 : w2.cell? ⟨w.heap.size, 3, none⟩ = some (.int .i64 0) := hRow.cell 3
    have f0 := hRow.free 0
    have f1 := hRow.free 1
    have f2 := hRow.free 2
    have f3 := hRow.free 3
    have hRR : Hid (Row w2 w.heap.size 26 [.int .i64 0, .int .i64 0, .int .i64 0, .int .i64 0]) := hRow
    have HB : Hid (Below w.heap.size w w2) := hB
    clear hRow hB hB2 hR0 hB0 h
    cases hv : vints 3 ((bl s).drop 6) with
    | none =>
      have R : Hid (headL? (bl s) = none) := by show _ = _; unfold headL?; rw [if_pos hp, hv]
      rw [hv] at hr
      obtain rfl : v = .tuple #[.slice none 0 0, .bool false] := hr
      clear hv hp
      go_wp2
      refine bodyPost_ret (v := .tuple #[.agg #[.int .i64 0, .int .i64 0, .int .i64 0, .int .i64 0], .bool false]) (by simp [results, Tryz.results53, go_sem, k0, k1, k2, k3]) rfl ⟨ret_of (headV_no R.out), below_four HB.out (Nat.le_refl _) _ _ _ _⟩
    | some l =>
      rw [hv] at hr
      obtain ⟨u, rfl, hu⟩ := hr
      by_cases h4 : l.length = 4
      · obtain ⟨a, b, c, d, rfl⟩ : ∃ a b c d, l = [a, b, c, d] := by
          match l, h4 with
          | [a, b, c, d], _ => exact ⟨a, b, c, d, rfl⟩
        have R : Hid (headL? (bl s) = some [a, b, c, d]) := by show _ = _; unfold headL?; rw [if_pos hp, hv]; rfl
        rcases hu.form with ⟨_, h0⟩ | ⟨g, cap, rfl, hg, _⟩
        · cases h0
        simp only [World.size_alloc] at hg
        have g0 : w2.cell? ⟨g, 0, none⟩ = some (.int .i64 a) := hu.cell 0 (by simp)
        have g1 : w2.cell? ⟨g, 1, none⟩ = some (.int .i64 b) := hu.cell 1 (by simp)
        have g2 : w2.cell? ⟨g, 2, none⟩ = some (.int .i64 c) := hu.cell 2 (by simp)
        have g3 : w2.cell? ⟨g, 3, none⟩ = some (.int .i64 d) := hu.cell 3 (by simp)
        have hgn : w.heap.size ≠ g := by omega
        clear hv hp hu hg
        simp only [List.map_cons, List.map_nil, List.length_cons, List.length_nil]
        go_wp2_with fail
        go_region_held3 (fun w' => w'.cell? ⟨g, 0, none⟩ = some (.int .i64 a) ∧ w'.cell? ⟨g, 1, none⟩ = some (.int .i64 b) ∧ w'.cell? ⟨g, 2, none⟩ = some (.int .i64 c) ∧ w'.cell? ⟨g, 3, none⟩ = some (.int .i64 d)) (go_keep) (fail)
        all_goals (go_wp2; refine bodyPost_ret (v := .tuple #[.agg #[.int .i64 a, .int .i64 b, .int .i64 c, .int .i64 d], .bool true]) (by simp [results, Tryz.results53, go_sem, k0, k1, k2, k3]) rfl ⟨ret_of (headV_yes R.out), by first | exact below_four HB.out (Nat.le_refl _) _ _ _ _ | exact (below_four HB.out (Nat.le_refl _) _ _ _ _).drew⟩)
      · have R : Hid (headL? (bl s) = none) := by show _ = _; unfold headL?; rw [if_pos hp, hv]; simp [h4]
        have h4' : ((l.length : Int) == 4) = false := beq_eq_false_iff_ne.2 (by omega)
        clear hv hp
        rcases hu.form with ⟨rfl, h0⟩ | ⟨g, cap, rfl, hg, _⟩
        · go_wp2
          refine bodyPost_ret (v := .tuple #[.agg #[.int .i64 0, .int .i64 0, .int .i64 0, .int .i64 0], .bool false]) (by simp [results, Tryz.results53, go_sem, k0, k1, k2, k3]) rfl ⟨ret_of (headV_no R.out), below_four HB.out (Nat.le_refl _) _ _ _ _⟩
        · simp only [List.length_map]
          go_wp2
          refine bodyPost_ret (v := .tuple #[.agg #[.int .i64 0, .int .i64 0, .int .i64 0, .int .i64 0], .bool false]) (by simp [results, Tryz.results53, go_sem, k0, k1, k2, k3]) rfl ⟨ret_of (headV_no R.out), below_four HB.out (Nat.le_refl _) _ _ _ _⟩
  · have hp : ¬ (bl s).take 6 = larderL := fun e => h (head_pre.2 e)
    have R : Hid (headL? (bl s) = none) := by show _ = _; unfold headL?; rw [if_neg hp]
    go_enter Tryz.func53, Tryz.ntmps53
    go_wp2_with fail
    refine (cutPrefix_any s _).mono ?_
    rintro e w1 ⟨rfl, rfl⟩
    rw [cutP_no h]
    go_wp2_with fail
    refine (readVarints_any s _ hs).mono ?_
    rintro e w2 ⟨v, rfl, hr, hB2⟩
    have hRow : Row w2 w.heap.size 26 [.int .i64 0, .int .i64 0, .int .i64 0, .int .i64 0] := hR0.below hB2 (by simp)
    have hB := hB0.trans (hB2.mono (by simp))
    have k0 : w2.cell? ⟨w.heap.size, 0, none⟩ = some (.int .i64 0) := hRow.cell 0
    have k1 : w2.cell? ⟨w.heap.size, 1, none⟩ = some (.int .i64 0) := hRow.cell 1
    have k2 : w2.cell? ⟨w.heap.size, 2, none⟩ = some (.int .i64 0) := hRow.cell 2
    have k3 : w2.cell? ⟨w.heap.size, 3, none⟩ = some (.int .i64 0) := hRow.cell 3
    have f0 := hRow.free 0
    have f1 := hRow.free 1
    have f2 := hRow.free 2
    have f3 := hRow.free 3
    have HB : Hid (Below w.heap.size w w2) := hB
    clear hRow hB hB2 hR0 hB0 h hp
    obtain ⟨u, b, rfl⟩ : ∃ u b, v = .tuple #[u, .bool b] := by
      revert hr
      cases vints 3 (bl s) with
      | none => exact fun hr => ⟨_, _, hr⟩
      | some l => exact fun hr => by obtain ⟨u, rfl, _⟩ := hr; exact ⟨_, _, rfl⟩
    clear hr
    go_wp2
    refine bodyPost_ret (v := .tuple #[.agg #[.int .i64 0, .int .i64 0, .int .i64 0, .int .i64 0], .bool false]) (by simp [results, Tryz.results53, go_sem, k0, k1, k2, k3]) rfl ⟨ret_of (headV_no R.out), below_four HB.out (Nat.le_refl _) _ _ _ _⟩

end Go.Proofs.YtheichphnppagaaGreat
