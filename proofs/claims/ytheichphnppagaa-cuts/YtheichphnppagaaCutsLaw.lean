/- THE WALK of the statement Cuts. -/
import Derived.Test.YtheichphnppagaaAns
namespace Go.Proofs.Ytheichphnppagaa
open Go.RowKit

theorem forty_cuts : ansL ⟨#[48, 49, 50, 51, 52, 53, 54, 55, 56, 57, 48, 49, 50, 51, 52, 53, 54, 55, 56, 57, 48, 49, 50, 51, 52, 53, 54, 55, 56, 57, 48, 49, 50, 51, 52, 53, 54, 55, 56, 57]⟩ 20 20 1 100 = [20, 40] := by
  unfold ansL
  rw [if_pos (by decide)]
  decide
theorem forty_err : ansE ⟨#[48, 49, 50, 51, 52, 53, 54, 55, 56, 57, 48, 49, 50, 51, 52, 53, 54, 55, 56, 57, 48, 49, 50, 51, 52, 53, 54, 55, 56, 57, 48, 49, 50, 51, 52, 53, 54, 55, 56, 57]⟩ 20 20 1 100 = 0 := by decide

theorem IBuf.shape {B : Nat} {w : World} {v : Value} {l : List Int} (h : IBuf B w v l) : ∃ o cap, v = .slice o l.length cap ∧ (0 < l.length → ∃ g, o = some ⟨g, 0, none⟩) := by
  rcases h.form with ⟨rfl, rfl⟩ | ⟨g, cap, rfl, _⟩
  · exact ⟨none, 0, rfl, fun h => by simp at h⟩
  · exact ⟨_, cap, rfl, fun _ => ⟨g, rfl⟩⟩
theorem IBuf.apart {B C : Nat} {w w' : World} {v u : Value} {l m : List Int} (h : IBuf B w v l) (k : IBuf C w' u m) (hC : w.heap.size ≤ C) : u.ownBlock = none ∨ u.ownBlock ≠ v.ownBlock := by
  cases e : u.ownBlock with
  | none => exact .inl rfl
  | some b =>
    refine .inr (fun x => ?_)
    have h1 := (k.block b e).1
    have h2 := (h.block b x.symm).2
    omega
theorem IBuf.apart' {B C : Nat} {w w' : World} {v u : Value} {l m : List Int} (h : IBuf B w u l) (k : IBuf C w' v m) (hC : w.heap.size ≤ C) : u.ownBlock = none ∨ u.ownBlock ≠ v.ownBlock := by
  cases e : u.ownBlock with
  | none => exact .inl rfl
  | some b =>
    refine .inr (fun x => ?_)
    have h1 := (k.block b x.symm).1
    have h2 := (h.block b e).2
    omega
/-- The cells of a boxed list of marks. -/
def boxL (v p2 p3 p4 : Value) (c : Int) : List Value := [v, p2, p3, p4, .int .i64 c]

set_option maxRecDepth 100000 in
set_option maxHeartbeats 4000000 in
theorem cutslaw_any (s : ByteArray) (mn mx bt rm : Int) (w : World) (L : List Int) (E : Int) (hL : ansL s mn mx bt rm = L) (hE : ansE s mn mx bt rm = E) (hl : L.length ≤ 2000) :
    Calls Try.prog 3 #[.string s, .agg #[.int .i64 mn, .int .i64 mx, .int .i64 bt, .int .i64 rm]] w fun e w' => e = .returned (.bool true) ∧ Below w.heap.size w w' := by
  have LL : Hid (ansL s mn mx bt rm = L) := hL
  have EE : Hid (ansE s mn mx bt rm = E) := hE
  clear hL hE
  have hR0 := Row.new w 23 [.int .i64 mn, .int .i64 mx, .int .i64 bt, .int .i64 rm]
  have hB0 : Below w.heap.size w (w.alloc (.cells #[.int .i64 mn, .int .i64 mx, .int .i64 bt, .int .i64 rm] 23)) := (Below.refl _ _).alloc (Nat.le_refl _) _
  go_enter Try.func3, Try.ntmps3
  go_wp2_with fail
  refine (lcuts_any s mn mx bt rm _).mono ?_
  rintro e w1 ⟨x1, rfl, hx, hB1⟩
  rw [LL.out] at hx
  rw [EE.out]
  obtain ⟨o1, cap1, rfl, s1⟩ := hx.shape
  have hR1 := hR0.below hB1 (by simp)
  have k0 : w1.cell? ⟨w.heap.size, 0, none⟩ = some (.int .i64 mn) := hR1.cell 0
  have k1 : w1.cell? ⟨w.heap.size, 1, none⟩ = some (.int .i64 mx) := hR1.cell 1
  have k2 : w1.cell? ⟨w.heap.size, 2, none⟩ = some (.int .i64 bt) := hR1.cell 2
  have k3 : w1.cell? ⟨w.heap.size, 3, none⟩ = some (.int .i64 rm) := hR1.cell 3
  have B1 : Below w.heap.size w w1 := hB0.trans (hB1.mono (by simp))
  have hx := hx.low (by simp : w.heap.size + 1 ≤ _)
  go_wp2_with fail
  refine (rcuts_any s mn mx bt rm _).mono ?_
  rintro e w2 ⟨x2, rfl, hy, hB2⟩
  rw [LL.out] at hy
  rw [EE.out]
  obtain ⟨o2, cap2, rfl, s2⟩ := hy.shape
  have ap12 := hx.apart hy (Nat.le_refl _)
  have hx2 := hx.below hB2
  have hR2 := hR1.below hB2 hR1.lt
  have B2 : Below w.heap.size w w2 := B1.trans (hB2.mono B1.size)
  have z1 := B1.size
  have z2 := hB2.size
  have hw1 : w.heap.size < w1.heap.size := hR1.lt
  clear k0 k1 k2 k3 hR1 hx B1 hB1 hR0 hB0 hB2
  go_wp2_with fail
  go_loopw [9, 10] (fun v9 v10 wr => v9 = .bool true ∧ ∃ i m : Nat, v10 = .int .i64 i ∧ i ≤ L.length ∧ wr = w2.drewN m) (fun _ v10 _ => L.length - (intOf v10).toNat)
  case atStart => exact ⟨rfl, 0, 0, rfl, by omega, rfl⟩
  case round =>
    obtain ⟨rfl, i, m, rfl, hi, rfl⟩ := hrel
    by_cases hlt : (i : Int) < (L.length : Int)
    · obtain ⟨g1, rfl⟩ := s1 (by omega)
      obtain ⟨g2, rfl⟩ := s2 (by omega)
      have c1 : w2.cell? ⟨g1, i, none⟩ = some (.int .i64 (L.getD i 0)) := hx2.cell i (by omega)
      have c2 : w2.cell? ⟨g2, i, none⟩ = some (.int .i64 (L.getD i 0)) := hy.cell i (by omega)
      generalize L.getD i 0 = y at c1 c2
      go_wp2_with fail
      go_quiet (fail)
      go_wp2
      exact ⟨⟨rfl, i + 1, _, by go_num, by omega, rfl⟩, by simp [intOf]; omega⟩
    · have hx3 := hx2.drewN m
      have hy3 := hy.drewN m
      have hR3 : Row (w2.drewN m) w.heap.size 23 [.int .i64 mn, .int .i64 mx, .int .i64 bt, .int .i64 rm] := hR2
      have B3 : Below w.heap.size w (w2.drewN m) := ⟨B2.os, B2.tape, B2.output, B2.size, B2.block⟩
      have z3 : w1.heap.size ≤ (w2.drewN m).heap.size := z2
      clear hx2 hy hR2 B2 z2
      obtain ⟨W, hW⟩ : ∃ W, w2.drewN m = W := ⟨_, rfl⟩
      rw [hW] at hx3 hy3 hR3 B3 z3
      rw [hW]
      clear hW
      go_wp2_with fail
      refine (kept_any (w.heap.size + 1) _ _ L (-1) hx3 hl (by omega)).mono ?_
      rintro e w3 ⟨p2, p3, p4, rfl, q1, q2, q3, q4, G3⟩
      have hy4 := hy3.gb G3 ap12
      have hR4 := hR3.gb G3 (fun e => by have h1 := hx3.block _ e.symm; omega)
      have B4 : Below w.heap.size w w3 := B3.trans ((Below.refl _ _).grown G3 B3.size (fun k hk => by have h1 := hx3.block k hk; omega))
      obtain ⟨j2, d2, rfl⟩ := mk_some q2 (by omega)
      obtain ⟨j3, d3, rfl⟩ := mk_some q3 (by omega)
      obtain ⟨j4, d4, rfl⟩ := mk_some q4 (by omega)
      have r0 : w3.cell? ⟨w.heap.size, 0, none⟩ = some (.int .i64 mn) := hR4.cell 0
      have r1 : w3.cell? ⟨w.heap.size, 1, none⟩ = some (.int .i64 mx) := hR4.cell 1
      have r2 : w3.cell? ⟨w.heap.size, 2, none⟩ = some (.int .i64 bt) := hR4.cell 2
      have r3 : w3.cell? ⟨w.heap.size, 3, none⟩ = some (.int .i64 rm) := hR4.cell 3
      have hwz : w.heap.size < w3.heap.size := hR4.lt
      have z4 := G3.size
      clear hx3 hy3 hR3 B3 ap12 G3
      go_wp2_with fail
      refine (lcuts_any s mn mx bt rm _).mono ?_
      rintro e w4 ⟨x3, rfl, hv, hB5⟩
      rw [LL.out] at hv
      rw [EE.out]
      obtain ⟨o3, cap3, rfl, s3⟩ := hv.shape
      have hK := (Row.new w3 29 [.slice o1 L.length cap1, .slice (some ⟨j2, 0, none⟩) (L.length + 1) d2, .slice (some ⟨j3, 0, none⟩) (L.length + 2) d3, .slice (some ⟨j4, 0, none⟩) (L.length + 3) d4, .int .i64 (-1)]).below hB5 (by simp)
      have ax1 := q1.apart' hv (by simp)
      have ax2 := q2.apart' hv (by simp)
      have ax3 := q3.apart' hv (by simp)
      have ax4 := q4.apart' hv (by simp)
      have t1 := (q1.alloc _).below hB5
      have t2 := (q2.alloc _).below hB5
      have t3 := (q3.alloc _).below hB5
      have t4 := (q4.alloc _).below hB5
      have hy5 := (hy4.alloc _).below hB5
      have hv := hv.low (by simp : w3.heap.size + 1 ≤ _)
      have B5 : Below w.heap.size w w4 := (B4.alloc B4.size _).trans (hB5.mono (by simp; omega))
      have hw4 : w3.heap.size < w4.heap.size := hK.lt
      clear r0 r1 r2 r3 q1 q2 q3 q4 hy4 hR4 hB5 B4
      go_wp2_with fail
      go_loopw [14, 15] (fun v14 v15 wr => v14 = .bool true ∧ ∃ i m : Nat, v15 = .int .i64 i ∧ i ≤ L.length ∧ wr = w4.drewN m) (fun _ v15 _ => L.length - (intOf v15).toNat)
      case atStart => exact ⟨rfl, 0, 0, rfl, by omega, rfl⟩
      case round =>
        obtain ⟨rfl, i, m, rfl, hi, rfl⟩ := hrel
        by_cases hlt : (i : Int) < (L.length : Int)
        · obtain ⟨g3, rfl⟩ := s3 (by omega)
          obtain ⟨g2, rfl⟩ := s2 (by omega)
          have c1 : w4.cell? ⟨g3, i, none⟩ = some (.int .i64 (L.getD i 0)) := hv.cell i (by omega)
          have c2 : w4.cell? ⟨g2, i, none⟩ = some (.int .i64 (L.getD i 0)) := hy5.cell i (by omega)
          generalize L.getD i 0 = y at c1 c2
          go_wp2_with fail
          go_quiet (fail)
          go_wp2
          exact ⟨⟨rfl, i + 1, _, by go_num, by omega, rfl⟩, by simp [intOf]; omega⟩
        · have hv6 := hv.drewN m
          have u1 := t1.drewN m
          have u2 := t2.drewN m
          have u3 := t3.drewN m
          have u4 := t4.drewN m
          have hK6 : Row (w4.drewN m) w3.heap.size 29 _ := hK
          have B6 : Below w.heap.size w (w4.drewN m) := ⟨B5.os, B5.tape, B5.output, B5.size, B5.block⟩
          have z6 : w3.heap.size < (w4.drewN m).heap.size := hw4
          clear hv t1 t2 t3 t4 hK B5 hw4 hy5
          obtain ⟨V, hV⟩ : ∃ V, w4.drewN m = V := ⟨_, rfl⟩
          rw [hV] at hv6 u1 u2 u3 u4 hK6 B6 z6
          rw [hV]
          clear hV
          go_wp2_with fail
          refine (kept_any (w3.heap.size + 1) _ _ L (-2) hv6 hl (by omega)).mono ?_
          rintro e w5 ⟨p2, p3, p4, rfl, q1, q2, q3, q4, G5⟩
          have u1 := u1.gb G5 ax1
          have u2 := u2.gb G5 ax2
          have u3 := u3.gb G5 ax3
          have u4 := u4.gb G5 ax4
          have hK7 := hK6.gb G5 (fun e => by have h1 := hv6.block _ e.symm; omega)
          have B7 : Below w.heap.size w w5 := B6.trans ((Below.refl _ _).grown G5 B6.size (fun k hk => by have h1 := hv6.block k hk; omega))
          obtain ⟨e2, f2, rfl⟩ := mk_some q2 (by omega)
          obtain ⟨e3, f3, rfl⟩ := mk_some q3 (by omega)
          obtain ⟨e4, f4, rfl⟩ := mk_some q4 (by omega)
          have r0 : w5.cell? ⟨w3.heap.size, 0, none⟩ = some (.slice o1 L.length cap1) := hK7.cell 0
          have r1 : w5.cell? ⟨w3.heap.size, 1, none⟩ = some (.slice (some ⟨j2, 0, none⟩) (L.length + 1) d2) := hK7.cell 1
          have r2 : w5.cell? ⟨w3.heap.size, 2, none⟩ = some (.slice (some ⟨j3, 0, none⟩) (L.length + 2) d3) := hK7.cell 2
          have r3 : w5.cell? ⟨w3.heap.size, 3, none⟩ = some (.slice (some ⟨j4, 0, none⟩) (L.length + 3) d4) := hK7.cell 3
          have r4 : w5.cell? ⟨w3.heap.size, 4, none⟩ = some (.int .i64 (-1)) := hK7.cell 4
          have hwz5 : w3.heap.size < w5.heap.size := hK7.lt
          clear hv6 hK6 B6 ax1 ax2 ax3 ax4 G5
          go_wp2_with fail
          refine (stays_any (w.heap.size + 1) _ _ _ _ _ L.length (L.length + 1) (L.length + 2) (L.length + 3) (-1) (u1.alloc _) (u2.alloc _) (u3.alloc _) (u4.alloc _) (by omega) (by omega) (by omega) (by omega)).mono ?_
          rintro e w6 ⟨rfl, hB8⟩
          have hJ := (Row.new w5 29 [.slice o3 L.length cap3, .slice (some ⟨e2, 0, none⟩) (L.length + 1) f2, .slice (some ⟨e3, 0, none⟩) (L.length + 2) f3, .slice (some ⟨e4, 0, none⟩) (L.length + 3) f4, .int .i64 (-2)]).below hB8 (by simp)
          have l1 := (q1.alloc _).below hB8
          have l2 := (q2.alloc _).below hB8
          have l3 := (q3.alloc _).below hB8
          have l4 := (q4.alloc _).below hB8
          have y0 : w6.cell? ⟨w5.heap.size, 0, none⟩ = some (.slice o3 L.length cap3) := hJ.cell 0
          have y1 : w6.cell? ⟨w5.heap.size, 1, none⟩ = some (.slice (some ⟨e2, 0, none⟩) (L.length + 1) f2) := hJ.cell 1
          have y2 : w6.cell? ⟨w5.heap.size, 2, none⟩ = some (.slice (some ⟨e3, 0, none⟩) (L.length + 2) f3) := hJ.cell 2
          have y3 : w6.cell? ⟨w5.heap.size, 3, none⟩ = some (.slice (some ⟨e4, 0, none⟩) (L.length + 3) f4) := hJ.cell 3
          have y4 : w6.cell? ⟨w5.heap.size, 4, none⟩ = some (.int .i64 (-2)) := hJ.cell 4
          have B9 : Below w.heap.size w w6 := (B7.alloc B7.size _).trans (hB8.mono (by simp; omega))
          clear r0 r1 r2 r3 r4 u1 u2 u3 u4 q1 q2 q3 q4 hB8 B7
          go_wp2_with fail
          refine (stays_any (w3.heap.size + 1) _ _ _ _ _ L.length (L.length + 1) (L.length + 2) (L.length + 3) (-2) l1 l2 l3 l4 (by omega) (by omega) (by omega) (by omega)).mono ?_
          rintro e w7 ⟨rfl, hB9⟩
          have B10 : Below w.heap.size w w7 := B9.trans (hB9.mono B9.size)
          clear y0 y1 y2 y3 y4 l1 l2 l3 l4 hB9 B9
          go_wp2_with fail
          refine (lcuts_any _ 20 20 1 100 _).mono ?_
          rintro e w8 ⟨x4, rfl, hz, hB11⟩
          rw [forty_cuts] at hz
          rw [forty_err]
          obtain ⟨o4, cap4, rfl, s4⟩ := hz.shape
          obtain ⟨g4, rfl⟩ := s4 (by simp)
          have n0 : w8.cell? ⟨g4, 0, none⟩ = some (.int .i64 20) := hz.cell 0 (by simp)
          have n1 : w8.cell? ⟨g4, 1, none⟩ = some (.int .i64 40) := hz.cell 1 (by simp)
          go_wp2
          go_ret
          exact ⟨rfl, B10.trans (hB11.mono B10.size)⟩

end Go.Proofs.Ytheichphnppagaa
