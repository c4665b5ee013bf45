/- Opens: ROpen2. -/
import Derived.Test.YtheichphnppagaaGreatROpen
namespace Go.Proofs.YtheichphnppagaaGreat
open Go.RowKit
attribute [local go_sem ↓] Go.wp_at_zero Go.wp_at_succ

/-- What the document's Open answers. -/
def ROpened (w w' : World) (s : List UInt8) (v : Value) : Prop :=
  (openL s = none ∧ v = .pointer none ∧ Grow w w') ∨ (∃ q st, openL s = some st ∧ v = .pointer (some ⟨q, 0, none⟩) ∧ Rf w.heap.size w' q st ∧ Sane st ∧ Grow w w')

set_option maxRecDepth 100000 in
set_option maxHeartbeats 6400000 in
theorem refOpen_any (s : ByteArray) (w : World) (hs : s.size ≤ 9223372036854775807) : Calls Tryz.prog 46 #[.string s] w fun e w' => ∃ v, e = .returned v ∧ ROpened w w' (bl s) v := by
  have hnot := not_law
  have hsl := bl_length s
  go_enter Tryz.func46, Tryz.ntmps46
  go_wp2_with fail
  refine (unframed_any s _).mono ?_
  rintro e w1 ⟨rfl, G1⟩
  cases hu : unfr (bl s) with
  | none =>
    have O : Hid (openL (bl s) = none) := openL_none hu
    unfold firstV
    rw [hu]
    clear hu
    go_wp2
    go_ret
    exact ⟨_, rfl, .inl ⟨O.out, rfl, G1⟩⟩
  | some x =>
    obtain ⟨x, k⟩ := x
    obtain ⟨u1, u2, u3⟩ := unfr_len hu
    rw [bl_length] at u1
    have U : Hid (unfr (bl s) = some (x, k)) := hu
    unfold firstV
    rw [hu]
    clear hu
    obtain ⟨X, hX⟩ : ∃ X : ByteArray, (⟨x.toArray⟩ : ByteArray) = X := ⟨_, rfl⟩
    have BX : Hid (bl X = x) := by show _ = _; rw [← hX]; rfl
    have zX : X.size = x.length := by rw [← hX]; rfl
    have ZX : Hid (X.size = x.length) := zX
    have zX2 : X.size ≤ 65535 := by omega
    clear zX
    simp only [hX]
    clear hX
    have hk0 : ((k : Int) == 0) = false := beq_eq_false_iff_ne.2 (by omega)
    by_cases h6 : (X.size : Int) < 6
    · have O : Hid (openL (bl s) = none) := openL_no6 U.out (fun e => by have := congrArg List.length e; simp [larderL] at this; have := ZX.out; omega)
      go_wp2
      go_ret
      exact ⟨_, rfl, .inl ⟨O.out, rfl, G1⟩⟩
    · have EX : Hid (bl (X.extract 0 6) = x.take 6) := by show _ = _; rw [bl_to, BX.out]
      by_cases hL : x.take 6 = larderL
      case neg =>
        have q6 : ((X.extract 0 6).toList == [76, 65, 82, 68, 69, 82]) = false := by rw [toList_bl, EX.out]; simpa [larderL] using hL
        have O : Hid (openL (bl s) = none) := openL_no6 U.out hL
        clear hL
        go_wp2
        go_ret
        exact ⟨_, rfl, .inl ⟨O.out, rfl, G1⟩⟩
      case pos =>
        have q6 : ((X.extract 0 6).toList == [76, 65, 82, 68, 69, 82]) = true := by rw [toList_bl, EX.out, hL]; rfl
        have HL : Hid (x.take 6 = larderL) := hL
        clear hL
        have EY : Hid (bl (X.extract 6 X.size) = x.drop 6) := by show _ = _; rw [bl_from, BX.out]
        go_wp2_with fail
        refine (refInts_any (X.extract 6 X.size) _ (by simp; omega)).mono ?_
        rintro e w2 ⟨v, rfl, hv, g12⟩
        rw [EY.out] at hv
        have G2 := Grow.trans G1 g12
        clear q6
        cases hv5 : vints 5 (x.drop 6) with
        | none =>
          have O : Hid (openL (bl s) = none) := openL_no5 U.out HL.out hv5
          rw [hv5] at hv
          unfold VRead at hv
          subst hv
          clear hv5
          go_wp2
          go_ret
          exact ⟨_, rfl, .inl ⟨O.out, rfl, G2⟩⟩
        | some l =>
          rw [hv5] at hv
          obtain ⟨u, rfl, hu⟩ := hv
          have HV : Hid (vints 5 (x.drop 6) = some l) := hv5
          clear hv5
          obtain ⟨o, cap, rfl, hos⟩ := IBuf.slice hu
          by_cases h4 : l.length = 4
          case neg =>
            have q4 : ((l.length : Int) != 4) = true := by simp; omega
            have O : Hid (openL (bl s) = none) := openL_no4 U.out HL.out HV.out h4
            clear h4
            go_wp2
            go_ret
            exact ⟨_, rfl, .inl ⟨O.out, rfl, G2⟩⟩
          case pos =>
            obtain ⟨g, rfl⟩ := hos (by omega)
            have k0 := IBuf.cellN hu 0 (by omega)
            have k1 := IBuf.cellN hu 1 (by omega)
            have k2 := IBuf.cellN hu 2 (by omega)
            have k3 := IBuf.cellN hu 3 (by omega)
            have HA : Hid (l.length = 4) := h4
            have ON := openL_nook U.out HL.out HV.out h4
            have OY := openL_yes U.out HL.out HV.out h4
            rw [h4]
            clear h4 hos
            generalize l.getD 0 0 = a at *
            generalize l.getD 1 0 = b at *
            generalize l.getD 2 0 = c at *
            generalize l.getD 3 0 = d at *
            cases hok : okB (a : Nat) (b : Nat) (c : Nat) (d : Nat) with
            | false =>
              have O : Hid (openL (bl s) = none) := ON hok
              clear ON OY
              have cN := fun W => refNew_bad (a : Nat) (b : Nat) (c : Nat) (d : Nat) W hok
              clear hok
              go_wp2_with fail
              go_region_held3 (fun w' => w'.cell? ⟨g, 0, none⟩ = some (.int .i64 a) ∧ w'.cell? ⟨g, 1, none⟩ = some (.int .i64 b) ∧ w'.cell? ⟨g, 2, none⟩ = some (.int .i64 c) ∧ w'.cell? ⟨g, 3, none⟩ = some (.int .i64 d)) (first | exact ⟨cell_kept k0 g2, cell_kept k1 g2, cell_kept k2 g2, cell_kept k3 g2⟩ | exact ⟨k0, k1, k2, k3⟩ | go_keep)
                ((go_at_call 22; refine (cN _).mono ?_; rintro e w3 ⟨rfl, g23⟩; have g2 : Grow w2 w3 := Grow.trans (Grow.refl w2).drew g23))
              all_goals
                clear cN
                go_wp2
                go_ret
                exact ⟨_, rfl, .inl ⟨O.out, rfl, Grow.trans G2 (Grow.trans (Grow.refl w2).drew g23)⟩⟩
            | true =>
              have O : Hid (openL (bl s) = some (openG ((bl s).length - k + 1) (St.new a b c d) ((bl s).drop k))) := OY hok
              clear ON OY
              have cN := fun W => refNew_ok a b c d W hok
              have HS := Sane.new hok
              have HOK : Ok a b c d := of_decide_eq_true hok
              clear hok
              go_wp2_with fail
              go_region_held3 (fun w' => w'.cell? ⟨g, 0, none⟩ = some (.int .i64 a) ∧ w'.cell? ⟨g, 1, none⟩ = some (.int .i64 b) ∧ w'.cell? ⟨g, 2, none⟩ = some (.int .i64 c) ∧ w'.cell? ⟨g, 3, none⟩ = some (.int .i64 d)) (first | exact ⟨cell_kept k0 g2, cell_kept k1 g2, cell_kept k2 g2, cell_kept k3 g2⟩ | exact ⟨k0, k1, k2, k3⟩ | go_keep)
                ((go_at_call 22; refine (cN _).mono ?_; rintro e w3 ⟨q, rfl, hR3, g23⟩; have g2 : Grow w2 w3 := Grow.trans (Grow.refl w2).drew g23))
              all_goals
                clear cN k0 k1 k2 k3
                have G3 : Grow w w3 := Grow.trans G2 g2
                have hR : Rf w.heap.size w3 q (St.new a b c d) := hR3.low G2.size
                clear hR3 hu
                have hks : k ≤ s.size := u1
                have Q0 : Hid ((St.new a b c d).mn = a ∧ (St.new a b c d).mx = b ∧ (St.new a b c d).bt = c ∧ (St.new a b c d).rm = d) := ⟨rfl, rfl, rfl, rfl⟩
                have hB3 : Below w.heap.size w w3 := G3
                go_wp2
                go_loopw [8, 9, 10, 11] (fun v8 _ _ _ wr => ∃ (at_ : Nat) (t : St) (f : Nat), v8 = .int .i64 at_ ∧ at_ ≤ s.size ∧ s.size - at_ ≤ f ∧ Rf w.heap.size wr q t ∧ Hid (Sane t ∧ Ok t.mn t.mx t.bt t.rm) ∧ Below w.heap.size w wr ∧ Hid (openG (f + 1) t ((bl s).drop at_) = openG ((bl s).length - k + 1) (St.new a b c d) ((bl s).drop k))) (fun v8 _ _ _ _ => s.size - (intOf v8).toNat)
                case atStart => exact ⟨k, St.new a b c d, s.size - k, rfl, hks, by omega, hR, ⟨HS, HOK⟩, hB3, (by rw [hsl]; exact rfl)⟩
                case round =>
                  obtain ⟨p, t, f, rfl, hp, hf, hRt, hSO, hBw, R⟩ := hrel
                  have hz := hBw.size
                  by_cases hlt : (p : Int) < (s.size : Int)
                  · have hple : (p : Int) ≤ (s.size : Int) := by omega
                    go_wp2_with fail
                    refine (unframed_any (s.extract p s.size) _).mono ?_
                    rintro e w4 ⟨rfl, g4⟩
                    have BS : Hid (bl (s.extract p s.size) = (bl s).drop p) := bl_from s p
                    rw [BS.out]
                    have hR4 := hRt.grow g4
                    have hz4 := g4.size
                    have hBw4 : Below w.heap.size w w4 := hBw.trans (g4.low hz)
                    obtain ⟨cv, sv, G, h4⟩ := hR4
                    have DONE : Hid (∀ (W : World), Grow w4 W → t = openG ((bl s).length - k + 1) (St.new a b c d) ((bl s).drop k) → ROpened w W (bl s) (.pointer (some ⟨q, 0, none⟩))) := fun W gW e => .inr ⟨q, t, by rw [O.out, ← e], rfl, ⟨cv, sv, G, h4.grow gW⟩, hSO.out.1, hBw4.trans (gW.low (by omega))⟩
                    cases hu : unfr ((bl s).drop p) with
                    | none =>
                      have E : Hid (t = openG ((bl s).length - k + 1) (St.new a b c d) ((bl s).drop k)) := (openG_none hu).symm.trans R.out
                      unfold firstV
                      rw [hu]
                      clear hu
                      go_wp2_with fail
                      go_quiet (fail)
                      go_wp2
                      go_ret
                      exact ⟨_, rfl, DONE.out _ (below_drewN (Below.refl _ _) _) E.out⟩
                    | some y =>
                      obtain ⟨y, j⟩ := y
                      obtain ⟨v1, v2, v3⟩ := unfr_len hu
                      rw [List.length_drop, bl_length] at v1
                      have U2 : Hid (unfr ((bl s).drop p) = some (y, j)) := hu
                      unfold firstV
                      rw [hu]
                      clear hu
                      obtain ⟨T, eT, bT, zT⟩ := str_name t.text
                      have k4 : w4.cell? ⟨q, 4, none⟩ = some (.string T) := by rw [← eT]; exact h4.row.cell 4
                      have k3 : w4.cell? ⟨q, 3, none⟩ = some (.int .i64 t.rm) := h4.row.cell 3
                      have ZT : Hid (T.size = t.text.length) := zT
                      have hrm := hSO.out.1.room
                      have htx := hSO.out.1.text
                      have hT2 : T.size ≤ 60000 := by omega
                      have ET : Hid (strV t.text = .string T) := eT
                      clear eT zT
                      have hj0 : ((j : Int) == 0) = false := beq_eq_false_iff_ne.2 (by omega)
                      have hj1 : (10 : Int) ≤ (j : Int) := by omega
                      have hj2 : (j : Int) ≤ 65545 := by omega
                      have hwr : IntKind.i64.wrap ((T.size : Int) + (j : Int)) = (T.size : Int) + (j : Int) := by simp only [IntKind.wrap_i64]; omega
                      by_cases hr : (t.rm : Int) < (T.size : Int) + (j : Int)
                      · have E : Hid (t = openG ((bl s).length - k + 1) (St.new a b c d) ((bl s).drop k)) := (openG_full U2.out (by have := ZT.out; omega)).symm.trans R.out
                        have hd := decide_eq_true hr
                        go_wp2_with fail
                        go_quiet (fail)
                        go_wp2
                        go_ret
                        exact ⟨_, rfl, DONE.out _ (below_drewN (Below.refl _ _) _) E.out⟩
                      · have hd := decide_eq_false hr
                        go_wp2_with fail
                        go_quiet (fail)
                        have g45 : Grow w4 (w4.drewN nq) := below_drewN (Below.refl _ _) _
                        generalize w4.drewN nq = w5 at *
                        clear k4 k3 hd hwr
                        have hz5 := g45.size
                        go_wp2_with fail
                        refine (refTake_any ⟨y.toArray⟩ w.heap.size q t w5 ⟨cv, sv, G, h4.grow g45⟩ (by omega) hSO.out.1 hSO.out.2 (by rw [size_mk]; omega)).mono ?_
                        rintro e w6 ⟨b', rfl, hB6, hT⟩
                        rw [bl_mk] at hT
                        have hz6 := hB6.size
                        have hBw6 : Below w.heap.size w w6 := (hBw4.trans (g45.low (by omega))).trans hB6
                        rcases hT with ⟨rfl, t', hT, hR6⟩ | ⟨rfl, hT, hR6⟩
                        · obtain ⟨cv', sv', G', h6⟩ := hR6
                          obtain ⟨N, hN⟩ : ∃ N, s.extract p (p + j) = N := ⟨_, rfl⟩
                          have BN : Hid (bl N = ((bl s).drop p).take j) := by show _ = _; rw [← hN, bl_extract]; congr 1; omega
                          have zN : N.size = j := by rw [← hN]; simp; omega
                          have ZTo := ZT.out
                          have L1 : (bl (T ++ N)).length = t.text.length + j := by rw [bl_length, ByteArray.size_append', zN, ZTo]
                          obtain ⟨hsa, htt, r1, r2, r3, r4⟩ := hSO.out.1.take (t := bl (T ++ N)) hT (by omega) (by omega) (by omega)
                          have SO : Hid (Sane { t' with text := bl (T ++ N) } ∧ Ok t'.mn t'.mx t'.bt t'.rm) := ⟨hsa, by rw [r1, r2, r3, r4]; exact hSO.out.2⟩
                          have R' : Hid (openG f { t' with text := bl (T ++ N) } ((bl s).drop (p + j)) = openG ((bl s).length - k + 1) (St.new a b c d) ((bl s).drop k)) := by
                            show _ = _
                            rw [bl_append, bT.out, BN.out, ← List.drop_drop, ← openG_next U2.out (by omega) hT]
                            exact R.out
                          have k64 : w6.cell? ⟨q, 4, none⟩ = some (.string T) := by rw [← ET.out, ← htt]; exact h6.row.cell 4
                          have kf := h6.row.free 4
                          obtain ⟨e1, e2⟩ := text_endR (T ++ N) (h6.grow (Grow.refl w6).drew)
                          have hBw7 := hBw6.trans ((Grow.low (Grow.refl w6).drew (by omega)).trans e2)
                          obtain ⟨f', rfl⟩ : ∃ f', f = f' + 1 := ⟨f - 1, by omega⟩
                          have hN2 : ((p : Int) + (j : Int)).toNat = p + j := by omega
                          have hwr2 : IntKind.i64.wrap ((p : Int) + (j : Int)) = (p : Int) + (j : Int) := by simp only [IntKind.wrap_i64]; omega
                          have hle2 : (p : Int) + (j : Int) ≤ (s.size : Int) := by omega
                          have hle3 : (p : Int) ≤ (p : Int) + (j : Int) := by omega
                          have na : (9223372036854775807 < T.size + j) = False := eq_false (by omega)
                          clear hT hsa htt r1 r2 r3 r4 L1 ZTo
                          go_wp2_with fail
                          go_region
                          all_goals
                            clear na hwr2 zN hN
                            go_wp2
                            exact ⟨⟨p + j, _, f', by go_num, by omega, by omega, e1, SO, hBw7, R'⟩, by simp [intOf]; omega⟩
                        · have E : Hid (t = openG ((bl s).length - k + 1) (St.new a b c d) ((bl s).drop k)) := (openG_wrong U2.out hT).symm.trans R.out
                          clear hT
                          go_wp2
                          go_ret
                          exact ⟨_, rfl, .inr ⟨q, t, (by rw [O.out, ← E.out]), rfl, hR6, hSO.out.1, hBw6⟩⟩
                  · have E : Hid (t = openG ((bl s).length - k + 1) (St.new a b c d) ((bl s).drop k)) := (openG_none (by rw [List.drop_of_length_le (by rw [bl_length]; omega)]; rfl)).symm.trans R.out
                    go_wp2
                    go_ret
                    exact ⟨_, rfl, .inr ⟨q, t, (by rw [O.out, ← E.out]), rfl, hRt, hSO.out.1, hBw⟩⟩

end Go.Proofs.YtheichphnppagaaGreat
