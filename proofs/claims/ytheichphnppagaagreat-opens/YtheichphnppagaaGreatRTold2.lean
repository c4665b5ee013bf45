/- Opens: RTold2. -/
import Derived.Test.YtheichphnppagaaGreatRTold
namespace Go.Proofs.YtheichphnppagaaGreat
open Go.RowKit
attribute [local go_sem ↓] Go.wp_at_zero Go.wp_at_succ

def Told (B : Nat) (w w' : World) (q : Nat) (st : St) (y : List UInt8) (b : Bool) : Prop :=
  Below B w w' ∧ ((b = true ∧ ∃ x, readS st y = some x ∧ Rf B w' q { st with streams := st.streams ++ [x] }) ∨ (b = false ∧ readS st y = none ∧ Rf B w' q st))
theorem Told.no {B : Nat} {w w' : World} {q : Nat} {st : St} {y : List UInt8} {cv sv : Value} {G : List UInt8 → Value} (h : RfAt B w q st cv sv G) (hB : B ≤ w.heap.size) (k : Grow w w') (hr : readS st y = none) : Told B w w' q st y false :=
  ⟨k.low hB, .inr ⟨rfl, hr, cv, sv, G, h.grow k⟩⟩

theorem IBuf.slice {B : Nat} {w : World} {u : Value} {l : List Nat} (h : IBuf B w u (ints l)) : ∃ o cap, u = .slice o l.length cap ∧ (0 < l.length → ∃ g, o = some ⟨g, 0, none⟩) := by
  rcases h.form with ⟨rfl, h0⟩ | ⟨g, cap, rfl, _, _⟩
  · have : l = [] := by simpa [ints] using h0
    subst this
    exact ⟨none, 0, rfl, fun h => by simp at h⟩
  · exact ⟨_, cap, by rw [ints_length], fun _ => ⟨g, rfl⟩⟩

theorem two_cell {w : World} {s : ByteArray} {u : Value} {j : Nat} {x : Value} (h : ([.string s, u] : List Value)[j]? = some x) : (w.alloc (.cells #[.string s, u] 58)).drew.cell? ((⟨w.heap.size, 0, none⟩ : Addr).add j) = some x := by
  match j, h with
  | 0, h => simp at h; subst h; simp [Addr.add]
  | 1, h => simp at h; subst h; simp [Addr.add]
theorem two_one (s : ByteArray) (o : Option Addr) (n c : Nat) : ∀ x ∈ ([.string s, .slice o n c] : List Value), x.oneCell' = true := by
  intro x hx
  simp at hx
  rcases hx with rfl | rfl <;> rfl

set_option maxRecDepth 100000 in
set_option maxHeartbeats 6400000 in
theorem refTold_any (y : ByteArray) (B q : Nat) (st : St) (w : World) (h : Rf B w q st) (hB : B ≤ w.heap.size) (hs : Sane st) (hok : Ok st.mn st.mx st.bt st.rm) (hy : y.size ≤ 70000) (hy2 : 2 ≤ y.size) (hy0 : ((bl y).getD 0 0).toNat = 2) :
    Calls Tryz.prog 107 #[.pointer (some ⟨q, 0, none⟩), .string y] w fun e w' => ∃ b : Bool, e = .returned (.bool b) ∧ Told B w w' q st (bl y) b := by
  have hnot := not_law
  obtain ⟨cv, sv, G, h⟩ := h
  unfold Ok at hok
  have hcnt := hs.count
  have htx := hs.text
  have hrm := hs.room
  obtain ⟨d, hd⟩ : ∃ d, (bl y).getD 1 0 = d := ⟨_, rfl⟩
  have D : Hid ((bl y).getD 1 0 = d) := hd
  have Y0 : Hid (((bl y).getD 0 0).toNat = 2) := hy0
  have i1 := index_here y 1 1 d rfl (by omega) hd
  have hdl := d.toNat_lt
  have hdl' : (d.toNat : Int) < 256 := by omega
  clear hd hy0
  by_cases hsz : (y.size : Int) < 2 + (d.toNat : Int)
  · have R : Hid (readS st (bl y) = none) := readS_told_none D.out (.inl (by rw [bl_length]; omega))
    go_enter Tryz.func107, Tryz.ntmps107
    go_wp2
    go_ret
    exact ⟨false, rfl, Told.no h hB (Grow.refl _) R.out⟩
  · have e2 : ((2 : Int) + (d.toNat : Int)).toNat = 2 + d.toNat := by omega
    have hle : (2 : Int) + (d.toNat : Int) ≤ (y.size : Int) := by omega
    obtain ⟨nm, hnm⟩ : ∃ nm, y.extract 2 (2 + d.toNat) = nm := ⟨_, rfl⟩
    have NM : Hid (bl nm = ((bl y).drop 2).take d.toNat) := by show _ = _; rw [← hnm, bl_extract]; congr 1; omega
    have hnms : nm.size ≤ 256 := by rw [← hnm]; simp; omega
    obtain ⟨rs, hrs⟩ : ∃ rs, y.extract (2 + d.toNat) y.size = rs := ⟨_, rfl⟩
    have RS : Hid (bl rs = (bl y).drop (2 + d.toNat)) := by show _ = _; rw [← hrs, bl_from]
    have hrss : rs.size ≤ 70000 := by rw [← hrs]; simp; omega
    have YL : Hid (2 + d.toNat ≤ (bl y).length) := (by rw [bl_length]; omega : 2 + d.toNat ≤ (bl y).length)
    obtain ⟨wA, hwA⟩ : ∃ wA, w.alloc (.cells #[.string nm, .slice none 0 0] 58) = wA := ⟨_, rfl⟩
    have hX : Row wA w.heap.size 58 [.string nm, .slice none 0 0] := by rw [← hwA]; exact Row.new w 58 _
    have GA : Grow w wA := by rw [← hwA]; exact (Grow.refl w).alloc _
    have hzA := GA.size
    have HWA : Hid (w.alloc (.cells #[.string nm, .slice none 0 0] 58) = wA) := hwA
    have HRS : Hid (y.extract (2 + d.toNat) y.size = rs) := hrs
    clear hwA hrs
    go_enter Tryz.func107, Tryz.ntmps107
    go_wp2_with fail
    rw [HRS.out, HWA.out]
    clear hnm
    refine (refInts_any rs wA hrss).mono ?_
    rintro e w1 ⟨v, rfl, hv, hG1⟩
    have hX1 := hX.grow hG1
    have kx0 : w1.cell? ⟨w.heap.size, 0, none⟩ = some (.string nm) := hX1.cell 0
    have G1 := Grow.trans GA hG1
    have h1 := h.grow G1
    have hz1 := G1.size
    rw [RS.out] at hv
    cases hv5 : vints 5 ((bl y).drop (2 + d.toNat)) with
    | none =>
      have R : Hid (readS st (bl y) = none) := readS_told_none D.out (.inr hv5)
      rw [hv5] at hv
      unfold VRead at hv
      subst hv
      clear hv5
      go_wp2_with fail
      refine (refName_any nm _ (by omega)).mono ?_
      rintro e w9 ⟨rfl, ew⟩
      rw [ew]
      clear ew w9
      go_wp2
      go_ret
      exact ⟨false, rfl, Told.no h hB G1 R.out⟩
    | some l =>
      have RT : Hid (readS st (bl y) = if (∀ n ∈ l, n < st.chunks.length) ∧ refE st ((((bl y).drop 2).take d.toNat)) (joinL st.chunks l) = 0 ∧ cutInto st.chunks (partsL (joinL st.chunks l) st.mn st.mx st.bt) l = true then some (((bl y).drop 2).take d.toNat, l) else none) := readS_told Y0.out D.out YL.out hv5 (by omega)
      rw [← NM.out] at RT
      rw [hv5] at hv
      obtain ⟨u, rfl, hu⟩ := hv
      clear hv5
      obtain ⟨o, cap, rfl, hos⟩ := IBuf.slice hu
      have RN : Hid (¬ ((∀ n ∈ l, n < st.chunks.length) ∧ refE st (bl nm) (joinL st.chunks l) = 0 ∧ cutInto st.chunks (partsL (joinL st.chunks l) st.mn st.mx st.bt) l = true) → readS st (bl y) = none) := fun hh => by rw [RT.out, if_neg hh]
      cases hb1 : nameL (bl nm) with
      | false =>
        have R : Hid (readS st (bl y) = none) := RN.out (fun hh => by have := (refE_zero hh.2.1).1; rw [hb1] at this; cases this)
        go_wp2_with fail
        refine (refName_any nm _ (by omega)).mono ?_
        rintro e w9 ⟨rfl, ew⟩
        rw [ew, hb1]
        clear ew w9 hb1
        go_wp2
        go_ret
        exact ⟨false, rfl, Told.no h hB G1 R.out⟩
      | true =>
        go_wp2_with fail
        refine (refName_any nm _ (by omega)).mono ?_
        rintro e w9 ⟨rfl, ew⟩
        rw [ew, hb1]
        clear ew w9
        have HB1 : Hid (nameL (bl nm) = true) := hb1
        clear hb1
        go_wp2_with fail
        refine (refStream_any nm B q st _ ⟨cv, sv, G, h1⟩ (by omega)).mono ?_
        rintro e w9 ⟨n, rfl, ew, hF⟩
        rw [ew]
        clear ew w9
        rcases hF with ⟨hn, hno⟩ | ⟨k, x, hn, hx, hxn⟩
        case inr =>
          have R : Hid (readS st (bl y) = none) := RN.out (fun hh => (refE_zero hh.2.1).2.1 x (List.mem_of_getElem? hx) hxn)
          clear hx hxn
          subst hn
          go_wp2
          go_ret
          exact ⟨false, rfl, Told.no h hB G1 R.out⟩
        case inl =>
          subst hn
          have NO : Hid (∀ x ∈ st.streams, x.1 ≠ bl nm) := hno
          clear hno
          have hjg := join_ge st.chunks (fun c hc => (hs.chunk c hc).1) l
          by_cases hl2 : (2000 : Int) < (l.length : Int)
          · have R : Hid (readS st (bl y) = none) := RN.out (fun hh => by have := hjg hh.1; have := (refE_zero hh.2.1).2.2; omega)
            clear hjg
            go_wp2
            go_ret
            exact ⟨false, rfl, Told.no h hB G1 R.out⟩
          · clear hjg
            have k5 : w1.cell? ⟨q, 5, none⟩ = some cv := h1.row.cell 5
            have hln := len_sbuf h1.chunks
            go_wp2
            go_loopw [10] (fun v10 wr => ∃ k m : Nat, v10 = .int .i64 k ∧ k ≤ l.length ∧ Hid (∀ i, i < k → l.getD i 0 < st.chunks.length) ∧ wr = w1.drewN m) (fun v10 _ => l.length - (intOf v10).toNat)
            case atStart => exact ⟨0, 0, rfl, by omega, (fun i hi => by omega), rfl⟩
            case round =>
              obtain ⟨k, m, rfl, hk, H, rfl⟩ := hrel
              by_cases hlt : (k : Int) < (l.length : Int)
              · have hkl : k < l.length := by omega
                obtain ⟨g, rfl⟩ := hos (by omega)
                obtain ⟨n, hn⟩ : ∃ n, l.getD k 0 = n := ⟨_, rfl⟩
                have kc := IBuf.cellN hu k hkl
                rw [hn] at kc
                have NM2 : Hid (n ∈ l) := by show _ ∈ _; rw [← hn, List.getD_eq_getElem?_getD, List.getElem?_eq_getElem hkl]; exact List.getElem_mem _
                by_cases hin : (st.chunks.length : Int) ≤ (n : Int)
                · have R : Hid (readS st (bl y) = none) := RN.out (fun hh => by have := hh.1 n NM2.out; omega)
                  clear hn hkl
                  go_wp2_with fail
                  go_quiet (fail)
                  go_wp2
                  go_ret
                  exact ⟨false, rfl, Told.no h hB (below_drewN (below_drewN G1 _) _) R.out⟩
                · have HH : Hid (∀ i, i < k + 1 → l.getD i 0 < st.chunks.length) := by
                    intro i hi
                    by_cases c1 : i < k
                    · exact H.out i c1
                    · rw [show i = k by omega, hn]; omega
                  clear hn hkl
                  go_wp2_with fail
                  go_quiet (fail)
                  go_wp2
                  exact ⟨⟨k + 1, _, by go_num, by omega, HH, rfl⟩, by simp [intOf]; omega⟩
              · have AL : Hid (∀ n ∈ l, n < st.chunks.length) := fun n hn => by
                  obtain ⟨i, hi, e⟩ := List.getElem_of_mem hn
                  have := H.out i (by omega)
                  rw [List.getD_eq_getElem?_getD, List.getElem?_eq_getElem hi] at this
                  simpa [e] using this
                obtain ⟨w2, hw2⟩ : ∃ w2, w1.drewN m = w2 := ⟨_, rfl⟩
                have g12 : Grow w1 w2 := by rw [← hw2]; exact below_drewN (Below.refl _ _) _
                have G2 := Grow.trans G1 g12
                have h2 := h.grow G2
                have hu2 := IBuf.below hu g12
                have hX2 := hX1.grow g12
                rw [hw2]
                clear hw2 kx0 k5 hln
                go_wp2_with fail
                refine (refJoin_any B q st _ l w2 ⟨cv, sv, G, h2⟩ AL.out (by omega) hs.chunk _ hu2).mono ?_
                rintro e w3 ⟨rfl, g23⟩
                obtain ⟨D, eD, bD, zD⟩ := str_name (joinL st.chunks l)
                rw [eD]
                have ZD : Hid (D.size = (joinL st.chunks l).length) := zD
                clear eD zD
                by_cases hd2 : (2000 : Int) < (D.size : Int)
                · have R : Hid (readS st (bl y) = none) := RN.out (fun hh => by have := (refE_zero hh.2.1).2.2; have := ZD.out; omega)
                  go_wp2
                  go_ret
                  exact ⟨false, rfl, Told.no h hB (Grow.trans G2 g23) R.out⟩
                · have G3 := Grow.trans G2 g23
                  have h3 := h.grow G3
                  have hz3 := G3.size
                  have k0 : w3.cell? ⟨q, 0, none⟩ = some (.int .i64 st.mn) := h3.row.cell 0
                  have k1 : w3.cell? ⟨q, 1, none⟩ = some (.int .i64 st.mx) := h3.row.cell 1
                  have k2 : w3.cell? ⟨q, 2, none⟩ = some (.int .i64 st.bt) := h3.row.cell 2
                  have k3 : w3.cell? ⟨q, 3, none⟩ = some (.int .i64 st.rm) := h3.row.cell 3
                  have hl3 := h3.row.lt
                  go_wp2_with fail
                  refine (refParts_any D st.mn st.mx st.bt st.rm w3 (by omega) (by omega) (by omega) (by omega) (by omega)).mono ?_
                  rintro e w4 ⟨pv, rfl, hpv, g34⟩
                  rw [bD.out] at hpv
                  have hz4 := g34.size
                  have hlp := len_sbuf hpv
                  obtain ⟨P, hP⟩ : ∃ P, partsL (joinL st.chunks l) st.mn st.mx st.bt = P := ⟨_, rfl⟩
                  have PP : Hid (partsL (joinL st.chunks l) st.mn st.mx st.bt = P) := hP
                  rw [hP] at hpv hlp
                  have G4 := Grow.trans G3 g34
                  have g14 : Grow w1 w4 := Grow.trans g12 (Grow.trans g23 g34)
                  have h4 := h.grow G4
                  have hu4 := IBuf.below hu g14
                  have hX4 := hX1.grow g14
                  have hz4' := G4.size
                  clear hP k0 k1 k2 k3
                  by_cases hpl : P.length = l.length
                  case neg =>
                    have q1 : ((P.length : Int) != (l.length : Int)) = true := by simp; omega
                    have R : Hid (readS st (bl y) = none) := RN.out (fun hh => by have := (cutInto_len hh.2.2).1; rw [PP.out] at this; exact hpl this)
                    clear hpl
                    go_wp2
                    go_ret
                    exact ⟨false, rfl, Told.no h hB G4 R.out⟩
                  case pos =>
                    have q1 : ((P.length : Int) != (l.length : Int)) = false := by simp; omega
                    have HPL : Hid (P.length = l.length) := hpl
                    have hpl2 : (P.length : Int) ≤ 2000 := by omega
                    clear hpl
                    go_wp2
                    clear hlp
                    have k5 : w4.cell? ⟨q, 5, none⟩ = some cv := h4.row.cell 5
                    go_loopw [13] (fun v13 wr => ∃ k m : Nat, v13 = .int .i64 k ∧ k ≤ l.length ∧ Hid (∀ i, i < k → P.getD i [] = st.chunks.getD (l.getD i 0) []) ∧ wr = w4.drewN m) (fun v13 _ => l.length - (intOf v13).toNat)
                    case atStart => exact ⟨0, 0, rfl, by omega, (fun i hi => by omega), rfl⟩
                    case round =>
                      obtain ⟨k, m, rfl, hk, H, rfl⟩ := hrel
                      by_cases hlt : (k : Int) < (l.length : Int)
                      · have hkl : k < l.length := by omega
                        have hkp : k < P.length := by have := HPL.out; omega
                        obtain ⟨g, rfl⟩ := hos (by omega)
                        obtain ⟨n, hn⟩ : ∃ n, l.getD k 0 = n := ⟨_, rfl⟩
                        have kc := IBuf.cellN hu4 k hkl
                        rw [hn] at kc
                        have hnl := AL.out n (by rw [← hn, List.getD_eq_getElem?_getD, List.getElem?_eq_getElem hkl]; exact List.getElem_mem _)
                        rcases hpv.form with ⟨_, h0⟩ | ⟨gp, cp, rfl, _, _⟩
                        · rw [h0] at hkp; simp at hkp
                        rcases h4.chunks.form with ⟨_, h0⟩ | ⟨gc, cc, rfl, _, _⟩
                        · rw [h0] at hnl; simp at hnl
                        have kp := hpv.cell k hkp
                        have kd := h4.chunks.cell n hnl
                        unfold strV at kp kd
                        obtain ⟨a, ha⟩ : ∃ a, P.getD k [] = a := ⟨_, rfl⟩
                        obtain ⟨b, hb⟩ : ∃ b, st.chunks.getD n [] = b := ⟨_, rfl⟩
                        rw [ha] at kp
                        rw [hb] at kd
                        have hkp2 : (k : Int) < (P.length : Int) := by omega
                        have hnl2 : (n : Int) < (st.chunks.length : Int) := by omega
                        by_cases he : a = b
                        · have q2 : (a == b) = true := by rw [he]; simp
                          have HH : Hid (∀ i, i < k + 1 → P.getD i [] = st.chunks.getD (l.getD i 0) []) := by
                            intro i hi
                            by_cases c1 : i < k
                            · exact H.out i c1
                            · rw [show i = k by omega, hn, ha, hb, he]
                          clear hn ha hb he hkl hkp
                          go_wp2_with fail
                          go_quiet (fail)
                          go_wp2
                          exact ⟨⟨k + 1, _, by go_num, by omega, HH, rfl⟩, by simp [intOf]; omega⟩
                        · have q2 : (a == b) = false := by simpa using he
                          have R : Hid (readS st (bl y) = none) := RN.out (fun hh => by have := (cutInto_len hh.2.2).2 k hkl; rw [PP.out, ha, hn, hb] at this; exact he this)
                          clear hn ha hb he hkl hkp
                          go_wp2_with fail
                          go_quiet (fail)
                          go_wp2
                          go_ret
                          exact ⟨false, rfl, Told.no h hB (below_drewN (below_drewN G4 _) _) R.out⟩
                      · have R : Hid (readS st (bl y) = some (bl nm, l)) := by
                          have c1 : refE st (bl nm) (joinL st.chunks l) = 0 := by
                            unfold refE
                            rw [if_neg (by rw [HB1.out]; simp), if_neg (fun hh => by obtain ⟨x, hx, e⟩ := List.any_eq_true.1 hh; exact NO.out x hx (by simpa using e)), if_neg (by have := ZD.out; omega)]
                          have c2 : cutInto st.chunks (partsL (joinL st.chunks l) st.mn st.mx st.bt) l = true := by rw [PP.out]; exact cutInto_of HPL.out (fun i hi => H.out i (by omega))
                          show _ = _
                          rw [RT.out, if_pos ⟨AL.out, c1, c2⟩]
                        obtain ⟨w5, hw5⟩ : ∃ w5, w4.drewN m = w5 := ⟨_, rfl⟩
                        have g45 : Grow w4 w5 := by rw [← hw5]; exact below_drewN (Below.refl _ _) _
                        have G5 := Grow.trans G4 g45
                        have h5 := h.grow G5
                        have hu5 := IBuf.below hu4 g45
                        have hX5 := hX4.grow g45
                        have kx1 : w5.cell? ⟨w.heap.size, 1, none⟩ = some (.slice none 0 0) := hX5.cell 1
                        have kxf := hX5.free 1
                        rw [hw5]
                        clear hw5 k5
                        go_wp2_with fail
                        obtain ⟨w6, hw6⟩ : ∃ w6, w5.setCell ⟨w.heap.size, 1, none⟩ (.slice o l.length cap) = w6 := ⟨_, rfl⟩
                        have X6 : Row w6 w.heap.size 58 [.string nm, .slice o l.length cap] := by rw [← hw6]; exact hX5.setCell 1 _
                        have hql := h.row.lt
                        have c56 : Chg w5.heap.size (fun i => i = w.heap.size) w5 w6 := by rw [← hw6]; exact Chg.setCell _ _ _ rfl
                        have R6 : Row w6 q 55 [.int .i64 st.mn, .int .i64 st.mx, .int .i64 st.bt, .int .i64 st.rm, strV st.text, cv, sv, .int .i64 (-1), .bool false] := row_kept h5.row c56 (Nat.le_refl _) (by omega)
                        have S6 : w6.ownsRow B 58 2 sv st.streams.length (strCells G st.streams) := own_kept2 h5.strs c56 (Nat.le_refl _) (fun g hg => by have := (World.ownsRow.lt h.strs g hg).2; omega)
                        have U6 : IBuf wA.heap.size w6 (.slice o l.length cap) (ints l) := own_kept hu5 c56 (Nat.le_refl _) (fun g hg => by have := (hu.block g hg).1; have := hX.lt; omega)
                        have k66 : w6.cell? ⟨q, 6, none⟩ = some sv := R6.cell 6
                        have f66 := R6.free 6
                        have kA6 : (w6.alloc (.cells #[.string nm, .slice o l.length cap] 58)).cell? ⟨q, 6, none⟩ = some sv := (R6.grow ((Grow.refl w6).alloc _)).cell 6
                        have kx0 : w6.cell? ⟨w.heap.size, 0, none⟩ = some (.string nm) := X6.cell 0
                        have kx1' : w6.cell? ⟨w.heap.size, 1, none⟩ = some (.slice o l.length cap) := X6.cell 1
                        have cA6 : Chg w.heap.size (fun i => sv.ownBlock = some i ∨ i = q ∨ w.heap.size ≤ i) w w6 := (Chg.of_grow G5 (Nat.le_refl _)).trans (by rw [← hw6]; exact Chg.setCell _ _ _ (.inr (.inr (Nat.le_refl _))))
                        have z6 := cA6.size
                        rw [hw6]
                        clear hw6 kx1 kxf
                        obtain ⟨i58, hi, hz0, hz1, hz2⟩ := info_parts Tryz.info58
                        have hqs : some q ≠ sv.ownBlock := fun e => own_ne_row2 S6 R6 (by decide) e.symm
                        go_region_law (first | (refine step_append_lies _ (by rfl) _ _ _ (by rfl) B 58 i58 (.agg #[.string ⟨#[]⟩, .slice none 0 0]) 2 40 Tryz.underlying53 hi hz0 hz1 hz2 rfl (by omega) sv st.streams.length (strCells G st.streams) (by rfl) (by exact World.ownsRow.alloc S6 _) ⟨w6.heap.size, 0, none⟩ 1 1 [.string nm, .slice o l.length cap] (by rfl) rfl (fun j x hj => two_cell hj) (two_one _ _ _ _) (by omega) (by simp only [maxLen]; omega) (by omega) (by simp [heap_drew']; omega) _ rfl ?_; intro g7 cap7 w7 hown7 hg7 hat7 hlt7; have RQ7 := Row.grown (R6.grow (((Grow.refl w6).alloc (.cells #[.string nm, .slice o l.length cap] 58)).drew)) hg7 hqs; have k76 : w7.cell? ⟨q, 6, none⟩ = some sv := RQ7.cell 6; have f76 := RQ7.free 6))
                        all_goals
                          have gA : Grow w6 (w6.alloc (.cells #[.string nm, .slice o l.length cap] 58)).drew := ((Grow.refl w6).alloc _).drew
                          have zA := gA.size
                          have C7 := (cA6.trans (Chg.of_grow gA (by omega))).trans (Chg.of_grown hg7 (by omega) (fun k _ e => .inl e))
                          have U7 : IBuf B w7 (.slice o l.length cap) (ints l) := by
                            have a1 := IBuf.below (IBuf.low U6 (show B ≤ wA.heap.size by omega)) gA
                            exact World.ownsRow.kept a1 hg7 (own_apart2 a1 (World.ownsRow.kept S6 (gA.grown none) (by cases sv.ownBlock <;> simp)) (by decide))
                          obtain ⟨r1, r2⟩ := told_end (name := bl nm) (l := l) hB h C7 RQ7 (by rw [ba_eq (a := nm) rfl] at hown7; exact hown7) U7 NO.out
                          clear k76 f76
                          go_wp2
                          go_ret
                          exact ⟨true, rfl, r2, .inl ⟨rfl, _, R.out, r1⟩⟩

end Go.Proofs.YtheichphnppagaaGreat
