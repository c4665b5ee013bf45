/- Opens: Next. -/
import Derived.Test.YtheichphnppagaaGreatOnce
namespace Go.Proofs.YtheichphnppagaaGreat
open Go.RowKit

theorem Rest.lt {w : World} {b : Nat} {mn mx bt rm : Int} (h : Rest w b mn mx bt rm) : b < w.heap.size := by rcases h with ⟨t, _, h⟩ | h <;> exact h.lt
theorem Rest.conf {w : World} {b : Nat} {mn mx bt rm : Int} (h : Rest w b mn mx bt rm) :
    w.cell? ⟨b, 0, none⟩ = some (.int .i64 mn) ∧ w.cell? ⟨b, 1, none⟩ = some (.int .i64 mx) ∧ w.cell? ⟨b, 2, none⟩ = some (.int .i64 bt) := by
  rcases h with ⟨t, _, h⟩ | h <;> exact ⟨h.cell 0, h.cell 1, h.cell 2⟩

theorem bl_ext (s : ByteArray) (a b : Nat) : bl (s.extract a b) = ((bl s).drop a).take (b - a) := by
  unfold bl
  rw [ByteArray.data_extract, Array.toList_extract]
theorem ones_eq (bt on : Nat) (h5 : bt ≤ 12) (ho : on = 2 ^ bt - 1) : ((2 : Int) ^ bt - 1) % 4294967296 = (on : Int) ∧ ((2 : Int) ^ bt % 4294967296 - 1) % 4294967296 = (on : Int) := by
  have h1 : 2 ^ bt ≤ 2 ^ 12 := Nat.pow_le_pow_right (by decide) h5
  have h2 : 1 ≤ 2 ^ bt := Nat.one_le_two_pow
  have h3 : ((2 : Int) ^ bt) = ((2 ^ bt : Nat) : Int) := by simp
  rw [h3]
  generalize 2 ^ bt = q at *
  omega
theorem first_mark (s : ByteArray) (p : Nat) (h : 16 ≤ p) : markOf (bl (s.extract (p - 16) p)) = markAt (bl s) p := by
  unfold markAt winAt
  rw [bl_ext, show p - (p - 16) = 16 by omega]
theorem tab_cells {w : World} {b : Nat} {mn mx bt rm : Int} (h : Row w b 129 (cutL mn mx bt rm 1 0 (tabL 16))) (k : Nat) (hk : k < 16) : w.cell? ⟨b, 7 + k, none⟩ = some (.int .u32 (rollN 32 k : Nat)) := by
  rw [h.cell (7 + k)]
  unfold cutL
  rw [List.getElem?_append_right (by simp)]
  have := tabL_get k hk
  simpa using this
theorem and_ones (m bt on r : Nat) (h5 : bt ≤ 12) (ho : on = 2 ^ bt - 1) (hr : r = m % 2 ^ bt) (hm : m < 2147483648) : bits .and .u32 (m : Int) (on : Int) = (r : Int) := by
  have h1 : 2 ^ bt ≤ 2 ^ 12 := Nat.pow_le_pow_right (by decide) h5
  rw [u32_and_nat _ _ (by omega) (by omega), ho, hr, Nat.and_two_pow_sub_one_eq_mod]
theorem scan_hit {l : List UInt8} {bt k p m r on : Nat} (hk : 0 < k) (hm : m = markAt l p) (hr : r = m % 2 ^ bt) (ho : on = 2 ^ bt - 1) (hg : ((r : Int) == (on : Int)) = true) : (p : Int) = (scan l bt k p : Nat) := by
  obtain ⟨j, rfl⟩ : ∃ j, k = j + 1 := ⟨k - 1, by omega⟩
  have e : r = on := by have := beq_iff_eq.1 hg; omega
  unfold scan
  rw [← hm, ← hr, ← ho, if_pos e]
theorem scan_miss {l : List UInt8} {bt k p m r on : Nat} (hk : 0 < k) (hm : m = markAt l p) (hr : r = m % 2 ^ bt) (ho : on = 2 ^ bt - 1) (hg : ¬ ((r : Int) == (on : Int)) = true) : scan l bt k p = scan l bt (k - 1) (p + 1) := by
  obtain ⟨j, rfl⟩ : ∃ j, k = j + 1 := ⟨k - 1, by omega⟩
  have e : r ≠ on := fun e => hg (by subst e; simp)
  rw [scan, ← hm, ← hr, ← ho, if_neg e]
  rfl

set_option maxRecDepth 100000 in
set_option maxHeartbeats 1600000 in
theorem next_any (s : ByteArray) (b mn mx bt : Nat) (rm : Int) (last : Nat) (L : Int) (w : World) (hL : L = last) (h : Rest w b mn mx bt rm) (hs : s.size ≤ 2000) (h1 : 16 ≤ mn) (h2 : mn ≤ mx) (h3 : mx ≤ 200) (h5 : bt ≤ 12) (hl : last < s.size) :
    Calls Tryz.prog 63 #[.pointer (some ⟨b, 0, none⟩), .string s, .int .i64 L] w fun e w' => e = .returned (.int .i64 (nextCut (bl s) mn mx bt last : Nat)) ∧ Rest w' b mn mx bt rm ∧ Touch b w w' := by
  subst hL
  obtain ⟨c0, c1, c2⟩ := h.conf
  have hbl := bl_length s
  obtain ⟨on, ho⟩ : ∃ on, on = 2 ^ bt - 1 := ⟨_, rfl⟩
  obtain ⟨hon1, hon2⟩ := ones_eq bt on h5 ho
  have HO : Hid (on = 2 ^ bt - 1) := ho
  clear ho
  by_cases hm : (last : Int) + (mx : Int) ≤ (s.size : Int)
  · have E : Hid (min (last + mx) (bl s).length = last + mx) := by show _ = _; omega
    by_cases he : mx ≤ mn
    · go_enter Tryz.func63, Tryz.ntmps63
      go_wp2_with fail
      go_ret
      exact ⟨ret_int (by unfold nextCut; rw [E.out, if_pos (by omega)]; omega), h, Touch.refl _ _⟩
    · go_enter Tryz.func63, Tryz.ntmps63
      go_wp2_with fail
      refine (get_any b mn mx bt rm _ h).mono ?_
      rintro e w1 ⟨rfl, hr1, ht1⟩
      obtain ⟨p0, hp0⟩ : ∃ p0, p0 = last + mn := ⟨_, rfl⟩
      have hp0' : (last : Int) + (mn : Int) = (p0 : Int) := by omega
      obtain ⟨en, hen⟩ : ∃ en, en = last + mx := ⟨_, rfl⟩
      have hen' : (last : Int) + (mx : Int) = (en : Int) := by omega
      have E : Hid (min (last + mx) (bl s).length = en) := by show _ = _; rw [hen]; exact E.out
      rw [hp0', hen']
      have b1 : p0 < en := by omega
      have b2 : 16 ≤ p0 := by omega
      have b3 : en ≤ s.size := by omega
      have R : Hid (scan (bl s) bt (en - p0) p0 = nextCut (bl s) mn mx bt last) := by
        show _ = _
        unfold nextCut
        rw [E.out, if_neg (by omega), hp0]
      clear hp0 hp0' hen hen' hm he hbl
      go_wp2_with fail
      refine (first_any (s.extract (p0 - 16) p0) _ (by simp; omega)).mono ?_
      rintro e w' ⟨rfl, rfl⟩
      have hfirst := first_mark s p0 (by omega)
      rw [hfirst]
      clear hfirst
      have htab : ∀ k : Nat, k < 16 → w'.cell? ⟨b, 7 + k, none⟩ = some (.int .u32 (rollN 32 k : Nat)) := tab_cells hr1
      go_wp2_with fail
      go_loopw [8, 11] (fun v8 v11 wr => ∃ p m n : Nat, v8 = .int .i64 p ∧ v11 = .int .u32 m ∧ p0 ≤ p ∧ p ≤ en ∧ Hid (m = markAt (bl s) p) ∧ Hid (scan (bl s) bt (en - p) p = nextCut (bl s) mn mx bt last) ∧ wr = w'.drewN n) (fun v8 _ _ => en - (intOf v8).toNat)
      case atStart => exact ⟨p0, _, 0, rfl, rfl, Nat.le_refl _, by omega, rfl, R, rfl⟩
      case round =>
        obtain ⟨p, m, n, rfl, rfl, b4, b5, HM, HS, rfl⟩ := hrel
        by_cases hlt : (p : Int) < (en : Int)
        · have hm : m < 2147483648 := by rw [HM.out]; exact markAt_lt _ _
          obtain ⟨r, hr⟩ : ∃ r, r = m % 2 ^ bt := ⟨_, rfl⟩
          have ha := and_ones m bt on r h5 HO.out hr hm
          have HR : Hid (r = m % 2 ^ bt) := hr
          clear hr
          by_cases hg : ((r : Int) == (on : Int)) = true
          · go_wp2
            go_ret
            exact ⟨ret_int (by rw [← HS.out]; exact scan_hit (by omega) HM.out HR.out HO.out hg), .inr hr1, ht1.drewN n⟩
          · have hg' : ((r : Int) == (on : Int)) = false := by simpa using hg
            obtain ⟨o, ho⟩ : ∃ o, (bl s).getD (p - 16) 0 = o := ⟨_, rfl⟩
            obtain ⟨c, hc⟩ : ∃ c, (bl s).getD p 0 = c := ⟨_, rfl⟩
            have i1 := index_here s ((p : Int) - 16) (p - 16) o (by omega) (by omega) ho
            have i2 := index_here s p p c rfl (by omega) hc
            have htab' : ∀ k : Nat, k < 16 → (w'.drewN n).cell? ⟨b, 7 + k, none⟩ = some (.int .u32 (rollN 32 k : Nat)) := fun k hk => by simpa using htab k hk
            have S := markAt_slide (bl s) p (by omega) (by rw [bl_length]; omega) o c ho hc
            rw [← HM.out] at S
            have S' : Hid (push (push m (c.toNat / 16) ^^^ rollN 32 (o.toNat / 16)) (c.toNat % 16) ^^^ rollN 32 (o.toNat % 16) = markAt (bl s) (p + 1)) := S
            have HS' : Hid (scan (bl s) bt (en - (p + 1)) (p + 1) = nextCut (bl s) mn mx bt last) := by
              show _ = _
              rw [← HS.out, scan_miss (k := en - p) (by omega) HM.out HR.out HO.out hg, show en - p - 1 = en - (p + 1) by omega]
            clear S ho hc
            obtain ⟨w3, hw3⟩ : ∃ w3, w'.drewN n = w3 := ⟨_, rfl⟩
            have W3 : Hid (w'.drewN n = w3) := hw3
            rw [hw3] at htab'
            rw [hw3]
            clear hw3
            go_wp2_with fail
            go_quiet (first | (go_at_call 97; exact Calls.quiet_of (slide_any b 7 m _ _ _ o c _ rfl rfl rfl hm (fun k hk => by simpa using htab' k hk))))
            go_wp2
            exact ⟨⟨p + 1, _, _, by go_num, rfl, by omega, by omega, S', HS', by rw [← W3.out]; exact World.drewN_drewN _ _ _⟩, by simp [intOf]; omega⟩
        · go_wp2
          go_ret
          exact ⟨ret_int (by rw [← HS.out, show en - p = 0 by omega]; unfold scan; omega), .inr hr1, ht1.drewN n⟩
  · have E : Hid (min (last + mx) (bl s).length = s.size) := by show _ = _; omega
    by_cases he : (s.size : Int) ≤ (last : Int) + (mn : Int)
    · go_enter Tryz.func63, Tryz.ntmps63
      go_wp2_with fail
      go_ret
      exact ⟨ret_int (by unfold nextCut; rw [E.out, if_pos (by omega)]), h, Touch.refl _ _⟩
    · go_enter Tryz.func63, Tryz.ntmps63
      go_wp2_with fail
      refine (get_any b mn mx bt rm _ h).mono ?_
      rintro e w1 ⟨rfl, hr1, ht1⟩
      obtain ⟨p0, hp0⟩ : ∃ p0, p0 = last + mn := ⟨_, rfl⟩
      have hp0' : (last : Int) + (mn : Int) = (p0 : Int) := by omega
      rw [hp0']
      have b1 : p0 < s.size := by omega
      have b2 : 16 ≤ p0 := by omega
      have b3 : s.size ≤ s.size := by omega
      have R : Hid (scan (bl s) bt (s.size - p0) p0 = nextCut (bl s) mn mx bt last) := by
        show _ = _
        unfold nextCut
        rw [E.out, if_neg (by omega), hp0]
      clear hp0 hp0' hm he hbl
      go_wp2_with fail
      refine (first_any (s.extract (p0 - 16) p0) _ (by simp; omega)).mono ?_
      rintro e w' ⟨rfl, rfl⟩
      have hfirst := first_mark s p0 (by omega)
      rw [hfirst]
      clear hfirst
      have htab : ∀ k : Nat, k < 16 → w'.cell? ⟨b, 7 + k, none⟩ = some (.int .u32 (rollN 32 k : Nat)) := tab_cells hr1
      go_wp2_with fail
      go_loopw [8, 11] (fun v8 v11 wr => ∃ p m n : Nat, v8 = .int .i64 p ∧ v11 = .int .u32 m ∧ p0 ≤ p ∧ p ≤ s.size ∧ Hid (m = markAt (bl s) p) ∧ Hid (scan (bl s) bt (s.size - p) p = nextCut (bl s) mn mx bt last) ∧ wr = w'.drewN n) (fun v8 _ _ => s.size - (intOf v8).toNat)
      case atStart => exact ⟨p0, _, 0, rfl, rfl, Nat.le_refl _, by omega, rfl, R, rfl⟩
      case round =>
        obtain ⟨p, m, n, rfl, rfl, b4, b5, HM, HS, rfl⟩ := hrel
        by_cases hlt : (p : Int) < (s.size : Int)
        · have hm : m < 2147483648 := by rw [HM.out]; exact markAt_lt _ _
          obtain ⟨r, hr⟩ : ∃ r, r = m % 2 ^ bt := ⟨_, rfl⟩
          have ha := and_ones m bt on r h5 HO.out hr hm
          have HR : Hid (r = m % 2 ^ bt) := hr
          clear hr
          by_cases hg : ((r : Int) == (on : Int)) = true
          · go_wp2
            go_ret
            exact ⟨ret_int (by rw [← HS.out]; exact scan_hit (by omega) HM.out HR.out HO.out hg), .inr hr1, ht1.drewN n⟩
          · have hg' : ((r : Int) == (on : Int)) = false := by simpa using hg
            obtain ⟨o, ho⟩ : ∃ o, (bl s).getD (p - 16) 0 = o := ⟨_, rfl⟩
            obtain ⟨c, hc⟩ : ∃ c, (bl s).getD p 0 = c := ⟨_, rfl⟩
            have i1 := index_here s ((p : Int) - 16) (p - 16) o (by omega) (by omega) ho
            have i2 := index_here s p p c rfl (by omega) hc
            have htab' : ∀ k : Nat, k < 16 → (w'.drewN n).cell? ⟨b, 7 + k, none⟩ = some (.int .u32 (rollN 32 k : Nat)) := fun k hk => by simpa using htab k hk
            have S := markAt_slide (bl s) p (by omega) (by rw [bl_length]; omega) o c ho hc
            rw [← HM.out] at S
            have S' : Hid (push (push m (c.toNat / 16) ^^^ rollN 32 (o.toNat / 16)) (c.toNat % 16) ^^^ rollN 32 (o.toNat % 16) = markAt (bl s) (p + 1)) := S
            have HS' : Hid (scan (bl s) bt (s.size - (p + 1)) (p + 1) = nextCut (bl s) mn mx bt last) := by
              show _ = _
              rw [← HS.out, scan_miss (k := s.size - p) (by omega) HM.out HR.out HO.out hg, show s.size - p - 1 = s.size - (p + 1) by omega]
            clear S ho hc
            obtain ⟨w3, hw3⟩ : ∃ w3, w'.drewN n = w3 := ⟨_, rfl⟩
            have W3 : Hid (w'.drewN n = w3) := hw3
            rw [hw3] at htab'
            rw [hw3]
            clear hw3
            go_wp2_with fail
            go_quiet (first | (go_at_call 97; exact Calls.quiet_of (slide_any b 7 m _ _ _ o c _ rfl rfl rfl hm (fun k hk => by simpa using htab' k hk))))
            go_wp2
            exact ⟨⟨p + 1, _, _, by go_num, rfl, by omega, by omega, S', HS', by rw [← W3.out]; exact World.drewN_drewN _ _ _⟩, by simp [intOf]; omega⟩
        · go_wp2
          go_ret
          exact ⟨ret_int (by rw [← HS.out, show s.size - p = 0 by omega]; unfold scan; omega), .inr hr1, ht1.drewN n⟩

end Go.Proofs.YtheichphnppagaaGreat
