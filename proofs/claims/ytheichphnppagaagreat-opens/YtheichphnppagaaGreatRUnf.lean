/- Opens: RUnf. -/
import Derived.Test.YtheichphnppagaaGreatRSum
import Derived.Test.YtheichphnppagaaGreatFirst
namespace Go.Proofs.YtheichphnppagaaGreat
open Go.RowKit
attribute [local go_sem ↓] Go.wp_at_zero Go.wp_at_succ

theorem unfr_short {s : List UInt8} (h : s.length < 10 ∨ s.length < long s + 10) : unfr s = none := by
  rw [unfr_ref, if_neg]
  rintro ⟨a, b, _⟩
  omega
theorem unfr_wrong {s : List UInt8} (h : frameL ((s.drop 6).take (long s)) ≠ s.take (long s + 10)) : unfr s = none := by
  rw [unfr_ref, if_neg]
  rintro ⟨_, _, b⟩
  exact h b
theorem unfr_right {s : List UInt8} (h1 : 10 ≤ s.length) (h2 : long s + 10 ≤ s.length) (h : frameL ((s.drop 6).take (long s)) = s.take (long s + 10)) : unfr s = some ((s.drop 6).take (long s), long s + 10) := by
  rw [unfr_ref, if_pos ⟨h1, h2, h⟩]

set_option maxRecDepth 100000 in
set_option maxHeartbeats 1600000 in
theorem unframed_any (s : ByteArray) (w : World) :
    Calls Tryz.prog 79 #[.string s] w fun e w' => e = .returned (firstV (bl s)) ∧ Grow w w' := by
  by_cases h10 : (s.size : Int) < 10
  · have R : Hid (unfr (bl s) = none) := unfr_short (.inl (by rw [bl_length]; omega))
    go_enter Tryz.func79, Tryz.ntmps79
    go_wp2
    go_ret2
    exact ⟨firstV_no R.out, Grow.refl _⟩
  · have i0 := index_here s 0 0 ((bl s).getD 0 0) rfl (by omega) rfl
    have i1 := index_here s 1 1 ((bl s).getD 1 0) rfl (by omega) rfl
    have c0 := ((bl s).getD 0 0).toNat_lt
    have c1 := ((bl s).getD 1 0).toNat_lt
    have hL : Hid (long (bl s) = ((bl s).getD 0 0).toNat + 256 * ((bl s).getD 1 0).toNat) := rfl
    generalize (bl s).getD 0 0 = a at *
    generalize (bl s).getD 1 0 = b at *
    have c0' : (a.toNat : Int) < 256 := by omega
    have c1' : (b.toNat : Int) < 256 := by omega
    have m1 : IntKind.i64.wrap (256 * (b.toNat : Int)) = 256 * (b.toNat : Int) := by rw [IntKind.wrap_i64]; omega
    have m2 : IntKind.i64.wrap ((a.toNat : Int) + 256 * (b.toNat : Int)) = (a.toNat : Int) + 256 * (b.toNat : Int) := by rw [IntKind.wrap_i64]; omega
    have m3 : (a.toNat : Int) + 256 * (b.toNat : Int) = ((long (bl s) : Nat) : Int) := by rw [hL.out]; omega
    have hnl := long_lt (bl s)
    have HS : Hid (10 ≤ (bl s).length) := (by rw [bl_length]; omega : 10 ≤ (bl s).length)
    generalize hn : long (bl s) = n at *
    have HN : Hid (long (bl s) = n) := hn
    clear hn hL
    by_cases hs : (s.size : Int) < (n : Int) + 10
    · have R : Hid (unfr (bl s) = none) := unfr_short (.inr (by rw [bl_length, HN.out]; omega))
      go_enter Tryz.func79, Tryz.ntmps79
      go_wp2_with fail
      go_quiet (fail)
      go_wp2
      go_ret2
      exact ⟨firstV_no R.out, below_drewN (Below.refl _ _) _⟩
    · have hx : bl (s.extract 6 (6 + n)) = ((bl s).drop 6).take (long (bl s)) := by rw [bl_extract, HN.out]; congr 1; omega
      have hy : bl (s.extract 0 (n + 10)) = (bl s).take (long (bl s) + 10) := by rw [bl_extract, HN.out]; simp
      have zx : (s.extract 6 (6 + n)).size = n := by simp; omega
      have t1 : ((6 : Int) + (n : Int)).toNat = 6 + n := by omega
      have t2 : ((n : Int) + 10).toNat = n + 10 := by omega
      have HX : Hid (bl (s.extract 6 (6 + n)) = ((bl s).drop 6).take (long (bl s))) := hx
      have HY : Hid (bl (s.extract 0 (n + 10)) = (bl s).take (long (bl s) + 10)) := hy
      have HW : Hid (long (bl s) + 10 ≤ (bl s).length) := (by rw [bl_length, HN.out]; omega : long (bl s) + 10 ≤ (bl s).length)
      obtain ⟨t, ht, hb, hz⟩ := str_name (frameL (bl (s.extract 6 (6 + n))))
      have c := fun W => refFrame_any (s.extract 6 (6 + n)) W (by omega)
      rw [ht] at c
      clear hx hy ht hz
      have wr1 : IntKind.i64.wrap (6 + (n : Int)) = 6 + (n : Int) := by rw [IntKind.wrap_i64]; omega
      have hle : (n : Int) + 10 ≤ (s.size : Int) := by omega
      have h0n : (0 : Int) ≤ (n : Int) + 10 := by omega
      have wr2 : IntKind.i64.wrap ((n : Int) + 10) = (n : Int) + 10 := by rw [IntKind.wrap_i64]; omega
      by_cases he : bl t = bl (s.extract 0 (n + 10))
      · have q1 : (t.toList == (s.extract 0 (n + 10)).toList) = true := by rw [toList_bl, toList_bl, he]; simp
        have R : Hid (unfr (bl s) = some (((bl s).drop 6).take (long (bl s)), long (bl s) + 10)) := unfr_right HS.out HW.out (by rw [← HX.out, ← HY.out, ← he, hb.out])
        clear he
        go_enter Tryz.func79, Tryz.ntmps79
        go_wp2_with fail
        go_quiet (fail)
        have G0 : Grow w (w.drewN nq) := below_drewN (Below.refl _ _) _
        generalize w.drewN nq = w0 at *
        clear i0 i1 m1 m2
        go_wp2_with fail
        go_region_held3 (fun _ => True) (trivial) ((go_at_call 50; refine (c _).mono ?_; rintro e w2 ⟨rfl, hG2⟩))
        all_goals
          clear c
          go_wp2
          go_ret2
          exact ⟨firstV_yes R.out HX.out (by rw [HN.out]; omega), Grow.trans G0 (Grow.trans (Grow.refl w0).drew hG2)⟩
      · have q1 : (t.toList == (s.extract 0 (n + 10)).toList) = false := by rw [toList_bl, toList_bl]; simpa using he
        have R : Hid (unfr (bl s) = none) := unfr_wrong (by rw [← HX.out, ← HY.out, ← hb.out]; exact he)
        clear he
        go_enter Tryz.func79, Tryz.ntmps79
        go_wp2_with fail
        go_quiet (fail)
        have G0 : Grow w (w.drewN nq) := below_drewN (Below.refl _ _) _
        generalize w.drewN nq = w0 at *
        clear i0 i1 m1 m2
        go_wp2_with fail
        go_region_held3 (fun _ => True) (trivial) ((go_at_call 50; refine (c _).mono ?_; rintro e w2 ⟨rfl, hG2⟩))
        all_goals
          clear c
          go_wp2
          go_ret2
          exact ⟨firstV_no R.out, Grow.trans G0 (Grow.trans (Grow.refl w0).drew hG2)⟩

end Go.Proofs.YtheichphnppagaaGreat
