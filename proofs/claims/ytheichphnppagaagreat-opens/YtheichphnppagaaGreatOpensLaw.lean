/- Opens: OpensLaw. -/
import Derived.Test.YtheichphnppagaaGreatGame3
namespace Go.Proofs.YtheichphnppagaaGreat
open Go.RowKit
attribute [local go_sem ↓] Go.wp_at_zero Go.wp_at_succ

theorem head_opens : (openL (frameL (headL 16 20 1 1000))).isSome = true := by kernel_rfl
theorem head_ok : okB (16 : Nat) (20 : Nat) (1 : Nat) (1000 : Nat) = true := by decide

theorem round_grow {W wr w2 : World} {o : Obj} (hg : Grow W wr) (h : (wr.alloc o).grownBy w2 (some wr.heap.size)) : Grow W w2 :=
  Below.grown (hg.alloc o) h (by have := hg.size; simp; omega) (fun k hk => by have := Option.some.inj hk; have := hg.size; omega)
theorem grow_gb {W w1 w2 : World} {b : Nat} (hg : Grow W w1) (h : w1.grownBy w2 (some b)) (hb : W.heap.size ≤ b) : Grow W w2 :=
  Below.grown hg h hg.size (fun k hk => by have := Option.some.inj hk; omega)

set_option maxRecDepth 100000 in
set_option maxHeartbeats 800000 in
theorem opens_any (a0 : Option Addr) (len cap : Nat) (W : World) (hm : len ≤ 9223372036854775807)
    (h : ∀ i, i < len → ∃ b off s, a0 = some ⟨b, off, none⟩ ∧ b < W.heap.size ∧ W.cell? ⟨b, off + i, none⟩ = some (.string s) ∧ s.size ≤ 9223372036854775807) :
    Calls Tryz.prog 5 #[.slice a0 len cap] W fun e w' => e = .returned (.bool true) ∧ Below W.heap.size W w' := by
  have hnot := not_law
  go_enter Tryz.func5, Tryz.ntmps5
  go_wp2
  go_loopw [3, 4, 5, 6, 7, 8, 9] (fun v3 _ _ _ _ _ _ wr => ∃ i : Nat, v3 = .int .i64 i ∧ i ≤ len ∧ Grow W wr) (fun v3 _ _ _ _ _ _ _ => len - (intOf v3).toNat)
  case atStart => exact ⟨0, rfl, by omega, Grow.refl _⟩
  case round =>
    obtain ⟨i, rfl, hi, hg⟩ := hrel
    have hzr := hg.size
    by_cases hlt : (i : Int) < (len : Int)
    · obtain ⟨b, off, s, rfl, hb, hc, hs⟩ := h i (by omega)
      have hc' := cell_kept hc hg
      have hc2 : ∀ o, (wr.alloc o).cell? ⟨b, off + i, none⟩ = some (.string s) := fun o => cell_kept hc' ((Grow.refl wr).alloc o)
      clear h hc
      go_wp2_with fail
      refine (game_open wr.heap.size s _ (Row.new wr 47 _) hs).mono ?_
      rintro e w2 ⟨rfl, hG, hO⟩
      have G2 := round_grow hg hG
      rcases hO with hr | ⟨p, q, st, hr, hS, hR, hsa⟩
      · have y3 : w2.cell? ⟨wr.heap.size, 3, none⟩ = some (.pointer none) := hr.cell 3
        go_wp2
        exact ⟨⟨i + 1, by go_num, by omega, G2⟩, by simp [intOf]; omega⟩
      · have hzb : wr.heap.size < (wr.alloc (.cells (gmL (.pointer none) (.pointer none) (.slice none 0 0)).toArray 47)).heap.size := by simp
        obtain ⟨B, hB⟩ : ∃ B, (wr.alloc (.cells (gmL (.pointer none) (.pointer none) (.slice none 0 0)).toArray 47)).heap.size = B := ⟨_, rfl⟩
        have hB2 : B ≤ w2.heap.size := by rw [← hB]; exact hG.size
        rw [hB] at hS hR hzb
        clear hB hG hc2 hc'
        generalize wr.heap.size = bb at hr hzb hzr ⊢
        have hcnt := hsa.count
        have htx := hsa.text
        have hrm := hsa.room
        obtain ⟨cv, sv, GG, hRa⟩ := hR
        have y3 : w2.cell? ⟨bb, 3, none⟩ = some (.pointer (some ⟨q, 0, none⟩)) := hr.cell 3
        have q6 : w2.cell? ⟨q, 6, none⟩ = some sv := hRa.row.cell 6
        have hln := len_strs hRa.strs
        have hbW : W.heap.size ≤ bb := hzr
        go_wp2
        go_loopw [6, 7] (fun v6 _ w5 => ∃ k : Nat, v6 = .int .i64 k ∧ k ≤ st.streams.length ∧ Grow w2 w5) (fun v6 _ _ => st.streams.length - (intOf v6).toNat)
        case atStart => exact ⟨0, rfl, by omega, Grow.refl _⟩
        case round =>
          obtain ⟨k, rfl, hk, hg5⟩ := hrel
          have y3 := cell_kept y3 hg5
          have q6 := cell_kept q6 hg5
          have hr5 := hr.grow hg5
          have hS5 := hS.grow hg5
          have hR5 : Rf B _ q st := Rf.grow ⟨cv, sv, GG, hRa⟩ hg5
          have hz5 := hg5.size
          by_cases hkl : (k : Int) < (st.streams.length : Int)
          · have hkn : k < st.streams.length := by omega
            rcases strs_form hRa.strs with ⟨_, h0⟩ | ⟨g0, cap0, rfl, _, _⟩
            · omega
            obtain ⟨x, hx⟩ : ∃ x, st.streams[k]? = some x := ⟨_, List.getElem?_eq_getElem hkn⟩
            obtain ⟨kc0, _⟩ := strs_cell hRa.strs hx
            have kc := cell_kept kc0 hg5
            obtain ⟨z, hz, hbz, _⟩ := str_name x.1
            rw [hz] at kc
            have hxm := List.mem_of_getElem? hx
            clear hx hz kc0 hkn hln
            go_wp2_with fail
            refine (game_two bb B p q st _ z x k _ hr5 hS5 hR5 hsa (by omega) hxm hbz.out).mono ?_
            rintro e w6 ⟨rfl, g6⟩
            go_wp2
            exact ⟨⟨k + 1, by go_num, by omega, Grow.trans hg5 g6⟩, by simp [intOf]; omega⟩
          · go_wp2_with fail
            refine (game_list bb B p q st _ hr5 hS5 hR5 hsa).mono ?_
            rintro e w6 ⟨rfl, gb6, all, hr6⟩
            have hS6 := hS5.off gb6 hzb
            have hR6 := hR5.off gb6 hzb
            have G6 := grow_gb (Grow.trans G2 hg5) gb6 hbW
            go_wp2_with fail
            refine (game_four bb B p q st all _ hr6 hS6 hR6 hsa).mono ?_
            rintro e w7 ⟨rfl, g7⟩
            go_wp2
            exact ⟨⟨i + 1, by go_num, by omega, Grow.trans G6 g7⟩, by simp [intOf]; omega⟩
    · go_wp2_with fail
      refine (refNew_ok 16 20 1 1000 _ head_ok).mono ?_
      rintro e w2 ⟨q, rfl, hR, G2⟩
      obtain ⟨z, hz, hbz, _⟩ := str_name (frameL (headL 16 20 1 1000))
      have k4 : w2.cell? ⟨q, 4, none⟩ = some (.string z) := by
        obtain ⟨cv, sv, GG, hR⟩ := hR
        rw [← hz]
        exact hR.row.cell 4
      go_wp2_with fail
      refine (open_any z _).mono ?_
      rintro e w3 hO
      rcases hO with ⟨hn, rfl, G3⟩ | ⟨p, st, hsome, rfl, hS2, hSa, G3⟩
      · have := head_opens
        rw [← hbz.out, hn] at this
        cases this
      · clear hsome
        go_wp2
        go_ret
        exact ⟨rfl, Grow.trans hg (Grow.trans G2 G3)⟩

end Go.Proofs.YtheichphnppagaaGreat
