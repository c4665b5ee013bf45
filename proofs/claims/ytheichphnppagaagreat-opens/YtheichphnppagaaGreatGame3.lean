/- Opens: Game3. -/
import Derived.Test.YtheichphnppagaaGreatGame2
import Derived.Deep.AppendLies
namespace Go.Proofs.YtheichphnppagaaGreat
open Go.RowKit
attribute [local go_sem ↓] Go.wp_at_zero Go.wp_at_succ

theorem Tryz.underlying45 : Tryz.prog.underlying 45 = some (.slice 89) := by kernel_rfl
theorem Tryz.info89 : (Tryz.prog.info? 89).map (fun i => (i.zero, i.size, i.bytes)) = some (some (.agg #[.slice none 0 0, .slice none 0 0, .slice none 0 0, .slice none 0 0, .string ⟨#[]⟩]), 5, 112) := by kernel_rfl
theorem five_cell {w : World} {a1 a2 a3 a4 a5 : Value} {j : Nat} {x : Value} (h : ([a1, a2, a3, a4, a5] : List Value)[j]? = some x) : (w.alloc (.cells #[a1, a2, a3, a4, a5] 89)).cell? ((⟨w.heap.size, 0, none⟩ : Addr).add j) = some x := by
  match j, h with
  | 0, h => simp at h; subst h; simp [Addr.add]
  | 1, h => simp at h; subst h; simp [Addr.add]
  | 2, h => simp at h; subst h; simp [Addr.add]
  | 3, h => simp at h; subst h; simp [Addr.add]
  | 4, h => simp at h; subst h; simp [Addr.add]
theorem five_one (o1 o2 o3 o4 : Option Addr) (n1 c1 n2 c2 n3 c3 n4 c4 : Nat) (s : ByteArray) : ∀ x ∈ ([.slice o1 n1 c1, .slice o2 n2 c2, .slice o3 n3 c3, .slice o4 n4 c4, .string s] : List Value), x.oneCell' = true := by
  intro x hx
  simp at hx
  rcases hx with rfl | rfl | rfl | rfl | rfl <;> rfl

set_option maxRecDepth 100000 in
set_option maxHeartbeats 3200000 in
theorem game_list (b B p q : Nat) (st : St) (w : World) (hr : Row w b 47 (gmL (.pointer (some ⟨p, 0, none⟩)) (.pointer (some ⟨q, 0, none⟩)) (.slice none 0 0))) (hS : Sto B w p st) (hR : Rf B w q st) (hsa : Sane st) :
    Calls Tryz.prog 21 #[.pointer (some ⟨b, 0, none⟩), .int .i64 0, .int .i64 100] w fun e w' => e = .returned (.bool true) ∧ w.grownBy w' (some b) ∧ ∃ all, Row w' b 47 (gmL (.pointer (some ⟨p, 0, none⟩)) (.pointer (some ⟨q, 0, none⟩)) all) := by
  have hnot := not_law
  have hcnt := hsa.count
  have htx := hsa.text
  have hrm := hsa.room
  have hbl := hr.lt
  have c0 : w.cell? ⟨b, 0, none⟩ = some (.pointer (some ⟨p, 0, none⟩)) := hr.cell 0
  have c3 : w.cell? ⟨b, 3, none⟩ = some (.pointer (some ⟨q, 0, none⟩)) := hr.cell 3
  go_enter Tryz.func21, Tryz.ntmps21
  go_wp2_with fail
  refine (list_any B p st _ hS hsa).mono ?_
  rintro e w1 ⟨v, rfl, hv, G1⟩
  have c3 := cell_kept c3 G1
  go_wp2_with fail
  refine (refList_any B q st _ (hR.grow G1) hsa).mono ?_
  rintro e w2 ⟨u, rfl, hu, G2⟩
  have hv2 := hv.kept (G2.grown none) (by cases v.ownBlock <;> simp)
  have hz1 := G1.size
  have hu2 := hu.low hz1
  have hg := Grow.trans G1 G2
  have hll : (listL st).length ≤ 60000 := by rw [listL_length]; omega
  obtain ⟨L, hL⟩ : ∃ L, listL st = L := ⟨_, rfl⟩
  rw [hL] at hv2 hu2 hll
  clear hL hv hu G1 G2 hz1 c0 c3 hcnt htx hrm
  have hlv := len_sbuf hv2
  have hlu := len_sbuf hu2
  go_wp2
  go_loopw [9, 10] (fun v9 v10 wr => ∃ k : Nat, v9 = .bool true ∧ v10 = .int .i64 k ∧ k ≤ L.length ∧ SBuf w.heap.size wr v L ∧ SBuf w.heap.size wr u L ∧ Grow w wr) (fun _ v10 _ => L.length - (intOf v10).toNat)
  case atStart => exact ⟨0, by simp, rfl, by omega, hv2, hu2, hg⟩
  case round =>
    clear hv2 hu2 hg
    obtain ⟨k, rfl, rfl, hk, hb, hc, hg⟩ := hrel
    by_cases hlt : (k : Int) < (L.length : Int)
    · have hkl : k < L.length := by omega
      obtain ⟨g3, cap3, rfl, _, _⟩ := hb.formNe (by omega)
      obtain ⟨g4, cap4, rfl, _, _⟩ := hc.formNe (by omega)
      have kb := hb.cell k hkl
      have kc := hc.cell k hkl
      obtain ⟨z, hz, _, _⟩ := str_name (L.getD k [])
      rw [hz] at kb kc
      clear hz hlv hlu
      go_wp2_with fail
      go_quiet (fail)
      go_wp2
      exact ⟨⟨k + 1, by simp, by go_num, by omega, hb, hc, below_drewN hg _⟩, by simp [intOf]; omega⟩
    · clear hc hlu
      go_wp2_with fail
      clear hlv
      have hrr := hr.grow hg
      have x6 : wr.cell? ⟨b, 6, none⟩ = some (.slice none 0 0) := hrr.cell 6
      have f6 := hrr.free 6
      have hzr := hg.size
      have hbd : SBuf w.heap.size wr.drew v L := hb.kept (Grow.grown (Grow.refl wr).drew none) (by cases v.ownBlock <;> simp)
      obtain ⟨i89, hi9, hz9, hs9, hb9⟩ := info_parts Tryz.info89
      have C48 := kept_any w.heap.size wr.drew v L hbd hll (by exact hzr)
      have KB : ∀ w4, wr.drew.grownBy w4 v.ownBlock → Grow w w4 := fun w4 h4 => Below.grown (hg.drew) h4 (by exact hzr) (fun k hk => (hb.block k hk).1)
      have KA : ∀ w4 o w7, Grow w w4 → (w4.alloc o).grownBy w7 (Value.ownBlock (.slice none 0 0)) → Grow w w7 := fun w4 o w7 g4 h7 => Below.grown (g4.alloc o) h7 (by have := g4.size; simp; omega) (fun k hk => by simp [Value.ownBlock] at hk)
      clear hlt hk
      rcases hb.form with ⟨rfl, _⟩ | ⟨g3, cap3, rfl, _, _⟩
      all_goals
        have tok : True := trivial
        go_region_law (first
          | (have _t := tok; go_simp; go_wp2_with (go_at_call 48; refine C48.mono ?_; rintro e w4 ⟨g2, n2, c2, g5, n5, c5, g4, n4, c4, s, rfl, hG4⟩; have G4 := KB w4 hG4; have hr4 := hr.grow G4; have x4 : w4.cell? ⟨b, 6, none⟩ = some (.slice none 0 0) := hr4.cell 6; have x4' : ∀ o, (w4.alloc o).cell? ⟨b, 6, none⟩ = some (.slice none 0 0) := fun o => (hr.grow (G4.alloc o)).cell 6; have hz4 := G4.size; clear tok))
          | (refine step_append_lies _ (by rfl) _ _ _ (by rfl) 0 89 i89 (.agg #[.slice none 0 0, .slice none 0 0, .slice none 0 0, .slice none 0 0, .string ⟨#[]⟩]) 5 112 Tryz.underlying45 hi9 hz9 hs9 hb9 rfl (by omega) (.slice none 0 0) 0 [] (by rfl) (World.ownsRow_nil _ _ _ _) ⟨w4.heap.size, 0, none⟩ 1 1 _ (by rfl) rfl (fun j u hj => five_cell hj) (five_one _ _ _ _ _ _ _ _ _ _ _ _ _) (by omega) (by simp only [maxLen]; omega) (by omega) (by omega) (w4.heap.size + 1) (by simp) ?_; intro g7 cap7 w7 hown7 hg7 hat7 hlt7; have G7 := KA w4 _ w7 G4 hg7; have hr7 := hr.grow G7; have x7 : w7.cell? ⟨b, 6, none⟩ = some (.slice none 0 0) := hr7.cell 6; have f7 := hr7.free 6))
      all_goals
        have T := ((Touch.refl b w7).setCell 6 (.slice (some ⟨g7, 0, none⟩) 1 cap7)).grown
        have R8 := hr7.setCell 6 (.slice (some ⟨g7, 0, none⟩) 1 cap7)
        have G8 := GB.trans (G7.grown (some b)) T
        go_wp2
        go_ret
        exact ⟨rfl, G8, _, R8⟩

end Go.Proofs.YtheichphnppagaaGreat
