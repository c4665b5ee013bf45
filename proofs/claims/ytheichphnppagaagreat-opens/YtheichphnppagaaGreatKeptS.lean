/- Opens: KeptS. -/
import Derived.Test.YtheichphnppagaaGreatSMarks
namespace Go.Proofs.YtheichphnppagaaGreat
open Go.RowKit
attribute [local go_sem ↓] Go.wp_at_zero Go.wp_at_succ

theorem pick_zero (w : World) : Calls Tryz.prog 40 #[.int .i64 0, .int .i64 3] w fun e w' => e = .returned (.int .i64 0) ∧ w' = w := by
  go_enter Tryz.func40, Tryz.ntmps40
  go_wp2
  go_ret
  exact ⟨rfl, rfl⟩
theorem text_nil (w : World) : Calls Tryz.prog 43 #[.pointer none] w fun e w' => e = .returned (.string ⟨#[]⟩) ∧ w' = w := by
  go_enter Tryz.func43, Tryz.ntmps43
  go_wp2
  go_ret
  exact ⟨rfl, rfl⟩

theorem ssrc_two (w : World) (s : ByteArray) :
    Src Tryz.prog 1 24 (.slice (some ⟨w.heap.size, 0, none⟩) 2 2) [bl s, bl s].length (cellsOfStrs [bl s, bl s]) (w.alloc (.cells #[.string s, .string s] 9)) := by
  obtain ⟨c, hc⟩ : ∃ c, bl s = c := ⟨_, rfl⟩
  rw [hc]
  have e : s = ⟨c.toArray⟩ := ba_eq hc
  subst e
  refine Src.ofSlice _ Tryz.underlying24 ⟨w.heap.size, 0, none⟩ [c, c].length 2 (cellsOfStrs [c, c]) (by rw [cellsOfStrs_length]; omega) (fun j u hj => ?_) (cellsOfStrs_one [c, c])
  match j, hj with
  | 0, hj => simp [cellsOfStrs] at hj; subst hj; simp [Addr.add, strV]
  | 1, hj => simp [cellsOfStrs] at hj; subst hj; simp [Addr.add, strV]
theorem ssrc_three (w : World) (s : ByteArray) :
    Src Tryz.prog 1 24 (.slice (some ⟨w.heap.size, 0, none⟩) 3 3) [bl s, bl s, bl s].length (cellsOfStrs [bl s, bl s, bl s]) (w.alloc (.cells #[.string s, .string s, .string s] 9)) := by
  obtain ⟨c, hc⟩ : ∃ c, bl s = c := ⟨_, rfl⟩
  rw [hc]
  have e : s = ⟨c.toArray⟩ := ba_eq hc
  subst e
  refine Src.ofSlice _ Tryz.underlying24 ⟨w.heap.size, 0, none⟩ [c, c, c].length 3 (cellsOfStrs [c, c, c]) (by rw [cellsOfStrs_length]; omega) (fun j u hj => ?_) (cellsOfStrs_one [c, c, c])
  match j, hj with
  | 0, hj => simp [cellsOfStrs] at hj; subst hj; simp [Addr.add, strV]
  | 1, hj => simp [cellsOfStrs] at hj; subst hj; simp [Addr.add, strV]
  | 2, hj => simp [cellsOfStrs] at hj; subst hj; simp [Addr.add, strV]
theorem GB.trans {x y z : World} {r : Option Nat} (h : x.grownBy y r) (k : y.grownBy z r) : x.grownBy z r :=
  ⟨k.os.trans h.os, k.tape.trans h.tape, k.output.trans h.output, Nat.le_trans h.size k.size, fun i hi hn => (k.block i (Nat.lt_of_lt_of_le hi h.size) hn).trans (h.block i hi hn)⟩
theorem GB.below {x y z : World} {r : Option Nat} (h : x.grownBy y r) (k : Below x.heap.size y z) : x.grownBy z r :=
  ⟨k.os.trans h.os, k.tape.trans h.tape, k.output.trans h.output, Nat.le_trans h.size k.size, fun i hi hn => (k.block i hi).trans (h.block i hi hn)⟩
theorem Row.gb {w w' : World} {b : Nat} {t : TypeId} {l : List Value} {r : Option Nat} (h : Row w b t l) (k : w.grownBy w' r) (hn : some b ≠ r) : Row w' b t l := (k.block b h.lt hn).trans h

theorem kept_str (w : World) (g : Nat) (h : Row w g 5 [.int .u8 100, .int .u8 0]) : (convert 64 9 (.slice (some ⟨g, 0, none⟩) 2 2)).run Tryz.prog w = .ok (.string ⟨#[100, 0]⟩) w := by
  refine run_convert_bytes_back w 64 9 5 ⟨g, 0, none⟩ 2 [100, 0] Tryz.underlying64 Tryz.underlying5 Tryz.underlying9 (fun j hj => ?_)
  rw [show (⟨g, 0, none⟩ : Addr).add j = ⟨g, j, none⟩ by simp [Addr.add]; omega]
  rw [h.cell j]
  match j, hj with
  | 0, _ => rfl
  | 1, _ => rfl

set_option maxRecDepth 100000 in
set_option maxHeartbeats 3200000 in
theorem kept_any (B : Nat) (w : World) (v : Value) (xs : List (List UInt8)) (h : SBuf B w v xs) (hn : xs.length ≤ 60000) (hB : B ≤ w.heap.size) :
    Calls Tryz.prog 48 #[v, .int .i64 100] w fun e w' => ∃ g2 n2 c2 g3 n3 c3 g4 n4 c4 s, e = .returned (.agg #[v, .slice (some ⟨g2, 0, none⟩) n2 c2, .slice (some ⟨g3, 0, none⟩) n3 c3, .slice (some ⟨g4, 0, none⟩) n4 c4, .string s]) ∧ w.grownBy w' v.ownBlock := by
  have hs := kept_str ((w.alloc (.cells #[.slice none 0 0, .slice none 0 0, .slice none 0 0, .slice none 0 0, .string ⟨#[]⟩] 89)).alloc (.cells #[.int .u8 100, .int .u8 0] 5)) (w.heap.size + 1) (by simpa using Row.new (w.alloc (.cells #[.slice none 0 0, .slice none 0 0, .slice none 0 0, .slice none 0 0, .string ⟨#[]⟩] 89)) 5 [.int .u8 100, .int .u8 0])
  have hln := len_sbuf h
  go_enter Tryz.func48, Tryz.ntmps48
  go_wp2
  clear hs
  obtain ⟨X, hX⟩ : ∃ X : ByteArray, (({ data := #[109, 97, 114, 107] } : ByteArray) ++ { data := #[100, 0] }) = X := ⟨_, rfl⟩
  rw [hX]
  clear hX
  obtain ⟨W0, hW0⟩ : ∃ W0, ((w.alloc (.cells #[.slice none 0 0, .slice none 0 0, .slice none 0 0, .slice none 0 0, .string ⟨#[]⟩] 89)).alloc (.cells #[.int .u8 100, .int .u8 0] 5)) = W0 := ⟨_, rfl⟩
  have hz0 : W0.heap.size = w.heap.size + 2 := by rw [← hW0]; simp
  have g0 : Grow w W0 := by rw [← hW0]; exact ((Grow.refl w).alloc _).alloc _
  have hR0 : Row W0 w.heap.size 89 [.slice none 0 0, .slice none 0 0, .slice none 0 0, .slice none 0 0, .string ⟨#[]⟩] := by rw [← hW0]; exact (Row.new w 89 _).grow ((Grow.refl _).alloc _)
  have h0 : SBuf B W0 v xs := h.kept (g0.grown none) (by cases v.ownBlock <;> simp)
  rw [hW0]
  clear hW0
  have hvb : ∀ k, v.ownBlock = some k → k < w.heap.size := fun k hk => (h.block k hk).2
  go_loopw [6] (fun v6 wr => ∃ (k : Nat) (M : List (List UInt8)), v6 = .int .i64 k ∧ k ≤ xs.length ∧ M.length = xs.length ∧ SBuf B wr v M ∧ W0.grownBy wr v.ownBlock) (fun v6 _ => xs.length - (intOf v6).toNat)
  case atStart => exact ⟨0, xs, rfl, by omega, rfl, h0, (Grow.refl W0).grown _⟩
  case round =>
    obtain ⟨k, M, rfl, hk, hM, hb, hG⟩ := hrel
    have hzr := hG.size
    by_cases hlt : (k : Int) < (xs.length : Int)
    · obtain ⟨g, cap, rfl, hg1, hg2⟩ := hb.formNe (by omega)
      have hgl : g < w.heap.size := hvb g rfl
      have kc := hb.cell k (by omega)
      have kf := hb.free k
      have hb' := hb.set rfl k (bl X)
      have eX : strV (bl X) = .string X := by unfold strV; rfl
      rw [eX] at hb'
      have hlt2 : (k : Int) < (M.length : Int) := by omega
      clear hln
      go_wp2
      exact ⟨⟨k + 1, _, by go_num, by omega, by rw [List.length_set]; exact hM, hb', GB.trans hG ((Touch.refl g _).setCell k _).grown⟩, by simp [intOf]; omega⟩
    · have hM' : M.length ≤ 60000 := by omega
      have hRr : Row wr w.heap.size 89 [.slice none 0 0, .slice none 0 0, .slice none 0 0, .slice none 0 0, .string ⟨#[]⟩] := Row.gb hR0 hG (fun e => by have := hvb _ e.symm; omega)
      have hwb : some w.heap.size ≠ v.ownBlock := fun e => by have := hvb _ e.symm; omega
      have hwlt : w.heap.size < wr.heap.size := by omega
      have hGw : w.grownBy wr v.ownBlock := GB.trans (g0.grown _) hG
      have hge : ¬ (k : Int) < (M.length : Int) := by omega
      clear hz0 hR0 hk hG hlt hln h hM h0
      rcases hb.form with ⟨rfl, rfl⟩ | ⟨g, cap, rfl, _, _⟩
      all_goals
        go_wp2_with (first
          | (at_builtin; refine wpList_append_sbuf3 rfl (.tmp 28) (.tmp 30) 24 rfl B _ _ _ [bl X] rfl rfl (hb.alloc _) (by simp) (ssrc_one _ X _ rfl) (by first | (simp; done) | (simp; omega)) (by first | (simp; done) | (simp; omega)) ?_; intro g2 c2 w2 hg2 b2 gb2; have gw2 := GB.trans (GB.below ((Grow.refl _).grown _) ((Below.refl _ _).alloc (Nat.le_refl _) _)) gb2; have hz2 := gw2.size)
          | (at_builtin; refine wpList_append_sbuf3 rfl (.tmp 32) (.tmp 35) 24 rfl B _ _ _ [bl X, bl X] rfl rfl (b2.alloc _) (by simp) (ssrc_two _ X) (by first | (simp; done) | (simp; omega)) (by first | (simp; done) | (simp; omega)) ?_; intro g3 c3 w3 hg3 b3 gb3; have gw3 := GB.trans (GB.below ((Grow.refl _).grown _) ((Below.refl _ _).alloc (Nat.le_refl _) _)) gb3; have hz3 := gw3.size)
          | (at_builtin; refine wpList_append_sbuf3 rfl (.tmp 37) (.tmp 41) 24 rfl B _ _ _ [bl X, bl X, bl X] rfl rfl (b3.alloc _) (by simp) (ssrc_three _ X) (by first | (simp; done) | (simp; omega)) (by first | (simp; done) | (simp; omega)) ?_; intro g4 c4 w4 hg4 b4 gb4; have gw4 := GB.trans (GB.below ((Grow.refl _).grown _) ((Below.refl _ _).alloc (Nat.le_refl _) _)) gb4; have hR4 := Row.gb hRr (GB.trans (GB.trans gw2 gw3) gw4) hwb; have r0 : w4.cell? ⟨w.heap.size, 0, none⟩ = some (.slice none 0 0) := hR4.cell 0; have r1 : w4.cell? ⟨w.heap.size, 1, none⟩ = some (.slice none 0 0) := hR4.cell 1; have r2 : w4.cell? ⟨w.heap.size, 2, none⟩ = some (.slice none 0 0) := hR4.cell 2; have r3 : w4.cell? ⟨w.heap.size, 3, none⟩ = some (.slice none 0 0) := hR4.cell 3; have r4 : w4.cell? ⟨w.heap.size, 4, none⟩ = some (.string ⟨#[]⟩) := hR4.cell 4; have f0 := hR4.free 0; have f1 := hR4.free 1; have f2 := hR4.free 2; have f3 := hR4.free 3; have f4 := hR4.free 4))
        have G4 := GB.trans (GB.trans (GB.trans hGw gw2) gw3) gw4
      · have T5 := ((((((Touch.refl w.heap.size w4).setCell 0 (.slice none 0 0)).setCell 1 (.slice (some ⟨g2, 0, none⟩) 1 c2)).setCell 2 (.slice (some ⟨g3, 0, none⟩) 2 c3)).setCell 3 (.slice (some ⟨g4, 0, none⟩) 3 c4)).setCell 4 (.string X))
        refine bodyPost_ret (v := .agg #[.slice none 0 0, .slice (some ⟨g2, 0, none⟩) 1 c2, .slice (some ⟨g3, 0, none⟩) 2 c3, .slice (some ⟨g4, 0, none⟩) 3 c4, .string X]) (by simp [results, Tryz.results48, go_sem, World.cell?_setCell_same, World.cell?_setCell_other, r0, r1, r2, r3, r4]) rfl ?_
        exact ⟨⟨_, _, _, _, _, _, _, _, _, _, rfl⟩, GB.below G4 (T5.toBelow (Nat.le_refl _) G4.size)⟩
      · have T5 := ((((((Touch.refl w.heap.size w4).setCell 0 (.slice (some ⟨g, 0, none⟩) M.length cap)).setCell 1 (.slice (some ⟨g2, 0, none⟩) (M.length + 1) c2)).setCell 2 (.slice (some ⟨g3, 0, none⟩) (M.length + 2) c3)).setCell 3 (.slice (some ⟨g4, 0, none⟩) (M.length + 3) c4)).setCell 4 (.string X))
        refine bodyPost_ret (v := .agg #[.slice (some ⟨g, 0, none⟩) M.length cap, .slice (some ⟨g2, 0, none⟩) (M.length + 1) c2, .slice (some ⟨g3, 0, none⟩) (M.length + 2) c3, .slice (some ⟨g4, 0, none⟩) (M.length + 3) c4, .string X]) (by simp [results, Tryz.results48, go_sem, World.cell?_setCell_same, World.cell?_setCell_other, r0, r1, r2, r3, r4]) rfl ?_
        exact ⟨⟨_, _, _, _, _, _, _, _, _, _, rfl⟩, GB.below G4 (T5.toBelow (Nat.le_refl _) G4.size)⟩

end Go.Proofs.YtheichphnppagaaGreat
