/- THE WALKS of larderlaw.reads, stays and keptInts. -/
import Derived.Test.YtheichphnppagaaMarks
namespace Go.Proofs.Ytheichphnppagaa
open Go.RowKit

theorem mk_form {B : Nat} {w : World} {v : Value} {n : Nat} {c : Int} (h : IBuf B w v (mk n c)) : (v = .slice none 0 0 ∧ n = 0) ∨ ∃ g cap, v = .slice (some ⟨g, 0, none⟩) n cap ∧ B ≤ g ∧ g < w.heap.size ∧ ∀ j, j < n → w.cell? ⟨g, j, none⟩ = some (.int .i64 c) := by
  rcases h.form with ⟨rfl, e⟩ | ⟨g, cap, rfl, hb, hg⟩
  · exact .inl ⟨rfl, by simpa using e⟩
  · refine .inr ⟨g, cap, by simp, hb, hg, fun j hj => ?_⟩
    rw [h.cell j (by simpa using hj)]
    simp [List.getD_eq_getElem?_getD, hj]

set_option maxRecDepth 100000 in
set_option maxHeartbeats 1600000 in
theorem reads_any (B : Nat) (w : World) (v : Value) (n : Nat) (c : Int) (h : IBuf B w v (mk n c)) (hn : n ≤ 1000000) :
    Calls Try.prog 24 #[v, .int .i64 c] w fun e w' => e = .returned (.bool true) ∧ w' = w := by
  rcases mk_form h with ⟨rfl, rfl⟩ | ⟨g, cap, rfl, hb, hg, hc⟩
  · go_enter Try.func24, Try.ntmps24
    go_wp2
    go_loop [5] (fun v5 => v5 = .int .i64 0) (fun _ => 0)
    case atStart => rfl
    case round =>
      subst hrel
      go_wp2
      go_ret
      exact ⟨rfl, rfl⟩
  · go_enter Try.func24, Try.ntmps24
    go_wp2
    go_loop [5] (fun v5 => ∃ i : Nat, v5 = .int .i64 i ∧ i ≤ n) (fun v5 => n - (intOf v5).toNat)
    case atStart => exact ⟨0, rfl, by omega⟩
    case round =>
      obtain ⟨i, rfl, hi⟩ := hrel
      by_cases hlt : (i : Int) < (n : Int)
      · have hci := hc i (by omega)
        go_wp2
        exact ⟨⟨i + 1, by go_num, by omega⟩, by simp [intOf]; omega⟩
      · go_wp2
        go_ret
        exact ⟨rfl, rfl⟩

set_option maxRecDepth 100000 in
set_option maxHeartbeats 1600000 in
theorem stays_any (B : Nat) (w : World) (v1 v2 v3 v4 : Value) (n1 n2 n3 n4 : Nat) (c : Int) (h1 : IBuf B w v1 (mk n1 c)) (h2 : IBuf B w v2 (mk n2 c)) (h3 : IBuf B w v3 (mk n3 c)) (h4 : IBuf B w v4 (mk n4 c))
    (l1 : n1 ≤ 1000000) (l2 : n2 ≤ 1000000) (l3 : n3 ≤ 1000000) (l4 : n4 ≤ 1000000) :
    Calls Try.prog 11 #[.agg #[v1, v2, v3, v4, .int .i64 c]] w fun e w' => e = .returned (.bool true) ∧ Below w.heap.size w w' := by
  have hB : Below w.heap.size w (w.alloc (.cells #[v1, v2, v3, v4, .int .i64 c] 29)) := (Below.refl _ _).alloc (Nat.le_refl _) _
  go_enter Try.func11, Try.ntmps11
  go_wp2_with fail
  refine (reads_any B _ v1 n1 c (h1.alloc _) l1).mono ?_
  rintro e w' ⟨rfl, rfl⟩
  go_wp2_with fail
  refine (reads_any B _ v2 n2 c (h2.alloc _) l2).mono ?_
  rintro e w' ⟨rfl, rfl⟩
  go_wp2_with fail
  refine (reads_any B _ v3 n3 c (h3.alloc _) l3).mono ?_
  rintro e w' ⟨rfl, rfl⟩
  go_wp2_with fail
  refine (reads_any B _ v4 n4 c (h4.alloc _) l4).mono ?_
  rintro e w' ⟨rfl, rfl⟩
  go_wp2
  go_ret
  exact ⟨rfl, hB⟩

theorem IBuf.set' {B : Nat} {w : World} {g cap n : Nat} {l : List Int} (hn : l.length = n) (h : IBuf B w (.slice (some ⟨g, 0, none⟩) n cap) l) (j : Nat) (c : Int) : IBuf B (w.setCell ⟨g, j, none⟩ (.int .i64 c)) (.slice (some ⟨g, 0, none⟩) n cap) (l.set j c) := by
  subst hn
  exact h.set j c
theorem IBuf.cell' {B : Nat} {w : World} {g cap n : Nat} {l : List Int} (hn : l.length = n) (h : IBuf B w (.slice (some ⟨g, 0, none⟩) n cap) l) (j : Nat) (hj : j < n) : w.cell? ⟨g, j, none⟩ = some (.int .i64 (l.getD j 0)) := by
  subst hn
  exact h.cell j hj
theorem IBuf.free {B : Nat} {w : World} {g cap n : Nat} {l : List Int} (h : IBuf B w (.slice (some ⟨g, 0, none⟩) n cap) l) (j : Nat) : w.frozen? ⟨g, j, none⟩ = false := by
  rcases h.2 with ⟨e, _⟩ | ⟨g', cap', cur, e, hb, hg, _⟩
  · simp at e
  · simp only [Value.slice.injEq, Option.some.injEq, Addr.mk.injEq, and_true] at e
    obtain ⟨rfl, _⟩ := e
    simp [World.frozen?, hg]
theorem mk_set (xs : List Int) (k : Nat) (c : Int) (hk : k < xs.length) : (mk k c ++ xs.drop k).set k c = mk (k + 1) c ++ xs.drop (k + 1) := by
  rw [List.set_append_right _ _ (by simp), List.length_replicate, Nat.sub_self, List.drop_eq_getElem_cons hk, List.set_cons_zero]
  show _ = List.replicate (k + 1) c ++ _
  rw [List.replicate_succ', List.append_assoc]
  rfl
theorem mk_len (xs : List Int) (k : Nat) (c : Int) (hk : k ≤ xs.length) : (mk k c ++ xs.drop k).length = xs.length := by simp; omega

theorem mk_some {B : Nat} {w : World} {v : Value} {n k : Nat} {c : Int} (h : IBuf B w v (mk (n + k) c)) (hk : 0 < k) : ∃ g cap, v = .slice (some ⟨g, 0, none⟩) (n + k) cap := by
  rcases mk_form h with ⟨_, e⟩ | ⟨g, cap, e, _⟩
  · omega
  · exact ⟨g, cap, e⟩
theorem isrc_one' (w : World) (c : Int) : Src Try.prog 1 24 (.slice (some ⟨w.heap.size, 0, none⟩) 1 1) 1 (cellsOfInts (mk 1 c)) (w.alloc (.cells #[.int .i64 c] 3)) := isrc_one w c

set_option maxRecDepth 100000 in
set_option maxHeartbeats 1600000 in
theorem kept_some (B : Nat) (w : World) (g cap : Nat) (xs : List Int) (c : Int) (h : IBuf B w (.slice (some ⟨g, 0, none⟩) xs.length cap) xs) (hn : xs.length ≤ 2000) :
    Calls Try.prog 10 #[.slice (some ⟨g, 0, none⟩) xs.length cap, .int .i64 c] w fun e w' => ∃ v2 v3 v4, e = .returned (.agg #[.slice (some ⟨g, 0, none⟩) xs.length cap, v2, v3, v4, .int .i64 c]) ∧
      IBuf B w' (.slice (some ⟨g, 0, none⟩) xs.length cap) (mk xs.length c) ∧ IBuf B w' v2 (mk (xs.length + 1) c) ∧ IBuf B w' v3 (mk (xs.length + 2) c) ∧ IBuf B w' v4 (mk (xs.length + 3) c) ∧ w.grownBy w' (some g) := by
  have hg : g < w.heap.size := by
    rcases h.form with ⟨e, _⟩ | ⟨g', cap', e, _, hg⟩
    · simp at e
    · simp only [Value.slice.injEq, Option.some.injEq, Addr.mk.injEq, and_true, true_and] at e
      omega
  have hgB : B ≤ g := (h.block g rfl).1
  go_enter Try.func10, Try.ntmps10
  go_wp2
  obtain ⟨W0, hW0⟩ : ∃ W0, w.alloc (.cells #[.slice none 0 0, .slice none 0 0, .slice none 0 0, .slice none 0 0, .int .i64 0] 29) = W0 := ⟨_, rfl⟩
  have hz0 : W0.heap.size = w.heap.size + 1 := by rw [← hW0]; simp
  have hR0 : Row W0 w.heap.size 29 [.slice none 0 0, .slice none 0 0, .slice none 0 0, .slice none 0 0, .int .i64 0] := by rw [← hW0]; exact Row.new w 29 _
  have hB0 : w.grownBy W0 (some g) := by rw [← hW0]; exact GB.below (GB.refl _ _) ((Below.refl _ _).alloc (Nat.le_refl _) _)
  have h0 : IBuf B W0 (.slice (some ⟨g, 0, none⟩) xs.length cap) xs := by rw [← hW0]; exact h.alloc _
  rw [hW0]
  clear hW0
  go_loopw [5] (fun v5 wr => ∃ k : Nat, v5 = .int .i64 k ∧ k ≤ xs.length ∧ IBuf B wr (.slice (some ⟨g, 0, none⟩) xs.length cap) (mk k c ++ xs.drop k) ∧ W0.grownBy wr (some g)) (fun v5 _ => xs.length - (intOf v5).toNat)
  case atStart => exact ⟨0, rfl, by omega, h0, GB.refl _ _⟩
  case round =>
    obtain ⟨k, rfl, hk, hb, hG⟩ := hrel
    by_cases hlt : (k : Int) < (xs.length : Int)
    · have hc := hb.cell' (mk_len xs k c hk) k (by omega)
      have hf := hb.free k
      have hb' := hb.set' (mk_len xs k c hk) k c
      rw [mk_set xs k c (by omega)] at hb'
      go_wp2
      exact ⟨⟨k + 1, by go_num, by omega, hb', GB.trans hG (((Touch.refl g _).setCell k _).grown)⟩, by simp [intOf]; omega⟩
    · have ek : k = xs.length := by omega
      subst ek
      rw [List.drop_length, List.append_nil] at hb
      have hzr := hG.size
      have hRr := hR0.gb hG (by simp; omega)
      go_wp2_with (first
        | (at_builtin; refine wpList_append_mk rfl (.tmp 19) (.tmp 21) 24 rfl B _ _ xs.length 1 c rfl rfl (hb.alloc _) (by omega) (isrc_one' _ c) (by omega) (by simp; omega) ?_; intro v2 w2 b2 gb2 fr2 ke2; have hv2 := ke2 _ _ (hb.alloc _); have gw2 := GB.trans (GB.below (GB.refl _ _) ((Below.refl _ _).alloc (Nat.le_refl _) _)) gb2; have hz2 := gw2.size)
        | (at_builtin; refine wpList_append_mk rfl (.tmp 23) (.tmp 26) 24 rfl B _ _ xs.length 2 c rfl rfl (hv2.alloc _) (by omega) (isrc_two _ c) (by omega) (by simp; omega) ?_; intro v3 w3 b3 gb3 fr3 ke3; have hv3 := ke3 _ _ (hv2.alloc _); have b23 := ke3 _ _ (b2.alloc _); have gw3 := GB.trans (GB.below (GB.refl _ _) ((Below.refl _ _).alloc (Nat.le_refl _) _)) gb3; have hz3 := gw3.size)
        | (at_builtin; refine wpList_append_mk rfl (.tmp 28) (.tmp 32) 24 rfl B _ _ xs.length 3 c rfl rfl (hv3.alloc _) (by omega) (isrc_three _ c) (by omega) (by simp; omega) ?_; intro v4 w4 b4 gb4 fr4 ke4; have hv4 := ke4 _ _ (hv3.alloc _); have b24 := ke4 _ _ (b23.alloc _); have b34 := ke4 _ _ (b3.alloc _); have gw4 := GB.trans (GB.below (GB.refl _ _) ((Below.refl _ _).alloc (Nat.le_refl _) _)) gb4; have hR4 : Row w4 w.heap.size 29 [.slice none 0 0, .slice none 0 0, .slice none 0 0, .slice none 0 0, .int .i64 0] := Row.gb hRr (GB.trans (GB.trans gw2 gw3) gw4) (fun e => by have e2 : w.heap.size = g := Option.some.inj e; omega); have n2 := fr2 w.heap.size (by simp only [World.size_alloc]; omega) (fun e => by have e2 : g = w.heap.size := Option.some.inj e; omega); have n3 := fr3 w.heap.size (by simp only [World.size_alloc]; omega) (fun e => by have e2 : g = w.heap.size := Option.some.inj e; omega); have n4 := fr4 w.heap.size (by simp only [World.size_alloc]; omega) (fun e => by have e2 : g = w.heap.size := Option.some.inj e; omega); obtain ⟨g2, cap2, rfl⟩ := mk_some b24 (by omega); obtain ⟨g3, cap3, rfl⟩ := mk_some b34 (by omega); obtain ⟨g4, cap4, rfl⟩ := mk_some b4 (by omega); have r0 : w4.cell? ⟨w.heap.size, 0, none⟩ = some (.slice none 0 0) := hR4.cell 0; have r1 : w4.cell? ⟨w.heap.size, 1, none⟩ = some (.slice none 0 0) := hR4.cell 1; have r2 : w4.cell? ⟨w.heap.size, 2, none⟩ = some (.slice none 0 0) := hR4.cell 2; have r3 : w4.cell? ⟨w.heap.size, 3, none⟩ = some (.slice none 0 0) := hR4.cell 3; have r4 : w4.cell? ⟨w.heap.size, 4, none⟩ = some (.int .i64 0) := hR4.cell 4; have f0 := hR4.free 0; have f1 := hR4.free 1; have f2 := hR4.free 2; have f3 := hR4.free 3; have f4 := hR4.free 4))
      have T5 := ((((((Touch.refl w.heap.size w4).setCell 0 (.slice (some ⟨g, 0, none⟩) xs.length cap)).setCell 1 (.slice (some ⟨g2, 0, none⟩) (xs.length + 1) cap2)).setCell 2 (.slice (some ⟨g3, 0, none⟩) (xs.length + 2) cap3)).setCell 3 (.slice (some ⟨g4, 0, none⟩) (xs.length + 3) cap4)).setCell 4 (.int .i64 c))
      have G4 : w.grownBy w4 (some g) := GB.trans (GB.trans (GB.trans (GB.trans hB0 hG) gw2) gw3) gw4
      refine bodyPost_ret (v := .agg #[.slice (some ⟨g, 0, none⟩) xs.length cap, .slice (some ⟨g2, 0, none⟩) (xs.length + 1) cap2, .slice (some ⟨g3, 0, none⟩) (xs.length + 2) cap3, .slice (some ⟨g4, 0, none⟩) (xs.length + 3) cap4, .int .i64 c]) (by simp [results, Try.results10, go_sem, World.cell?_setCell_same, World.cell?_setCell_other, r0, r1, r2, r3, r4]) rfl ?_
      exact ⟨_, _, _, rfl, hv4.touch T5 (fun e => by have e2 : g = w.heap.size := Option.some.inj e; omega), b24.touch T5 n2, b34.touch T5 n3, b4.touch T5 n4, GB.below G4 (T5.toBelow (Nat.le_refl _) G4.size)⟩

set_option maxRecDepth 100000 in
set_option maxHeartbeats 1600000 in
theorem kept_nil (B : Nat) (w : World) (c : Int) (hBw : B ≤ w.heap.size) :
    Calls Try.prog 10 #[.slice none 0 0, .int .i64 c] w fun e w' => ∃ v2 v3 v4, e = .returned (.agg #[.slice none 0 0, v2, v3, v4, .int .i64 c]) ∧
      IBuf B w' v2 (mk (0 + 1) c) ∧ IBuf B w' v3 (mk (0 + 2) c) ∧ IBuf B w' v4 (mk (0 + 3) c) ∧ w.grownBy w' none := by
  go_enter Try.func10, Try.ntmps10
  go_wp2
  obtain ⟨W0, hW0⟩ : ∃ W0, w.alloc (.cells #[.slice none 0 0, .slice none 0 0, .slice none 0 0, .slice none 0 0, .int .i64 0] 29) = W0 := ⟨_, rfl⟩
  have hz0 : W0.heap.size = w.heap.size + 1 := by rw [← hW0]; simp
  have hR0 : Row W0 w.heap.size 29 [.slice none 0 0, .slice none 0 0, .slice none 0 0, .slice none 0 0, .int .i64 0] := by rw [← hW0]; exact Row.new w 29 _
  have hB0 : w.grownBy W0 none := by rw [← hW0]; exact GB.below (GB.refl _ _) ((Below.refl _ _).alloc (Nat.le_refl _) _)
  rw [hW0]
  clear hW0
  go_loopw [5] (fun v5 wr => v5 = .int .i64 0 ∧ wr = W0) (fun _ _ => 0)
  case atStart => exact ⟨rfl, rfl⟩
  case round =>
    obtain ⟨rfl, rfl⟩ := hrel
    · have hb : IBuf B wr (.slice none 0 0) (mk 0 c) := IBuf.nil _ _
      have hRr := hR0
      have hzr : w.heap.size < wr.heap.size := by omega
      clear hz0 hR0
      go_wp2_with (first
        | (at_builtin; refine wpList_append_mk rfl (.tmp 19) (.tmp 21) 24 rfl B _ _ 0 1 c rfl rfl (hb.alloc _) (by omega) (isrc_one' _ c) (by omega) (by simp; omega) ?_; intro v2 w2 b2 gb2 fr2 ke2; have hv2 := ke2 _ _ (hb.alloc _); have gw2 := GB.trans (GB.below (GB.refl _ _) ((Below.refl _ _).alloc (Nat.le_refl _) _)) gb2; have hz2 := gw2.size)
        | (at_builtin; refine wpList_append_mk rfl (.tmp 23) (.tmp 26) 24 rfl B _ _ 0 2 c rfl rfl (hv2.alloc _) (by omega) (isrc_two _ c) (by omega) (by simp; omega) ?_; intro v3 w3 b3 gb3 fr3 ke3; have hv3 := ke3 _ _ (hv2.alloc _); have b23 := ke3 _ _ (b2.alloc _); have gw3 := GB.trans (GB.below (GB.refl _ _) ((Below.refl _ _).alloc (Nat.le_refl _) _)) gb3; have hz3 := gw3.size)
        | (at_builtin; refine wpList_append_mk rfl (.tmp 28) (.tmp 32) 24 rfl B _ _ 0 3 c rfl rfl (hv3.alloc _) (by omega) (isrc_three _ c) (by omega) (by simp; omega) ?_; intro v4 w4 b4 gb4 fr4 ke4; have hv4 := ke4 _ _ (hv3.alloc _); have b24 := ke4 _ _ (b23.alloc _); have b34 := ke4 _ _ (b3.alloc _); have gw4 := GB.trans (GB.below (GB.refl _ _) ((Below.refl _ _).alloc (Nat.le_refl _) _)) gb4; have hR4 : Row w4 w.heap.size 29 [.slice none 0 0, .slice none 0 0, .slice none 0 0, .slice none 0 0, .int .i64 0] := Row.gb hRr (GB.trans (GB.trans gw2 gw3) gw4) (fun e => by cases e); have n2 := fr2 w.heap.size (by simp only [World.size_alloc]; omega) (fun e => by cases e); have n3 := fr3 w.heap.size (by simp only [World.size_alloc]; omega) (fun e => by cases e); have n4 := fr4 w.heap.size (by simp only [World.size_alloc]; omega) (fun e => by cases e); obtain ⟨g2, cap2, rfl⟩ := mk_some b24 (by omega); obtain ⟨g3, cap3, rfl⟩ := mk_some b34 (by omega); obtain ⟨g4, cap4, rfl⟩ := mk_some b4 (by omega); have r0 : w4.cell? ⟨w.heap.size, 0, none⟩ = some (.slice none 0 0) := hR4.cell 0; have r1 : w4.cell? ⟨w.heap.size, 1, none⟩ = some (.slice none 0 0) := hR4.cell 1; have r2 : w4.cell? ⟨w.heap.size, 2, none⟩ = some (.slice none 0 0) := hR4.cell 2; have r3 : w4.cell? ⟨w.heap.size, 3, none⟩ = some (.slice none 0 0) := hR4.cell 3; have r4 : w4.cell? ⟨w.heap.size, 4, none⟩ = some (.int .i64 0) := hR4.cell 4; have f0 := hR4.free 0; have f1 := hR4.free 1; have f2 := hR4.free 2; have f3 := hR4.free 3; have f4 := hR4.free 4))
      have T5 := ((((((Touch.refl w.heap.size w4).setCell 0 (.slice none 0 0)).setCell 1 (.slice (some ⟨g2, 0, none⟩) (0 + 1) cap2)).setCell 2 (.slice (some ⟨g3, 0, none⟩) (0 + 2) cap3)).setCell 3 (.slice (some ⟨g4, 0, none⟩) (0 + 3) cap4)).setCell 4 (.int .i64 c))
      have G4 : w.grownBy w4 none := GB.trans (GB.trans (GB.trans hB0 gw2) gw3) gw4
      refine bodyPost_ret (v := .agg #[.slice none 0 0, .slice (some ⟨g2, 0, none⟩) (0 + 1) cap2, .slice (some ⟨g3, 0, none⟩) (0 + 2) cap3, .slice (some ⟨g4, 0, none⟩) (0 + 3) cap4, .int .i64 c]) (by simp [results, Try.results10, go_sem, World.cell?_setCell_same, World.cell?_setCell_other, r0, r1, r2, r3, r4]) rfl ?_
      exact ⟨_, _, _, rfl, b24.touch T5 n2, b34.touch T5 n3, b4.touch T5 n4, GB.below G4 (T5.toBelow (Nat.le_refl _) G4.size)⟩


end Go.Proofs.Ytheichphnppagaa
