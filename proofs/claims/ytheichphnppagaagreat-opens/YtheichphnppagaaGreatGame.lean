/- Opens: Game. -/
import Derived.Test.YtheichphnppagaaGreatList
import Derived.Test.YtheichphnppagaaGreatKeptS
import Derived.Deep.QuietTactic
namespace Go.Proofs.YtheichphnppagaaGreat
open Go.RowKit
attribute [local go_sem ↓] Go.wp_at_zero Go.wp_at_succ

/-- The game's cells. -/
def gmL (x y all : Value) : List Value := [x, .pointer none, .pointer none, y, .pointer none, .pointer none, all]

theorem bytes_same (B p : Nat) (st : St) (w : World) (h : Sto B w p st) :
    Calls Tryz.prog 14 #[.pointer (some ⟨p, 0, none⟩)] w fun e w' => e = .returned (strV st.text) ∧ w' = w := by
  obtain ⟨cb, sb, mb, fb, wv, cv, lf, n1, n2, D1, D2, F, G, h⟩ := h
  have k7 : w.cell? ⟨p, 7, none⟩ = some wv := h.row.cell 7
  have hs := run_string_buf w _ _ _ h.text
  go_enter Tryz.func14, Tryz.ntmps14
  go_wp2
  go_ret
  exact ⟨rfl, rfl⟩

theorem ba_nil (s : ByteArray) : (({ data := #[] } : ByteArray) ++ s) = s := by
  apply ByteArray.ext
  simp
theorem stoDrewN {B p : Nat} {st : St} {w : World} (h : Sto B w p st) (n : Nat) : Sto B (w.drewN n) p st := h.grow (below_drewN (Grow.refl _) _)

def Opened (b : Nat) (w w' : World) : Prop := w.grownBy w' (some b) ∧
  (Row w' b 47 (gmL (.pointer none) (.pointer none) (.slice none 0 0)) ∨
   ∃ p q st, Row w' b 47 (gmL (.pointer (some ⟨p, 0, none⟩)) (.pointer (some ⟨q, 0, none⟩)) (.slice none 0 0)) ∧ Sto w.heap.size w' p st ∧ Rf w.heap.size w' q st ∧ Sane st)

set_option maxRecDepth 100000 in
set_option maxHeartbeats 3200000 in
theorem game_open (b : Nat) (s : ByteArray) (w : World) (hr : Row w b 47 (gmL (.pointer none) (.pointer none) (.slice none 0 0))) (hs : s.size ≤ 9223372036854775807) :
    Calls Tryz.prog 20 #[.pointer (some ⟨b, 0, none⟩), .agg #[.int .i64 0, .int .i64 0, .int .i64 (-1), .string ⟨#[]⟩, .string s], .int .i64 0] w fun e w' => e = .returned (.bool true) ∧ Opened b w w' := by
  have hnot := not_law
  have hbl := hr.lt
  have g1 := (Grow.refl w).alloc (.cells #[.int .i64 0, .int .i64 0, .int .i64 (-1), .string ⟨#[]⟩, .string s] 51)
  have hr1 := hr.grow g1
  have y0 : (w.alloc (.cells #[.int .i64 0, .int .i64 0, .int .i64 (-1), .string ⟨#[]⟩, .string s] 51)).cell? ⟨b, 3, none⟩ = some (.pointer none) := hr1.cell 3
  go_enter Tryz.func20, Tryz.ntmps20
  go_wp2_with fail
  refine (text_nil _).mono ?_
  rintro e w9 ⟨rfl, ew⟩
  rw [ew]
  clear ew w9
  go_wp2_with fail
  rw [ba_nil s]
  refine (open_any s _).mono ?_
  rintro e w2 hO
  rcases hO with ⟨hn, rfl, G2⟩ | ⟨p, st, hsome, rfl, hS2, hSa, G2⟩
  · have N : Hid (openL (bl s) = none) := hn
    clear hn
    go_wp2_with fail
    refine (refOpen_any s _ hs).mono ?_
    rintro e w3 ⟨v, rfl, hR⟩
    rcases hR with ⟨_, rfl, G3⟩ | ⟨q, st', h', _⟩
    · have G := Grow.trans (Grow.trans g1 G2) G3
      go_wp2
      go_ret
      exact ⟨rfl, G.grown _, .inl (hr.grow G)⟩
    · have := N.out
      rw [h'] at this
      cases this
  · have N : Hid (openL (bl s) = some st) := hsome
    clear hsome
    go_wp2_with fail
    refine (refOpen_any s _ hs).mono ?_
    rintro e w3 ⟨v, rfl, hR⟩
    rcases hR with ⟨h', _⟩ | ⟨q, st', h', rfl, hR3, _, G3⟩
    · have := N.out
      rw [h'] at this
      cases this
    · obtain rfl : st = st' := by
        have := N.out
        rw [h'] at this
        exact (Option.some.inj this).symm
      clear h'
      have hS3 := hS2.grow G3
      have G := Grow.trans (Grow.trans g1 G2) G3
      have hz2 := G2.size
      have hz1 := g1.size
      have hr3 := hr.grow G
      obtain ⟨z, hz, hbz, _⟩ := str_name st.text
      have k4 : w3.cell? ⟨q, 4, none⟩ = some (.string z) := by
        obtain ⟨cv, sv, GG, hR⟩ := hR3
        rw [← hz]
        exact hR.row.cell 4
      have c14 := fun n => bytes_same _ p st (w3.drewN n) (stoDrewN hS3 n)
      rw [hz] at c14
      have x0 : w3.cell? ⟨b, 0, none⟩ = some (.pointer none) := hr3.cell 0
      have x3 : w3.cell? ⟨b, 3, none⟩ = some (.pointer none) := hr3.cell 3
      have f0 := hr3.free 0
      have f3 := hr3.free 3
      go_wp2_with fail
      go_quiet (first | (go_at_call 14; exact Calls.quiet_of_same (c14 _)))
      go_wp2
      go_ret
      have T := (((Touch.refl b (w3.drewN nq)).setCell 0 (.pointer (some ⟨p, 0, none⟩))).setCell 3 (.pointer (some ⟨q, 0, none⟩))).grown
      have gb := GB.trans (Grow.grown (below_drewN (Grow.refl w3) nq) (some b)) T
      have hrd : Row (w3.drewN nq) b 47 (gmL (.pointer none) (.pointer none) (.slice none 0 0)) := hr3
      exact ⟨rfl, GB.trans (G.grown _) gb, .inr ⟨p, q, st, (hrd.setCell 0 (.pointer (some ⟨p, 0, none⟩))).setCell 3 (.pointer (some ⟨q, 0, none⟩)), (hS3.low hz1).off gb hbl, (hR3.lowTo (Nat.le_trans hz1 hz2)).off gb hbl, hSa⟩⟩


set_option maxRecDepth 100000 in
set_option maxHeartbeats 3200000 in
theorem game_four (b B p q : Nat) (st : St) (all : Value) (w : World) (hr : Row w b 47 (gmL (.pointer (some ⟨p, 0, none⟩)) (.pointer (some ⟨q, 0, none⟩)) all)) (hS : Sto B w p st) (hR : Rf B w q st) (hsa : Sane st) :
    Calls Tryz.prog 18 #[.pointer (some ⟨b, 0, none⟩), .agg #[.int .i64 4, .int .i64 0, .int .i64 0, .string ⟨#[]⟩, .string ⟨#[]⟩], .int .i64 0] w fun e w' => e = .returned (.bool true) ∧ Grow w w' := by
  have hnot := not_law
  have g1 := (Grow.refl w).alloc (.cells #[.int .i64 4, .int .i64 0, .int .i64 0, .string ⟨#[]⟩, .string ⟨#[]⟩] 51)
  have hr1 := hr.grow g1
  have hS1 := hS.grow g1
  have hR1 := hR.grow g1
  obtain ⟨cv, sv, GG, hR1⟩ := hR1
  have c0 : (w.alloc (.cells #[.int .i64 4, .int .i64 0, .int .i64 0, .string ⟨#[]⟩, .string ⟨#[]⟩] 51)).cell? ⟨b, 0, none⟩ = some (.pointer (some ⟨p, 0, none⟩)) := hr1.cell 0
  have c3 : (w.alloc (.cells #[.int .i64 4, .int .i64 0, .int .i64 0, .string ⟨#[]⟩, .string ⟨#[]⟩] 51)).cell? ⟨b, 3, none⟩ = some (.pointer (some ⟨q, 0, none⟩)) := hr1.cell 3
  have q8 : (w.alloc (.cells #[.int .i64 4, .int .i64 0, .int .i64 0, .string ⟨#[]⟩, .string ⟨#[]⟩] 51)).cell? ⟨q, 8, none⟩ = some (.bool false) := hR1.row.cell 8
  have q5 : (w.alloc (.cells #[.int .i64 4, .int .i64 0, .int .i64 0, .string ⟨#[]⟩, .string ⟨#[]⟩] 51)).cell? ⟨q, 5, none⟩ = some cv := hR1.row.cell 5
  have hln := len_sbuf hR1.chunks
  have hcnt := hsa.count
  have htx := hsa.text
  have hrm := hsa.room
  go_enter Tryz.func18, Tryz.ntmps18
  go_wp2_with fail
  refine (pick_zero _).mono ?_
  rintro e w9 ⟨rfl, ew⟩
  rw [ew]
  clear ew w9
  go_wp2_with fail
  refine (chunks_count B p st _ hS1).mono ?_
  rintro e w9 ⟨rfl, ew⟩
  rw [ew]
  clear ew w9
  go_wp2
  go_ret
  exact ⟨rfl, g1⟩

end Go.Proofs.YtheichphnppagaaGreat
