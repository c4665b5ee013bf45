/- Opens: RKeep. -/
import Derived.Test.YtheichphnppagaaGreatRName
namespace Go.Proofs.YtheichphnppagaaGreat
open Go.RowKit
attribute [local go_sem ↓] Go.wp_at_zero Go.wp_at_succ

theorem SBuf.formNe {B : Nat} {w : World} {v : Value} {l : List (List UInt8)} (h : SBuf B w v l) (hl : 0 < l.length) : ∃ g cap, v = .slice (some ⟨g, 0, none⟩) l.length cap ∧ B ≤ g ∧ g < w.heap.size := by
  rcases h.form with ⟨_, h0⟩ | h
  · rw [h0] at hl; simp at hl
  · exact h
theorem wpList_append_sbuf2 {w : World} {ops : Array Oper} {rest : List Oper} {o : Oper} {a : Act} {Q : Exit → Act → World → Prop} (hgd : o.guard = none) (s x : Operand) (tx : TypeId)
    (ho : o.op = .call { callee := .builtin .append, args := #[s, x], argTypes := #[24, tx] })
    (B : Nat) (v xv : Value) (l news : List (List UInt8)) (hs : a.eval s = v) (hx : a.eval x = xv) (hown : SBuf B w v l) (hm : 0 < news.length) (hsrc : Src Tryz.prog 1 tx xv news.length (cellsOfStrs news) w)
    (hlen : l.length + news.length ≤ 100000000) (hB : B ≤ w.heap.size)
    (h : ∀ g cap w', SBuf B w' (.slice (some ⟨g, 0, none⟩) (l.length + news.length) cap) (l ++ news) → w.grownBy w' v.ownBlock → wpList Tryz.prog ops Q rest (a.put o.dst (.slice (some ⟨g, 0, none⟩) (l.length + news.length) cap)) w') : wpList Tryz.prog ops Q (o :: rest) a w := by
  obtain ⟨v', w', hr, h2, h3⟩ := run_append_sbuf w B tx o.type v xv l news hown hm hsrc hlen hB
  obtain ⟨g, cap, rfl, _, _⟩ := h2.formNe (by rw [List.length_append]; omega)
  rw [List.length_append] at h2 hr
  refine wpList_plain hgd fun K hK => ?_
  unfold Oper.wp execOp
  simp only [ho, resolve, invoke, builtin, Sem.run_bind, Sem.run_pure, Result.andThen_ok, List.map_toArray, List.map_cons, List.map_nil, hs, hx, hr]
  exact hK _ _ (h g cap w' h2 h3)

theorem own_heap2 {B : Nat} {w : World} {v : Value} {n g sz : Nat} {e : TypeId} {xs : List Value} (h : w.ownsRow B e sz v n xs) (hv : v.ownBlock = some g) : ∃ cur, w.heap[g]? = some (.cells cur e) := by
  rcases h.2 with ⟨rfl, _⟩ | ⟨g', cap, cur, rfl, _, hg, _⟩
  · simp [Value.ownBlock] at hv
  · simp only [Value.ownBlock, Option.some.injEq] at hv
    subst hv
    exact ⟨_, hg⟩
theorem own_apart2 {B B' : Nat} {w : World} {v v' : Value} {n n' sz sz' : Nat} {e e' : TypeId} {xs xs' : List Value} (h : w.ownsRow B e sz v n xs) (h' : w.ownsRow B' e' sz' v' n' xs') (hne : e ≠ e') : v.ownBlock = none ∨ v.ownBlock ≠ v'.ownBlock := by
  cases hv : v.ownBlock with
  | none => exact .inl rfl
  | some g =>
    refine .inr (fun e1 => ?_)
    obtain ⟨c1, h1⟩ := own_heap2 h hv
    obtain ⟨c2, h2⟩ := own_heap2 h' e1.symm
    rw [h1] at h2
    simp only [Option.some.injEq, Obj.cells.injEq] at h2
    exact hne h2.2.1
theorem own_kept2 {N B sz : Nat} {X : Nat → Prop} {w w' : World} {v : Value} {n : Nat} {e : TypeId} {xs : List Value} (h : w.ownsRow B e sz v n xs) (k : Chg N X w w') (hN : w.heap.size ≤ N) (hx : ∀ g, v.ownBlock = some g → ¬ X g) : w'.ownsRow B e sz v n xs := by
  refine ⟨h.1, ?_⟩
  rcases h.2 with hn | ⟨g, cap, cur, rfl, hb, hg, r⟩
  · exact .inl hn
  · have hlt := (Array.getElem?_eq_some_iff.1 hg).1
    exact .inr ⟨g, cap, cur, rfl, hb, (k.block g (by omega) (hx g rfl)).trans hg, r⟩
theorem own_ne_row2 {B : Nat} {w : World} {v : Value} {n b sz : Nat} {e t : TypeId} {xs l : List Value} (h : w.ownsRow B e sz v n xs) (hr : Row w b t l) (hne : e ≠ t) : v.ownBlock ≠ some b := fun hv => by
  obtain ⟨cur, hc⟩ := own_heap2 h hv
  unfold Row at hr
  rw [hc] at hr
  simp only [Option.some.injEq, Obj.cells.injEq] at hr
  exact hne hr.2.1

theorem keep_end {B : Nat} {w w1 : World} {q : Nat} {st : St} {cv sv nv : Value} {G : List UInt8 → Value} {c : List UInt8}
    (h : RfAt B w q st cv sv G) (hb : SBuf B w1 nv (st.chunks ++ [c])) (kg : w.grownBy w1 cv.ownBlock) :
    Rf B (w1.setCell ⟨q, 5, none⟩ nv) q { st with chunks := st.chunks ++ [c] } ∧ Below B w (w1.setCell ⟨q, 5, none⟩ nv) := by
  have hC : Chg w.heap.size (fun i => cv.ownBlock = some i ∨ i = q) w (w1.setCell ⟨q, 5, none⟩ nv) := (Chg.of_grown kg (Nat.le_refl _) (fun k _ e => .inl e)).trans (Chg.setCell _ _ _ (.inr rfl))
  have hR1 : Row w1 q 55 _ := (kg.block q h.row.lt (fun e => own_ne_row' h.chunks h.row (by decide) e.symm)).trans h.row
  have xown : ∀ {B' n sz : Nat} {ty : TypeId} {v : Value} {xs : List Value}, w.ownsRow B' ty sz v n xs → ty ≠ 9 → ty ≠ 55 → ∀ g, v.ownBlock = some g → ¬ (cv.ownBlock = some g ∨ g = q) := by
    rintro B' n sz ty v xs ho h5 h55 g hg (e | e)
    · have a1 := own_apart2 ho h.chunks h5
      rcases a1 with e1 | e1
      · rw [hg] at e1; cases e1
      · exact e1 (hg.trans e.symm)
    · exact own_ne_row2 ho h.row h55 (by rw [hg, e])
  refine ⟨⟨nv, sv, G, ?_⟩, hC.below (Nat.le_trans h.low (Nat.le_of_lt h.row.lt)) ?_⟩
  · exact { row := hR1.setCell 5 nv, chunks := own_kept (N := w1.heap.size) (X := fun i => i = q) hb (Chg.setCell _ _ _ rfl) (Nat.le_refl _) (fun g hg e => own_ne_row' hb hR1 (by decide) (by rw [hg, e])), strs := own_kept2 h.strs hC (Nat.le_refl _) (xown h.strs (by decide) (by decide)), num := fun x hx => own_kept (h.num x hx) hC (Nat.le_refl _) (xown (h.num x hx) (by decide) (by decide)), low := h.low }
  · rintro k (e | e)
    · exact (h.chunks.block k e).1
    · rw [e]; exact h.low

/-- May a chunk be kept? -/
def KeepOk (st : St) (t y : List UInt8) : Prop := 1 ≤ t.length ∧ t.length ≤ st.mx ∧ writtenL t = y ∧ t ∉ st.chunks
def Kept (B : Nat) (w w' : World) (q : Nat) (st : St) (t y : List UInt8) (b : Bool) : Prop :=
  Below B w w' ∧ ((b = true ∧ KeepOk st t y ∧ Rf B w' q { st with chunks := st.chunks ++ [t] }) ∨ (b = false ∧ ¬ KeepOk st t y ∧ Rf B w' q st))

set_option maxRecDepth 100000 in
set_option maxHeartbeats 1600000 in
theorem refKeep_any (t y : ByteArray) (B q : Nat) (st : St) (w : World) (h : Rf B w q st) (hB : B ≤ w.heap.size) (hmx : st.mx ≤ 200) (hl : st.chunks.length ≤ 100000) :
    Calls Tryz.prog 105 #[.pointer (some ⟨q, 0, none⟩), .string t, .string y] w fun e w' => ∃ b : Bool, e = .returned (.bool b) ∧ Kept B w w' q st (bl t) (bl y) b := by
  obtain ⟨cv, sv, G, h⟩ := h
  have k1 : w.cell? ⟨q, 1, none⟩ = some (.int .i64 st.mx) := h.row.cell 1
  have hbt := bl_length t
  by_cases h0 : t.size = 0
  · have q0 : (t.toList == []) = true := by rw [toList_bl]; have := List.eq_nil_of_length_eq_zero (hbt.trans h0); rw [this]; rfl
    have q0' : t.toList.isEmpty = true := by rw [toList_bl]; have := List.eq_nil_of_length_eq_zero (hbt.trans h0); rw [this]; rfl
    have N : Hid (¬ KeepOk st (bl t) (bl y)) := fun hh => by have := hh.1; omega
    clear h0
    go_enter Tryz.func105, Tryz.ntmps105
    go_wp2
    go_ret
    exact ⟨false, rfl, Below.refl _ _, .inr ⟨rfl, N.out, cv, sv, G, h⟩⟩
  · have q0' : t.toList.isEmpty = false := toList_some h0
    have hp : (0 : Int) < (t.size : Int) := by omega
    by_cases hm : (st.mx : Int) < (t.size : Int)
    · have N : Hid (¬ KeepOk st (bl t) (bl y)) := fun hh => by have := hh.2.1; omega
      clear h0
      go_enter Tryz.func105, Tryz.ntmps105
      go_wp2
      go_ret
      exact ⟨false, rfl, Below.refl _ _, .inr ⟨rfl, N.out, cv, sv, G, h⟩⟩
    · obtain ⟨z, hz, hbz, hzz⟩ := str_name (writtenL (bl t))
      have c1 := fun W => refWritten_any t W (by omega)
      rw [hz] at c1
      clear hz hzz h0
      by_cases he : bl z = bl y
      · have q1 : (z.toList == y.toList) = true := by rw [toList_bl, toList_bl, he]; simp
        have HE : Hid (writtenL (bl t) = bl y) := hbz.out.symm.trans he
        clear he
        go_enter Tryz.func105, Tryz.ntmps105
        go_wp2_with fail
        refine (c1 _).mono ?_
        rintro e w1 ⟨rfl, hG1⟩
        have h1 := h.grow hG1
        have hz1 := hG1.size
        go_wp2_with fail
        refine (refChunk_any t B q st _ ⟨cv, sv, G, h1⟩ hl).mono ?_
        rintro e w9 ⟨n, rfl, ew, hn1, hn2⟩
        rw [ew]
        clear ew w9
        by_cases hin : (0 : Int) ≤ n
        · have N : Hid (¬ KeepOk st (bl t) (bl y)) := fun hh => hh.2.2.2 (hn2.1 hin)
          clear hn2
          go_wp2
          go_ret
          exact ⟨false, rfl, hG1.low hB, .inr ⟨rfl, N.out, cv, sv, G, h1⟩⟩
        · have K : Hid (KeepOk st (bl t) (bl y)) := ⟨by omega, by omega, HE.out, fun hh => hin (hn2.2 hh)⟩
          clear hn2
          have k5 : w1.cell? ⟨q, 5, none⟩ = some cv := h1.row.cell 5
          have hf5 := h1.row.free 5
          have hlt := h1.row.lt
          have hqc : some q ≠ cv.ownBlock := fun e => own_ne_row' h1.chunks h1.row (by decide) e.symm
          have S := ssrc_one w1 t (bl t) rfl
          have hA := h1.grow ((Grow.refl w1).alloc (.cells #[.string t] 9))
          go_wp2_with (at_builtin; refine wpList_append_sbuf2 rfl (.tmp 35) (.tmp 37) 24 rfl B cv _ st.chunks [bl t] rfl rfl hA.chunks (by simp) S (by simp; omega) (by simp; omega) ?_; intro g2 cap2 w2 hb2 hg2; have k25 : w2.cell? ⟨q, 5, none⟩ = some cv := (hg2.cell_far _ (by simp; omega) hqc).trans (hA.row.cell 5); have hf2 : w2.frozen? ⟨q, 5, none⟩ = false := (hg2.frozen_far _ (by simp; omega) hqc).trans (hA.row.free 5))
          go_ret
          obtain ⟨r1, r2⟩ := keep_end hA hb2 hg2
          exact ⟨true, rfl, (hG1.low hB).trans ((((Grow.refl w1).alloc _).low (by omega)).trans r2), .inl ⟨rfl, K.out, r1⟩⟩
      · have q1 : (z.toList == y.toList) = false := by rw [toList_bl, toList_bl]; simpa using he
        have N : Hid (¬ KeepOk st (bl t) (bl y)) := fun hh => he (hbz.out.trans hh.2.2.1)
        clear he
        go_enter Tryz.func105, Tryz.ntmps105
        go_wp2_with fail
        refine (c1 _).mono ?_
        rintro e w1 ⟨rfl, hG1⟩
        go_wp2
        go_ret
        exact ⟨false, rfl, hG1.low hB, .inr ⟨rfl, N.out, cv, sv, G, h.grow hG1⟩⟩

end Go.Proofs.YtheichphnppagaaGreat
