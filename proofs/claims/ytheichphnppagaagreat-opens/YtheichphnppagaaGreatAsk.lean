/- Opens: Frames, Ask. -/
import Derived.Test.YtheichphnppagaaGreatTake
import Derived.Test.YtheichphnppagaaGreatFirst
namespace Go.Proofs.YtheichphnppagaaGreat
open Go.RowKit
attribute [local go_sem ↓] Go.wp_at_zero Go.wp_at_succ

theorem step_append_buf {w : World} {ops : Array Oper} {o : Oper} {a : Act} {K : Act → World → Prop} {Q : Exit → Act → World → Prop} {E : Prop} (hgd : o.guard = none) (s x : Operand) (tx : TypeId)
    (ho : o.op = .call { callee := .builtin .append, args := #[s, x], argTypes := #[64, tx] })
    (B : Nat) (v xv : Value) (l news : List UInt8) (hs : a.eval s = v) (hx : a.eval x = xv) (hown : Buf B w v l) (hm : 0 < news.length) (hsrc : Src Tryz.prog 1 tx xv news.length (cellsOfBytes news) w)
    (hlen : l.length + news.length ≤ 100000000) (hB : B ≤ w.heap.size)
    (h : ∀ g cap w', Buf B w' (.slice (some ⟨g, 0, none⟩) (l ++ news).length cap) (l ++ news) → w.grownBy w' v.ownBlock → K (a.put o.dst (.slice (some ⟨g, 0, none⟩) (l ++ news).length cap)) w') :
    if Region.wanted o (yielded ops a.tmps) = true then Oper.wp Tryz.prog o a w K Q else E := by
  have hw : Region.wanted o (yielded ops a.tmps) = true := by simp [Region.wanted, hgd]
  rw [if_pos hw]
  obtain ⟨i0, hi, hz0, hz1, hz2⟩ := info_parts Tryz.info5
  obtain ⟨v', w', hr, h2, h3⟩ := run_append_own_src w B 64 tx o.type 5 i0 (.int .u8 0) 1 Tryz.underlying64 hi hz0 hz1 hz2 rfl v l.length (cellsOfBytes l) hown xv news.length (cellsOfBytes news) hm hsrc
    (by simp only [maxLen]; omega) (by omega) hB
  have h2' : Buf B w' v' (l ++ news) := by
    unfold Buf
    rw [List.length_append, cellsOfBytes_append]
    exact h2
  obtain ⟨g, cap, rfl, _, _⟩ := h2'.formNe (fun e => by have := congrArg List.length e; rw [List.length_append, List.length_nil] at this; omega)
  unfold Oper.wp execOp
  simp only [ho, resolve, invoke, builtin, Sem.run_bind, Sem.run_pure, Result.andThen_ok, List.map_toArray, List.map_cons, List.map_nil, hs, hx, hr]
  exact h g cap w' h2' h3

theorem text_end {B : Nat} {w w1 : World} {p : Nat} {st : St} {cb sb mb fb : Nat} {wv cv : Value} {lf : Int} {n1 n2 : Nat} {D1 D2 : DataW Value} {F G : List UInt8 → Value} {nv : Value} {t : List UInt8}
    (h : StoAt B w p st cb sb mb fb wv cv lf n1 n2 D1 D2 F G) (hb : Buf B w1 nv t) (kg : w.grownBy w1 wv.ownBlock) :
    Sto B (w1.setCell ⟨p, 7, none⟩ nv) p { st with text := t } ∧ Below B w (w1.setCell ⟨p, 7, none⟩ nv) := by
  have hC : Chg w.heap.size (fun i => wv.ownBlock = some i ∨ i = p) w (w1.setCell ⟨p, 7, none⟩ nv) := (Chg.of_grown kg (Nat.le_refl _) (fun k _ e => .inl e)).trans (Chg.setCell _ _ _ (.inr rfl))
  obtain ⟨lc, hlc⟩ := rest_row h.cut
  have hR1 : Row w1 p 83 _ := (kg.block p h.row.lt (fun e => own_ne_row' h.text h.row (by decide) e.symm)).trans h.row
  have xrow : ∀ {b : Nat} {ty : TypeId} {l : List Value}, Row w b ty l → ty ≠ 5 → ty ≠ 83 → ¬ (wv.ownBlock = some b ∨ b = p) := by
    rintro b ty l hr h5 h83 (e | e)
    · exact own_ne_row' h.text hr (fun e => h5 e.symm) e
    · exact rows_ne hr h.row h83 e
  have xmap : ∀ {b n : Nat} {ty : TypeId} {D : DataW Value}, w.ownsMap Tryz.prog ty RH b n D → ¬ (wv.ownBlock = some b ∨ b = p) := by
    rintro b n ty D hm (e | e)
    · exact map_ne_own hm h.text e
    · exact map_ne_row hm h.row e
  have xown : ∀ {B' n : Nat} {ty : TypeId} {v : Value} {xs : List Value}, w.ownsRow B' ty 1 v n xs → ty ≠ 5 → ty ≠ 83 → ∀ g, v.ownBlock = some g → ¬ (wv.ownBlock = some g ∨ g = p) := by
    rintro B' n ty v xs ho h5 h83 g hg (e | e)
    · rcases own_apart ho h.text h5 with e1 | e1
      · rw [hg] at e1; cases e1
      · exact e1 (hg.trans e.symm)
    · exact own_ne_row' ho h.row h83 (by rw [hg, e])
  refine ⟨⟨cb, sb, mb, fb, nv, cv, lf, n1, n2, D1, D2, F, G, ?_⟩, hC.below (Nat.le_trans h.low.1 (Nat.le_of_lt h.row.lt)) ?_⟩
  · refine { h with row := hR1.setCell 7 nv, cut := rest_kept h.cut hC (Nat.le_refl _) (xrow hlc (by decide) (by decide)), shelf := row_kept h.shelf hC (Nat.le_refl _) (xrow h.shelf (by decide) (by decide)), text := own_kept (N := w1.heap.size) (X := fun i => i = p) hb (Chg.setCell _ _ _ rfl) (Nat.le_refl _) (fun g hg e => own_ne_row' hb hR1 (by decide) (by rw [hg, e])), chunks := own_kept h.chunks hC (Nat.le_refl _) (xown h.chunks (by decide) (by decide)), fmap := map_kept h.fmap hC (Nat.le_refl _) (xmap h.fmap), smap := map_kept h.smap hC (Nat.le_refl _) (xmap h.smap), found := fun d hd => ⟨(h.found d hd).1, own_kept (h.found d hd).2 hC (Nat.le_refl _) (xown (h.found d hd).2 (by decide) (by decide))⟩, num := fun x hx => ⟨(h.num x hx).1, own_kept (h.num x hx).2 hC (Nat.le_refl _) (xown (h.num x hx).2 (by decide) (by decide))⟩ }
  · rintro k (e | e)
    · exact h.text.block k e
    · rw [e]; exact h.low.1

/-- Frames are taken in, up to the first that is not right. -/
def openG : Nat → St → List UInt8 → St
  | 0, st, _ => st
  | f + 1, st, s => match unfr s with
    | none => st
    | some (y, k) => if st.rm < st.text.length + k then st else match takeL st y with
      | none => st
      | some st' => openG f { st' with text := st.text ++ s.take k } (s.drop k)

/-- What holds of every store. -/
structure Sane (st : St) : Prop where
  text : st.text.length ≤ st.rm
  room : st.rm ≤ 60000
  mx : st.mx ≤ 200
  count : st.chunks.length + st.streams.length ≤ st.text.length
  chunk : ∀ c ∈ st.chunks, 1 ≤ c.length ∧ c.length ≤ 200
  strm : ∀ x ∈ st.streams, (∀ n ∈ x.2, n < st.chunks.length) ∧ x.2.length ≤ 70000 ∧ nameL x.1 = true
  uniq : (st.streams.map (·.1)).Nodup

theorem readC_len {r c : List UInt8} {mx : Nat} (h : readC r mx = some c) : 1 ≤ c.length ∧ c.length ≤ mx := by
  unfold readC at h
  split at h
  · split at h
    · rename_i hh
      obtain rfl := Option.some.inj h
      exact ⟨hh.1, hh.2.1⟩
    · cases h
  · cases h
theorem refE_zero {st : St} {name data : List UInt8} (h : refE st name data = 0) : nameL name = true ∧ (∀ x ∈ st.streams, x.1 ≠ name) ∧ data.length ≤ 2000 := by
  unfold refE at h
  split at h
  · cases h
  · rename_i h1
    split at h
    · cases h
    · rename_i h2
      split at h
      · cases h
      · refine ⟨by simpa using h1, fun x hx e => h2 ?_, by omega⟩
        rw [List.any_eq_true]
        exact ⟨x, hx, by simp [e]⟩
theorem readS_facts {st : St} {r name : List UInt8} {l : List Nat} (h : readS st r = some (name, l)) : streamRec r = some (name, l) ∧ (∀ n ∈ l, n < st.chunks.length) ∧ refE st name (joinL st.chunks l) = 0 ∧ cutInto st.chunks (partsL (joinL st.chunks l) st.mn st.mx st.bt) l = true := by
  unfold readS at h
  split at h
  · rename_i nm l' hh
    split at h
    · rename_i hc
      obtain ⟨rfl, rfl⟩ := Prod.mk.inj (Option.some.inj h)
      exact ⟨hh, hc⟩
    · cases h
  · cases h
theorem Sane.take {st st' : St} {y t : List UInt8} (h : Sane st) (ht : takeL st y = some st') (hy : y.length ≤ 70000) (hlen : st.text.length + 1 ≤ t.length) (hr : t.length ≤ st.rm) : Sane { st' with text := t } ∧ st'.text = st.text ∧ st'.rm = st.rm ∧ st'.mn = st.mn ∧ st'.mx = st.mx ∧ st'.bt = st.bt := by
  have hc := h.count
  unfold takeL at ht
  split at ht
  · rename_i c hrc
    split at ht
    · cases ht
    · obtain rfl := Option.some.inj ht
      have := readC_len hrc
      have hmx := h.mx
      refine ⟨⟨hr, h.room, h.mx, by simp; omega, ?_, ?_, h.uniq⟩, rfl, rfl, rfl, rfl, rfl⟩
      · intro x hx
        rcases List.mem_append.1 hx with hx | hx
        · exact h.chunk x hx
        · simp only [List.mem_singleton] at hx
          subst hx
          omega
      · intro x hx
        obtain ⟨a, b⟩ := h.strm x hx
        refine ⟨fun n hn => ?_, b⟩
        have := a n hn
        show n < (st.chunks ++ [c]).length
        simp
        omega
  · split at ht
    · rename_i x hx
      obtain ⟨name, l⟩ := x
      obtain rfl := Option.some.inj ht
      obtain ⟨f1, f2, f3, _⟩ := readS_facts hx
      obtain ⟨g1, g2, _⟩ := refE_zero f3
      have g4 := (streamRec_len f1).2
      refine ⟨⟨hr, h.room, h.mx, by simp; omega, h.chunk, ?_, ?_⟩, rfl, rfl, rfl, rfl, rfl⟩
      · intro x hx
        rcases List.mem_append.1 hx with hx | hx
        · exact h.strm x hx
        · simp only [List.mem_singleton] at hx
          subst hx
          exact ⟨f2, by show l.length ≤ _; omega, g1⟩
      · show ((st.streams ++ [(name, l)]).map (·.1)).Nodup
        rw [List.map_append, List.nodup_append]
        refine ⟨h.uniq, by simp, ?_⟩
        intro a ha b hb e
        simp only [List.map_cons, List.map_nil, List.mem_singleton] at hb
        obtain ⟨x, hx, rfl⟩ := List.mem_map.1 ha
        exact g2 x hx (e.trans hb)
    · cases ht

theorem len_buf {B : Nat} {w : World} {v : Value} {l : List UInt8} (h : Buf B w v l) (W : World) : (Builtin.len_ #[64] 3 #[v]).run Tryz.prog W = .ok (.int .i64 (l.length : Nat)) W := by
  rcases h.form with ⟨rfl, h0⟩ | ⟨g, cap, rfl, _, _⟩
  · subst h0
    simp [Builtin.len_, run_underlying Tryz.underlying64, goInt]
  · simp [Builtin.len_, run_underlying Tryz.underlying64, goInt]

theorem bl_to (s : ByteArray) (k : Nat) : bl (s.extract 0 k) = (bl s).take k := by rw [bl_extract]; simp
theorem takeL_rm {st st' : St} {y : List UInt8} (ht : takeL st y = some st') : st'.rm = st.rm := by
  unfold takeL at ht
  split at ht
  · split at ht
    · cases ht
    · obtain rfl := Option.some.inj ht; rfl
  · split at ht
    · obtain rfl := Option.some.inj ht; rfl
    · cases ht
theorem openG_none {f : Nat} {st : St} {s : List UInt8} (h : unfr s = none) : openG (f + 1) st s = st := by unfold openG; rw [h]
theorem openG_full {f k : Nat} {st : St} {s y : List UInt8} (h : unfr s = some (y, k)) (h2 : st.rm < st.text.length + k) : openG (f + 1) st s = st := by unfold openG; rw [h]; exact if_pos h2
theorem openG_wrong {f k : Nat} {st : St} {s y : List UInt8} (h : unfr s = some (y, k)) (h3 : takeL st y = none) : openG (f + 1) st s = st := by
  unfold openG; rw [h]; simp only [h3]; split <;> rfl
theorem openG_next {f k : Nat} {st st' : St} {s y : List UInt8} (h : unfr s = some (y, k)) (h2 : ¬ st.rm < st.text.length + k) (h3 : takeL st y = some st') : openG (f + 1) st s = openG f { st' with text := st.text ++ s.take k } (s.drop k) := by
  conv => lhs; unfold openG
  rw [h]; simp only [if_neg h2, h3]

set_option maxRecDepth 100000 in
set_option maxHeartbeats 1600000 in
theorem takeFrames_any (s : ByteArray) (B p : Nat) (st : St) (w : World) (h : Sto B w p st) (hB : B ≤ w.heap.size) (hS : Sane st) :
    Calls Tryz.prog 54 #[.pointer (some ⟨p, 0, none⟩), .string s] w fun e w' => e = .returned (.tuple #[]) ∧ Below B w w' ∧ Sto B w' p (openG (s.size + 1) st (bl s)) ∧ Sane (openG (s.size + 1) st (bl s)) := by
  go_enter Tryz.func54, Tryz.ntmps54
  go_wp2
  go_loopw [1] (fun v1 wr => ∃ (z : ByteArray) (t : St) (f : Nat), v1 = .string z ∧ z.size ≤ f ∧ Sto B wr p t ∧ Hid (Sane t) ∧ Below B w wr ∧ Hid (openG (f + 1) t (bl z) = openG (s.size + 1) st (bl s))) (fun v1 _ => match v1 with | .string t => t.size | _ => 0)
  case atStart => exact ⟨s, st, s.size, rfl, Nat.le_refl _, h, hS, Below.refl _ _, rfl⟩
  case round =>
    obtain ⟨z, t, f, rfl, hf, hSt, hSa, hBw, R⟩ := hrel
    have hz := hBw.size
    go_wp2_with fail
    refine (first_frame z _).mono ?_
    rintro e w1 ⟨rfl, hB1⟩
    have hS1 := hSt.grow hB1
    have hz1 := hB1.size
    have hBw1 : Below B w w1 := hBw.trans (Grow.low hB1 (by omega))
    obtain ⟨cb, sb, mb, fb, wv, cv, lf, n1, n2, D1, D2, F, G, h1⟩ := hS1
    cases hu : unfr (bl z) with
    | none =>
      have E : Hid (t = openG (s.size + 1) st (bl s)) := (openG_none hu).symm.trans R.out
      unfold firstV
      rw [hu]
      clear hu
      go_wp2_with fail
      go_quiet (fail)
      go_wp2
      refine bodyPost_ret (v := .tuple #[]) (by simp [results, Tryz.results54]) rfl ?_
      rw [← E.out]
      exact ⟨rfl, below_drewN hBw1 _, Sto.grow ⟨cb, sb, mb, fb, wv, cv, lf, n1, n2, D1, D2, F, G, h1⟩ (below_drewN (Below.refl _ _) _), hSa.out⟩
    | some x =>
      obtain ⟨y, k⟩ := x
      obtain ⟨u1, u2, u3⟩ := unfr_len hu
      rw [bl_length] at u1
      have U : Hid (unfr (bl z) = some (y, k)) := hu
      unfold firstV
      rw [hu]
      clear hu
      have k7 : w1.cell? ⟨p, 7, none⟩ = some wv := h1.row.cell 7
      have k3 : w1.cell? ⟨p, 3, none⟩ = some (.int .i64 t.rm) := h1.row.cell 3
      have hln := fun W => len_buf h1.text W
      have hrm := hSa.out.room
      have htx := hSa.out.text
      have hkk : ((k : Int) == 0) = false := by simp; omega
      have hkk2 : (10 : Int) ≤ k := by omega
      have hk4 : (k : Int) ≤ 65545 := by omega
      have hwr : IntKind.i64.wrap ((t.text.length : Int) + (k : Int)) = (t.text.length : Int) + (k : Int) := by simp only [IntKind.wrap_i64]; omega
      by_cases hr : (t.rm : Int) < (t.text.length : Int) + (k : Int)
      · have E : Hid (t = openG (s.size + 1) st (bl s)) := (openG_full U.out (by omega)).symm.trans R.out
        have hd := decide_eq_true hr
        go_wp2_with fail
        go_quiet (fail)
        go_wp2
        refine bodyPost_ret (v := .tuple #[]) (by simp [results, Tryz.results54]) rfl ?_
        rw [← E.out]
        exact ⟨rfl, below_drewN hBw1 _, Sto.grow ⟨cb, sb, mb, fb, wv, cv, lf, n1, n2, D1, D2, F, G, h1⟩ (below_drewN (Below.refl _ _) _), hSa.out⟩
      · have hcnt := hSa.out.count
        have hd := decide_eq_false hr
        go_wp2_with fail
        have htv : Stv B w1 p t wv := ⟨cb, sb, mb, fb, cv, lf, n1, n2, D1, D2, F, G, h1⟩
        go_region_held3 (fun w' => w'.cell? ⟨p, 3, none⟩ = some (.int .i64 t.rm) ∧ w'.cell? ⟨p, 7, none⟩ = some wv) (first | exact ⟨k23, k27⟩ | exact ⟨k3, k7⟩ | go_keep)
          ((go_at_call 87; refine (take_any ⟨y.toArray⟩ B p t wv _ (htv.grow (Grow.refl w1).drew) (by simp [heap_drew']; omega) (by rw [size_mk]; omega) hSa.out.chunk (by omega) (by omega)).mono ?_; rintro e w2 ⟨b, rfl, hB2, hT⟩; have k27 : w2.cell? ⟨p, 7, none⟩ = some wv := (by rcases hT with ⟨_, st', _, h2⟩ | ⟨_, _, h2⟩ <;> exact h2.cell7); have k23 : w2.cell? ⟨p, 3, none⟩ = some (.int .i64 t.rm) := (by rcases hT with ⟨_, st', hT, h2⟩ | ⟨_, _, h2⟩; (· rw [h2.cell3, takeL_rm hT]); (· exact h2.cell3))))
        all_goals
          rw [bl_mk] at hT
          have hz2 : w1.heap.size ≤ w2.heap.size := hB2.size
          rcases hT with ⟨rfl, t', hT, hS2⟩ | ⟨rfl, hT, hS2⟩
        · obtain ⟨cb', sb', mb', fb', cv', lf', n1', n2', D1', D2', F', G', h2⟩ := hS2
          have hml := bl_to z k
          have hnl : (bl (z.extract 0 k)).length = k := by rw [bl_to, List.length_take, bl_length]; omega
          obtain ⟨hsa, htt, _⟩ := hSa.out.take (t := t.text ++ bl (z.extract 0 k)) hT (by omega) (by rw [List.length_append, hnl]; omega) (by rw [List.length_append, hnl]; omega)
          have R' : Hid (openG f { t' with text := t.text ++ bl (z.extract 0 k) } (bl (z.extract k z.size)) = openG (s.size + 1) st (bl s)) := by
            show _ = _
            rw [bl_from, hml, ← openG_next U.out (by omega) hT]
            exact R.out
          have htb := h2.text
          rw [htt] at htb
          have HSA : Hid (Sane { t' with text := t.text ++ bl (z.extract 0 k) }) := hsa
          clear hsa hml hT
          have hfr := h2.row.free 7
          have hp2 := h2.row.lt
          have hpw : some p ≠ wv.ownBlock := fun e => own_ne_row' htb h2.row (by decide) e.symm
          go_wp2_with fail
          go_region_law (first | (refine step_append_buf (by rfl) _ _ _ (by rfl) B wv (.string (z.extract 0 k)) t.text (bl (z.extract 0 k)) (by rfl) (by rfl) htb (by rw [hnl]; omega) (src_string _ _) (by rw [hnl]; omega) (by simp [heap_drew']; omega) ?_; intro g3 cap3 w3 hb3 hg3; have k37 : w3.cell? ⟨p, 7, none⟩ = some wv := (hg3.cell_far _ (by exact hp2) hpw).trans k27; have hf3 : w3.frozen? ⟨p, 7, none⟩ = false := (hg3.frozen_far _ (by exact hp2) hpw).trans hfr))
          all_goals
            obtain ⟨hS3, hB3⟩ := text_end (h2.grow (Grow.refl w2).drew) hb3 hg3
            have hBE := hBw1.trans (((Below.refl _ _).drew.trans hB2).trans ((Below.refl _ _).drew.trans hB3))
            rw [List.length_append, hnl] at hS3 hBE
            clear hb3 hB3
            obtain ⟨f', rfl⟩ : ∃ f', f = f' + 1 := ⟨f - 1, by omega⟩
            go_wp2
            exact ⟨⟨z.extract k z.size, _, f', rfl, by simp; omega, hS3, HSA, hBE, R'⟩, by simp; omega⟩
        · have E : Hid (t = openG (s.size + 1) st (bl s)) := (openG_wrong U.out hT).symm.trans R.out
          clear hT
          go_wp2
          refine bodyPost_ret (v := .tuple #[]) (by simp [results, Tryz.results54]) rfl ?_
          rw [← E.out]
          exact ⟨rfl, hBw1.trans ((Below.refl _ _).drew.trans hB2), hS2.sto, hSa.out⟩

end Go.Proofs.YtheichphnppagaaGreat
namespace Go.Proofs.YtheichphnppagaaGreat
open Go.RowKit
attribute [local go_sem ↓] Go.wp_at_zero Go.wp_at_succ

theorem bytes_any (B p : Nat) (st : St) (w : World) (h : Sto B w p st) :
    Calls Tryz.prog 14 #[.pointer (some ⟨p, 0, none⟩)] w fun e w' => e = .returned (strV st.text) ∧ Grow w w' := by
  obtain ⟨cb, sb, mb, fb, wv, cv, lf, n1, n2, D1, D2, F, G, h⟩ := h
  have k7 : w.cell? ⟨p, 7, none⟩ = some wv := h.row.cell 7
  have hs := run_string_buf w _ _ _ h.text
  go_enter Tryz.func14, Tryz.ntmps14
  go_wp2
  go_ret
  exact ⟨rfl, Grow.refl _⟩

theorem chunks_count (B p : Nat) (st : St) (w : World) (h : Sto B w p st) :
    Calls Tryz.prog 13 #[.pointer (some ⟨p, 0, none⟩)] w fun e w' => e = .returned (.int .i64 (st.chunks.length : Nat)) ∧ w' = w := by
  obtain ⟨cb, sb, mb, fb, wv, cv, lf, n1, n2, D1, D2, F, G, h⟩ := h
  have k5 : w.cell? ⟨p, 5, none⟩ = some (.pointer (some ⟨sb, 0, none⟩)) := h.row.cell 5
  go_enter Tryz.func13, Tryz.ntmps13
  go_wp2_with fail
  refine (down_any p 83 _ _ _ _ _ _ _ _ h.row).mono ?_
  rintro e w1 ⟨rfl, rfl⟩
  go_wp2_with fail
  refine (count_any sb fb B cv st.chunks _ h.shelf h.chunks).mono ?_
  rintro e w1 ⟨rfl, rfl⟩
  go_wp2
  go_ret
  exact ⟨rfl, rfl⟩

set_option maxRecDepth 100000 in
theorem restore_any (s : ByteArray) (B p : Nat) (st : St) (x : List UInt8 × List Nat) (w : World) (h : Sto B w p st) (hB : B ≤ w.heap.size) (hS : Sane st) (hx : x ∈ st.streams) (hn : bl s = x.1) :
    Calls Tryz.prog 28 #[.pointer (some ⟨p, 0, none⟩), .string s] w fun e w' => e = .returned (.tuple #[strV (joinL st.chunks x.2), .int .i64 0]) ∧ Grow w w' := by
  have hnot := not_law
  obtain ⟨cb, sb, mb, fb, wv, cv, lf, n1, n2, D1, D2, F, G, h⟩ := h
  have k6 : w.cell? ⟨p, 6, none⟩ = some (.map (some mb)) := h.row.cell 6
  obtain ⟨a1, a2, a3⟩ := hS.strm x hx
  have hsz : s.size ≤ 12 := by
    rw [← hn] at a3
    unfold nameL at a3
    simp only [Bool.and_eq_true, decide_eq_true_eq, bl_length] at a3
    exact a3.2.2
  obtain ⟨v, hlk, hv⟩ := look_name h s (by omega)
  have hany : st.streams.any (fun x => x.1 == bl s) = true := by
    rw [List.any_eq_true]
    exact ⟨x, hx, by simp [hn]⟩
  rw [hany] at hlk
  obtain rfl := hv x hx hn.symm
  have hI := (h.num x hx).2
  clear hany hv
  go_enter Tryz.func28, Tryz.ntmps28
  go_wp2_with fail
  refine (down_any p 83 _ _ _ _ _ _ _ _ h.row).mono ?_
  rintro e w1 ⟨rfl, rfl⟩
  go_wp2_with fail
  refine (join_any B p st _ x.2 _ ⟨cb, sb, mb, fb, wv, cv, lf, n1, n2, D1, D2, F, G, h⟩ hB a1 a2 hS.chunk _ hI).mono ?_
  rintro e w2 ⟨rfl, hB2⟩
  go_wp2
  go_ret2
  exact ⟨rfl, hB2⟩

end Go.Proofs.YtheichphnppagaaGreat
