/- Opens: Cutc. -/
import Derived.Test.YtheichphnppagaaGreatKnown
import Derived.Test.YtheichphnppagaaGreatPut
namespace Go.Proofs.YtheichphnppagaaGreat
open Go.RowKit

/-- What lies between cuts. -/
def partsOf (l : List UInt8) : Nat → List Nat → List (List UInt8)
  | _, [] => []
  | last, p :: r => (l.drop last).take (p - last) :: partsOf l p r
def partsL (l : List UInt8) (mn mx bt : Nat) : List (List UInt8) := partsOf l 0 (cuts l mn mx bt)
theorem partsOf_length (l : List UInt8) : ∀ (cs : List Nat) (last : Nat), (partsOf l last cs).length = cs.length
  | [], _ => rfl
  | p :: r, _ => by simp [partsOf, partsOf_length l r p]
theorem partsL_length (l : List UInt8) (mn mx bt : Nat) : (partsL l mn mx bt).length = (cuts l mn mx bt).length := partsOf_length _ _ _

theorem run_append_sbuf (w : World) (B : Nat) (tx ty : TypeId) (v x : Value) (l news : List (List UInt8)) (hown : SBuf B w v l) (hm : 0 < news.length) (hs : Src Tryz.prog 1 tx x news.length (cellsOfStrs news) w)
    (hlen : l.length + news.length ≤ 100000000) (hB : B ≤ w.heap.size) :
    ∃ v' w', (Builtin.append_ #[24, tx] ty #[v, x]).run Tryz.prog w = .ok v' w' ∧ SBuf B w' v' (l ++ news) ∧ w.grownBy w' v.ownBlock := by
  obtain ⟨i0, hi, hz0, hz1, hz2⟩ := info_parts Tryz.info9
  obtain ⟨v', w', hr, h2, h3⟩ := run_append_own_src w B 24 tx ty 9 i0 (.string ⟨#[]⟩) 16 Tryz.underlying24 hi hz0 hz1 hz2 rfl v l.length (cellsOfStrs l) hown x news.length (cellsOfStrs news) hm hs
    (by simp only [maxLen]; omega) (by omega) hB
  refine ⟨v', w', hr, ?_, h3⟩
  unfold SBuf
  rw [List.length_append, cellsOfStrs_append]
  exact h2
theorem wpList_append_sbuf {w : World} {ops : Array Oper} {rest : List Oper} {o : Oper} {a : Act} {Q : Exit → Act → World → Prop} (hgd : o.guard = none) (s x : Operand) (tx : TypeId)
    (ho : o.op = .call { callee := .builtin .append, args := #[s, x], argTypes := #[24, tx] })
    (B : Nat) (v xv : Value) (l news : List (List UInt8)) (hs : a.eval s = v) (hx : a.eval x = xv) (hown : SBuf B w v l) (hm : 0 < news.length) (hsrc : Src Tryz.prog 1 tx xv news.length (cellsOfStrs news) w)
    (hlen : l.length + news.length ≤ 100000000) (hB : B ≤ w.heap.size)
    (h : ∀ v' w', SBuf B w' v' (l ++ news) → Below B w w' → wpList Tryz.prog ops Q rest (a.put o.dst v') w') : wpList Tryz.prog ops Q (o :: rest) a w := by
  obtain ⟨v', w', hr, h2, h3⟩ := run_append_sbuf w B tx o.type v xv l news hown hm hsrc hlen hB
  refine wpList_plain hgd fun K hK => ?_
  unfold Oper.wp execOp
  simp only [ho, resolve, invoke, builtin, Sem.run_bind, Sem.run_pure, Result.andThen_ok, List.map_toArray, List.map_cons, List.map_nil, hs, hx, hr]
  exact hK _ _ (h v' w' h2 ((Below.refl B w).grown h3 hB (fun k hk => (hown.block k hk).1)))
theorem ssrc_one (w : World) (s : ByteArray) (c : List UInt8) (h : bl s = c) :
    Src Tryz.prog 1 24 (.slice (some ⟨w.heap.size, 0, none⟩) 1 1) [c].length (cellsOfStrs [c]) (w.alloc (.cells #[.string s] 9)) := by
  have e : s = ⟨c.toArray⟩ := ba_eq h
  subst e
  refine Src.ofSlice _ Tryz.underlying24 ⟨w.heap.size, 0, none⟩ [c].length 1 (cellsOfStrs [c]) (by rw [cellsOfStrs_length]; omega) (fun j u hj => ?_) (cellsOfStrs_one [c])
  match j, hj with
  | 0, hj => simp [cellsOfStrs] at hj; subst hj; simp [Addr.add, strV]
theorem SBuf.alloc {B : Nat} {w : World} {v : Value} {l : List (List UInt8)} (h : SBuf B w v l) (o : Obj) : SBuf B (w.alloc o) v l := World.ownsRow.alloc h o

theorem SBuf.low {B C : Nat} {w : World} {v : Value} {l : List (List UInt8)} (h : SBuf B w v l) (hC : C ≤ B) : SBuf C w v l :=
  ⟨h.1, h.2.elim .inl (fun ⟨g, cap, cur, e, hb, r⟩ => .inr ⟨g, cap, cur, e, Nat.le_trans hC hb, r⟩)⟩

/-- Behind k cuts: the pieces so far are x, the last cut is 'last'. -/
def CSt (l : List UInt8) (mn mx bt k last : Nat) (x : List (List UInt8)) : Prop := x ++ partsOf l last ((cuts l mn mx bt).drop k) = partsL l mn mx bt ∧ ∃ f, (cuts l mn mx bt).drop k = cutsF l mn mx bt f last
theorem CSt.start (l : List UInt8) (mn mx bt : Nat) : CSt l mn mx bt 0 0 [] := ⟨by simp [partsL], l.length, by simp [cuts]⟩
theorem CSt.step {l : List UInt8} {mn mx bt k last n : Nat} {x : List (List UInt8)} (h : CSt l mn mx bt k last x) (hk : k < (cuts l mn mx bt).length) (hn : (cuts l mn mx bt).getD k 0 = n) (h1 : 1 ≤ mn) (h2 : mn ≤ mx) :
    last < n ∧ n ≤ l.length ∧ CSt l mn mx bt (k + 1) n (x ++ [(l.drop last).take (n - last)]) := by
  obtain ⟨e, f, ef⟩ := h
  have ed : (cuts l mn mx bt).drop k = n :: (cuts l mn mx bt).drop (k + 1) := by
    rw [List.drop_eq_getElem_cons hk, ← hn]
    simp [List.getD_eq_getElem?_getD, hk]
  rw [ed] at ef e
  cases f with
  | zero => simp [cutsF] at ef
  | succ f =>
    simp only [cutsF] at ef
    split at ef
    · rename_i hl
      obtain ⟨e1, e2⟩ := List.cons.inj ef
      have a1 := nextCut_gt l (bits := bt) h1 h2 hl
      have a2 := nextCut_le l mn mx bt last
      refine ⟨by omega, by omega, ?_, f, by rw [e2, e1]⟩
      rw [← e]
      simp [partsOf]
    · cases ef
theorem CSt.done {l : List UInt8} {mn mx bt k last : Nat} {x : List (List UInt8)} (h : CSt l mn mx bt k last x) (hk : (cuts l mn mx bt).length ≤ k) : x = partsL l mn mx bt := by
  obtain ⟨e, _⟩ := h
  rw [List.drop_of_length_le hk] at e
  simpa [partsOf] using e

set_option maxRecDepth 100000 in
set_option maxHeartbeats 1600000 in
theorem chunks_any (s : ByteArray) (b mn mx bt : Nat) (rm : Int) (w : World) (h : Rest w b mn mx bt rm) (hs : s.size ≤ 2000) (h1 : 16 ≤ mn) (h2 : mn ≤ mx) (h3 : mx ≤ 200) (h5 : bt ≤ 12) :
    Calls Tryz.prog 68 #[.pointer (some ⟨b, 0, none⟩), .string s] w fun e w' => ∃ v, e = .returned v ∧ SBuf w.heap.size w' v (partsL (bl s) mn mx bt) ∧ Rest w' b mn mx bt rm ∧ Touch b w w' := by
  have hb := h.lt
  have hbl := bl_length s
  have hcl : (cuts (bl s) mn mx bt).length ≤ 2000 := by have := cutsF_length (bl s) (mn := mn) (mx := mx) (bits := bt) (bl s).length 0; unfold cuts; omega
  go_enter Tryz.func68, Tryz.ntmps68
  go_wp2_with fail
  refine (places_any s b mn mx bt rm _ h hs h1 h2 h3 h5).mono ?_
  rintro e w1 ⟨u, rfl, hu, hr1, ht1⟩
  have hlen := fun W => len_ibuf hu W
  have hz1 := ht1.size
  obtain ⟨C, hC⟩ : ∃ C, cuts (bl s) mn mx bt = C := ⟨_, rfl⟩
  have HC : Hid (cuts (bl s) mn mx bt = C) := hC
  rw [hC] at hu hlen hcl
  clear hC
  go_wp2
  clear hlen
  go_loopw [5, 6, 8, 13] (fun v5 v6 v8 v13 wr => ∃ (k last : Nat) (x : List (List UInt8)), v13 = .int .i64 k ∧ k ≤ C.length ∧ v6 = .int .i64 last ∧ x.length ≤ k ∧ SBuf w1.heap.size wr v5 x ∧ Hid (CSt (bl s) mn mx bt k last x) ∧ Grow w1 wr) (fun _ _ _ v13 _ => C.length - (intOf v13).toNat)
  case atStart => exact ⟨0, 0, [], rfl, by omega, rfl, by simp, SBuf.nil _ _, CSt.start _ _ _ _, Grow.refl _⟩
  case round =>
    obtain ⟨k, last, x, rfl, hk, rfl, hxk, hx, H, hg⟩ := hrel
    have hzr := hg.size
    by_cases hlt : (k : Int) < (C.length : Int)
    · have hkl : k < C.length := by omega
      rcases hu.form with ⟨_, h0⟩ | ⟨g, cap, rfl, _, _⟩
      · have : C = [] := by simpa [ints] using h0
        rw [this] at hkl
        simp at hkl
      rw [ints_length] at hu ⊢
      obtain ⟨n, hn⟩ : ∃ n, C.getD k 0 = n := ⟨_, rfl⟩
      have kc := (hu.below hg).cellN k hkl
      rw [hn] at kc
      obtain ⟨a1, a2, H'⟩ := H.out.step (n := n) (by rw [HC.out]; exact hkl) (by rw [HC.out]; exact hn) (by omega) h2
      have H2 : Hid (CSt (bl s) mn mx bt (k + 1) n (x ++ [((bl s).drop last).take (n - last)])) := H'
      clear hn hkl H'
      rw [hbl] at a2
      have a3 : (last : Int) ≤ (n : Int) := by omega
      have a4 : (n : Int) ≤ (s.size : Int) := by omega
      have S := ssrc_one wr (s.extract last n) (((bl s).drop last).take (n - last)) (bl_extract s last n)
      go_wp2_with (at_builtin; refine wpList_append_sbuf rfl (.tmp 17) (.tmp 22) 24 rfl w1.heap.size _ _ x [((bl s).drop last).take (n - last)] rfl rfl (hx.alloc _) (by simp) S (by simp; omega) (by simp; omega) ?_; intro v2 w2 hb2 hbw2)
      exact ⟨⟨k + 1, n, _, by go_num, by omega, rfl, by simp; omega, hb2, H2, Below.trans (hg.alloc _) hbw2⟩, by simp [intOf]; omega⟩
    · have e := H.out.done (by rw [HC.out]; omega)
      rw [e] at hx
      go_wp2
      go_ret
      exact ⟨_, rfl, hx.low hz1, hr1.below hg hr1.lt, ht1.below hg⟩

set_option maxRecDepth 100000 in
/-- isCutInto's closure: is the chunk the one with that number? -/
theorem same_any (B p n : Nat) (N : Int) (st : St) (s : ByteArray) (pl : Addr) (w : World) (hN : N = n) (h : Sto B w p st) (hp : w.cell? pl = some (.pointer (some ⟨p, 0, none⟩))) (hn : n < st.chunks.length) :
    Calls Tryz.prog 165 #[.string s, .int .i64 N, .pointer (some pl)] w fun e w' => e = .returned (.bool (bl s == st.chunks.getD n [])) ∧ w' = w := by
  subst hN
  obtain ⟨cb, sb, mb, fb, wv, cv, lf, n1, n2, D1, D2, F, G, h⟩ := h
  have k5 : w.cell? ⟨p, 5, none⟩ = some (.pointer (some ⟨sb, 0, none⟩)) := h.row.cell 5
  go_enter Tryz.func165, Tryz.ntmps165
  go_wp2_with fail
  refine (at_any sb fb B n _ cv st.chunks _ rfl h.shelf h.chunks hn).mono ?_
  rintro e w1 ⟨rfl, rfl⟩
  obtain ⟨c, hc⟩ : ∃ c, st.chunks.getD n [] = c := ⟨_, rfl⟩
  have HC : Hid (st.chunks.getD n [] = c) := hc
  rw [hc]
  clear hc
  unfold strV
  go_wp2
  go_ret
  exact ⟨ret_of (by rw [HC.out, ← toList_bl s]; rfl), rfl⟩

/-- Are these the chunks with these numbers? -/
def cutInto (cs : List (List UInt8)) (ps : List (List UInt8)) (l : List Nat) : Bool := decide (ps.length = l.length) && (List.range ps.length).all fun i => ps.getD i [] == cs.getD (l.getD i 0) []

set_option maxRecDepth 100000 in
set_option maxHeartbeats 1600000 in
theorem equal_any (B B1 B2 p : Nat) (st : St) (pv nv : Value) (ps : List (List UInt8)) (l : List Nat) (pl : Addr) (w : World) (h : Sto B w p st) (hp : w.cell? pl = some (.pointer (some ⟨p, 0, none⟩)))
    (hpv : SBuf B1 w pv ps) (hnv : IBuf B2 w nv (ints l)) (hl : ∀ n ∈ l, n < st.chunks.length) (hps : ps.length ≤ 70000) :
    Calls Tryz.prog 164 #[pv, nv, .func (.func 165) #[] #[.pointer (some pl)]] w fun e w' => e = .returned (.bool (cutInto st.chunks ps l)) ∧ w' = w := by
  have hlen1 : ∀ W : World, (Builtin.len_ #[24] 3 #[pv]).run Tryz.prog W = .ok (.int .i64 (ps.length : Nat)) W := fun W => by
    rcases hpv.form with ⟨rfl, h0⟩ | ⟨g, cap, rfl, _, _⟩
    · rw [h0]
      simp [Builtin.len_, run_underlying Tryz.underlying24, goInt]
    · simp [Builtin.len_, run_underlying Tryz.underlying24, goInt]
  have hlen2 := fun W => len_ibuf hnv W
  have hnot := not_law
  by_cases hne : ps.length = l.length
  · have q : ((ps.length : Int) != (l.length : Int)) = false := by simp; omega
    have NE : Hid (ps.length = l.length) := hne
    clear hne
    go_enter Tryz.func164, Tryz.ntmps164
    go_wp2
    clear hlen1 hlen2 q
    go_loop [7, 8, 9, 17] (fun v7 v8 v9 v17 => ∃ k : Nat, v17 = .int .i64 k ∧ k ≤ ps.length ∧ Hid (∀ i, i < k → ps.getD i [] = st.chunks.getD (l.getD i 0) [])) (fun _ _ _ v17 => ps.length - (intOf v17).toNat)
    case atStart => exact ⟨0, rfl, by omega, (fun i hi => by omega)⟩
    case round =>
      obtain ⟨k, rfl, hk, H⟩ := hrel
      by_cases hlt : (k : Int) < (ps.length : Int)
      · have hkp : k < ps.length := by omega
        have hkl : k < l.length := by have := NE.out; omega
        rcases hpv.form with ⟨_, h0⟩ | ⟨g, cap, rfl, _, _⟩
        · rw [h0] at hkp
          simp at hkp
        rcases hnv.form with ⟨_, h0⟩ | ⟨g2, cap2, rfl, _, _⟩
        · have : l = [] := by simpa [ints] using h0
          rw [this] at hkl
          simp at hkl
        rw [ints_length] at hnv ⊢
        have c1 := hpv.cell k hkp
        have c2 := hnv.cellN k hkl
        have hmem := hl (l.getD k 0) (by rw [List.getD_eq_getElem?_getD, List.getElem?_eq_getElem hkl]; exact List.getElem_mem _)
        obtain ⟨n, hn⟩ : ∃ n, l.getD k 0 = n := ⟨_, rfl⟩
        obtain ⟨c, hc⟩ : ∃ c, ps.getD k [] = c := ⟨_, rfl⟩
        have HN : Hid (l.getD k 0 = n) := hn
        have HCc : Hid (ps.getD k [] = c) := hc
        rw [hn] at c2 hmem
        rw [hc] at c1
        have hkl' : (k : Int) < (l.length : Int) := by omega
        clear hn hc hkl hkp
        unfold strV at c1
        go_wp2_with fail
        refine (same_any B p n _ st ⟨c.toArray⟩ pl _ rfl h hp hmem).mono ?_
        rintro e w1 ⟨rfl, rfl⟩
        rw [bl_mk]
        by_cases he : c = st.chunks.getD n []
        · have q1 : (c == st.chunks.getD n []) = true := by rw [← he]; simp
          have HH : Hid (∀ i, i < k + 1 → ps.getD i [] = st.chunks.getD (l.getD i 0) []) := by
            intro i hi
            by_cases c3 : i < k
            · exact H.out i c3
            · rw [show i = k by omega, HN.out, HCc.out]
              exact he
          rw [q1]
          clear he q1
          go_wp2
          exact ⟨⟨k + 1, by go_num, by omega, HH⟩, by simp [intOf]; omega⟩
        · have q1 : (c == st.chunks.getD n []) = false := by simpa using he
          have R : Hid (cutInto st.chunks ps l = false) := by
            show _ = _
            unfold cutInto
            have : ((List.range ps.length).all fun i => ps.getD i [] == st.chunks.getD (l.getD i 0) []) = false := by
              rw [List.all_eq_false]
              exact ⟨k, List.mem_range.2 (by omega), by rw [HN.out, HCc.out, q1]; simp⟩
            rw [this, Bool.and_false]
          rw [q1]
          clear he q1
          go_wp2
          go_ret
          exact ⟨ret_of (by rw [R.out]; rfl), rfl⟩
      · have R : Hid (cutInto st.chunks ps l = true) := by
          show _ = _
          unfold cutInto
          rw [decide_eq_true NE.out, Bool.true_and, List.all_eq_true]
          intro i hi
          rw [H.out i (by have := List.mem_range.1 hi; omega)]
          simp
        go_wp2
        go_ret
        exact ⟨ret_of (by rw [R.out]; rfl), rfl⟩
  · have q : ((ps.length : Int) == (l.length : Int)) = false := beq_eq_false_iff_ne.2 (by omega)
    have R : Hid (cutInto st.chunks ps l = false) := by show _ = _; unfold cutInto; rw [decide_eq_false hne, Bool.false_and]
    clear hne
    go_enter Tryz.func164, Tryz.ntmps164
    go_wp2
    go_ret
    exact ⟨ret_of (by rw [R.out]; rfl), rfl⟩

theorem Sto.touch {B b : Nat} {w w' : World} {p : Nat} {st : St} {cb sb mb fb : Nat} {wv cv : Value} {lf : Int} {n1 n2 : Nat} {D1 D2 : DataW Value} {F G : List UInt8 → Value}
    (h : StoAt B w p st cb sb mb fb wv cv lf n1 n2 D1 D2 F G) (k : Touch b w w') (hb : b = cb) (hr : Rest w' cb st.mn st.mx st.bt st.rm) : StoAt B w' p st cb sb mb fb wv cv lf n1 n2 D1 D2 F G := by
  subst hb
  obtain ⟨l, hl⟩ := rest_row h.cut
  have kg := k.grown
  refine { h with row := (kg.block p h.row.lt (fun e => rows_ne h.row hl (by decide) (Option.some.inj e))).trans h.row, cut := hr, shelf := (kg.block sb h.shelf.lt (fun e => rows_ne h.shelf hl (by decide) (Option.some.inj e))).trans h.shelf, text := World.ownsRow.kept h.text kg (.inr (own_ne_row' h.text hl (by decide))), chunks := World.ownsRow.kept h.chunks kg (.inr (own_ne_row' h.chunks hl (by decide))), fmap := h.fmap.kept kg (fun e => map_ne_row h.fmap hl (Option.some.inj e)), smap := h.smap.kept kg (fun e => map_ne_row h.smap hl (Option.some.inj e)), found := fun d hd => ⟨(h.found d hd).1, World.ownsRow.kept (h.found d hd).2 kg (.inr (own_ne_row' (h.found d hd).2 hl (by decide)))⟩, num := fun x hx => ⟨(h.num x hx).1, World.ownsRow.kept (h.num x hx).2 kg (.inr (own_ne_row' (h.num x hx).2 hl (by decide)))⟩ }

set_option maxRecDepth 100000 in
set_option maxHeartbeats 1600000 in
theorem isCutInto_any (B2 : Nat) (nv : Value) (s : ByteArray) (l : List Nat) {B : Nat} {w : World} {p : Nat} {st : St} {cb sb mb fb : Nat} {wv cv : Value} {lf : Int} {n1 n2 : Nat} {D1 D2 : DataW Value} {F G : List UInt8 → Value}
    (h : StoAt B w p st cb sb mb fb wv cv lf n1 n2 D1 D2 F G) (hB : B ≤ w.heap.size) (hnv : IBuf B2 w nv (ints l)) (hl : ∀ n ∈ l, n < st.chunks.length) (hs : s.size ≤ 2000) :
    Calls Tryz.prog 132 #[.pointer (some ⟨p, 0, none⟩), .string s, nv] w fun e w' => e = .returned (.bool (cutInto st.chunks (partsL (bl s) st.mn st.mx st.bt) l)) ∧ StoAt B w' p st cb sb mb fb wv cv lf n1 n2 D1 D2 F G ∧ Below B w w' ∧ IBuf B2 w' nv (ints l) := by
  have hg := h.good
  unfold Ok at hg
  have g1 := (Grow.refl w).alloc (.cells #[.pointer (some ⟨p, 0, none⟩)] 28)
  have h1 := h.grow g1
  have k4 : (w.alloc (.cells #[.pointer (some ⟨p, 0, none⟩)] 28)).cell? ⟨p, 4, none⟩ = some (.pointer (some ⟨cb, 0, none⟩)) := h1.row.cell 4
  have hbox : Row (w.alloc (.cells #[.pointer (some ⟨p, 0, none⟩)] 28)) w.heap.size 28 [.pointer (some ⟨p, 0, none⟩)] := Row.new w 28 _
  obtain ⟨lc, hlc⟩ := rest_row h1.cut
  have hpl : (partsL (bl s) st.mn st.mx st.bt).length ≤ 70000 := by
    have := cutsF_length (bl s) (mn := st.mn) (mx := st.mx) (bits := st.bt) (bl s).length 0
    rw [partsL_length]
    have := bl_length s
    unfold cuts
    omega
  go_enter Tryz.func132, Tryz.ntmps132
  go_wp2_with fail
  refine (chunks_any s cb st.mn st.mx st.bt st.rm _ h1.cut hs (by omega) (by omega) (by omega) (by omega)).mono ?_
  rintro e w2 ⟨v, rfl, hv, hr2, ht2⟩
  have h2 := Sto.touch h1 ht2 rfl hr2
  have hnv2 : IBuf B2 w2 nv (ints l) := World.ownsRow.kept (hnv.below g1) ht2.grown (.inr (own_ne_row' (hnv.below g1) hlc (by decide)))
  have hbox2 : Row w2 w.heap.size 28 [.pointer (some ⟨p, 0, none⟩)] := hbox.touch ht2 (rows_ne hbox hlc (by decide))
  go_wp2_with fail
  refine (equal_any B _ B2 p st v nv _ l ⟨w.heap.size, 0, none⟩ _ ⟨cb, sb, mb, fb, wv, cv, lf, n1, n2, D1, D2, F, G, h2⟩ (hbox2.cell 0) hv hnv2 hl hpl).mono ?_
  rintro e w3 ⟨rfl, rfl⟩
  go_wp2
  go_ret
  exact ⟨rfl, h2, (g1.low hB).trans (ht2.toBelow h.low.2.1 (by simp; omega)), hnv2⟩

end Go.Proofs.YtheichphnppagaaGreat
