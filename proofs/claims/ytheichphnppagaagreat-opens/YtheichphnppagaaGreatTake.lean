/- Opens: Take. -/
import Derived.Test.YtheichphnppagaaGreatCutc
import Derived.Test.YtheichphnppagaaGreatRec
namespace Go.Proofs.YtheichphnppagaaGreat
open Go.RowKit
attribute [local go_sem ↓] Go.wp_at_zero Go.wp_at_succ

/-- The stream that a record tells, if it is right. -/
def readS (st : St) (r : List UInt8) : Option (List UInt8 × List Nat) := match streamRec r with
  | some (name, l) => if (∀ n ∈ l, n < st.chunks.length) ∧ refE st name (joinL st.chunks l) = 0 ∧ cutInto st.chunks (partsL (joinL st.chunks l) st.mn st.mx st.bt) l = true then some (name, l) else none
  | none => none

theorem strm_end {B : Nat} {w w' : World} {p : Nat} {st : St} {cb sb mb fb : Nat} {wv cv : Value} {lf : Int} {n1 n2 : Nat} {D1 D2 : DataW Value} {F G : List UInt8 → Value} {name : List UInt8} {l : List Nat} {nv : Value}
    (h : StoAt B w p st cb sb mb fb wv cv lf n1 n2 D1 D2 F G) (kg : w.grownBy w' (some mb)) (hM : w'.ownsMap Tryz.prog 9 RH mb (n2 + 1) (D2.put (.string name) (.held nv))) (hI : IBuf B w nv (ints l))
    (hno : st.streams.any (fun x => x.1 == name) = false) (hsh : ∀ d : List UInt8, d.length = 4 → nv.ownBlock = none ∨ nv.ownBlock ≠ (F d).ownBlock) :
    Stv B w' p { st with streams := st.streams ++ [(name, l)] } wv := by
  have hnot : ∀ x ∈ st.streams, x.1 ≠ name := fun x hx e => by
    have := List.any_eq_false.1 hno x hx
    simp [e] at this
  obtain ⟨lc, hlc⟩ := rest_row h.cut
  refine ⟨cb, sb, mb, fb, cv, lf, n1, n2 + 1, D1, D2.put (.string name) (.held nv), F, fun nm => if nm = name then nv else G nm, ?_⟩
  refine { h with row := (kg.block p h.row.lt (fun e => map_ne_row h.smap h.row (Option.some.inj e).symm)).trans h.row, cut := ?_, shelf := (kg.block sb h.shelf.lt (fun e => map_ne_row h.smap h.shelf (Option.some.inj e).symm)).trans h.shelf, text := World.ownsRow.kept h.text kg (.inr (map_ne_own h.smap h.text)), chunks := World.ownsRow.kept h.chunks kg (.inr (map_ne_own h.smap h.chunks)), fmap := h.fmap.kept kg (fun e => h.mbfb (Option.some.inj e).symm), smap := hM, n2le := ?_, found := fun d hd => ⟨(h.found d hd).1, World.ownsRow.kept (h.found d hd).2 kg (.inr (map_ne_own h.smap (h.found d hd).2))⟩, has := ?_, num := ?_, shun := ?_ }
  · have e : w'.heap[cb]? = w.heap[cb]? := kg.block cb hlc.lt (fun e => map_ne_row h.smap hlc (Option.some.inj e).symm)
    rcases h.cut with ⟨t, ht, hc⟩ | hc
    · exact .inl ⟨t, ht, e.trans hc⟩
    · exact .inr (e.trans hc)
  · have := h.n2le
    simp
    omega
  · intro nm
    rw [List.any_append]
    by_cases e : nm = name
    · subst e
      rw [Maps.has_put_same h.smap.isMap (show WideAt.IsKeyLit (.string nm) from trivial)]
      simp
    · rw [Maps.has_put_other (fun e1 => e (by simpa using e1)), h.has]
      have : (name == nm) = false := by simpa using fun e1 : name = nm => e e1.symm
      simp only [List.any_cons, List.any_nil, this, Bool.or_false]
  · intro x hx
    rcases List.mem_append.1 hx with hx | hx
    · rw [if_neg (hnot x hx), Maps.atKey_put_other (fun e1 => hnot x hx (by simpa using e1))]
      exact ⟨(h.num x hx).1, World.ownsRow.kept (h.num x hx).2 kg (.inr (map_ne_own h.smap (h.num x hx).2))⟩
    · simp only [List.mem_singleton] at hx
      subst hx
      simp only [if_true]
      exact ⟨Maps.atKey_put_same h.smap.isMap (show WideAt.IsKeyLit (.string name) from trivial) _ _, World.ownsRow.kept hI kg (.inr (map_ne_own h.smap hI))⟩
  · intro x hx d hd
    rcases List.mem_append.1 hx with hx | hx
    · rw [if_neg (hnot x hx)]
      exact h.shun x hx d hd
    · simp only [List.mem_singleton] at hx
      subst hx
      simp only [if_true]
      exact hsh d hd

theorem readS_none {st : St} {r : List UInt8} (h : streamRec r = none) : readS st r = none := by unfold readS; rw [h]
theorem readS_no {st : St} {r name : List UInt8} {l : List Nat} (h : streamRec r = some (name, l)) (hn : ¬ ((∀ n ∈ l, n < st.chunks.length) ∧ refE st name (joinL st.chunks l) = 0 ∧ cutInto st.chunks (partsL (joinL st.chunks l) st.mn st.mx st.bt) l = true)) : readS st r = none := by
  unfold readS; rw [h]; exact if_neg hn
theorem readS_yes {st : St} {r name : List UInt8} {l : List Nat} (h : streamRec r = some (name, l)) (hn : (∀ n ∈ l, n < st.chunks.length) ∧ refE st name (joinL st.chunks l) = 0 ∧ cutInto st.chunks (partsL (joinL st.chunks l) st.mn st.mx st.bt) l = true) : readS st r = some (name, l) := by
  unfold readS; rw [h]; exact if_pos hn
theorem vintsG_len (k : Nat) : ∀ (f : Nat) (s : List UInt8) (l : List Nat), vintsG k f s = some l → l.length ≤ s.length
  | 0, _, l, h => by simp [vintsG] at h; subst h; simp
  | f + 1, s, l, h => by
    simp only [vintsG] at h
    split at h
    · simp at h; subst h; simp
    · cases e : vintG true k s with
      | none => rw [e] at h; cases h
      | some x =>
        obtain ⟨n, r⟩ := x
        rw [e] at h
        simp only [Option.map_eq_some_iff] at h
        obtain ⟨l', hl', rfl⟩ := h
        have h1 := vintsG_len k f r l' hl'
        have h2 := vintG_len true k s n r e
        simp only [List.length_cons]
        omega
theorem streamRec_len {r name : List UInt8} {l : List Nat} (h : streamRec r = some (name, l)) : name.length ≤ r.length ∧ l.length ≤ r.length := by
  unfold streamRec at h
  split at h
  · split at h
    · simp only [Option.map_eq_some_iff, Prod.mk.injEq] at h
      obtain ⟨l', hl', rfl, rfl⟩ := h
      have := vintsG_len 3 _ _ _ hl'
      simp at this ⊢
      omega
    · cases h
  · cases h

set_option maxRecDepth 100000 in
set_option maxHeartbeats 3200000 in
theorem takeStream_any (s : ByteArray) (B p : Nat) (st : St) (wv : Value) (w : World) (h : Stv B w p st wv) (hB : B ≤ w.heap.size) (hs : s.size ≤ 70000) (hc : ∀ c ∈ st.chunks, 1 ≤ c.length ∧ c.length ≤ 200) (hss : st.streams.length ≤ 100000) :
    Calls Tryz.prog 112 #[.pointer (some ⟨p, 0, none⟩), .string s] w fun e w' =>
      (∃ name l, readS st (bl s) = some (name, l) ∧ e = .returned (.bool true) ∧ Stv B w' p { st with streams := st.streams ++ [(name, l)] } wv ∧ Below B w w') ∨
      (readS st (bl s) = none ∧ e = .returned (.bool false) ∧ Stv B w' p st wv ∧ Below B w w') := by
  have hnot := not_law
  obtain ⟨cb, sb, mb, fb, cv, lf, n1, n2, D1, D2, F, G, h⟩ := h
  obtain ⟨o, ho⟩ : ∃ o, streamRec (bl s) = o := ⟨_, rfl⟩
  have O : Hid (streamRec (bl s) = o) := ho
  go_enter Tryz.func112, Tryz.ntmps112
  go_wp2_with fail
  refine (readStream_any s _ hs).mono ?_
  rintro e w1 ⟨v, rfl, hv, hB1⟩
  rw [ho] at hv
  clear ho
  have h1 := h.grow hB1
  have hz1 := hB1.size
  cases o with
  | none =>
    obtain ⟨t, u, rfl⟩ := hv
    go_wp2
    go_ret
    exact .inr ⟨readS_none O.out, rfl, ⟨cb, sb, mb, fb, cv, lf, n1, n2, D1, D2, F, G, h1⟩, hB1.low hB⟩
  | some x =>
    obtain ⟨name, l⟩ := x
    obtain ⟨u, rfl, hu⟩ := hv
    have hlen := streamRec_len O.out
    rw [bl_length] at hlen
    have hush : ∀ d : List UInt8, d.length = 4 → u.ownBlock = none ∨ u.ownBlock ≠ (F d).ownBlock := fun d hd => by
      cases hub : u.ownBlock with
      | none => exact .inl rfl
      | some g =>
        refine .inr (fun e => ?_)
        have a1 := (hu.block g hub).1
        have a2 := ((h.found d hd).2.block g e.symm).2
        omega
    unfold strV
    by_cases hk : ∀ n ∈ l, n < st.chunks.length
    · have hkd : decide (∀ n ∈ l, n < st.chunks.length) = true := decide_eq_true hk
      go_wp2_with fail
      refine (known_any B _ p st u l _ ⟨cb, sb, mb, fb, wv, cv, lf, n1, n2, D1, D2, F, G, h1⟩ hu (by omega)).mono ?_
      rintro e w2 ⟨rfl, m2, rfl⟩
      rw [hkd]
      clear hkd
      have h2 : StoAt B (w1.drewN m2) p st cb sb mb fb wv cv lf n1 n2 D1 D2 F G := h1.grow (below_drewN (Below.refl _ _) _)
      have hu2 := hu.drewN m2
      go_wp2_with fail
      refine (join_any B p st u l _ ⟨cb, sb, mb, fb, wv, cv, lf, n1, n2, D1, D2, F, G, h2⟩ (by simpa using (by omega : B ≤ w1.heap.size)) hk (by omega) hc _ hu2).mono ?_
      rintro e w3 ⟨rfl, hB3⟩
      have h3 := h2.grow hB3
      have hu3 := hu2.below hB3
      have G13 : Grow w1 w3 := Grow.trans (below_drewN (Below.refl _ _) _) hB3
      have hz3 := G13.size
      obtain ⟨D, hD⟩ : ∃ D, joinL st.chunks l = D := ⟨_, rfl⟩
      have HD : Hid (joinL st.chunks l = D) := hD
      have hDl : D.length ≤ 100000000 := by
        have := join_len st.chunks (fun c h => (hc c h).2) l
        rw [hD] at this
        omega
      rw [hD]
      clear hD h2 hu2
      unfold strV
      have hDs : (ByteArray.mk D.toArray).size = D.length := rfl
      have hNs : (ByteArray.mk name.toArray).size = name.length := rfl
      go_wp2_with fail
      refine (refusal_any B p st ⟨name.toArray⟩ ⟨D.toArray⟩ _ ⟨cb, sb, mb, fb, wv, cv, lf, n1, n2, D1, D2, F, G, h3⟩ (by rw [hNs]; omega) (by rw [hDs]; omega)).mono ?_
      rintro e w4 ⟨rfl, rfl⟩
      rw [bl_mk, bl_mk]
      by_cases hr0 : refE st name D = 0
      · have hD2 : D.length ≤ 2000 := by
          unfold refE at hr0
          split at hr0
          · cases hr0
          · split at hr0
            · cases hr0
            · split at hr0
              · cases hr0
              · omega
        have hany : st.streams.any (fun x => x.1 == name) = false := by
          unfold refE at hr0
          split at hr0
          · cases hr0
          · split at hr0
            · cases hr0
            · rename_i hh; exact Bool.eq_false_iff.2 hh
        have HR0 : Hid (refE st name D = 0) := hr0
        rw [hr0]
        clear hr0
        go_wp2_with fail
        refine (isCutInto_any _ u ⟨D.toArray⟩ l h3 (by omega) hu3 hk (by rw [hDs]; exact hD2)).mono ?_
        rintro e w5 ⟨rfl, h5, hB5, hu5⟩
        rw [bl_mk]
        obtain ⟨b, hb⟩ : ∃ b, cutInto st.chunks (partsL D st.mn st.mx st.bt) l = b := ⟨_, rfl⟩
        have HB : Hid (cutInto st.chunks (partsL D st.mn st.mx st.bt) l = b) := hb
        rw [hb]
        clear hb
        have hBw5 : Below B w w5 := ((hB1.low hB).trans (G13.low (by omega))).trans hB5
        cases b with
        | false =>
          go_wp2
          go_ret
          refine .inr ⟨readS_no O.out (fun hh => ?_), rfl, ⟨cb, sb, mb, fb, cv, lf, n1, n2, D1, D2, F, G, h5⟩, hBw5⟩
          have := hh.2.2
          rw [HD.out, HB.out] at this
          cases this
        | true =>
          have RS : Hid (readS st (bl s) = some (name, l)) := readS_yes O.out ⟨hk, by rw [HD.out]; exact HR0.out, by rw [HD.out]; exact HB.out⟩
          have k6 : w5.cell? ⟨p, 6, none⟩ = some (.map (some mb)) := h5.row.cell 6
          have huL := hu5.low (show B ≤ w.heap.size from hB)
          have HUS : Hid (∀ d : List UInt8, d.length = 4 → u.ownBlock = none ∨ u.ownBlock ≠ (F d).ownBlock) := hush
          have HAN : Hid (st.streams.any (fun x => x.1 == name) = false) := hany
          have hn2 : n2 < maxLen := by have := h5.n2le; simp only [maxLen]; omega
          have hkey := WideMaps.keyOf_string_mk (P := Tryz.prog) Tryz.underlying9 (s := ⟨name.toArray⟩) (by rw [hNs]; simp only [maxLen]; omega)
          have hpm : some p ≠ some mb := fun e => map_ne_row h5.smap h5.row (Option.some.inj e).symm
          clear hk hush h1 h3 hu hu3 hany
          go_wp2_with fail
          go_region_held3 (fun w' => w'.cell? ⟨p, 6, none⟩ = some (.map (some mb))) (first | exact (hgU.cell_far _ (cell_lt k66) hpm).trans k66 | exact k66 | go_keep)
            (first | (go_at_call 58; refine (clone_any ⟨name.toArray⟩ _ (by rw [hNs]; omega)).mono ?_; rintro e w6 ⟨rfl, hG6⟩; have h6 := h5.grow (Grow.trans (Grow.refl w5).drew hG6); have k66 : w6.cell? ⟨p, 6, none⟩ = some (.map (some mb)) := h6.row.cell 6; obtain ⟨wU, hUP, hMU, hgU⟩ := World.ownsMap.update h6.smap strKeyed Tryz.underlying81 hn2 hkey (val := u) (d := .held u) (ps := []) rfl))
          all_goals
            clear hUP
            go_wp2
            go_ret
            have g56 : Grow w5 w6 := Grow.trans (Grow.refl w5).drew hG6
            have z56 := g56.size
            have z5 := hBw5.size
            exact .inl ⟨name, l, RS.out, rfl, strm_end h6 hgU hMU (huL.below g56) HAN.out HUS.out, (hBw5.trans (g56.low (by omega))).trans ((Below.refl B w6).grown hgU (by omega) (fun k hk => by cases hk; exact h6.low.2.2.2.1))⟩
      · have q0 : (refE st name D != 0) = true := by simpa using hr0
        have RN : Hid (readS st (bl s) = none) := readS_no O.out (fun hh => hr0 (by have := hh.2.1; rw [HD.out] at this; exact this))
        generalize refE st name D = r at *
        clear hr0
        go_wp2
        go_ret
        exact .inr ⟨RN.out, rfl, ⟨cb, sb, mb, fb, cv, lf, n1, n2, D1, D2, F, G, h3⟩, (hB1.low hB).trans (G13.low (by omega))⟩
    · have hkd : decide (∀ n ∈ l, n < st.chunks.length) = false := decide_eq_false hk
      have RN : Hid (readS st (bl s) = none) := readS_no O.out (fun hh => hk hh.1)
      clear hk
      go_wp2_with fail
      refine (known_any B _ p st u l _ ⟨cb, sb, mb, fb, wv, cv, lf, n1, n2, D1, D2, F, G, h1⟩ hu (by omega)).mono ?_
      rintro e w2 ⟨rfl, m2, rfl⟩
      rw [hkd]
      clear hkd
      have h2 : StoAt B (w1.drewN m2) p st cb sb mb fb wv cv lf n1 n2 D1 D2 F G := h1.grow (below_drewN (Below.refl _ _) _)
      go_wp2
      go_ret
      exact .inr ⟨RN.out, rfl, ⟨cb, sb, mb, fb, cv, lf, n1, n2, D1, D2, F, G, h2⟩, below_drewN (hB1.low hB) _⟩

/-- A frame's bytes are taken in; none: they are not right. -/
def takeL (st : St) (r : List UInt8) : Option St := match readC r st.mx with
  | some c => if c ∈ st.chunks then none else some { st with chunks := st.chunks ++ [c] }
  | none => match readS st r with
    | some x => some { st with streams := st.streams ++ [x] }
    | none => none

theorem readC_head {r c : List UInt8} {mx : Nat} (h : readC r mx = some c) : streamRec r = none := by
  unfold readC at h
  cases r with
  | nil => rfl
  | cons b t =>
    cases t with
    | nil => rfl
    | cons d u =>
      simp only [streamRec]
      rw [if_neg]
      rintro ⟨h2, _⟩
      simp only [chunkRec, h2] at h
      cases h

set_option maxRecDepth 100000 in
set_option maxHeartbeats 1600000 in
theorem take_any (s : ByteArray) (B p : Nat) (st : St) (wv : Value) (w : World) (h : Stv B w p st wv) (hB : B ≤ w.heap.size) (hs : s.size ≤ 70000) (hc : ∀ c ∈ st.chunks, 1 ≤ c.length ∧ c.length ≤ 200) (hcs : st.chunks.length ≤ 100000) (hss : st.streams.length ≤ 100000) :
    Calls Tryz.prog 87 #[.pointer (some ⟨p, 0, none⟩), .string s] w fun e w' => ∃ b : Bool, e = .returned (.bool b) ∧ Below B w w' ∧
      ((b = true ∧ ∃ st', takeL st (bl s) = some st' ∧ Stv B w' p st' wv) ∨ (b = false ∧ takeL st (bl s) = none ∧ Stv B w' p st wv)) := by
  go_enter Tryz.func87, Tryz.ntmps87
  go_wp2_with fail
  refine (takeChunk_any s B p st wv _ h hB hs hcs).mono ?_
  rintro e w1 (⟨c, hr, hno, rfl, hS, hB1⟩ | ⟨hall, rfl, hB1⟩)
  · have T : Hid (takeL st (bl s) = some { st with chunks := st.chunks ++ [c] }) := by show _ = _; unfold takeL; rw [hr]; exact if_neg hno
    clear hr hno
    go_wp2
    go_ret
    exact ⟨true, rfl, hB1, .inl ⟨rfl, _, T.out, hS⟩⟩
  · have hz := hB1.size
    go_wp2_with fail
    refine (takeStream_any s B p st wv _ (h.grow hB1) (by omega) hs hc hss).mono ?_
    rintro e w2 (⟨name, l, hr, rfl, hS, hB2⟩ | ⟨hr, rfl, hS, hB2⟩)
    · have T : Hid (takeL st (bl s) = some { st with streams := st.streams ++ [(name, l)] }) := by
        show _ = _
        unfold takeL
        cases hrc : readC (bl s) st.mx with
        | some c =>
          exfalso
          have := readS_none (st := st) (readC_head hrc)
          rw [this] at hr
          cases hr
        | none => simp only [hr]
      clear hr
      go_wp2
      go_ret
      exact ⟨true, rfl, (hB1.low hB).trans hB2, .inl ⟨rfl, _, T.out, hS⟩⟩
    · have T : Hid (takeL st (bl s) = none) := by
        show _ = _
        unfold takeL
        cases hrc : readC (bl s) st.mx with
        | some c => exact if_pos (hall c hrc)
        | none => simp only [hr]
      clear hr
      go_wp2
      go_ret
      exact ⟨false, rfl, (hB1.low hB).trans hB2, .inr ⟨rfl, T.out, hS⟩⟩

end Go.Proofs.YtheichphnppagaaGreat
