/- Opens: RList, RList2. -/
import Derived.Test.YtheichphnppagaaGreatList
import Derived.Test.YtheichphnppagaaGreatRName
import Derived.Laws.CopyOwn
import Derived.Test.YtheichphnppagaaGreatSMarks
import Derived.Sort.Walk0
import Derived.Deep.RegionLaw
namespace Go.Proofs.YtheichphnppagaaGreat
open Go.RowKit
attribute [local go_sem ↓] Go.wp_at_zero Go.wp_at_succ

theorem uniq_eq : ∀ {l : List (List UInt8 × List Nat)} {x y : List UInt8 × List Nat}, (l.map (·.1)).Nodup → x ∈ l → y ∈ l → x.1 = y.1 → x = y
  | [], _, _, _, hx, _, _ => by cases hx
  | a :: t, x, y, h, hx, hy, e => by
    rw [List.map_cons, List.nodup_cons] at h
    rcases List.mem_cons.1 hx with hxa | hx'
    · rcases List.mem_cons.1 hy with hya | hy'
      · rw [hxa, hya]
      · exact absurd (List.mem_map.2 ⟨y, hy', by rw [← e, hxa]⟩) h.1
    · rcases List.mem_cons.1 hy with hya | hy'
      · exact absurd (List.mem_map.2 ⟨x, hx', by rw [e, hya]⟩) h.1
      · exact uniq_eq h.2 hx' hy' e

set_option maxRecDepth 100000 in
set_option maxHeartbeats 1600000 in
theorem refRestore_any (s : ByteArray) (B q : Nat) (st : St) (x : List UInt8 × List Nat) (w : World) (h : Rf B w q st) (hs : Sane st) (hx : x ∈ st.streams) (hn : bl s = x.1) :
    Calls Tryz.prog 42 #[.pointer (some ⟨q, 0, none⟩), .string s] w fun e w' => e = .returned (.tuple #[strV (joinL st.chunks x.2), .int .i64 0]) ∧ Grow w w' := by
  have hnot := not_law
  have hcnt := hs.count
  have htx := hs.text
  have hrm := hs.room
  obtain ⟨cv, sv, G, h⟩ := h
  have k8 : w.cell? ⟨q, 8, none⟩ = some (.bool false) := h.row.cell 8
  have k6 : w.cell? ⟨q, 6, none⟩ = some sv := h.row.cell 6
  go_enter Tryz.func42, Tryz.ntmps42
  go_wp2_with fail
  refine (refStream_any s B q st _ ⟨cv, sv, G, h⟩ (by omega)).mono ?_
  rintro e w9 ⟨n, rfl, ew, hF⟩
  rw [ew]
  clear ew w9
  rcases hF with ⟨_, hno⟩ | ⟨k, y, rfl, hy, hyn⟩
  · exact absurd hn.symm (hno x hx)
  · have hyx : y = x := uniq_eq hs.uniq (List.mem_of_getElem? hy) hx (hyn.trans hn)
    subst hyx
    have hk : k < st.streams.length := (List.getElem?_eq_some_iff.1 hy).1
    have hk2 : (k : Int) < (st.streams.length : Int) := by omega
    rcases strs_form h.strs with ⟨_, h0⟩ | ⟨g, cap, rfl, _, _⟩
    · omega
    obtain ⟨_, kc⟩ := strs_cell h.strs hy
    obtain ⟨a1, a2, _⟩ := hs.strm y hx
    have hI := h.num y hx
    clear hy hyn hk
    go_wp2_with fail
    refine (refJoin_any B q st _ y.2 _ ⟨cv, _, G, h⟩ a1 a2 hs.chunk _ hI).mono ?_
    rintro e w2 ⟨rfl, g2⟩
    go_wp2
    go_ret2
    exact ⟨rfl, g2⟩

/-- A name is laid among names. -/
def insL (c : List UInt8) : List (List UInt8) → List (List UInt8)
  | [] => [c]
  | a :: t => if a < c then a :: insL c t else c :: a :: t
theorem insL_perm (c : List UInt8) : ∀ l, (insL c l).Perm (c :: l)
  | [] => List.Perm.refl _
  | a :: t => by
    unfold insL
    split
    · exact ((insL_perm c t).cons a).trans (List.Perm.swap c a t)
    · exact List.Perm.refl _
theorem insL_split (c : List UInt8) : ∀ (l : List (List UInt8)) (k : Nat), k ≤ l.length → (∀ i, i < k → l.getD i [] < c) → (k < l.length → ¬ l.getD k [] < c) → insL c l = l.take k ++ c :: l.drop k
  | [], k, hk, _, _ => by
    have : k = 0 := by simpa using hk
    subst this
    rfl
  | a :: t, 0, _, _, h2 => by
    have := h2 (by simp)
    unfold insL
    rw [if_neg (by simpa using this)]
    rfl
  | a :: t, k + 1, hk, h1, h2 => by
    have h0 : a < c := by simpa using h1 0 (by omega)
    unfold insL
    rw [if_pos h0, insL_split c t k (by simpa using hk) (fun i hi => by simpa using h1 (i + 1) (by omega)) (fun hlt => by simpa using h2 (by simpa using hlt))]
    rfl
def insAll (xs : List (List UInt8)) : List (List UInt8) := xs.foldl (fun l c => insL c l) []
theorem insAll_snoc (xs : List (List UInt8)) (c : List UInt8) : insAll (xs ++ [c]) = insL c (insAll xs) := by unfold insAll; rw [List.foldl_append]; rfl
theorem insAll_perm : ∀ (xs : List (List UInt8)) (l : List (List UInt8)), (xs.foldl (fun l c => insL c l) l).Perm (l ++ xs)
  | [], l => by simp
  | a :: t, l => by
    rw [List.foldl_cons]
    refine (insAll_perm t (insL a l)).trans ?_
    refine ((insL_perm a l).append_right t).trans ?_
    rw [List.cons_append]
    exact (List.perm_middle).symm
theorem insL_sorted (c : List UInt8) : ∀ l : List (List UInt8), l.Pairwise (· ≤ ·) → (insL c l).Pairwise (· ≤ ·)
  | [], _ => by simp [insL]
  | a :: t, h => by
    rw [List.pairwise_cons] at h
    unfold insL
    split
    · rename_i hlt
      rw [List.pairwise_cons]
      refine ⟨fun b hb => ?_, insL_sorted c t h.2⟩
      rcases List.mem_cons.1 ((insL_perm c t).mem_iff.1 hb) with rfl | hb
      · exact List.le_of_lt hlt
      · exact h.1 b hb
    · rename_i hlt
      have hca : c ≤ a := List.not_lt.1 hlt
      rw [List.pairwise_cons]
      refine ⟨fun b hb => ?_, List.pairwise_cons.2 h⟩
      rcases List.mem_cons.1 hb with rfl | hb
      · exact hca
      · exact List.le_trans hca (h.1 b hb)
theorem insAll_sorted : ∀ (xs l : List (List UInt8)), l.Pairwise (· ≤ ·) → (xs.foldl (fun l c => insL c l) l).Pairwise (· ≤ ·)
  | [], _, h => h
  | a :: t, l, h => insAll_sorted t _ (insL_sorted a l h)
theorem insAll_eq (st : St) : insAll (st.streams.map (·.1)) = listL st := by
  have tr : ∀ a b c : List UInt8, Go.leB a b = true → Go.leB b c = true → Go.leB a c = true := fun a b c h1 h2 => by simp only [Go.leB, decide_eq_true_eq] at *; exact List.le_trans h1 h2
  have to : ∀ a b : List UInt8, (Go.leB a b || Go.leB b a) = true := fun a b => by simp only [Go.leB, Bool.or_eq_true, decide_eq_true_eq]; exact List.le_total a b
  refine List.Perm.eq_of_pairwise (le := fun a b => Go.leB a b = true) (fun a b _ _ h1 h2 => ?_) ?_ (List.pairwise_mergeSort tr to _) ?_
  · simp only [Go.leB, decide_eq_true_eq] at h1 h2
    exact List.le_antisymm h1 h2
  · refine (insAll_sorted (st.streams.map (·.1)) [] List.Pairwise.nil).imp (fun {a b} h => ?_)
    simpa [Go.leB] using h
  · have := insAll_perm (st.streams.map (·.1)) []
    rw [List.nil_append] at this
    exact this.trans (listL_perm st).symm

end Go.Proofs.YtheichphnppagaaGreat
namespace Go.Proofs.YtheichphnppagaaGreat
open Go.RowKit
attribute [local go_sem ↓] Go.wp_at_zero Go.wp_at_succ

theorem insL_length (c : List UInt8) (l : List (List UInt8)) : (insL c l).length = l.length + 1 := (insL_perm c l).length_eq
theorem insAll_length (xs : List (List UInt8)) : (insAll xs).length = xs.length := by
  have := (insAll_perm xs []).length_eq
  simpa [insAll] using this

theorem wpList_append_sbuf4 {w : World} {ops : Array Oper} {rest : List Oper} {o : Oper} {a : Act} {Q : Exit → Act → World → Prop} (hgd : o.guard = none) (s x : Operand) (tx : TypeId)
    (ho : o.op = .call { callee := .builtin .append, args := #[s, x], argTypes := #[24, tx] })
    (B : Nat) (v xv : Value) (l news : List (List UInt8)) (hs : a.eval s = v) (hx : a.eval x = xv) (hown : SBuf B w v l) (hm : 0 < news.length) (hsrc : Src Tryz.prog 1 tx xv news.length (cellsOfStrs news) w)
    (hlen : l.length + news.length ≤ 100000000) (hB : B ≤ w.heap.size)
    (h : ∀ g cap w', SBuf B w' (.slice (some ⟨g, 0, none⟩) (l.length + news.length) cap) (l ++ news) → Below B w w' → wpList Tryz.prog ops Q rest (a.put o.dst (.slice (some ⟨g, 0, none⟩) (l.length + news.length) cap)) w') : wpList Tryz.prog ops Q (o :: rest) a w :=
  wpList_append_sbuf2 hgd s x tx ho B v xv l news hs hx hown hm hsrc hlen hB (fun g cap w' hb hg => h g cap w' hb ((Below.refl B w).grown hg hB (fun k hk => (hown.block k hk).1)))
theorem src_cell {B : Nat} {w : World} {g cap n k : Nat} {L : List (List UInt8)} (hn : (L ++ [[]]).length = n) (hb : SBuf B w (.slice (some ⟨g, 0, none⟩) n cap) (L ++ [[]])) :
    ∀ (j : Nat) v, (cellsOfStrs (L.drop k))[j]? = some v → w.cell? ((⟨g, k, none⟩ : Addr).add j) = some v := by
  intro j v hj
  subst hn
  have hj' : k + j < L.length := by
    have := (List.getElem?_eq_some_iff.1 hj).1
    rw [cellsOfStrs_length, List.length_drop] at this
    omega
  have hc := World.ownsRow.cellAt hb (k + j) (by simp; omega)
  rw [show (⟨g, k, none⟩ : Addr).add j = ⟨g, k + j, none⟩ by simp [Addr.add], hc, ← hj]
  unfold cellsOfStrs
  rw [List.getElem?_map, List.getElem?_map, List.getElem?_drop, List.getElem?_append_left hj']

set_option maxRecDepth 100000 in
set_option maxHeartbeats 3200000 in
theorem refList_any (B q : Nat) (st : St) (w : World) (h : Rf B w q st) (hs : Sane st) :
    Calls Tryz.prog 47 #[.pointer (some ⟨q, 0, none⟩)] w fun e w' => ∃ v, e = .returned v ∧ SBuf w.heap.size w' v (listL st) ∧ Grow w w' := by
  have hcnt := hs.count
  have htx := hs.text
  have hrm := hs.room
  obtain ⟨cv, sv, G, h⟩ := h
  have k8 : w.cell? ⟨q, 8, none⟩ = some (.bool false) := h.row.cell 8
  have k6 : w.cell? ⟨q, 6, none⟩ = some sv := h.row.cell 6
  have hln := len_strs h.strs
  go_enter Tryz.func47, Tryz.ntmps47
  go_wp2
  go_loopw [3, 4, 5] (fun v3 v4 _ wr => ∃ (i : Nat) (u : Value), u = v3 ∧ v4 = .int .i64 i ∧ i ≤ st.streams.length ∧ SBuf w.heap.size wr u (insAll ((st.streams.map (·.1)).take i)) ∧ Grow w wr) (fun _ v4 _ _ => st.streams.length - (intOf v4).toNat)
  case atStart => exact ⟨0, _, rfl, rfl, by omega, SBuf.nil _ _, Grow.refl _⟩
  case round =>
    obtain ⟨i, u, rfl, rfl, hi, hb, hg⟩ := hrel
    have l6 := cell_kept k6 hg
    by_cases hlt : (i : Int) < (st.streams.length : Int)
    · have hil : i < st.streams.length := by omega
      rcases strs_form h.strs with ⟨_, h0⟩ | ⟨g0, cap0, rfl, _, _⟩
      · omega
      obtain ⟨y, hy⟩ : ∃ y, st.streams[i]? = some y := ⟨_, List.getElem?_eq_getElem hil⟩
      obtain ⟨kc0, _⟩ := strs_cell h.strs hy
      have kc := cell_kept kc0 hg
      obtain ⟨c, hc⟩ : ∃ c, y.1 = c := ⟨_, rfl⟩
      unfold strV at kc kc0
      rw [hc] at kc kc0
      have E : Hid (insAll ((st.streams.map (·.1)).take (i + 1)) = insL c (insAll ((st.streams.map (·.1)).take i))) := by
        show _ = _
        rw [List.take_succ_eq_append_getElem (by simpa using hil), insAll_snoc]
        congr 1
        rw [List.getElem_map]
        have : st.streams[i] = y := by rw [List.getElem?_eq_getElem hil] at hy; exact Option.some.inj hy
        rw [this, hc]
      have hLl : (insAll ((st.streams.map (·.1)).take i)).length = i := by rw [insAll_length]; simp; omega
      obtain ⟨L, hL⟩ : ∃ L, insAll ((st.streams.map (·.1)).take i) = L := ⟨_, rfl⟩
      rw [hL] at hb hLl E
      have HLl : Hid (L.length = i) := hLl
      have hL6 : L.length ≤ 60000 := by omega
      clear hL hy hc hil hln hLl
      go_wp2
      go_loopw [5] (fun v5 w5 => ∃ k : Nat, v5 = .int .i64 k ∧ k ≤ L.length ∧ SBuf w.heap.size w5 u L ∧ Grow w w5 ∧ Hid (∀ j, j < k → L.getD j [] < c)) (fun v5 _ => L.length - (intOf v5).toNat)
      case atStart => exact ⟨0, rfl, by omega, hb, hg, fun j hj => by omega⟩
      case round =>
        clear kc l6 hb hg
        obtain ⟨k, rfl, hk, hb, hg, H5⟩ := hrel
        have l6 := cell_kept k6 hg
        have kc := cell_kept kc0 hg
        have hzr := hg.size
        by_cases hin : k < L.length ∧ L.getD k [] < c
        · obtain ⟨hkl, hac⟩ := hin
          obtain ⟨g3, cap3, rfl, hg1, hg2⟩ := hb.formNe (by omega)
          have kc3 := hb.cell k hkl
          unfold strV at kc3
          have H6 : Hid (∀ j, j < k + 1 → L.getD j [] < c) := fun j hj => by
            by_cases c1 : j < k
            · exact H5.out j c1
            · rw [show j = k by omega]; exact hac
          obtain ⟨a, ha⟩ : ∃ a, L.getD k [] = a := ⟨_, rfl⟩
          rw [ha] at kc3 hac
          have q1 : Op.bytesLess a c = true := by rw [bytesLess_eq]; exact decide_eq_true hac
          have hkl2 : (k : Int) < (L.length : Int) := by omega
          clear ha hac
          go_wp2_with fail
          go_quiet (fail)
          go_wp2
          exact ⟨⟨k + 1, by go_num, by omega, hb, below_drewN hg _, H6⟩, by simp [intOf]; omega⟩
        · have E2 : Hid (insL c L = L.take k ++ c :: L.drop k) := insL_split c L k hk H5.out (fun hlt h => hin ⟨hlt, h⟩)
          have hq : (∃ g3 cap3 a, u = .slice (some ⟨g3, 0, none⟩) L.length cap3 ∧ k < L.length ∧ wr.cell? ⟨g3, k, none⟩ = some (.string ⟨a.toArray⟩) ∧ Op.bytesLess a c = false) ∨ (decide (k < L.length) = false ∧ ∀ W, (Builtin.len_ #[24] 3 #[u]).run Tryz.prog W = .ok (.int .i64 (L.length : Nat)) W) := by
            by_cases hkl : k < L.length
            · obtain ⟨g3, cap3, rfl, _, _⟩ := hb.formNe (by omega)
              refine .inl ⟨g3, cap3, L.getD k [], rfl, hkl, hb.cell k hkl, ?_⟩
              rw [bytesLess_eq]
              exact decide_eq_false (fun h => hin ⟨hkl, h⟩)
            · exact .inr ⟨decide_eq_false hkl, len_sbuf hb⟩
          clear hin H5
          rcases hq with ⟨g3, cap3, a, rfl, hkl, kc3, q1⟩ | ⟨hq, hln5⟩
          all_goals
            go_wp2_with fail
            go_quiet (fail)
            obtain ⟨w2, hw2⟩ : ∃ w2, wr.drewN nq = w2 := ⟨_, rfl⟩
            have gw2 : Grow wr w2 := by rw [← hw2]; exact below_drewN (Grow.refl _) _
            have hb2 := hb.kept (gw2.grown none) (by cases Value.ownBlock _ <;> simp)
            have hg2 := Grow.trans hg gw2
            have hz2 := hg2.size
            rw [hw2]
            clear hw2
            go_wp2_with (at_builtin; refine wpList_append_sbuf4 rfl (.tmp 45) (.tmp 46) 24 rfl w.heap.size _ _ L [[]] rfl rfl (hb2.alloc _) (by simp) (ssrc_one w2 ⟨#[]⟩ [] rfl) (by simp; omega) (by simp; omega) ?_; intro g6 cap6 w6 hb6 gb6)
            have gB6 : Grow w w6 := Below.trans (hg2.alloc _) gb6
            have hn6 : (L ++ [[]]).length = L.length + 1 := by simp
            have hb6' : SBuf w.heap.size w6 (.slice (some ⟨g6, 0, none⟩) (L.length + 1) cap6) (L ++ [[]]) := hb6
            obtain ⟨cur, hc6, hcl, hcn, hcm, hct, hB6⟩ := hb6'.cur hn6
            have S6 := src_cell (k := k) hn6 hb6'
            have kk0 : IntKind.i64.wrap ((k : Int) + 1) = (k : Int) + 1 := by rw [IntKind.wrap_i64]; omega
            have kk6 : ((k : Int) + 1).toNat = k + 1 := by omega
            have kk1 : (0 : Int) ≤ (k : Int) + 1 := by omega
            have kk2 : (k : Int) + 1 ≤ (L.length : Int) + 1 := by omega
            have kk3 : (k : Int) ≤ (L.length : Int) + 1 := by omega
            have kk4 : k ≤ L.length := hk
            have kk5 : k ≤ L.length + 1 := by omega
            clear hb6 gb6 hb2 hb hg hg2 gw2 hz2
            have N6 : (cellsOfStrs (L.drop k)).length = Nat.min (L.length + 1 - k) (L.length - k) := by
              rw [cellsOfStrs_length, List.length_drop]
              exact (Nat.min_eq_right (by omega)).symm
            have P6 : 0 < (cellsOfStrs (L.drop k)).length → (if cap6 = k + 1 then some (⟨g6, 0, none⟩ : Addr) else some ⟨g6, k + 1, none⟩) = some ⟨g6, k + 1, none⟩ ∧ ∃ ad, (if cap6 = k then some (⟨g6, 0, none⟩ : Addr) else some ⟨g6, k, none⟩) = some ad ∧ ∀ (j : Nat) v, (cellsOfStrs (L.drop k))[j]? = some v → w6.drew.cell? (ad.add j) = some v := by
              intro hp
              rw [cellsOfStrs_length, List.length_drop] at hp
              rw [if_neg (by omega), if_neg (by omega)]
              exact ⟨rfl, _, rfl, S6⟩
            have F6 : k + 1 + (cellsOfStrs (L.drop k)).length ≤ cur.length := by rw [cellsOfStrs_length, List.length_drop]; omega
            go_region_law (first | (refine step_copy_splice (by rfl) (.tmp 51) (.tmp 54) 24 24 (by rfl) 9 Tryz.underlying24 Tryz.size9 (if cap6 = k + 1 then some ⟨g6, 0, none⟩ else some ⟨g6, k + 1, none⟩) (if cap6 = k then some ⟨g6, 0, none⟩ else some ⟨g6, k, none⟩) (L.length - k) (cap6 - (k + 1)) (L.length + 1 - k) (cap6 - k) (by go_simp) (by go_simp) g6 (k + 1) cur 9 (by exact hc6) (cellsOfStrs (L.drop k)) N6 P6 F6 (cellsOfStrs_one _) w.heap.size w (by exact gB6.drew) hB6 ?_; intro w7 hg7 hb7; have l67 := cell_kept k6 hb7; have kc7 := cell_kept kc0 hb7; obtain ⟨hS7, hf7, u7, hu7⟩ := copy_end c hk hcl hcn hcm hct hg7.out hB6))
            go_wp2
            rw [← E2.out, ← E.out] at hS7
            exact ⟨⟨i + 1, _, rfl, by go_num, by omega, hS7, hb7.setCell hB6 _⟩, by simp [intOf]; omega⟩
    · go_wp2
      go_ret
      have e : (st.streams.map (·.1)).take i = st.streams.map (·.1) := List.take_of_length_le (by simp; omega)
      rw [e, insAll_eq] at hb
      exact ⟨_, rfl, hb, hg⟩

end Go.Proofs.YtheichphnppagaaGreat
