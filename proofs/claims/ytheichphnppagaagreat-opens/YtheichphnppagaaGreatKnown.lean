/- Opens: Known. -/
import Derived.Test.YtheichphnppagaaGreatFind
namespace Go.Proofs.YtheichphnppagaaGreat
open Go.RowKit
open Go.WideElems Go.WideMaps

def maxL (l : List Nat) : Nat := l.foldl max 0
theorem maxL_snoc {l : List Nat} {k n : Nat} (hk : k < l.length) (hn : l.getD k 0 = n) : maxL (l.take (k + 1)) = max (maxL (l.take k)) n := by
  unfold maxL
  rw [List.take_add_one, List.foldl_append, ← hn, List.getElem?_eq_getElem hk]
  simp [List.getD_eq_getElem?_getD, hk]
theorem maxL_ge : ∀ (l : List Nat) (a : Nat), a ≤ l.foldl max a ∧ ∀ n ∈ l, n ≤ l.foldl max a
  | [], a => ⟨Nat.le_refl _, by simp⟩
  | b :: r, a => by
    obtain ⟨h1, h2⟩ := maxL_ge r (max a b)
    simp only [List.foldl_cons]
    refine ⟨by omega, fun n hn => ?_⟩
    rcases List.mem_cons.1 hn with rfl | hn
    · omega
    · exact h2 n hn
theorem maxL_lt : ∀ (l : List Nat) (a m : Nat), a < m → (∀ n ∈ l, n < m) → l.foldl max a < m
  | [], _, _, h, _ => h
  | b :: r, a, m, h, hl => by
    simp only [List.foldl_cons]
    exact maxL_lt r (max a b) m (by have := hl b (by simp); omega) (fun n hn => hl n (by simp [hn]))
theorem maxL_bound (l : List Nat) (m : Nat) (hm : 0 < m) : maxL l < m ↔ ∀ n ∈ l, n < m :=
  ⟨fun h n hn => Nat.lt_of_le_of_lt ((maxL_ge l 0).2 n hn) h, fun h => maxL_lt l 0 m hm h⟩

set_option maxRecDepth 100000 in
set_option maxHeartbeats 1600000 in
theorem max_any (B g cap : Nat) (l : List Nat) (w : World) (h : IBuf B w (.slice (some ⟨g, 0, none⟩) l.length cap) (ints l)) (hl : 1 ≤ l.length) (hl2 : l.length ≤ 70000) :
    Calls Tryz.prog 163 #[.slice (some ⟨g, 0, none⟩) l.length cap] w fun e w' => e = .returned (.int .i64 (maxL l : Nat)) ∧ w' = w := by
  have c0 := h.cellN 0 (by omega)
  have hl1 : ¬ (l.length : Int) < 1 := by omega
  have hl3 : (0 : Int) < (l.length : Int) := by omega
  obtain ⟨n0, hn0⟩ : ∃ n, l.getD 0 0 = n := ⟨_, rfl⟩
  have h01 : Hid (maxL (l.take 1) = n0) := by show _ = _; rw [maxL_snoc (by omega) hn0]; simp [maxL]
  rw [hn0] at c0
  clear hn0
  go_enter Tryz.func163, Tryz.ntmps163
  go_wp2
  go_loop [3, 4] (fun v3 v4 => ∃ k m : Nat, v4 = .int .i64 k ∧ 1 ≤ k ∧ k ≤ l.length ∧ v3 = .int .i64 m ∧ Hid (maxL (l.take k) = m)) (fun _ v4 => l.length - (intOf v4).toNat)
  case atStart => exact ⟨1, n0, rfl, by omega, hl, rfl, h01⟩
  case round =>
    obtain ⟨k, m, rfl, hk1, hk, rfl, H⟩ := hrel
    by_cases hlt : (k : Int) < (l.length : Int)
    · have hkl : k < l.length := by omega
      have ck := h.cellN k hkl
      obtain ⟨n, hn⟩ : ∃ n, l.getD k 0 = n := ⟨_, rfl⟩
      have HS : Hid (maxL (l.take (k + 1)) = max m n) := by show _ = _; rw [maxL_snoc hkl hn, H.out]
      rw [hn] at ck
      clear hn hkl
      by_cases hmn : (m : Int) ≤ (n : Int)
      · go_wp2
        exact ⟨⟨k + 1, n, by go_num, by omega, by omega, (by split <;> first | rfl | (congr 1; omega)), (by show _ = _; rw [HS.out]; omega)⟩, by simp [intOf]; omega⟩
      · have hnm : (n : Int) ≤ (m : Int) := by omega
        go_wp2
        exact ⟨⟨k + 1, m, by go_num, by omega, by omega, (by first | rfl | (split <;> first | rfl | (congr 1; omega))), (by show _ = _; rw [HS.out]; omega)⟩, by simp [intOf]; omega⟩
    · have e : l.take k = l := List.take_of_length_le (by omega)
      have R := H.out
      rw [e] at R
      go_wp2
      go_ret
      exact ⟨by rw [← R]; rfl, rfl⟩

set_option maxRecDepth 100000 in
set_option maxHeartbeats 1600000 in
theorem known_any (B B' p : Nat) (st : St) (nv : Value) (l : List Nat) (w : World) (h : Sto B w p st) (hnv : IBuf B' w nv (ints l)) (hl2 : l.length ≤ 70000) :
    Calls Tryz.prog 131 #[.pointer (some ⟨p, 0, none⟩), nv] w fun e w' => e = .returned (.bool (decide (∀ n ∈ l, n < st.chunks.length))) ∧ ∃ n, w' = w.drewN n := by
  obtain ⟨cb, sb, mb, fb, wv, cv, lf, n1, n2, D1, D2, F, G, h⟩ := h
  have k5 : w.cell? ⟨p, 5, none⟩ = some (.pointer (some ⟨sb, 0, none⟩)) := h.row.cell 5
  rcases hnv.form with ⟨rfl, h0⟩ | ⟨g, cap, rfl, _, _⟩
  · have hl0 : l = [] := by simpa [ints] using h0
    subst hl0
    go_enter Tryz.func131, Tryz.ntmps131
    go_wp2_with fail
    go_quiet (fail)
    go_wp2
    go_ret
    exact ⟨by simp, _, rfl⟩
  · rw [ints_length] at hnv ⊢
    by_cases hl0 : l.length = 0
    · have e0 : l = [] := List.eq_nil_of_length_eq_zero hl0
      subst e0
      simp only [List.length_nil]
      go_enter Tryz.func131, Tryz.ntmps131
      go_wp2_with fail
      go_quiet (fail)
      go_wp2
      go_ret
      exact ⟨by simp, _, rfl⟩
    · have q0 : ((l.length : Int) == 0) = false := beq_eq_false_iff_ne.2 (by omega)
      have hmem : ∃ n, n ∈ l := by cases l with | nil => simp at hl0 | cons a r => exact ⟨a, by simp⟩
      have key : Hid (decide (maxL l < st.chunks.length) = decide (∀ n ∈ l, n < st.chunks.length)) := by
        show _ = _
        apply decide_eq_decide.2
        by_cases hc : 0 < st.chunks.length
        · rw [← maxL_bound l _ hc]
        · obtain ⟨n, hn⟩ := hmem
          constructor
          · intro h1; omega
          · intro h1; have := h1 n hn; omega
      go_enter Tryz.func131, Tryz.ntmps131
      go_wp2_with fail
      go_quiet (first
        | (go_at_call 163; exact Calls.quiet_of_same (max_any B' g cap l _ (hnv.drewN _) (by omega) hl2))
        | (go_at_call 34; exact Calls.quiet_of_same (count_any sb fb B cv st.chunks _ (by exact h.shelf) (by exact h.chunks))))
      go_wp2
      go_ret
      exact ⟨by rw [← key.out]; rfl, _, rfl⟩

/-- Is it a name? -/
def nameL (l : List UInt8) : Bool := l.all (fun b => decide (97 ≤ b.toNat ∧ b.toNat ≤ 122)) && decide (1 ≤ l.length ∧ l.length ≤ 12)
theorem nameL_bad {l : List UInt8} {k : Nat} {c : UInt8} (hk : k < l.length) (hc : l.getD k 0 = c) (h : c.toNat < 97 ∨ 122 < c.toNat) : nameL l = false := by
  unfold nameL
  have : l.all (fun b => decide (97 ≤ b.toNat ∧ b.toNat ≤ 122)) = false := by
    rw [List.all_eq_false]
    refine ⟨c, ?_, by simp; omega⟩
    rw [← hc, List.getD_eq_getElem?_getD, List.getElem?_eq_getElem hk]
    exact List.getElem_mem _
  rw [this]
  rfl
theorem nameL_end {l : List UInt8} (h : ∀ i, i < l.length → 97 ≤ (l.getD i 0).toNat ∧ (l.getD i 0).toNat ≤ 122) : nameL l = decide (1 ≤ l.length ∧ l.length ≤ 12) := by
  unfold nameL
  have : l.all (fun b => decide (97 ≤ b.toNat ∧ b.toNat ≤ 122)) = true := by
    rw [List.all_eq_true]
    intro b hb
    obtain ⟨i, hi, e⟩ := List.getElem_of_mem hb
    have := h i hi
    rw [List.getD_eq_getElem?_getD, List.getElem?_eq_getElem hi] at this
    simp only [Option.getD_some, e] at this
    simpa using this
  rw [this]
  rfl

set_option maxRecDepth 100000 in
set_option maxHeartbeats 1600000 in
theorem isName_any (s : ByteArray) (w : World) (hs : s.size ≤ 9223372036854775806) :
    Calls Tryz.prog 64 #[.string s] w fun e w' => e = .returned (.bool (nameL (bl s))) ∧ w' = w := by
  go_enter Tryz.func64, Tryz.ntmps64
  go_wp2
  go_loop [3, 6] (fun v3 v6 => ∃ k : Nat, v6 = .int .i64 k ∧ k ≤ s.size ∧ Hid (∀ i, i < k → 97 ≤ ((bl s).getD i 0).toNat ∧ ((bl s).getD i 0).toNat ≤ 122)) (fun _ v6 => s.size - (intOf v6).toNat)
  case atStart => exact ⟨0, rfl, by omega, (fun i hi => by omega)⟩
  case round =>
    obtain ⟨k, rfl, hk, H⟩ := hrel
    by_cases hlt : (k : Int) < (s.size : Int)
    · obtain ⟨c, hc⟩ : ∃ c, (bl s).getD k 0 = c := ⟨_, rfl⟩
      have i1 := index_here s k k c rfl (by omega) hc
      have C : Hid ((bl s).getD k 0 = c) := hc
      clear hc
      have hlc := c.toNat_lt
      have HK : Hid (k < (bl s).length) := (by rw [bl_length]; omega : k < (bl s).length)
      by_cases h1 : (c.toNat : Int) < 97
      · go_wp2
        go_ret
        exact ⟨ret_of (by rw [nameL_bad HK.out C.out (by omega)]; rfl), rfl⟩
      · by_cases h2 : (122 : Int) < (c.toNat : Int)
        · go_wp2
          go_ret
          exact ⟨ret_of (by rw [nameL_bad HK.out C.out (by omega)]; rfl), rfl⟩
        · have HH : Hid (∀ i, i < k + 1 → 97 ≤ ((bl s).getD i 0).toNat ∧ ((bl s).getD i 0).toNat ≤ 122) := by
            intro i hi
            by_cases c1 : i < k
            · exact H.out i c1
            · rw [show i = k by omega, C.out]
              omega
          go_wp2
          exact ⟨⟨k + 1, by go_num, by omega, HH⟩, by simp [intOf]; omega⟩
    · have R : Hid (nameL (bl s) = decide (1 ≤ s.size ∧ s.size ≤ 12)) := by
        show _ = _
        rw [nameL_end (fun i hi => H.out i (by rw [bl_length] at hi; omega)), bl_length]
      by_cases h1 : (1 : Int) ≤ (s.size : Int)
      · by_cases h2 : (s.size : Int) ≤ 12
        · go_wp2
          go_ret
          exact ⟨ret_of (by rw [R.out, decide_eq_true (by omega)]; rfl), rfl⟩
        · go_wp2
          go_ret
          exact ⟨ret_of (by rw [R.out, decide_eq_false (by omega)]; rfl), rfl⟩
      · go_wp2
        go_ret
        exact ⟨ret_of (by rw [R.out, decide_eq_false (by omega)]; rfl), rfl⟩

/-- What speaks against keeping a stream. -/
def refE (st : St) (name data : List UInt8) : Int := if nameL name = false then 4 else if st.streams.any (fun x => x.1 == name) = true then 5 else if 2000 < data.length then 6 else 0

/-- What a look-up by a name gives. -/
theorem look_name {B : Nat} {w : World} {p : Nat} {st : St} {cb sb mb fb : Nat} {wv cv : Value} {lf : Int} {n1 n2 : Nat} {D1 D2 : DataW Value} {F G : List UInt8 → Value}
    (h : StoAt B w p st cb sb mb fb wv cv lf n1 n2 D1 D2 F G) (s : ByteArray) (hs : s.size ≤ 1000000) :
    ∃ v, (Instr.lookup 81 (.map (some mb)) (.string s) true).run Tryz.prog w = .ok (.tuple #[v, .bool (st.streams.any (fun x => x.1 == bl s))]) w ∧ ∀ x ∈ st.streams, x.1 = bl s → v = G x.1 := by
  obtain ⟨v, ps, hr, hv⟩ := h.smap.look_ok strKeyed Tryz.underlying81 (zero34 w) (zd := .held (.slice none 0 0)) (zp := []) rfl (keyOf_string_mk Tryz.underlying9 (s := s) (by simp only [maxLen]; omega))
  rw [show s.data.toList = bl s from rfl] at hr hv
  refine ⟨v, by rw [hr, h.has], fun x hx e => ?_⟩
  have h1 := (h.num x hx).1
  have h2 := RH_inj hv
  rw [e] at h1
  rw [h1] at h2
  simp only [DataW.held.injEq] at h2
  rw [e]
  exact h2.symm

set_option maxRecDepth 100000 in
set_option maxHeartbeats 1600000 in
theorem refusal_any (B p : Nat) (st : St) (n d : ByteArray) (w : World) (h : Sto B w p st) (hn : n.size ≤ 1000000) (hd : d.size ≤ 100000000) :
    Calls Tryz.prog 38 #[.pointer (some ⟨p, 0, none⟩), .string n, .string d] w fun e w' => e = .returned (.int .i64 (refE st (bl n) (bl d))) ∧ w' = w := by
  obtain ⟨cb, sb, mb, fb, wv, cv, lf, n1, n2, D1, D2, F, G, h⟩ := h
  have hnot := not_law
  have k6 : w.cell? ⟨p, 6, none⟩ = some (.map (some mb)) := h.row.cell 6
  obtain ⟨v, hlk, _⟩ := look_name h n hn
  obtain ⟨b1, hb1⟩ : ∃ b, nameL (bl n) = b := ⟨_, rfl⟩
  obtain ⟨b2, hb2⟩ : ∃ b, st.streams.any (fun x => x.1 == bl n) = b := ⟨_, rfl⟩
  rw [hb2] at hlk
  have R : Hid (refE st (bl n) (bl d) = if b1 = false then 4 else if b2 = true then 5 else if 2000 < d.size then 6 else 0) := by show _ = _; unfold refE; rw [hb1, hb2, bl_length]
  clear hb2
  cases b1 with
  | false =>
    go_enter Tryz.func38, Tryz.ntmps38
    go_wp2_with fail
    refine (down_any p 83 _ _ _ _ _ _ _ _ h.row).mono ?_
    rintro e w1 ⟨rfl, rfl⟩
    go_wp2_with fail
    refine (isName_any n _ (by omega)).mono ?_
    rintro e w2 ⟨rfl, rfl⟩
    rw [hb1]
    clear hb1
    go_wp2
    go_ret
    exact ⟨ret_of (by rw [R.out]; rfl), rfl⟩
  | true =>
    cases b2 with
    | true =>
      go_enter Tryz.func38, Tryz.ntmps38
      go_wp2_with fail
      refine (down_any p 83 _ _ _ _ _ _ _ _ h.row).mono ?_
      rintro e w1 ⟨rfl, rfl⟩
      go_wp2_with fail
      refine (isName_any n _ (by omega)).mono ?_
      rintro e w2 ⟨rfl, rfl⟩
      rw [hb1]
      clear hb1
      go_wp2
      go_ret
      exact ⟨ret_of (by rw [R.out]; rfl), rfl⟩
    | false =>
      by_cases hbig : (2000 : Int) < (d.size : Int)
      · go_enter Tryz.func38, Tryz.ntmps38
        go_wp2_with fail
        refine (down_any p 83 _ _ _ _ _ _ _ _ h.row).mono ?_
        rintro e w1 ⟨rfl, rfl⟩
        go_wp2_with fail
        refine (isName_any n _ (by omega)).mono ?_
        rintro e w2 ⟨rfl, rfl⟩
        rw [hb1]
        clear hb1
        go_wp2
        go_ret
        exact ⟨ret_of (by rw [R.out, if_neg (by decide), if_neg (by decide), if_pos (by omega)]; rfl), rfl⟩
      · go_enter Tryz.func38, Tryz.ntmps38
        go_wp2_with fail
        refine (down_any p 83 _ _ _ _ _ _ _ _ h.row).mono ?_
        rintro e w1 ⟨rfl, rfl⟩
        go_wp2_with fail
        refine (isName_any n _ (by omega)).mono ?_
        rintro e w2 ⟨rfl, rfl⟩
        rw [hb1]
        clear hb1
        go_wp2
        go_ret
        exact ⟨ret_of (by rw [R.out, if_neg (by decide), if_neg (by decide), if_neg (by omega)]; rfl), rfl⟩

end Go.Proofs.YtheichphnppagaaGreat
