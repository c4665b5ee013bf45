/- THE WALKS of larderref.Pack, larderref.Unpack, larderlaw.Packs, AND ITS ROW. -/
import Derived.Test.YtheichphnppagaaRows
import Derived.Test.YtheichphnppagaaUnpack
import Derived.Test.YtheichphnppagaaRefPack
import Derived.Test.YtheichphnppagaaRefUn
import Derived.ProofKit
import Derived.OpenShut
import Derived.ShutString
import Derived.Below
import Derived.SizedLaws
namespace Go.Proofs.Ytheichphnppagaa
open Go.ChangeShapes Go.WideShapes Go.ChangeAt Go.RowKit
open Go.ChangeMaps (open_string shut_string)

theorem rpack_ok (s : ByteArray) (w : World) (hs : s.size ≤ 2000) :
    Calls Try.prog 16 #[.string s] w fun e w' => e = .returned (.tuple #[.string ⟨(sq (bl s)).toArray⟩, .int .i64 0]) ∧ Below w.heap.size w w' := by
  have h1 : ¬ (2000 : Int) < (s.size : Int) := by omega
  go_enter Try.func16, Try.ntmps16
  go_wp2_with fail
  refine (squeeze_any s _ hs).mono ?_
  rintro e w1 ⟨rfl, hbw1⟩
  go_wp2
  go_ret2
  exact ⟨rfl, hbw1⟩

theorem rpack_big (s : ByteArray) (w : World) (hs : 2000 < s.size) :
    Calls Try.prog 16 #[.string s] w fun e w' => e = .returned (.tuple #[.string ⟨#[]⟩, .int .i64 6]) ∧ w' = w := by
  have h1 : (2000 : Int) < (s.size : Int) := by omega
  go_enter Try.func16, Try.ntmps16
  go_wp2
  go_ret2
  exact ⟨rfl, rfl⟩

set_option maxHeartbeats 800000 in
theorem runpack_any (s : ByteArray) (w : World) (hs : s.size ≤ 4611686018427387904) :
    Calls Try.prog 18 #[.string s] w fun e w' => e = .returned (.tuple #[strO (unp (bl s)), .int .i64 (errO (unp (bl s)))]) ∧ Below w.heap.size w w' := by
  cases h : loT 2000 (bl s) [] with
  | none =>
    have R : Hid (unp (bl s) = none) := by show _ = _; simp [unp, h]
    go_enter Try.func18, Try.ntmps18
    go_wp2_with fail
    refine (loose_any s _ hs).mono ?_
    rintro e w1 ⟨rfl, rfl⟩
    rw [h]
    clear h
    simp only [strO, Option.getD_none, Option.isSome_none]
    go_wp2
    go_ret2
    exact ⟨lun_no R.out, Below.refl _ _⟩
  | some d =>
    have hd : d.length ≤ 2000 := loG_length _ 2000 (bl s) [] d (by simp) h
    by_cases hq : sq d = bl s
    · have R : Hid (unp (bl s) = some d) := by show _ = _; simp [unp, h, hq]
      have q1 : (sq d == s.toList) = true := by rw [toList_bl, hq]; simp
      clear hq
      go_enter Try.func18, Try.ntmps18
      go_wp2_with fail
      refine (loose_any s _ hs).mono ?_
      rintro e w1 ⟨rfl, rfl⟩
      rw [h]
      clear h
      simp only [strO, Option.getD_some, Option.isSome_some]
      go_wp2_with fail
      refine (squeeze_any ⟨d.toArray⟩ _ (by rw [size_mk]; exact hd)).mono ?_
      rintro e w2 ⟨rfl, hbw2⟩
      rw [bl_mk]
      go_wp2
      go_ret2
      exact ⟨lun_yes R.out, hbw2⟩
    · have R : Hid (unp (bl s) = none) := by show _ = _; simp [unp, h, hq]
      have q1 : (sq d == s.toList) = false := by rw [toList_bl]; simp [hq]
      clear hq
      go_enter Try.func18, Try.ntmps18
      go_wp2_with fail
      refine (loose_any s _ hs).mono ?_
      rintro e w1 ⟨rfl, rfl⟩
      rw [h]
      clear h
      simp only [strO, Option.getD_some, Option.isSome_some]
      go_wp2_with fail
      refine (squeeze_any ⟨d.toArray⟩ _ (by rw [size_mk]; exact hd)).mono ?_
      rintro e w2 ⟨rfl, hbw2⟩
      rw [bl_mk]
      go_wp2
      go_ret2
      exact ⟨lun_no R.out, hbw2⟩

theorem hidIt {p : Prop} (h : p) : Hid p := h
/-- Pack's and the document's answer are one: a string, a number. -/
theorem lpack_one (s : ByteArray) (w : World) : ∃ (t : List UInt8) (n : Int), (Calls Try.prog 15 #[.string s] w fun e w' => e = .returned (.tuple #[.string ⟨t.toArray⟩, .int .i64 n]) ∧ Below w.heap.size w w') ∧
    ∀ w1 : World, Calls Try.prog 16 #[.string s] w1 fun e w' => e = .returned (.tuple #[.string ⟨t.toArray⟩, .int .i64 n]) ∧ Below w1.heap.size w1 w' := by
  by_cases h : s.size ≤ 2000
  · exact ⟨_, _, lpack_ok s w h, fun w1 => rpack_ok s w1 h⟩
  · refine ⟨[], 6, (lpack_big s w (by omega)).mono ?_, fun w1 => (rpack_big s w1 (by omega)).mono ?_⟩
    · rintro e w' ⟨rfl, rfl⟩; exact ⟨rfl, Below.refl _ _⟩
    · rintro e w' ⟨rfl, rfl⟩; exact ⟨rfl, Below.refl _ _⟩

theorem unp_str (s : ByteArray) : ∃ (t : List UInt8) (n : Int), strO (unp (bl s)) = .string ⟨t.toArray⟩ ∧ errO (unp (bl s)) = n := ⟨_, _, rfl, rfl⟩

theorem abc : sq [97, 98, 99, 97, 98, 99, 97, 98, 99, 100] = [2, 97, 98, 99, 131, 3, 0, 100] := by decide +kernel

set_option maxHeartbeats 1600000 in
theorem packs_walk (a b : ByteArray) (hb : b.size ≤ 4611686018427387904) (w : World) :
    Calls Try.prog 6 #[.string a, .string b] w fun e w' => e = .returned (.bool true) ∧ Below w.heap.size w w' := by
  obtain ⟨t, n, c1, c2⟩ := lpack_one a w
  have C1 := hidIt c1
  have C2 := hidIt c2
  clear c1 c2
  go_enter Try.func6, Try.ntmps6
  go_wp2_with fail
  refine C1.out.mono ?_
  rintro e w1 ⟨rfl, b1⟩
  go_wp2_with fail
  refine (C2.out _).mono ?_
  rintro e w2 ⟨rfl, b2⟩
  clear C1 C2
  have h2 := b1.trans (b2.mono b1.size)
  clear b1 b2
  go_wp2_with fail
  refine (lunpack_any b _ (by omega)).mono ?_
  rintro e w3 ⟨rfl, b3⟩
  have h3 := h2.trans (b3.mono h2.size)
  clear h2 b3
  generalize hu : unp (bl b) = u
  have U : Hid (unp (bl b) = u) := hu
  clear hu
  simp only [strO]
  go_wp2_with fail
  refine (runpack_any b _ hb).mono ?_
  rintro e w4 ⟨rfl, b4⟩
  have h4 := h3.trans (b4.mono h3.size)
  clear h3 b4
  rw [U.out]
  simp only [strO]
  go_wp2_with fail
  refine (lpack_ok ⟨#[97, 98, 99, 97, 98, 99, 97, 98, 99, 100]⟩ _ (by decide)).mono ?_
  rintro e w5 ⟨rfl, b5⟩
  have h5 := h4.trans (b5.mono h4.size)
  clear h4 b5
  rw [show bl ⟨#[97, 98, 99, 97, 98, 99, 97, 98, 99, 100]⟩ = [97, 98, 99, 97, 98, 99, 97, 98, 99, 100] from rfl, abc]
  go_wp2_with fail
  go_ret
  exact ⟨rfl, h5⟩

theorem ownP : ownKnob Try.prog.godebug = none := by kernel_rfl

set_option maxRecDepth 100000 in
theorem packs_lifted (os : Os) (started : os.Started) (H : Type) (enc : TypeId × Value → H) :
    ReturnsInHanded {} Try.checked os 6 .any (Rows.packsSpec.pre6 enc Try.prog Try.f6 Rows.packsRow.domain false) (Rows.packsSpec.post enc Try.prog Try.f6 false true false false) := by
  refine returnsInHanded_of_change_sized (C := Try.checked) ownP started (by kernel_rfl) Try.func6
    (ChangeSpec.witness6 (enc := enc) (C := Try.checked) false ⟨#[], #[.string ByteArray.empty, .string ByteArray.empty], []⟩ 8 (by kernel_rfl) (by kernel_rfl) (by kernel_rfl) (by kernel_rfl)) ?_
  intro W base args ds gs before hval0 hW hcnd hsz0 _
  have hval : ∀ (j : Nat) t v, Try.f6.params[j]? = some t → args[j]? = some v → Value.okWide Try.prog W .any base t v := hval0
  have hsz : (DataW.weightsEach Try.prog (Try.f6.params.toList ++ Rows.packsSpec.plain.varTypes Try.prog) (ds ++ gs)).all (· ≤ reachBytes) = true := hsz0
  have hW' := hW
  obtain ⟨p, q, hA0, hV, rfl, hfz, hnd⟩ := hW
  have hA : DataW.TrodAll enc Try.prog W 0 (fun _ => true) true Try.f6.params.toList args.toList ds p := hA0
  rw [Try.params6] at hA hval hsz
  obtain ⟨v0, vs0, d0, ds0, p0, q0, hargs, rfl, rfl, h0, r0⟩ := trodAll_cons hA
  obtain ⟨v1, vs1, d1, ds1, p1, q1, rfl, rfl, rfl, h1, r1⟩ := trodAll_cons r0
  obtain ⟨rfl, rfl, rfl⟩ := trodAll_nil r1
  obtain rfl : args = #[v0, v1] := by cases args; simp_all
  obtain ⟨rfl, rfl⟩ := trodVars_none hV
  obtain ⟨a0, rfl, rfl, rfl, w0⟩ := open_string Try.underlying9 (hval 0 9 v0 rfl rfl) h0
  obtain ⟨a1, rfl, rfl, rfl, w1⟩ := open_string Try.underlying9 (hval 1 9 v1 rfl rfl) h1
  clear hA0 hval0
  simp only [List.append_nil] at hW'
  have s1 := sized_string hsz (j := 1) (t := 9) rfl rfl
  have w1' : a1.size ≤ 4611686018427387904 := by
    have e : a1.data.toList.length = a1.size := by rw [Array.length_toList]; rfl
    rw [e] at s1
    simp only [reachBytes] at s1
    omega
  refine (packs_walk a0 a1 w1' W).mono fun e W' ⟨he, bel⟩ => ?_
  subst he
  exact ⟨_, rfl, _, _, _, [], _, [], hW', trodAll_mk1 (shut_bool Try.underlying4 _), (trodAll_cons_mk (shut_string Try.underlying9 w0) (trodAll_cons_mk (shut_string Try.underlying9 w1) trodAll_mk0)), rfl, bel.frame _, fun h => by cases h⟩

theorem packs_over : Rows.packsRow.holds Try.pinned (OpenSpec.ofChange Rows.packsSpec) :=
  OpenClaim.holds_of_wide 6 Try.f6 rfl rfl rfl rfl rfl rfl rfl ⟨rfl, rfl, rfl, rfl, rfl⟩ rfl rfl rfl rfl rfl (by kernel_rfl) Try.func6 (by kernel_rfl)
    (of_decide_eq_true (by kernel_rfl)) (by unfold Func.isWrapper; first | (rw [if_pos (by decide +kernel)]; kernel_rfl) | (rw [if_neg (by decide +kernel)]; exact ⟨rfl, rfl⟩))
    (fun os started H enc _ => packs_lifted os started H enc)

theorem packs_holds : Rows.PacksSaid := packs_over
#print axioms packs_holds

end Go.Proofs.Ytheichphnppagaa
