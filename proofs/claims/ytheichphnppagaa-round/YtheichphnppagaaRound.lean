/- THE WALK of larderkeep.Round, AND ITS ROW. -/
import Derived.Test.YtheichphnppagaaRows
import Derived.Test.YtheichphnppagaaUnpack
import Derived.ProofKit
import Derived.OpenShut
import Derived.ShutString
import Derived.Below
namespace Go.Proofs.Ytheichphnppagaa
open Go.ChangeShapes Go.WideShapes Go.ChangeAt Go.RowKit
open Go.ChangeMaps (open_string shut_string)

theorem own : ownKnob Try.prog.godebug = none := by kernel_rfl

set_option maxHeartbeats 1600000 in
theorem round_walk (a b : ByteArray) (ha : a.size ≤ 9223372036854775807) (hb : b.size ≤ 9223372036854775807) (w : World) :
    Calls Try.prog 7 #[.string a, .string b] w fun e w' => e = .returned (.bool true) ∧ Below w.heap.size w w' := by
  go_enter Try.func7, Try.ntmps7
  go_wp2_with fail
  refine (short_any a _ ha).mono ?_
  rintro e w1 ⟨t, rfl, ht, rfl⟩
  go_wp2_with fail
  refine (lpack_ok t _ ht).mono ?_
  rintro e w2 ⟨rfl, b2⟩
  have hU := unp_sq (bl t) (by rw [bl_length]; exact ht)
  have hZ := sq_length (bl t)
  rw [bl_length] at hZ
  generalize sq (bl t) = Z at hU hZ
  have U : Hid (unp Z = some (bl t)) := hU
  clear hU
  go_wp2_with fail
  refine (lunpack_any ⟨Z.toArray⟩ _ (by rw [size_mk]; omega)).mono ?_
  rintro e w3 ⟨rfl, b3⟩
  rw [bl_mk, U.out]
  simp only [strO, errO, Option.getD_some, Option.isSome_some, if_true]
  have q1 : (bl t == t.toList) = true := by rw [toList_bl]; simp
  have hZ2 : (Z.length : Int) ≤ (t.size : Int) + (t.size : Int) / 128 + 1 := by omega
  have hb3 := b2.trans (b3.mono b2.size)
  clear U b2 b3
  cases h : unp (bl b) with
  | none =>
    go_wp2_with fail
    refine (lunpack_any b _ hb).mono ?_
    rintro e w4 ⟨rfl, b4⟩
    rw [h]
    clear h
    simp only [strO, errO, Option.getD_none, Option.isSome_none]
    go_wp2_with fail
    go_ret
    exact ⟨rfl, hb3.trans (b4.mono hb3.size)⟩
  | some u =>
    obtain ⟨hu, hq⟩ := unp_some h
    have q2 : (bl b == b.toList) = true := by rw [toList_bl]; simp
    go_wp2_with fail
    refine (lunpack_any b _ hb).mono ?_
    rintro e w4 ⟨rfl, b4⟩
    rw [h]
    clear h
    simp only [strO, errO, Option.getD_some, Option.isSome_some, if_true]
    have HQ : Hid (sq u = bl b) := hq
    clear hq
    go_wp2_with fail
    refine (lpack_ok ⟨u.toArray⟩ _ (by rw [size_mk]; exact hu)).mono ?_
    rintro e w5 ⟨rfl, b5⟩
    rw [bl_mk, HQ.out]
    go_wp2_with fail
    go_ret
    have hb4 := hb3.trans (b4.mono hb3.size)
    exact ⟨rfl, hb4.trans (b5.mono hb4.size)⟩

set_option maxRecDepth 100000 in
theorem round_lifted (os : Os) (started : os.Started) (H : Type) (enc : TypeId × Value → H) :
    ReturnsInHanded {} Try.checked os 7 .any (Rows.roundSpec.pre6 enc Try.prog Try.f7 Rows.roundRow.domain false) (Rows.roundSpec.post enc Try.prog Try.f7 false true false false) := by
  refine returnsInHanded_of_change (C := Try.checked) own started (by kernel_rfl) Try.func7
    (ChangeSpec.witness6 (enc := enc) (C := Try.checked) false ⟨#[], #[.string ByteArray.empty, .string ByteArray.empty], []⟩ 8 (by kernel_rfl) (by kernel_rfl) (by kernel_rfl) (by kernel_rfl)) ?_
  intro W base args ds gs before hval0 hW hcnd _
  have hval : ∀ (j : Nat) t v, Try.f7.params[j]? = some t → args[j]? = some v → Value.okWide Try.prog W .any base t v := hval0
  have hW' := hW
  obtain ⟨p, q, hA0, hV, rfl, hfz, hnd⟩ := hW
  have hA : DataW.TrodAll enc Try.prog W 0 (fun _ => true) true Try.f7.params.toList args.toList ds p := hA0
  rw [Try.params7] at hA hval
  obtain ⟨v0, vs0, d0, ds0, p0, q0, hargs, rfl, rfl, h0, r0⟩ := trodAll_cons hA
  obtain ⟨v1, vs1, d1, ds1, p1, q1, rfl, rfl, rfl, h1, r1⟩ := trodAll_cons r0
  obtain ⟨rfl, rfl, rfl⟩ := trodAll_nil r1
  obtain rfl : args = #[v0, v1] := by cases args; simp_all
  obtain ⟨rfl, rfl⟩ := trodVars_none hV
  obtain ⟨a0, rfl, rfl, rfl, w0⟩ := open_string Try.underlying9 (hval 0 9 v0 rfl rfl) h0
  obtain ⟨a1, rfl, rfl, rfl, w1⟩ := open_string Try.underlying9 (hval 1 9 v1 rfl rfl) h1
  clear hA0 hval0
  simp only [List.append_nil] at hW'
  have w0' : a0.size ≤ 9223372036854775807 := by simpa [maxLen] using w0
  have w1' : a1.size ≤ 9223372036854775807 := by simpa [maxLen] using w1
  refine (round_walk a0 a1 w0' w1' W).mono fun e W' ⟨he, bel⟩ => ?_
  subst he
  exact ⟨_, rfl, _, _, _, [], _, [], hW', trodAll_mk1 (shut_bool Try.underlying4 _), (trodAll_cons_mk (shut_string Try.underlying9 w0) (trodAll_cons_mk (shut_string Try.underlying9 w1) trodAll_mk0)), rfl, bel.frame _, fun h => by cases h⟩

theorem round_over : Rows.roundRow.holds Try.pinned (OpenSpec.ofChange Rows.roundSpec) :=
  OpenClaim.holds_of_wide 7 Try.f7 rfl rfl rfl rfl rfl rfl rfl ⟨rfl, rfl, rfl, rfl, rfl⟩ rfl rfl rfl rfl rfl (by kernel_rfl) Try.func7 (by kernel_rfl)
    (of_decide_eq_true (by kernel_rfl)) (by unfold Func.isWrapper; first | (rw [if_pos (by decide +kernel)]; kernel_rfl) | (rw [if_neg (by decide +kernel)]; exact ⟨rfl, rfl⟩))
    (fun os started H enc _ => round_lifted os started H enc)

theorem round_holds : Rows.RoundSaid := round_over
#print axioms round_holds

end Go.Proofs.Ytheichphnppagaa
