/- THE ROW of the statement Cuts. -/
import Derived.Test.YtheichphnppagaaRows
import Derived.Test.YtheichphnppagaaCutsLaw
import Derived.ProofKit
import Derived.OpenShut
import Derived.ShutString
import Derived.Below
import Derived.Lib.SmallJoins
namespace Go.Proofs.Ytheichphnppagaa
open Go.ChangeShapes Go.WideShapes Go.ChangeAt Go.RowKit
open Go.ChangeMaps (open_string shut_string)

theorem ownC : ownKnob Try.prog.godebug = none := by kernel_rfl

set_option maxRecDepth 100000 in
theorem cuts_lifted (os : Os) (started : os.Started) (H : Type) (enc : TypeId × Value → H) :
    ReturnsInHanded {} Try.checked os 3 .any (Rows.cutsSpec.pre6 enc Try.prog Try.f3 Rows.cutsRow.domain false) (Rows.cutsSpec.post enc Try.prog Try.f3 false true false false) := by
  refine returnsInHanded_of_change (C := Try.checked) ownC started (by kernel_rfl) Try.func3
    (ChangeSpec.witness6 (enc := enc) (C := Try.checked) false ⟨#[], #[.string ByteArray.empty, .agg #[.int .i64 0, .int .i64 0, .int .i64 0, .int .i64 0]], []⟩ 8 (by kernel_rfl) (by kernel_rfl) (by kernel_rfl) (by kernel_rfl)) ?_
  intro W base args ds gs before hval0 hW hcnd _
  have hval : ∀ (j : Nat) t v, Try.f3.params[j]? = some t → args[j]? = some v → Value.okWide Try.prog W .any base t v := hval0
  have hW' := hW
  obtain ⟨p, q, hA0, hV, rfl, hfz, hnd⟩ := hW
  have hA : DataW.TrodAll enc Try.prog W 0 (fun _ => true) true Try.f3.params.toList args.toList ds p := hA0
  rw [Try.params3] at hA hval
  obtain ⟨v0, vs0, d0, ds0, p0, q0, hargs, rfl, rfl, h0, r0⟩ := trodAll_cons hA
  obtain ⟨v1, vs1, d1, ds1, p1, q1, rfl, rfl, rfl, h1, r1⟩ := trodAll_cons r0
  obtain ⟨rfl, rfl, rfl⟩ := trodAll_nil r1
  obtain rfl : args = #[v0, v1] := by cases args; simp_all
  obtain ⟨rfl, rfl⟩ := trodVars_none hV
  obtain ⟨a0, rfl, rfl, rfl, w0⟩ := open_string Try.underlying9 (hval 0 9 v0 rfl rfl) h0
  obtain ⟨c0, c1, c2, c3, y0, y1, y2, y3, n, rfl, rfl, rfl, t0, t1, t2, t3⟩ := Go.Joins.open_agg4 Try.underlying23 (by kernel_rfl) (by kernel_rfl) (hval 1 23 v1 rfl rfl) h1
  obtain ⟨k0, e0, rfl, hw0⟩ := DataW.trod_int (t := 3) Try.underlying3 t0
  obtain ⟨k1, e1, rfl, hw1⟩ := DataW.trod_int (t := 3) Try.underlying3 t1
  obtain ⟨k2, e2, rfl, hw2⟩ := DataW.trod_int (t := 3) Try.underlying3 t2
  obtain ⟨k3, e3, rfl, hw3⟩ := DataW.trod_int (t := 3) Try.underlying3 t3
  obtain rfl : c0 = .int .i64 k0 := by simpa using e0
  obtain rfl : c1 = .int .i64 k1 := by simpa using e1
  obtain rfl : c2 = .int .i64 k2 := by simpa using e2
  obtain rfl : c3 = .int .i64 k3 := by simpa using e3
  clear hA0 hval0
  simp only [List.append_nil] at hW'
  refine (cutslaw_any a0 k0 k1 k2 k3 W _ _ rfl rfl (ansL_length _ _ _ _ _)).mono fun e W' ⟨he, bel⟩ => ?_
  subst he
  have hagg : ∀ sp, DataW.Trod enc Try.prog W' 0 sp true 23 (.agg #[.int .i64 k0, .int .i64 k1, .int .i64 k2, .int .i64 k3]) (.agg [.lit (.int .i64 k0), .lit (.int .i64 k1), .lit (.int .i64 k2), .lit (.int .i64 k3)]) [] :=
    fun sp => Go.Joins.shut_agg4 (y0 := (.lit (.int .i64 k0), [])) (y1 := (.lit (.int .i64 k1), [])) (y2 := (.lit (.int .i64 k2), [])) (y3 := (.lit (.int .i64 k3), [])) Try.underlying23 (by kernel_rfl) (by kernel_rfl) (shut_int (t := 3) Try.underlying3 hw0) (shut_int (t := 3) Try.underlying3 hw1) (shut_int (t := 3) Try.underlying3 hw2) (shut_int (t := 3) Try.underlying3 hw3)
  exact ⟨_, rfl, _, _, _, [], _, [], hW', trodAll_mk1 (shut_bool Try.underlying4 _), (trodAll_cons_mk (shut_string Try.underlying9 w0) (trodAll_cons_mk (hagg _) trodAll_mk0)), rfl, bel.frame _, fun h => by cases h⟩

theorem cuts_over : Rows.cutsRow.holds Try.pinned (OpenSpec.ofChange Rows.cutsSpec) :=
  OpenClaim.holds_of_wide 3 Try.f3 rfl rfl rfl rfl rfl rfl rfl ⟨rfl, rfl, rfl, rfl, rfl⟩ rfl rfl rfl rfl rfl (by kernel_rfl) Try.func3 (by kernel_rfl)
    (of_decide_eq_true (by kernel_rfl)) (by unfold Func.isWrapper; first | (rw [if_pos (by decide +kernel)]; kernel_rfl) | (rw [if_neg (by decide +kernel)]; exact ⟨rfl, rfl⟩))
    (fun os started H enc _ => cuts_lifted os started H enc)

theorem cuts_holds : Rows.CutsSaid := cuts_over
#print axioms cuts_holds

end Go.Proofs.Ytheichphnppagaa
