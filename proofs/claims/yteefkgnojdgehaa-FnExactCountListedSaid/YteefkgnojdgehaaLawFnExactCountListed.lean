/- FnExactCountListed: for every argument the law returns true, and each argument reads behind the call as before. No condition. -/
import Derived.Test.YteefkgnojdgehaaGCountListed
import Derived.Test.YteefkgnojdgehaaStrS
namespace Go.Proofs.Yteefkgnojdgehaa
open Go.ChangeShapes Go.WideShapes Go.ChangeAt Go.RowKit
open Go.ChangeMaps (open_string shut_string)

set_option maxRecDepth 100000 in
theorem fnExactCountListed_lifted (os : Os) (started : os.Started) (H : Type) (enc : TypeId × Value → H) :
    ReturnsInHanded {} Try.checked os 5 .any (Rows.fnExactCountListedSpec.pre6 enc Try.prog Try.f5 Rows.fnExactCountListedRow.domain false) (Rows.fnExactCountListedSpec.post enc Try.prog Try.f5 false true false false) := by
  refine returnsInHanded_of_change (C := Try.checked) gOwn started (by kernel_rfl) Try.func5
    (ChangeSpec.witness6 (enc := enc) (C := Try.checked) false ⟨#[], #[.slice none 0 0], []⟩ 8 (by kernel_rfl) (by kernel_rfl) (by kernel_rfl) (by kernel_rfl)) ?_
  intro W base args ds gs before hval0 hW _ _
  have hval : ∀ (j : Nat) t v, Try.f5.params[j]? = some t → args[j]? = some v → Value.okWide Try.prog W .any base t v := hval0
  have hW' := hW
  obtain ⟨p, q, hA0, _, rfl, _, _⟩ := hW
  have hA : DataW.TrodAll enc Try.prog W 0 (fun _ => true) true Try.f5.params.toList args.toList ds p := hA0
  rw [Try.params5] at hA hval
  obtain ⟨v0, vs0, d0, ds0, p0, q0, hargs, rfl, rfl, h0, r0⟩ := trodAll_cons hA
  obtain ⟨rfl, rfl, rfl⟩ := trodAll_nil r0
  obtain rfl : args = #[v0] := by cases args; simp_all
  obtain ⟨A0, c0, L0, rfl, s0, f0, q0, l0⟩ := open_strsl (hval 0 27 v0 rfl rfl) h0
  refine (lawCountListed_walk A0 c0 L0 W l0 f0 q0 s0).mono fun e W' ⟨he, hb⟩ => ?_
  exact ⟨_, he, law_post hW' hb rfl (by kernel_rfl) Try.underlying4 (by rw [Try.params5]; intro t ht; simp only [List.mem_cons, List.not_mem_nil, or_false] at ht; rcases ht with rfl <;> exact ⟨by kernel_rfl, of_decide_eq_true (by kernel_rfl)⟩) rfl rfl rfl⟩

theorem fnExactCountListed_facts : joinedFacts Try.prog 5 Try.f5 Rows.fnExactCountListedSpec Rows.fnExactCountListedRow = true := by
  unfold joinedFacts
  repeat' (with_reducible refine gBand ?_ ?_)
  all_goals first | with_reducible exact gLaid | with_reducible exact gMaps | with_reducible exact gStops | with_reducible exact gKnobs | with_reducible exact gHeard | with_reducible exact gEnter | with_reducible exact gFinalEq (by kernel_rfl) | with_reducible exact gMakeEq (by kernel_rfl) | (as_aux_lemma => kernel_rfl)

theorem fnExactCountListed_holds : Rows.FnExactCountListedSaid :=
  OpenClaim.holds_of_wide 5 Try.f5 rfl rfl rfl rfl rfl rfl rfl ⟨rfl, rfl, rfl, rfl, rfl⟩ rfl rfl rfl rfl rfl (by as_aux_lemma => kernel_rfl) Try.func5 fnExactCountListed_facts
    (of_decide_eq_true (by as_aux_lemma => kernel_rfl)) (by unfold Func.isWrapper; rw [if_neg (by decide +kernel)]; exact ⟨rfl, rfl⟩)
    (fun os started H enc _ => fnExactCountListed_lifted os started H enc)
end Go.Proofs.Yteefkgnojdgehaa
