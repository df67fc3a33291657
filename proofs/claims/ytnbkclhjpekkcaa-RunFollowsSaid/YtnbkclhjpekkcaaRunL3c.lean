/-
  RunFollows answers true for every timetable, of whatever size, and leaves it as it was: no condition.
-/
import Derived.Test.YtnbkclhjpekkcaaJ10
namespace Go.Proofs.Ytnbkclhjpekkcaa
open Go Go.Ab Go.RowKit Go.ChangeShapes Go.WideShapes

/-- The types of the laws' arguments can be read again. -/
theorem readT {l : List Nat} (h : l.all (fun t => Try.prog.readableRec t && decide (t < Try.prog.types.size)) = true) : ∀ t ∈ l, Try.prog.readableRec t = true ∧ t < Try.prog.types.size := by
  intro t ht
  have := List.all_eq_true.1 h t ht
  simpa using this

set_option maxRecDepth 100000 in
theorem runFollows_lifted (os : Os) (started : os.Started) (H : Type) (enc : TypeId × Value → H) :
    ReturnsInHanded {} Try.checked os 3 .any (Rows.runFollowsSpec.pre6 enc Try.prog Try.f3 Rows.runFollowsRow.domain false) (Rows.runFollowsSpec.post enc Try.prog Try.f3 false true false false) := by
  refine returnsInHanded_of_change (C := Try.checked) ownT started (by kernel_rfl) Try.func3
    (ChangeSpec.witness6 (enc := enc) (C := Try.checked) false ⟨#[], #[.agg #[.int .i64 0, .int .i64 0, .slice none 0 0, .slice none 0 0]], []⟩ 8 (by kernel_rfl) (by kernel_rfl) (by kernel_rfl) (by kernel_rfl)) ?_
  intro W base args ds gs before hval0 hW hcnd _
  have hval : ∀ (j : Nat) t v, Try.f3.params[j]? = some t → args[j]? = some v → Value.okWide Try.prog W .any base t v := hval0
  have hW' := hW
  obtain ⟨p, q, hA0, hV, rfl, hfz, hnd⟩ := hW
  have hA : DataW.TrodAll enc Try.prog W 0 (fun _ => true) true Try.f3.params.toList args.toList ds p := hA0
  rw [Try.params3] at hA hval
  obtain ⟨v0, d0, rfl, rfl, h0⟩ := trodAll_one hA
  obtain ⟨rfl, rfl⟩ := trodVars_none hV
  obtain ⟨T, e, s, hv, hT⟩ := read_table (hval 0 25 v0 rfl rfl) h0
  refine (law_calls (P := Try.prog) (args := #[v0]) ((runFollows_of awake_spec hT).mono fun _ _ h => h.1) ⟨hv, trivial⟩).mono fun e W' ⟨he, hB⟩ => ?_
  subst he
  exact ⟨_, rfl, post_true laidT (readT (by kernel_rfl)) (tb := 4) (by kernel_rfl) Try.underlying4 rfl hW' rfl hB⟩

theorem runFollows_holds : Rows.RunFollowsSaid :=
  OpenClaim.holds_of_wide 3 Try.f3 rfl rfl rfl rfl rfl rfl rfl ⟨rfl, rfl, rfl, rfl, rfl⟩ rfl rfl rfl rfl rfl (by kernel_rfl) Try.func3 (by kernel_rfl)
    (of_decide_eq_true (by kernel_rfl)) (by unfold Func.isWrapper; first | (rw [if_pos (by decide +kernel)]; kernel_rfl) | (rw [if_neg (by decide +kernel)]; exact ⟨rfl, rfl⟩))
    (fun os started H enc _ => runFollows_lifted os started H enc)

#print axioms runFollows_holds
end Go.Proofs.Ytnbkclhjpekkcaa
