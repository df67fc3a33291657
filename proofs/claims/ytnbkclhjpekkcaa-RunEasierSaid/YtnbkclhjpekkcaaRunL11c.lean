/-
  RunEasier answers true for every timetable, every byte, every number of 16 bits, of whatever size, and leaves them as they were: no condition.
-/
import Derived.Test.YtnbkclhjpekkcaaJ16
namespace Go.Proofs.Ytnbkclhjpekkcaa
open Go Go.Ab Go.RowKit Go.ChangeShapes Go.WideShapes

set_option maxRecDepth 100000 in
theorem runEasier_lifted (os : Os) (started : os.Started) (H : Type) (enc : TypeId × Value → H) :
    ReturnsInHanded {} Try.checked os 11 .any (Rows.runEasierSpec.pre6 enc Try.prog Try.f11 Rows.runEasierRow.domain false) (Rows.runEasierSpec.post enc Try.prog Try.f11 false true false false) := by
  refine returnsInHanded_of_change (C := Try.checked) ownT started (by kernel_rfl) Try.func11
    (ChangeSpec.witness6 (enc := enc) (C := Try.checked) false ⟨#[], #[.agg #[.int .i64 0, .int .i64 0, .slice none 0 0, .slice none 0 0], .int .u8 0, .int .u8 0, .int .u8 0, .int .u16 0], []⟩ 8 (by kernel_rfl) (by kernel_rfl) (by kernel_rfl) (by kernel_rfl)) ?_
  intro W base args ds gs before hval0 hW hcnd _
  have hval : ∀ (j : Nat) t v, Try.f11.params[j]? = some t → args[j]? = some v → Value.okWide Try.prog W .any base t v := hval0
  have hW' := hW
  obtain ⟨p, q, hA0, hV, rfl, hfz, hnd⟩ := hW
  have hA : DataW.TrodAll enc Try.prog W 0 (fun _ => true) true Try.f11.params.toList args.toList ds p := hA0
  rw [Try.params11] at hA hval
  obtain ⟨v0, vs0, d0, ds0, p0, q0, hargs, rfl, rfl, h0, r0⟩ := trodAll_cons hA
  obtain ⟨v1, vs1, d1, ds1, p1, q1, rfl, rfl, rfl, h1, r1⟩ := trodAll_cons r0
  obtain ⟨v2, vs2, d2, ds2, p2, q2, rfl, rfl, rfl, h2, r2⟩ := trodAll_cons r1
  obtain ⟨v3, vs3, d3, ds3, p3, q3, rfl, rfl, rfl, h3, r3⟩ := trodAll_cons r2
  obtain ⟨v4, vs4, d4, ds4, p4, q4, rfl, rfl, rfl, h4, r4⟩ := trodAll_cons r3
  obtain ⟨rfl, rfl, rfl⟩ := trodAll_nil r4
  obtain rfl : args = #[v0, v1, v2, v3, v4] := by cases args; simp_all
  obtain ⟨rfl, rfl⟩ := trodVars_none hV
  obtain ⟨T0, e0, s0, g0, c0⟩ := read_table (hval 0 25 v0 rfl rfl) h0
  obtain ⟨x1, g1, c1⟩ := read_u8V (hval 1 5 v1 rfl rfl) h1
  obtain ⟨x2, g2, c2⟩ := read_u8V (hval 2 5 v2 rfl rfl) h2
  obtain ⟨x3, g3, c3⟩ := read_u8V (hval 3 5 v3 rfl rfl) h3
  obtain ⟨x4, g4, c4⟩ := read_u16V (hval 4 69 v4 rfl rfl) h4
  refine (law_calls (P := Try.prog) (args := #[v0, v1, v2, v3, v4]) ((runEasier_of c0 c1 c2 c3 c4).mono fun _ _ h => h.1) ⟨g0, g1, g2, g3, g4, trivial⟩).mono fun e W' ⟨he, hB⟩ => ?_
  subst he
  exact ⟨_, rfl, post_true laidT (readT (by kernel_rfl)) (tb := 4) (by kernel_rfl) Try.underlying4 rfl hW' rfl hB⟩

theorem runEasier_holds : Rows.RunEasierSaid :=
  OpenClaim.holds_of_wide 11 Try.f11 rfl rfl rfl rfl rfl rfl rfl ⟨rfl, rfl, rfl, rfl, rfl⟩ rfl rfl rfl rfl rfl (by kernel_rfl) Try.func11 (by kernel_rfl)
    (of_decide_eq_true (by kernel_rfl)) (by unfold Func.isWrapper; first | (rw [if_pos (by decide +kernel)]; kernel_rfl) | (rw [if_neg (by decide +kernel)]; exact ⟨rfl, rfl⟩))
    (fun os started H enc _ => runEasier_lifted os started H enc)

#print axioms runEasier_holds
end Go.Proofs.Ytnbkclhjpekkcaa
