/-
  Joined texts of a calculus of abstract memory, of the program's code in it, and of contracts.
-/
import Derived.Test.YtllkhaabcfnlpaaDoorJ16
import Derived.Test.YtllkhaabcfnlpaaDoorJ17
import Derived.Test.YtllkhaabcfnlpaaDoorJ18
import Derived.Test.YtllkhaabcfnlpaaDoorJ19
import Derived.Test.YtllkhaabcfnlpaaDoorJ20
import Derived.Test.YtllkhaabcfnlpaaDoorJ21
import Derived.Test.YtllkhaabcfnlpaaDoorJ22
import Derived.KernelRfl
/-
  DutyNames, and the document's first examples, carried out.
-/
namespace Go.Proofs.YtllkhaabcfnlpaaDoor
open Go Go.Ab

noncomputable def orcAll : List (Nat × Entry) := [(17, e0), (21, e1), (21, e2), (27, e3), (45, e4), (17, e5), (38, e6), (46, e7), (46, e8), (19, e9), (19, e10), (21, e11), (27, e12), (45, e13), (38, e14), (41, e15), (41, e16), (17, e17), (45, e18), (17, e19), (17, e20), (17, e21), (19, e22), (19, e23), (41, e24)]
theorem orcAll_ok : OrcOk Tryd.prog (orcL orcAll) := orcL_ok fun p hp => by
  simp only [orcAll, List.mem_cons, List.not_mem_nil, or_false] at hp
  rcases hp with rfl | rfl | rfl | rfl | rfl | rfl | rfl | rfl | rfl | rfl | rfl | rfl | rfl | rfl | rfl | rfl | rfl | rfl | rfl | rfl | rfl | rfl | rfl | rfl | rfl
  · exact e0_ok
  · exact e1_ok
  · exact e2_ok
  · exact e3_ok
  · exact e4_ok
  · exact e5_ok
  · exact e6_ok
  · exact e7_ok
  · exact e8_ok
  · exact e9_ok
  · exact e10_ok
  · exact e11_ok
  · exact e12_ok
  · exact e13_ok
  · exact e14_ok
  · exact e15_ok
  · exact e16_ok
  · exact e17_ok
  · exact e18_ok
  · exact e19_ok
  · exact e20_ok
  · exact e21_ok
  · exact e22_ok
  · exact e23_ok
  · exact e24_ok

noncomputable def eWakes : Entry := ⟨[], [gl0, gl1], .bool true, []⟩
set_option maxRecDepth 1000000 in
theorem eWakes_ok : eWakes.Ok Tryd.prog 16 := entryK_ok mixed tabOk (runK_ok mixed tabOk eoOk (askW_ok orcAll_ok) 100000000) (by kernel_rfl)
theorem orcAll2_ok : OrcOk Tryd.prog (orcL ((16, eWakes) :: orcAll)) := by
  intro f e h
  have h' : e ∈ Bool.rec (motive := fun _ => List Entry) (orcL orcAll f) (eWakes :: orcL orcAll f) (Nat.beq 16 f) := h
  cases hb : Nat.beq 16 f with
  | true =>
    rw [hb] at h'
    have := Nat.eq_of_beq_eq_true hb
    subst this
    rcases List.mem_cons.1 h' with rfl | h2
    · exact eWakes_ok
    · exact orcAll_ok _ _ h2
  | false =>
    rw [hb] at h'
    exact orcAll_ok _ _ h'
noncomputable def eNames : Entry := ⟨[], [gl0, gl1], .bool true, []⟩
set_option maxRecDepth 1000000 in
theorem eNames_ok : eNames.Ok Tryd.prog 7 := entryK_ok mixed tabOk (runK_ok mixed tabOk eoOk (askW_ok orcAll2_ok) 100000000) (by kernel_rfl)

end Go.Proofs.YtllkhaabcfnlpaaDoor
