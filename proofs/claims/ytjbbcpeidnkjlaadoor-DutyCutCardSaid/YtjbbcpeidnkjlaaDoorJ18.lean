/-
  Joined texts of a calculus of abstract memory, of the program's code in it, and of contracts.
-/
import Derived.Test.YtjbbcpeidnkjlaaDoorJ16
import Derived.Test.YtjbbcpeidnkjlaaDoorJ17
import Derived.KernelRfl
namespace Go.Proofs.YtjbbcpeidnkjlaaDoor
open Go Go.Ab

noncomputable def orcW : List (Nat × Entry) := [(45, e4), (19, e22), (19, e23), (41, e24)]
theorem orcW_ok : OrcOk Tryd.prog (orcL orcW) := orcL_ok fun p hp => by
  simp only [orcW, List.mem_cons, List.not_mem_nil, or_false] at hp
  rcases hp with rfl | rfl | rfl | rfl
  · exact e4_ok
  · exact e22_ok
  · exact e23_ok
  · exact e24_ok

noncomputable def eWakes : Entry := ⟨[], [gl0, gl1], .bool true, []⟩
set_option maxRecDepth 1000000 in
theorem eWakes_ok : eWakes.Ok Tryd.prog 16 := entryK_ok mixed tabOk (runK_ok mixed tabOk eoOk (askW_ok orcW_ok) 100000000) (by kernel_rfl)

end Go.Proofs.YtjbbcpeidnkjlaaDoor

