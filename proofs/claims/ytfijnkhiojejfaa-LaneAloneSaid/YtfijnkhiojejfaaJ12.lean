/-
  Joined texts of a calculus of abstract memory, of the program's code in it, and of contracts.
-/
import Derived.Test.YtfijnkhiojejfaaJ8
import Derived.Test.YtfijnkhiojejfaaJ11
import Derived.KernelRfl
namespace Go.Proofs.Ytfijnkhiojejfaa
open Go Go.Ab

noncomputable def eAwake : Entry := ⟨[], [], .bool true, []⟩
set_option maxRecDepth 1000000 in
theorem eAwake_ok : eAwake.Ok Try.prog 17 := entryK_ok mixed tabOk (runK_ok mixed tabOk eoOk (WOk.id _) 100000000) (by kernel_rfl)

end Go.Proofs.Ytfijnkhiojejfaa

