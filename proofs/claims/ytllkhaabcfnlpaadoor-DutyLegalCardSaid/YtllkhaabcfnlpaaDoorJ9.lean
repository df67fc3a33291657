/-
  Joined texts of a calculus of abstract memory, of the program's code in it, and of contracts.
-/
import Derived.Test.YtllkhaabcfnlpaaDoorJ5
import Derived.Test.YtllkhaabcfnlpaaDoorChecked
import Derived.KernelRfl
/-
  The code of functions of the package, as the calculus has it.
-/
namespace Go.Proofs.YtllkhaabcfnlpaaDoor
open Go Go.Ab

/-- slices.swapRangeCmpFunc[layover/duty.piece] -/
def a133 : ACode :=
  (.seq
   (.region [⟨(some 10), (.mov (.c (.int .i64 0))), none⟩])
   (.block 0
    (.loop
     (.seq
      (.seq
       (.region [⟨(some 11), (.mov (.t 10)), none⟩, ⟨(some 12), (.mov (.t 3)), none⟩, ⟨(some 13), (.bin .lss (.t 11) (.t 12)), none⟩])
       (.cond (.t 13)
        .skip
        (.exit 0)))
      (.seq
       (.block 1
        (.draw 24 [⟨⟨(some 16), (.mov (.t 0)), none⟩, 0, false, []⟩, ⟨⟨(some 17), (.mov (.t 1)), none⟩, 1, false, []⟩, ⟨⟨(some 18), (.mov (.t 10)), none⟩, 2, false, []⟩, ⟨⟨(some 19), (.bin .add (.t 17) (.t 18)), none⟩, 3, false, []⟩, ⟨⟨(some 20), (.mov (.t 0)), none⟩, 4, false, []⟩, ⟨⟨(some 21), (.mov (.t 2)), none⟩, 5, false, []⟩, ⟨⟨(some 22), (.mov (.t 10)), none⟩, 6, false, []⟩, ⟨⟨(some 23), (.bin .add (.t 21) (.t 22)), none⟩, 7, false, []⟩, ⟨⟨(some 24), (.mov (.t 0)), none⟩, 8, false, []⟩, ⟨⟨(some 25), (.mov (.t 2)), none⟩, 9, false, []⟩, ⟨⟨(some 26), (.mov (.t 10)), none⟩, 10, false, []⟩, ⟨⟨(some 27), (.bin .add (.t 25) (.t 26)), none⟩, 11, false, []⟩, ⟨⟨(some 28), (.isl 5 (.t 24) (.t 27)), none⟩, 12, false, []⟩, ⟨⟨(some 29), (.ld true 5 (.t 28)), none⟩, 13, false, []⟩, ⟨⟨(some 30), (.mov (.t 0)), none⟩, 14, false, []⟩, ⟨⟨(some 31), (.mov (.t 1)), none⟩, 15, false, []⟩, ⟨⟨(some 32), (.mov (.t 10)), none⟩, 16, false, []⟩, ⟨⟨(some 33), (.bin .add (.t 31) (.t 32)), none⟩, 17, false, []⟩, ⟨⟨(some 34), (.isl 5 (.t 30) (.t 33)), none⟩, 18, false, []⟩, ⟨⟨(some 35), (.ld true 5 (.t 34)), none⟩, 19, false, []⟩, ⟨⟨(some 36), (.isl 5 (.t 16) (.t 19)), none⟩, 20, false, []⟩, ⟨⟨none, (.st 5 (.t 36) (.t 29)), none⟩, 21, true, []⟩, ⟨⟨(some 37), (.isl 5 (.t 20) (.t 23)), none⟩, 22, false, []⟩, ⟨⟨none, (.st 5 (.t 37) (.t 35)), none⟩, 23, true, []⟩]))
       (.region [⟨(some 14), (.mov (.t 10)), none⟩, ⟨(some 15), (.bin .add (.t 14) (.c (.int .i64 1))), none⟩, ⟨(some 10), (.mov (.t 15)), none⟩]))))))
def r133 : List AOp := []
theorem ok133 : FnOk Tryd.prog 133 Tryd.f133.ntmps a133 r133 := ⟨Tryd.f133, Tryd.func133, by kernel_rfl, by kernel_rfl, by kernel_rfl, fun asv w => by simp⟩

end Go.Proofs.YtllkhaabcfnlpaaDoor
