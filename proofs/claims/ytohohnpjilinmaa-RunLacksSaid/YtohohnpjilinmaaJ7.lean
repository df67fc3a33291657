/-
  Joined texts of a calculus of abstract memory, and of contracts of the program's functions.
-/
import Derived.Test.YtohohnpjilinmaaJ6
import Derived.Test.YtohohnpjilinmaaChecked
import Derived.KernelRfl
/-
  The code of functions of the package, as the calculus has it.
-/
namespace Go.Proofs.Ytohohnpjilinmaa
open Go Go.Ab

/-- layover/layoverlaw01.list -/
def a34 : ACode :=
  (.seq
   (.region [⟨(some 2), (.mov (.c (.slice none 0 0))), none⟩])
   (.seq
    (.region [⟨(some 3), (.mov (.t 0)), none⟩, ⟨(some 4), (.app 1 8 (.c (.slice none 0 0)) (.t 3)), none⟩, ⟨(some 2), (.mov (.t 4)), none⟩])
    .ret))
def r34 : List AOp := [(.mov (.t 2))]
theorem ok34 : FnOk Try.prog 34 Try.f34.ntmps a34 r34 := ⟨Try.f34, Try.func34, by kernel_rfl, by kernel_rfl, by kernel_rfl, fun asv w => by simp⟩

/-- layover/layoverlaw01.rows -/
def a28 : ACode :=
  (.seq
   (.region [⟨(some 2), (.mov (.c (.slice none 0 0))), none⟩])
   (.seq
    (.region [⟨(some 3), (.mov (.c (.slice none 0 0))), none⟩])
    (.seq
     (.seq
      (.region [⟨(some 4), (.mov (.c (.int .i64 0))), none⟩])
      (.block 0
       (.loop
        (.seq
         (.seq
          (.region [⟨(some 5), (.mov (.t 4)), none⟩, ⟨(some 6), (.mov (.t 0)), none⟩, ⟨(some 7), (.len (.t 6)), none⟩, ⟨(some 8), (.bin .lss (.t 5) (.t 7)), none⟩])
          (.cond (.t 8)
           .skip
           (.exit 0)))
         (.seq
          (.block 1
           (.region [⟨(some 11), (.mov (.t 3)), none⟩, ⟨(some 12), (.mov (.t 0)), none⟩, ⟨(some 13), (.mov (.t 4)), none⟩, ⟨(some 14), (.isl 1 (.t 12) (.t 13)), none⟩, ⟨(some 15), (.ld false 1 (.t 14)), none⟩, ⟨(some 16), (.call (.c (.func (.func 34) #[] #[])) [(.t 15)]), none⟩, ⟨(some 17), (.bsl 1 [(.slice none 0 0)] [(0, 1, (.t 16))]), none⟩, ⟨(some 18), (.app 1 24 (.t 11) (.t 17)), none⟩, ⟨(some 3), (.mov (.t 18)), none⟩]))
          (.region [⟨(some 9), (.mov (.t 4)), none⟩, ⟨(some 10), (.bin .add (.t 9) (.c (.int .i64 1))), none⟩, ⟨(some 4), (.mov (.t 10)), none⟩]))))))
     (.seq
      (.region [⟨(some 19), (.mov (.t 3)), none⟩, ⟨(some 2), (.mov (.t 19)), none⟩])
      .ret))))
def r28 : List AOp := [(.mov (.t 2))]
theorem ok28 : FnOk Try.prog 28 Try.f28.ntmps a28 r28 := ⟨Try.f28, Try.func28, by kernel_rfl, by kernel_rfl, by kernel_rfl, fun asv w => by simp⟩

/-- layover/layoverlaw01.Table -/
def a19 : ACode :=
  (.seq
   (.region [⟨(some 1), (.box (.t 0)), none⟩, ⟨(some 2), (.new [(.int .i64 0), (.int .i64 0), (.slice none 0 0), (.slice none 0 0)]), none⟩])
   (.seq
    (.draw 10 [⟨⟨(some 6), (.fa 0 (.t 1)), none⟩, 0, false, []⟩, ⟨⟨(some 7), (.ld false 1 (.t 6)), none⟩, 1, false, []⟩, ⟨⟨(some 8), (.fa 1 (.t 1)), none⟩, 2, false, []⟩, ⟨⟨(some 9), (.ld false 1 (.t 8)), none⟩, 3, false, []⟩, ⟨⟨(some 10), (.fa 2 (.t 1)), none⟩, 4, false, []⟩, ⟨⟨(some 11), (.ld false 1 (.t 10)), none⟩, 5, false, []⟩, ⟨⟨(some 3), (.new [(.int .i64 0), (.int .i64 0), (.slice none 0 0), (.slice none 0 0)]), none⟩, 8, false, []⟩, ⟨⟨(some 12), (.call (.c (.func (.func 28) #[] #[])) [(.t 11)]), none⟩, 6, true, [3, 1]⟩, ⟨⟨(some 13), (.bld [(.int .i64 0), (.int .i64 0), (.slice none 0 0), (.slice none 0 0)] [(0, 1, (.t 7)), (1, 1, (.t 9)), (2, 1, (.t 12))]), none⟩, 7, false, []⟩, ⟨⟨none, (.st 4 (.t 3) (.t 13)), none⟩, 9, true, []⟩])
    (.seq
     (.seq
      (.region [⟨(some 4), (.mov (.c (.int .i64 0))), none⟩])
      (.block 0
       (.loop
        (.seq
         (.seq
          (.region [⟨(some 14), (.mov (.t 4)), none⟩, ⟨(some 15), (.fa 3 (.t 1)), none⟩, ⟨(some 16), (.ld false 1 (.t 15)), none⟩, ⟨(some 17), (.len (.t 16)), none⟩, ⟨(some 18), (.bin .lss (.t 14) (.t 17)), none⟩])
          (.cond (.t 18)
           .skip
           (.exit 0)))
         (.seq
          (.block 1
           (.seq
            (.region [⟨(some 21), (.fa 3 (.t 1)), none⟩, ⟨(some 22), (.ld false 1 (.t 21)), none⟩, ⟨(some 23), (.mov (.t 4)), none⟩, ⟨(some 24), (.isl 6 (.t 22) (.t 23)), none⟩, ⟨(some 25), (.ld true 6 (.t 24)), none⟩, ⟨(some 5), (.new [(.int .i64 0), (.int .i64 0), (.int .i64 0), (.int .i64 0), (.int .i64 0), (.int .i64 0)]), none⟩, ⟨none, (.st 6 (.t 5) (.t 25)), none⟩])
            (.region [⟨(some 26), (.fa 3 (.t 3)), none⟩, ⟨(some 27), (.ld false 1 (.t 26)), none⟩, ⟨(some 28), (.fa 0 (.t 5)), none⟩, ⟨(some 29), (.ld false 1 (.t 28)), none⟩, ⟨(some 30), (.fa 1 (.t 5)), none⟩, ⟨(some 31), (.ld false 1 (.t 30)), none⟩, ⟨(some 32), (.fa 2 (.t 5)), none⟩, ⟨(some 33), (.ld false 1 (.t 32)), none⟩, ⟨(some 34), (.fa 3 (.t 5)), none⟩, ⟨(some 35), (.ld false 1 (.t 34)), none⟩, ⟨(some 36), (.fa 4 (.t 5)), none⟩, ⟨(some 37), (.ld false 1 (.t 36)), none⟩, ⟨(some 38), (.fa 5 (.t 5)), none⟩, ⟨(some 39), (.ld false 1 (.t 38)), none⟩, ⟨(some 40), (.bld [(.int .i64 0), (.int .i64 0), (.int .i64 0), (.int .i64 0), (.int .i64 0), (.int .i64 0)] [(0, 1, (.t 29)), (1, 1, (.t 31)), (2, 1, (.t 33)), (3, 1, (.t 35)), (4, 1, (.t 37)), (5, 1, (.t 39))]), none⟩, ⟨(some 41), (.bsl 1 [(.int .i64 0), (.int .i64 0), (.int .i64 0), (.int .i64 0), (.int .i64 0), (.int .i64 0)] [(0, 6, (.t 40))]), none⟩, ⟨(some 42), (.app 6 48 (.t 27) (.t 41)), none⟩, ⟨(some 43), (.fa 3 (.t 3)), none⟩, ⟨none, (.st 1 (.t 43) (.t 42)), none⟩])))
          (.region [⟨(some 19), (.mov (.t 4)), none⟩, ⟨(some 20), (.bin .add (.t 19) (.c (.int .i64 1))), none⟩, ⟨(some 4), (.mov (.t 20)), none⟩]))))))
     (.seq
      (.region [⟨(some 44), (.ld true 4 (.t 3)), none⟩, ⟨none, (.st 4 (.t 2) (.t 44)), none⟩])
      .ret))))
def r19 : List AOp := [(.ld true 4 (.t 2))]
theorem ok19 : FnOk Try.prog 19 Try.f19.ntmps a19 r19 := ⟨Try.f19, Try.func19, by kernel_rfl, by kernel_rfl, by kernel_rfl, fun asv w => by simp⟩

/-- layover/layoverlaw01.fault -/
def a21 : ACode :=
  (.seq
   (.region [⟨(some 1), (.box (.t 0)), none⟩, ⟨(some 2), (.mov (.c (.int .i64 0))), none⟩])
   (.seq
    (.region [⟨(some 3), (.ld true 4 (.t 1)), none⟩, ⟨(some 4), (.call (.c (.func (.func 47) #[] #[])) [(.t 3)]), none⟩, ⟨(some 2), (.mov (.t 4)), none⟩])
    .ret))
def r21 : List AOp := [(.mov (.t 2))]
theorem ok21 : FnOk Try.prog 21 Try.f21.ntmps a21 r21 := ⟨Try.f21, Try.func21, by kernel_rfl, by kernel_rfl, by kernel_rfl, fun asv w => by simp⟩

/-- layover/layoverref01.May -/
def a52 : ACode :=
  (.seq
   (.region [⟨(some 3), (.box (.t 0)), none⟩, ⟨(some 6), (.mov (.c (.bool false))), none⟩])
   (.seq
    (.draw 14 [⟨⟨(some 9), (.fa 3 (.t 3)), none⟩, 0, false, []⟩, ⟨⟨(some 10), (.ld false 1 (.t 9)), none⟩, 1, false, []⟩, ⟨⟨(some 11), (.mov (.t 1)), none⟩, 2, false, []⟩, ⟨⟨(some 12), (.isl 6 (.t 10) (.t 11)), none⟩, 3, false, []⟩, ⟨⟨(some 13), (.ld true 6 (.t 12)), none⟩, 4, false, []⟩, ⟨⟨(some 14), (.fa 3 (.t 3)), none⟩, 5, false, []⟩, ⟨⟨(some 15), (.ld false 1 (.t 14)), none⟩, 6, false, []⟩, ⟨⟨(some 16), (.mov (.t 2)), none⟩, 7, false, []⟩, ⟨⟨(some 17), (.isl 6 (.t 15) (.t 16)), none⟩, 8, false, []⟩, ⟨⟨(some 18), (.ld true 6 (.t 17)), none⟩, 9, false, []⟩, ⟨⟨(some 7), (.new [(.int .i64 0), (.int .i64 0), (.int .i64 0), (.int .i64 0), (.int .i64 0), (.int .i64 0)]), none⟩, 10, false, []⟩, ⟨⟨(some 8), (.new [(.int .i64 0), (.int .i64 0), (.int .i64 0), (.int .i64 0), (.int .i64 0), (.int .i64 0)]), none⟩, 11, false, []⟩, ⟨⟨none, (.st 6 (.t 7) (.t 13)), none⟩, 12, true, [9, 6]⟩, ⟨⟨none, (.st 6 (.t 8) (.t 18)), none⟩, 13, true, []⟩])
    (.seq
     (.draw 23 [⟨⟨(some 19), (.mov (.t 1)), none⟩, 0, false, []⟩, ⟨⟨(some 20), (.mov (.t 2)), none⟩, 1, false, []⟩, ⟨⟨(some 21), (.bin .neq (.t 19) (.t 20)), none⟩, 2, false, []⟩, ⟨⟨(some 22), (.mov (.t 21)), none⟩, 3, false, []⟩, ⟨⟨(some 23), (.fa 5 (.t 7)), (some (22, true))⟩, 4, false, []⟩, ⟨⟨(some 24), (.ld false 1 (.t 23)), (some (22, true))⟩, 5, false, []⟩, ⟨⟨(some 25), (.fa 5 (.t 8)), (some (22, true))⟩, 6, false, []⟩, ⟨⟨(some 26), (.ld false 1 (.t 25)), (some (22, true))⟩, 7, false, []⟩, ⟨⟨(some 27), (.bin .eql (.t 24) (.t 26)), (some (22, true))⟩, 8, false, []⟩, ⟨⟨(some 28), (.pick (.t 22) (.t 27) (.c (.bool false))), none⟩, 9, false, []⟩, ⟨⟨(some 29), (.mov (.t 28)), none⟩, 10, false, []⟩, ⟨⟨(some 30), (.ld true 4 (.t 3)), (some (29, true))⟩, 11, false, []⟩, ⟨⟨(some 31), (.mov (.t 1)), (some (29, true))⟩, 12, false, []⟩, ⟨⟨(some 32), (.fa 4 (.t 7)), (some (29, true))⟩, 13, false, []⟩, ⟨⟨(some 33), (.ld false 1 (.t 32)), (some (29, true))⟩, 14, false, []⟩, ⟨⟨(some 34), (.fa 0 (.t 8)), (some (29, true))⟩, 15, false, []⟩, ⟨⟨(some 35), (.ld false 1 (.t 34)), (some (29, true))⟩, 16, false, []⟩, ⟨⟨(some 37), (.fa 2 (.t 8)), (some (29, true))⟩, 18, false, []⟩, ⟨⟨(some 38), (.ld false 1 (.t 37)), (some (29, true))⟩, 19, false, []⟩, ⟨⟨(some 36), (.call (.c (.func (.func 64) #[] #[])) [(.t 30), (.t 31), (.t 33), (.t 35)]), (some (29, true))⟩, 17, true, [19]⟩, ⟨⟨(some 39), (.bin .leq (.t 36) (.t 38)), (some (29, true))⟩, 20, false, []⟩, ⟨⟨(some 40), (.pick (.t 29) (.t 39) (.c (.bool false))), none⟩, 21, false, []⟩, ⟨⟨(some 6), (.mov (.t 40)), none⟩, 22, false, []⟩])
     .ret)))
def r52 : List AOp := [(.mov (.t 6))]
theorem ok52 : FnOk Try.prog 52 Try.f52.ntmps a52 r52 := ⟨Try.f52, Try.func52, by kernel_rfl, by kernel_rfl, by kernel_rfl, fun asv w => by simp⟩

/-- layover/layoverref01.Ready -/
def a64 : ACode :=
  (.seq
   (.region [⟨(some 4), (.box (.t 0)), none⟩, ⟨(some 8), (.mov (.c (.int .i64 0))), none⟩])
   (.seq
    (.region [⟨(some 10), (.fa 3 (.t 4)), none⟩, ⟨(some 11), (.ld false 1 (.t 10)), none⟩, ⟨(some 12), (.mov (.t 1)), none⟩, ⟨(some 13), (.isl 6 (.t 11) (.t 12)), none⟩, ⟨(some 14), (.ld true 6 (.t 13)), none⟩, ⟨(some 9), (.new [(.int .i64 0), (.int .i64 0), (.int .i64 0), (.int .i64 0), (.int .i64 0), (.int .i64 0)]), none⟩, ⟨none, (.st 6 (.t 9) (.t 14)), none⟩])
    (.seq
     (.draw 18 [⟨⟨(some 15), (.fa 2 (.t 9)), none⟩, 0, false, []⟩, ⟨⟨(some 16), (.ld false 1 (.t 15)), none⟩, 1, false, []⟩, ⟨⟨(some 17), (.mov (.t 2)), none⟩, 2, false, []⟩, ⟨⟨(some 18), (.bin .add (.t 16) (.t 17)), none⟩, 3, false, []⟩, ⟨⟨(some 19), (.fa 1 (.t 4)), none⟩, 4, false, []⟩, ⟨⟨(some 20), (.ld false 1 (.t 19)), none⟩, 5, false, []⟩, ⟨⟨(some 21), (.bin .add (.t 18) (.t 20)), none⟩, 6, false, []⟩, ⟨⟨(some 22), (.fa 2 (.t 4)), none⟩, 7, false, []⟩, ⟨⟨(some 23), (.ld false 1 (.t 22)), none⟩, 8, false, []⟩, ⟨⟨(some 24), (.fa 1 (.t 9)), none⟩, 9, false, []⟩, ⟨⟨(some 25), (.ld false 1 (.t 24)), none⟩, 10, false, []⟩, ⟨⟨(some 26), (.isl 1 (.t 23) (.t 25)), none⟩, 11, false, []⟩, ⟨⟨(some 27), (.ld false 1 (.t 26)), none⟩, 12, false, []⟩, ⟨⟨(some 28), (.mov (.t 3)), none⟩, 13, false, []⟩, ⟨⟨(some 29), (.isl 1 (.t 27) (.t 28)), none⟩, 14, false, []⟩, ⟨⟨(some 30), (.ld false 1 (.t 29)), none⟩, 15, false, []⟩, ⟨⟨(some 31), (.bin .add (.t 21) (.t 30)), none⟩, 16, false, []⟩, ⟨⟨(some 8), (.mov (.t 31)), none⟩, 17, false, []⟩])
     .ret)))
def r64 : List AOp := [(.mov (.t 8))]
theorem ok64 : FnOk Try.prog 64 Try.f64.ntmps a64 r64 := ⟨Try.f64, Try.func64, by kernel_rfl, by kernel_rfl, by kernel_rfl, fun asv w => by simp⟩

/-- layover/layoverref01.Follows -/
def a23 : ACode :=
  (.seq
   (.region [⟨(some 2), (.box (.t 0)), none⟩, ⟨(some 4), (.mov (.c (.slice none 0 0))), none⟩])
   (.seq
    (.region [⟨(some 5), (.mov (.c (.slice none 0 0))), none⟩])
    (.seq
     (.seq
      (.region [⟨(some 6), (.mov (.c (.int .i64 0))), none⟩])
      (.block 0
       (.loop
        (.seq
         (.seq
          (.region [⟨(some 7), (.mov (.t 6)), none⟩, ⟨(some 8), (.fa 3 (.t 2)), none⟩, ⟨(some 9), (.ld false 1 (.t 8)), none⟩, ⟨(some 10), (.len (.t 9)), none⟩, ⟨(some 11), (.bin .lss (.t 7) (.t 10)), none⟩])
          (.cond (.t 11)
           .skip
           (.exit 0)))
         (.seq
          (.block 1
           (.seq
            (.region [⟨(some 14), (.ld true 4 (.t 2)), none⟩, ⟨(some 15), (.mov (.t 1)), none⟩, ⟨(some 16), (.mov (.t 6)), none⟩, ⟨(some 17), (.call (.c (.func (.func 52) #[] #[])) [(.t 14), (.t 15), (.t 16)]), none⟩])
            (.cond (.t 17)
             (.region [⟨(some 18), (.mov (.t 5)), none⟩, ⟨(some 19), (.mov (.t 6)), none⟩, ⟨(some 20), (.bsl 1 [(.int .i64 0)] [(0, 1, (.t 19))]), none⟩, ⟨(some 21), (.app 1 8 (.t 18) (.t 20)), none⟩, ⟨(some 5), (.mov (.t 21)), none⟩])
             .skip)))
          (.region [⟨(some 12), (.mov (.t 6)), none⟩, ⟨(some 13), (.bin .add (.t 12) (.c (.int .i64 1))), none⟩, ⟨(some 6), (.mov (.t 13)), none⟩]))))))
     (.seq
      (.region [⟨(some 22), (.mov (.t 5)), none⟩, ⟨(some 4), (.mov (.t 22)), none⟩])
      .ret))))
def r23 : List AOp := [(.mov (.t 4))]
theorem ok23 : FnOk Try.prog 23 Try.f23.ntmps a23 r23 := ⟨Try.f23, Try.func23, by kernel_rfl, by kernel_rfl, by kernel_rfl, fun asv w => by simp⟩

/-- layover/layoverlaw01.RunFollows -/
def a3 : ACode :=
  (.seq
   (.region [⟨(some 1), (.box (.t 0)), none⟩, ⟨(some 2), (.mov (.c (.bool false))), none⟩])
   (.seq
    (.seq
     (.region [⟨(some 8), (.ld true 4 (.t 1)), none⟩, ⟨(some 9), (.call (.c (.func (.func 16) #[] #[])) [(.t 8)]), none⟩, ⟨(some 10), (.not (.t 9)), none⟩])
     (.cond (.t 10)
      (.seq
       (.region [⟨(some 11), (.call (.c (.func (.func 17) #[] #[])) []), none⟩, ⟨(some 2), (.mov (.t 11)), none⟩])
       .ret)
      .skip))
    (.seq
     (.region [⟨(some 12), (.ld true 4 (.t 1)), none⟩, ⟨(some 13), (.call (.c (.func (.func 19) #[] #[])) [(.t 12)]), none⟩, ⟨(some 14), (.call (.c (.func (.func 18) #[] #[])) [(.t 13)]), none⟩, ⟨(some 3), (.mov (.t 14)), none⟩])
     (.seq
      (.region [⟨(some 16), (.ld true 4 (.t 1)), none⟩, ⟨(some 17), (.call (.c (.func (.func 19) #[] #[])) [(.t 16)]), none⟩, ⟨(some 18), (.call (.c (.func (.func 20) #[] #[])) [(.t 17)]), none⟩, ⟨(some 15), (.mov (.t 18)), none⟩, ⟨(some 19), (.ext (.t 15) 0), none⟩, ⟨(some 20), (.ext (.t 15) 1), none⟩, ⟨(some 4), (.mov (.t 19)), none⟩, ⟨(some 5), (.mov (.t 20)), none⟩])
      (.seq
       (.region [⟨(some 21), (.ld true 4 (.t 1)), none⟩, ⟨(some 22), (.call (.c (.func (.func 21) #[] #[])) [(.t 21)]), none⟩, ⟨(some 6), (.mov (.t 22)), none⟩])
       (.seq
        (.seq
         (.region [⟨(some 23), (.mov (.t 3)), none⟩, ⟨(some 24), (.mov (.t 6)), none⟩, ⟨(some 25), (.bin .neq (.t 23) (.t 24)), none⟩])
         (.cond (.t 25)
          (.seq
           (.region [⟨(some 2), (.mov (.c (.bool false))), none⟩])
           .ret)
          .skip))
        (.seq
         (.seq
          (.region [⟨(some 26), (.mov (.t 6)), none⟩, ⟨(some 27), (.bin .neq (.t 26) (.c (.int .i64 0))), none⟩])
          (.cond (.t 27)
           (.seq
            (.region [⟨(some 28), (.mov (.t 5)), none⟩, ⟨(some 29), (.mov (.t 6)), none⟩, ⟨(some 30), (.bin .eql (.t 28) (.t 29)), none⟩, ⟨(some 31), (.mov (.t 30)), none⟩, ⟨(some 32), (.mov (.t 4)), (some (31, true))⟩, ⟨(some 33), (.len (.t 32)), (some (31, true))⟩, ⟨(some 34), (.bin .eql (.t 33) (.c (.int .i64 0))), (some (31, true))⟩, ⟨(some 35), (.pick (.t 31) (.t 34) (.c (.bool false))), none⟩, ⟨(some 36), (.mov (.t 35)), none⟩, ⟨(some 37), (.call (.c (.func (.func 17) #[] #[])) []), (some (36, true))⟩, ⟨(some 38), (.pick (.t 36) (.t 37) (.c (.bool false))), none⟩, ⟨(some 2), (.mov (.t 38)), none⟩])
            .ret)
           .skip))
         (.seq
          (.seq
           (.region [⟨(some 39), (.mov (.t 5)), none⟩, ⟨(some 40), (.bin .neq (.t 39) (.c (.int .i64 0))), none⟩, ⟨(some 41), (.mov (.t 40)), none⟩, ⟨(some 42), (.mov (.t 4)), (some (41, false))⟩, ⟨(some 43), (.len (.t 42)), (some (41, false))⟩, ⟨(some 44), (.fa 3 (.t 1)), (some (41, false))⟩, ⟨(some 45), (.ld false 1 (.t 44)), (some (41, false))⟩, ⟨(some 46), (.len (.t 45)), (some (41, false))⟩, ⟨(some 47), (.bin .neq (.t 43) (.t 46)), (some (41, false))⟩, ⟨(some 48), (.pick (.t 41) (.c (.bool true)) (.t 47)), none⟩])
           (.cond (.t 48)
            (.seq
             (.region [⟨(some 2), (.mov (.c (.bool false))), none⟩])
             .ret)
            .skip))
          (.seq
           (.seq
            (.region [⟨(some 7), (.mov (.c (.int .i64 0))), none⟩])
            (.block 0
             (.loop
              (.seq
               (.seq
                (.region [⟨(some 49), (.mov (.t 7)), none⟩, ⟨(some 50), (.mov (.t 4)), none⟩, ⟨(some 51), (.len (.t 50)), none⟩, ⟨(some 52), (.bin .lss (.t 49) (.t 51)), none⟩])
                (.cond (.t 52)
                 .skip
                 (.exit 0)))
               (.seq
                (.block 1
                 (.seq
                  (.draw 9 [⟨⟨(some 55), (.mov (.t 4)), none⟩, 0, false, []⟩, ⟨⟨(some 56), (.mov (.t 7)), none⟩, 1, false, []⟩, ⟨⟨(some 57), (.isl 1 (.t 55) (.t 56)), none⟩, 2, false, []⟩, ⟨⟨(some 58), (.ld false 1 (.t 57)), none⟩, 3, false, []⟩, ⟨⟨(some 59), (.ld true 4 (.t 1)), none⟩, 4, false, []⟩, ⟨⟨(some 60), (.mov (.t 7)), none⟩, 5, false, []⟩, ⟨⟨(some 61), (.call (.c (.func (.func 23) #[] #[])) [(.t 59), (.t 60)]), none⟩, 6, true, [3]⟩, ⟨⟨(some 62), (.call (.c (.func (.func 22) #[] #[])) [(.t 58), (.t 61)]), none⟩, 7, true, []⟩, ⟨⟨(some 63), (.not (.t 62)), none⟩, 8, false, []⟩])
                  (.cond (.t 63)
                   (.seq
                    (.region [⟨(some 2), (.mov (.c (.bool false))), none⟩])
                    .ret)
                   .skip)))
                (.region [⟨(some 53), (.mov (.t 7)), none⟩, ⟨(some 54), (.bin .add (.t 53) (.c (.int .i64 1))), none⟩, ⟨(some 7), (.mov (.t 54)), none⟩]))))))
           (.seq
            (.region [⟨(some 64), (.call (.c (.func (.func 17) #[] #[])) []), none⟩, ⟨(some 2), (.mov (.t 64)), none⟩])
            .ret))))))))))
def r3 : List AOp := [(.mov (.t 2))]
theorem ok3 : FnOk Try.prog 3 Try.f3.ntmps a3 r3 := ⟨Try.f3, Try.func3, by kernel_rfl, by kernel_rfl, by kernel_rfl, fun asv w => by simp⟩

/-- layover/layoverlaw01.day -/
def a42 : ACode :=
  (.seq
   (.region [⟨(some 0), (.new [(.int .i64 0), (.int .i64 0), (.slice none 0 0), (.slice none 0 0)]), none⟩])
   (.seq
    (.region [⟨(some 1), (.bsl 2 [(.int .i64 0), (.int .i64 0)] [(0, 1, (.c (.int .i64 0))), (1, 1, (.c (.int .i64 20)))]), none⟩, ⟨(some 2), (.bsl 2 [(.int .i64 0), (.int .i64 0)] [(0, 1, (.c (.int .i64 30))), (1, 1, (.c (.int .i64 0)))]), none⟩, ⟨(some 3), (.bsl 2 [(.slice none 0 0), (.slice none 0 0)] [(0, 1, (.t 1)), (1, 1, (.t 2))]), none⟩, ⟨(some 4), (.bld [(.int .i64 0), (.int .i64 0), (.int .i64 0), (.int .i64 0), (.int .i64 0), (.int .i64 0)] [(0, 1, (.c (.int .i64 0))), (1, 1, (.c (.int .i64 1))), (2, 1, (.c (.int .i64 100))), (3, 1, (.c (.int .i64 40))), (4, 1, (.c (.int .i64 60)))]), none⟩, ⟨(some 5), (.bld [(.int .i64 0), (.int .i64 0), (.int .i64 0), (.int .i64 0), (.int .i64 0), (.int .i64 0)] [(0, 1, (.c (.int .i64 1))), (1, 1, (.c (.int .i64 0))), (2, 1, (.c (.int .i64 165))), (3, 1, (.c (.int .i64 20))), (4, 1, (.c (.int .i64 30)))]), none⟩, ⟨(some 6), (.bld [(.int .i64 0), (.int .i64 0), (.int .i64 0), (.int .i64 0), (.int .i64 0), (.int .i64 0)] [(0, 1, (.c (.int .i64 0))), (1, 1, (.c (.int .i64 1))), (2, 1, (.c (.int .i64 165))), (3, 1, (.c (.int .i64 40))), (4, 1, (.c (.int .i64 60)))]), none⟩, ⟨(some 7), (.bld [(.int .i64 0), (.int .i64 0), (.int .i64 0), (.int .i64 0), (.int .i64 0), (.int .i64 0)] [(0, 1, (.c (.int .i64 0))), (1, 1, (.c (.int .i64 1))), (2, 1, (.c (.int .i64 200))), (3, 1, (.c (.int .i64 30))), (4, 1, (.c (.int .i64 30)))]), none⟩, ⟨(some 8), (.bld [(.int .i64 0), (.int .i64 0), (.int .i64 0), (.int .i64 0), (.int .i64 0), (.int .i64 0)] [(0, 1, (.c (.int .i64 1))), (1, 1, (.c (.int .i64 0))), (2, 1, (.c (.int .i64 240))), (3, 1, (.c (.int .i64 10))), (4, 1, (.c (.int .i64 20))), (5, 1, (.c (.int .i64 1)))]), none⟩, ⟨(some 9), (.bsl 5 [(.int .i64 0), (.int .i64 0), (.int .i64 0), (.int .i64 0), (.int .i64 0), (.int .i64 0), (.int .i64 0), (.int .i64 0), (.int .i64 0), (.int .i64 0), (.int .i64 0), (.int .i64 0), (.int .i64 0), (.int .i64 0), (.int .i64 0), (.int .i64 0), (.int .i64 0), (.int .i64 0), (.int .i64 0), (.int .i64 0), (.int .i64 0), (.int .i64 0), (.int .i64 0), (.int .i64 0), (.int .i64 0), (.int .i64 0), (.int .i64 0), (.int .i64 0), (.int .i64 0), (.int .i64 0)] [(0, 6, (.t 4)), (6, 6, (.t 5)), (12, 6, (.t 6)), (18, 6, (.t 7)), (24, 6, (.t 8))]), none⟩, ⟨(some 10), (.bld [(.int .i64 0), (.int .i64 0), (.slice none 0 0), (.slice none 0 0)] [(0, 1, (.c (.int .i64 2))), (1, 1, (.c (.int .i64 5))), (2, 1, (.t 3)), (3, 1, (.t 9))]), none⟩, ⟨none, (.st 4 (.t 0) (.t 10)), none⟩])
    .ret))
def r42 : List AOp := [(.ld true 4 (.t 0))]
theorem ok42 : FnOk Try.prog 42 Try.f42.ntmps a42 r42 := ⟨Try.f42, Try.func42, by kernel_rfl, by kernel_rfl, by kernel_rfl, fun asv w => by simp⟩

end Go.Proofs.Ytohohnpjilinmaa

/-
  Contracts of the small functions of the statements.
-/
namespace Go.Proofs.Ytohohnpjilinmaa
open Go Go.Ab

theorem list_spec {H : Heap} {v : Value} {xs : List Int} (hv : IntsAt H v xs) (hl : xs.length ≤ 2 ^ 20) : AFun Try.prog 34 [v] H (fun r B => OwnSl B H.next r (xs.map (.int .i64)) ∧ Ge H B) := by
  refine AFun.mk ok34 hm (Nat.le_of_ble_eq_true rfl) ?_
  simp [a34, r34]
  refine ⟨0, [], none, 0, xs.length, xs.map (.int .i64), rfl, hv.1.1, map_one_int _, by omega, ?_⟩
  by_cases h0 : xs.length = 0
  · rw [if_pos ⟨rfl, h0⟩]
    have : xs = [] := List.length_eq_zero_iff.1 h0
    subst this
    simp
    exact .inl ⟨rfl, rfl⟩
  · rw [if_neg (fun h => h0 h.2)]
    intro cap' hcap
    simp
    refine ⟨.inr ⟨H.next, cap', cap', by simp, Nat.le_refl _, by simp [appHeap], by simp [appHeap], by simp; omega, Nat.le_refl _⟩, ?_⟩
    exact Ge.app (Ge.refl H) (Nat.le_refl _) (by simp) (by omega)

theorem short_spec {H : Heap} {v : Value} {xs : List (List Int)} (hv : RowsAt H v xs) : AFun Try.prog 25 [v] H (fun r B => r = .bool (decide (xs.length ≤ 15) && xs.all fun l => decide (l.length ≤ 15)) ∧ Ge H B) := by
  refine AFun.mk ok25 hm (Nat.le_of_ble_eq_true rfl) ?_
  have h62 := hv.lt
  simp [a25, r25]
  refine floop_intro (fun z => z.d = [] ∧ z.H = H ∧ z.t 0 = v ∧ ∃ i : Nat, i ≤ xs.length ∧ i ≤ 16 ∧ z.t 3 = .int .i64 i ∧ ∀ l ∈ xs.take i, l.length ≤ 15) (fun z => xs.length - (intOf (z.t 3)).toNat) ?_ ?_
  · exact ⟨rfl, rfl, by simp, 0, by simp, by simp, by simp, by simp⟩
  rintro ⟨t, _, A⟩ ⟨rfl, rfl, t0, i, hi, hi16, t3, hall⟩
  dsimp only at t0 t3 hv
  simp [t0, t3, hv.lenV]
  by_cases h1 : i < xs.length
  · by_cases h2 : i < 16
    · obtain ⟨p, u, e1, e2, e3⟩ := hv.at h1
      simp [h1, (by omega : (i : Int) < 16), t0, t3, e1, e2, e3.lenV]
      refine fcond_intro (fun hc => ?_) (fun hc => ?_)
      · simp at hc
        simp
        intro _
        exact ⟨xs[i], List.getElem_mem h1, by omega⟩
      · simp at hc
        simp [t3, add_in (x := i) (y := 1) (by omega) (by omega)]
        refine ⟨⟨t0, i + 1, by omega, by omega, by omega, ?_⟩, by omega⟩
        intro l hl
        rw [List.take_succ_eq_append_getElem h1] at hl
        rcases List.mem_append.1 hl with hl | hl
        · exact hall l hl
        · simp at hl; subst hl; omega
    · have h3 : ¬ (i : Int) < 16 := by omega
      have h4 : ¬ (xs.length : Int) ≤ 15 := by omega
      have h5 : ¬ xs.length ≤ 15 := by omega
      simp [h1, h3, h4, h5, t0, t3, hv.lenV]
  · simp [h1, t0, hv.lenV]
    have : xs.take i = xs := List.take_of_length_le (by omega)
    rw [this] at hall
    have e : (xs.all fun l => decide (l.length ≤ 15)) = true := by simpa using hall
    rw [e]
    simp
    omega

def thin (T : Tab) : Bool := (decide (T.empty.length ≤ 15) && T.empty.all fun l => decide (l.length ≤ 15)) && decide (T.trips.length ≤ 15)

theorem thin_spec {e s : Value} {T : Tab} {H : Heap} (h : TabAt H e s T) : AFun Try.prog 16 [tabV T e s] H (fun r B => r = .bool (thin T) ∧ Ge H B) := by
  refine AFun.mk ok16 hm (Nat.le_of_ble_eq_true rfl) ?_
  simp [a16, r16]
  refine fcall_fun (short_spec (h.empty.ge (by simp))) ?_
  rintro _ B ⟨rfl, g⟩
  have G : Ge H B := Ge.trans (by simp) g
  have b1 := g.got (n := H.next) (by simp) rfl
  simp at b1
  unfold thin
  generalize (decide (T.empty.length ≤ 15) && T.empty.all fun l => decide (l.length ≤ 15)) = b
  cases b
  · simp [G]
  · simp [b1, h.trips.lenV, G]
    omega

end Go.Proofs.Ytohohnpjilinmaa

/-
  Contracts of the reference's functions, and of what lays a table anew.
-/
namespace Go.Proofs.Ytohohnpjilinmaa
open Go Go.Ab

theorem rows_spec {H : Heap} {v : Value} {xs : List (List Int)} (hv : RowsAt H v xs) (hl : xs.length ≤ 2 ^ 20) (hll : ∀ l ∈ xs, l.length ≤ 2 ^ 20) : AFun Try.prog 28 [v] H (fun r B => RowsO B H.next r xs ∧ Ge H B) := by
  refine AFun.mk ok28 hm (Nat.le_of_ble_eq_true rfl) ?_
  have h62 := hv.lt
  simp [a28, r28]
  refine floop_intro (fun z => z.d = [] ∧ Ge H z.H ∧ z.t 0 = v ∧ ∃ i : Nat, i ≤ xs.length ∧ z.t 4 = .int .i64 i ∧ RowsO z.H H.next (z.t 3) (xs.take i)) (fun z => xs.length - (intOf (z.t 4)).toNat) ?_ ?_
  · exact ⟨rfl, by simp, by simp, 0, by simp, by simp, by simpa using RowsO.nil (.inl ⟨by simp, rfl⟩)⟩
  rintro ⟨t, _, A⟩ ⟨rfl, g, t0, i, hi, t4, hR⟩
  dsimp only at g t0 t4 hR
  simp [t0, t4, hv.lenV]
  refine fcond_intro (fun hc => ?_) (fun hc => ?_)
  · have h1 : i < xs.length := by simpa using hc
    obtain ⟨p, u, e1, e2, e3⟩ := hv.atGe g h1
    have hxi := hll _ (List.getElem_mem h1)
    simp [t0, t4, e1, e2]
    refine fcall_fun (list_spec (e3.ge g) hxi) ?_
    rintro w B ⟨hw, gB⟩
    have ow := one_cells hw.one
    simp [ow]
    have gB2 : Ge A (B.new (.cells true [w] 1)) := gB.newOf _
    have hR2 : RowsO (B.new (.cells true [w] 1)) H.next (t 3) (xs.take i) := hR.keep gB2.next fun n _ hn => gB2.get n hn
    have gn := g.next
    have gBn := gB.next
    refine hR2.push (lo1 := A.next) (r := xs[i]) (hw.ge (Ge.new _ _)) (by omega) ?_ (by omega) (slCells_new (x := w) (rw := true) (c := 1) (by simp)) (by simp; omega) (by simp) (by omega) (by simp; omega) fun u' C k1 k2 k3 k4 => ?_
    · intro q hq e
      obtain ⟨vs, o1, _⟩ := hR.ex
      have := (hw.names hq).1
      have := (o1.names e).2
      omega
    · obtain ⟨vs, o1, _⟩ := hR.ex
      have gC : Ge H C := by
        refine ⟨by omega, fun n hn => ?_⟩
        have e1 : n ≠ B.next := by omega
        rw [k4 n (by omega) (fun e => by have := (o1.names e).1; omega)]
        simp [e1, gB.get n (by omega), g.get n hn]
      simp [t4, add_in (x := i) (y := 1) (by omega) (by omega)]
      refine ⟨⟨gC, t0, i + 1, by omega, by omega, ?_⟩, by omega⟩
      rw [List.take_succ_eq_append_getElem h1]; exact k1
  · have h1 : i = xs.length := by simp at hc; omega
    subst h1
    simp
    rw [List.take_length] at hR
    exact ⟨hR, g⟩

theorem ready_spec {e s : Value} {T : Tab} {H : Heap} {i : Nat} {m p : Int} (h : TabAt H e s T) (hT : Valid T) (hi : i < T.trips.length) (hm0 : 0 ≤ m ∧ m ≤ 600) (hp : 0 ≤ p ∧ p < T.places) :
    AFun Try.prog 64 [tabV T e s, .int .i64 i, .int .i64 m, .int .i64 p] H (fun v H' => v = .int .i64 (T.ready T.trips[i] m p) ∧ Ge H H') := by
  refine AFun.mk ok64 hm (Nat.le_of_ble_eq_true rfl) ?_
  have hs := hT.size
  have ht := hT.trip (List.getElem_mem hi)
  obtain ⟨r1, r2, r3, r4, r5⟩ := hT.road (a := T.trips[i].dst) (b := p) ⟨by omega, by omega⟩ hp
  obtain ⟨n1, o1, e1, l1, e2, _⟩ := h.trips.at hi
  simp [a64, r64, e1, e2, Nat.ne_of_lt l1, Tr.val]
  rw [add_in (by omega) (by omega)]
  simp
  rw [add_in (by omega) (by omega)]
  simp
  have g0 : Ge H (((H.new (AObj.cells true [.int .i64 T.places, .int .i64 T.layover, e, s] 4)).new (AObj.cells true [.int .i64 0, .int .i64 0, .int .i64 0, .int .i64 0, .int .i64 0, .int .i64 0] 6)).set (H.next + 1) (AObj.cells true T.trips[i].cells 6)) := Ge.setNew ((Ge.new _ _).newOf _) (by omega) _
  obtain ⟨p1, u, k1, k2, k3⟩ := (h.empty.ge (g0.grow 18)).atI (i := T.trips[i].dst) (by omega) r1
  obtain ⟨p2, f1, f2⟩ := IntsAt.atI k3 (i := p) (by omega) r2
  simp [Tr.cells] at k2 f2
  simp [k1, k2, f1, f2]
  rw [add_in (by omega) (by omega)]
  simp [Tab.ready, r3]
  exact Ge.grow_le (by omega) (Ge.setNew ((Ge.new _ _).newOf _) (by omega) _)

/-- What the reference says: may a trip follow. -/
def Tab.refMay (T : Tab) (i j : Nat) : Bool := decide (i ≠ j) && (decide ((T.trips[i]?.map (·.kind)) = (T.trips[j]?.map (·.kind))) && (match T.trips[i]?, T.trips[j]? with
  | some x, some y => decide (T.ready x x.most y.src ≤ y.start)
  | _, _ => false))

theorem refMay_spec {e s : Value} {T : Tab} {H : Heap} {i k : Nat} (h : TabAt H e s T) (hT : Valid T) (hi : i < T.trips.length) (hk : k < T.trips.length) :
    AFun Try.prog 52 [tabV T e s, .int .i64 i, .int .i64 k] H (fun r H' => r = .bool (T.refMay i k) ∧ Ge H H') := by
  refine AFun.mk ok52 hm (Nat.le_of_ble_eq_true rfl) ?_
  have hx := hT.trip (List.getElem_mem hi)
  have hy := hT.trip (List.getElem_mem hk)
  obtain ⟨n1, o1, e1, l1, e2, _⟩ := h.trips.at hi
  obtain ⟨n2, o2, f1, l2, f2, _⟩ := h.trips.at hk
  have q1 : ∀ j, n1 ≠ H.next + j := fun j => by omega
  have q2 : ∀ j, n2 ≠ H.next + j := fun j => by omega
  simp [a52, r52, e1, e2, f1, f2, Nat.ne_of_lt l1, Nat.ne_of_lt l2, q2, Tr.val]
  have gE : Ge H _ := Ge.setNew (Ge.setNew (Ge.setNew (Ge.setNew (Ge.grow_le (k := H.next + 15) (by omega) (Ge.new H (.cells true [.int .i64 T.places, .int .i64 T.layover, e, s] 4))) (n := H.next + 11) (by omega) (.cells true [.int .i64 0, .int .i64 0, .int .i64 0, .int .i64 0, .int .i64 0, .int .i64 0] 6)) (n := H.next + 12) (by omega) (.cells true [.int .i64 0, .int .i64 0, .int .i64 0, .int .i64 0, .int .i64 0, .int .i64 0] 6)) (n := H.next + 11) (by omega) (.cells true T.trips[i].cells 6)) (n := H.next + 12) (by omega) (.cells true T.trips[k].cells 6)
  by_cases hik : i = k
  · subst hik
    simp [Tab.refMay]
    exact gE.grow 23
  have hik' : ¬ (i : Int) = (k : Int) := by omega
  simp [hik']
  by_cases hkd : T.trips[i].kind = T.trips[k].kind
  case neg =>
    simp [hik', hkd, Tab.refMay, hi, hk, hik]
    exact gE.grow 23
  have hkd' : (decide (T.trips[i].kind = T.trips[k].kind)) = true := by simpa using hkd
  generalize decide (T.trips[i].kind = T.trips[k].kind) = b at hkd'
  subst hkd'
  simp [hik']
  refine fcall_fun (ready_spec (T := T) (i := i) (h.ge ?_) hT hi (m := T.trips[i].most) ⟨by omega, by omega⟩ (p := T.trips[k].src) ⟨by omega, by omega⟩) ?_
  · exact gE.grow 23
  rintro _ B ⟨rfl, gB⟩
  have kB := gB.got (n := H.next + 12) (by simp) rfl
  simp at kB
  simp [kB, hik']
  have hkd2 : T.trips[i].kind = T.trips[k].kind := by assumption
  simp [Tab.refMay, hi, hk, hik, hkd2]
  exact (gE.grow 23).trans gB

end Go.Proofs.Ytohohnpjilinmaa

/-
  The reference's followers are the program's.
-/
namespace Go.Proofs.Ytohohnpjilinmaa
open Go Go.Ab

theorem refMay_eq {T : Tab} (hT : Valid T) {i k : Nat} (hi : i < T.trips.length) (hk : k < T.trips.length) : T.refMay i k = T.mayN i k := by
  have hx := hT.trip (List.getElem_mem hi)
  have hs := hT.size
  rw [Tab.mayN_eq hi hk]
  have hm : [T.trips[i].least, T.trips[i].most].foldl max 0 = T.trips[i].most := by simp; omega
  have key : T.refMay i k = (decide (i ≠ k) && (decide (T.trips[i].kind = T.trips[k].kind) && decide (T.ready T.trips[i] T.trips[i].most T.trips[k].src ≤ T.trips[k].start))) := by
    simp [Tab.refMay, hi, hk]
  rw [key]
  unfold Tab.may Tab.wait
  rw [hm]
  by_cases hxy : T.trips[i] = T.trips[k]
  · have hr : ¬ T.ready T.trips[i] T.trips[i].most T.trips[k].src ≤ T.trips[k].start := by
      obtain ⟨r1, r2, r3, r4, r5⟩ := hT.road (a := T.trips[i].dst) (b := T.trips[i].src) ⟨by omega, by omega⟩ ⟨by omega, by omega⟩
      rw [← hxy]
      unfold Tab.ready
      omega
    simp [hxy, hxy ▸ hr]
  · have hik : i ≠ k := fun e => hxy (by subst e; rfl)
    by_cases hkd : T.trips[i].kind = T.trips[k].kind
    · simp [hxy, hik, hkd]
    · simp [hkd]

theorem refFollows_spec {e s : Value} {T : Tab} {H : Heap} {i : Nat} (h : TabAt H e s T) (hT : Valid T) (hi : i < T.trips.length) :
    AFun Try.prog 23 [tabV T e s, .int .i64 i] H (fun r B => IntsAt B r (((List.range T.trips.length).filter (T.mayN i)).map Int.ofNat) ∧ Ge H B) := by
  refine AFun.mk ok23 hm (Nat.le_of_ble_eq_true rfl) ?_
  have hfew := hT.few
  simp [a23, r23]
  refine floop_intro (fun z => z.d = [] ∧ Ge H z.H ∧ H.next < z.H.next ∧ z.t 1 = .int .i64 i ∧ z.t 2 = .pointer (some ⟨H.next, 0, none⟩) ∧ z.H.get H.next = .cells true [.int .i64 T.places, .int .i64 T.layover, e, s] 4 ∧
    ∃ k : Nat, k ≤ T.trips.length ∧ z.t 6 = .int .i64 k ∧ OwnSl z.H (H.next + 1) (z.t 5) ((((List.range k).filter (T.mayN i)).map Int.ofNat).map (.int .i64))) (fun z => T.trips.length - (intOf (z.t 6)).toNat) ?_ ?_
  · exact ⟨rfl, by simp, by simp, by simp, by simp, by simp, 0, by simp, by simp, .inl ⟨by simp, rfl⟩⟩
  rintro ⟨t, _, A⟩ ⟨rfl, g, hn, t1, t2, b0, k, hk, t6, hO⟩
  dsimp only at g hn t1 t2 b0 t6 hO
  simp [t2, t6, b0, h.trips.lenV]
  refine fcond_intro (fun hc => ?_) (fun hc => ?_)
  · have hk' : k < T.trips.length := by simpa using hc
    simp [t1, t2, t6, b0]
    refine fcall_fun (refMay_spec (h.ge g) hT hi hk') ?_
    rintro _ B ⟨rfl, gB⟩
    rw [refMay_eq hT hi hk']
    have hO2 := hO.ge gB
    have bB := gB.got hn b0
    have gn := gB.next
    simp
    cases hmay : T.mayN i k
    · simp [t6, add_in (x := k) (y := 1) (by omega) (by omega)]
      refine ⟨⟨g.trans gB, by omega, t1, t2, bB, k + 1, by omega, by omega, ?_⟩, by omega⟩
      simpa [List.range_succ, hmay] using hO2
    · simp [t6]
      have hlen : ((((List.range k).filter (T.mayN i)).map Int.ofNat).map (Value.int .i64)).length ≤ 2 ^ 20 := by
        simp only [List.length_map]
        exact Nat.le_trans (List.length_filter_le _ _) (by simp; omega)
      refine fapp_own (lo := H.next + 1) (cs := (((List.range k).filter (T.mayN i)).map Int.ofNat).map (.int .i64)) (hO2.ge (Ge.new _ _)) (slCells_new (x := .int .i64 k) (rw := true) (c := 1) (by simp)) rfl hlen (by omega) (Nat.le_refl _) (by omega) (by simp; omega) fun u C k1 k2 k3 k4 => ?_
      have hC : ∀ n, n < H.next + 1 → C.get n = B.get n := fun n hn2 => by
        have e1 : n ≠ B.next := by omega
        rw [k4 n (by omega) (fun e => by have := (hO2.names e).1; omega)]
        simp [e1]
      simp [t6, add_in (x := k) (y := 1) (by omega) (by omega)]
      refine ⟨⟨⟨by have := g.next; omega, fun n hn2 => ?_⟩, by omega, t1, t2, (hC _ (by omega)).trans bB, k + 1, by omega, by omega, ?_⟩, by omega⟩
      · rw [hC n (by omega), (g.trans gB).get n hn2]
      · simpa [List.range_succ, hmay] using k1
  · have hk' : k = T.trips.length := by simp at hc; omega
    subst hk'
    simp
    refine ⟨⟨?_, ?_⟩, g⟩
    · have := hO.slr
      simpa using this
    · simp only [List.length_map]
      have := List.length_filter_le (T.mayN i) (List.range T.trips.length)
      simp at this; omega

end Go.Proofs.Ytohohnpjilinmaa

/-
  The reference's fault is the program's check.
-/
namespace Go.Proofs.Ytohohnpjilinmaa
open Go Go.Ab

/-- A trip is as it must be, in the reference's order. -/
def refTrip (P : Int) (x : Tr) : Bool :=
  (decide (0 ≤ x.src) && decide (x.src ≤ P - 1)) && ((decide (0 ≤ x.dst) && decide (x.dst ≤ P - 1)) && ((decide (0 ≤ x.start) && decide (x.start ≤ 2000)) && ((decide (1 ≤ x.least) && decide (x.least ≤ x.most)) && (decide (x.most ≤ 600) && (decide (0 ≤ x.kind) && decide (x.kind ≤ 2))))))

theorem refTrip_eq (P : Int) (x : Tr) : refTrip P x = okTrip P x := by
  rw [Bool.eq_iff_iff]
  simp [refTrip, okTrip]
  omega

theorem checkT_bad {T : Tab} (h : ¬ 12 < T.trips.length) (h2 : (okPlaces T && T.trips.all (okTrip T.places)) = false) : checkT T = 1 := by
  unfold checkT; rw [if_neg h, h2]; rfl

theorem okPlaces_bad {T : Tab} {i : Nat} (hi : i < T.empty.length) (h : okRow T.places i T.empty[i] = false) : okPlaces T = false := by
  rw [Bool.eq_false_iff]
  intro hp
  simp only [okPlaces, Bool.and_eq_true, List.all_eq_true, List.mem_range] at hp
  have := hp.2.2.2 i hi
  simp [hi, h] at this

theorem fault_spec {e s : Value} {T : Tab} {H : Heap} (h : TabAt H e s T) : AFun Try.prog 47 [tabV T e s] H (fun v H' => v = .int .i64 (checkT T) ∧ Ge H H') := by
  refine AFun.mk ok47 hm (Nat.le_of_ble_eq_true rfl) ?_
  have hle := h.empty.lt
  have hlt := h.trips.2
  simp [a47, r47, h.trips.lenV]
  refine fcond_intro (fun hc => ?_) (fun hc => ?_)
  · simp at hc
    simp [checkT, (by omega : 12 < T.trips.length)]
  simp at hc
  have hc12 : ¬ 12 < T.trips.length := by omega
  simp
  refine fcall_fun (in_spec _ _ _ _) ?_
  rintro _ _ ⟨rfl, rfl⟩
  cases hb1 : (decide (1 ≤ T.places) && decide (T.places ≤ 6))
  · have hbad := checkT_bad hc12 (by simp only [okPlaces, hb1, Bool.false_and])
    simp [hbad]
  simp
  refine fcall_fun (in_spec _ _ _ _) ?_
  rintro _ _ ⟨rfl, rfl⟩
  cases hb2 : (decide (0 ≤ T.layover) && decide (T.layover ≤ 600))
  · have hbad := checkT_bad hc12 (by simp only [okPlaces, okMin, hb1, hb2, Bool.false_and, Bool.and_false])
    simp [hbad]
  simp [h.empty.lenV]
  by_cases hl : (T.empty.length : Int) = T.places
  case neg =>
    have hbad := checkT_bad hc12 (by simp only [okPlaces, hl, decide_false, Bool.false_and, Bool.and_false])
    simp [hl, hbad]
  simp at hb1 hb2
  simp [hl]
  refine floop_intro (fun z => z.d = [] ∧ Ge H z.H ∧ H.next < z.H.next ∧ z.H.get H.next = .cells true [.int .i64 T.places, .int .i64 T.layover, e, s] 4 ∧ z.t 1 = .pointer (some ⟨H.next, 0, none⟩) ∧
    ∃ i : Nat, i ≤ T.empty.length ∧ z.t 3 = .int .i64 i ∧ ∀ j (hj : j < T.empty.length), j < i → okRow T.places j T.empty[j] = true) (fun z => T.empty.length - (intOf (z.t 3)).toNat) ?_ ?_
  · exact ⟨rfl, by simp, by simp, by simp, by simp, 0, by simp, by simp, by simp⟩
  rintro ⟨t, _, A⟩ ⟨rfl, g, hn, hk, t1, i, hi, t3, hr⟩
  dsimp only at g hn hk t1 t3
  simp [t1, t3, hk]
  refine fcond_intro (fun hc1 => ?_) (fun hc1 => ?_)
  · simp at hc1
    have hi' : i < T.empty.length := by omega
    obtain ⟨p, u, e1, e2, e3⟩ := h.empty.atGe (g.grow 20) hi'
    simp [t1, t3, hk, e1, e2, e3.lenV]
    by_cases hx : (T.empty[i].length : Int) = T.places
    case neg =>
      have hbad := checkT_bad hc12 (by rw [okPlaces_bad hi' (by simp [okRow, hx])]; rfl)
      simp [hx, hbad]
      exact g.grow 20
    obtain ⟨q, f1, f2⟩ := (e3.ge (g.grow 20)).at (i := i) (by omega)
    simp [hx, t1, t3, hk, e1, e2, f1, f2]
    by_cases h0 : T.empty[i][i]'(by omega) = 0
    case neg =>
      have hbad := checkT_bad hc12 (by rw [okPlaces_bad hi' (by simp [okRow, h0, (by omega : i < T.empty[i].length)])]; rfl)
      simp [hx, h0, hbad]
      exact g.grow 20
    simp [hx, h0]
    refine floop_intro (fun z => z.d = [] ∧ Ge H z.H ∧ H.next < z.H.next ∧ z.H.get H.next = .cells true [.int .i64 T.places, .int .i64 T.layover, e, s] 4 ∧ z.t 1 = .pointer (some ⟨H.next, 0, none⟩) ∧ z.t 3 = .int .i64 i ∧
      ∃ k : Nat, k ≤ T.empty[i].length ∧ z.t 4 = .int .i64 k ∧ ∀ m ∈ T.empty[i].take k, okMin m = true) (fun z => T.empty[i].length - (intOf (z.t 4)).toNat) ?_ ?_
    · exact ⟨rfl, g.grow 20, by simp; omega, hk, by simp [t1], by simp [t3], 0, by simp, by simp, by simp⟩
    clear e1 e2 f1 f2 p q
    rintro ⟨w, _, B⟩ ⟨rfl, g', hn', hk', w1, w3, k, hki, w4, hall⟩
    dsimp only at g' hn' hk' w1 w3 w4
    simp [w1, w4, hk']
    refine fcond_intro (fun hc2 => ?_) (fun hc2 => ?_)
    · simp at hc2
      have hk2 : k < T.empty[i].length := by omega
      obtain ⟨p, u, e1, e2, e3⟩ := h.empty.atGe g' hi'
      obtain ⟨q, f1, f2⟩ := (e3.ge g').at hk2
      simp [w1, w3, w4, hk', e1, e2, f1, f2]
      refine fcall_fun (in_spec _ _ _ _) ?_
      rintro _ _ ⟨rfl, rfl⟩
      cases hm1 : (decide (0 ≤ T.empty[i][k]) && decide (T.empty[i][k] ≤ 600))
      · have hrow : okRow T.places i T.empty[i] = false := by
          have : T.empty[i].all okMin = false := by
            rw [Bool.eq_false_iff]
            intro ha
            have := List.all_eq_true.1 ha _ (List.getElem_mem hk2)
            rw [okMin, hm1] at this; cases this
          simp [okRow, this]
        have hbad := checkT_bad hc12 (by rw [okPlaces_bad hi' hrow]; rfl)
        simp [hbad, g']
      · simp [w4, add_in (x := k) (y := 1) (by omega) (by omega)]
        refine ⟨⟨g', hn', hk', w1, w3, k + 1, by omega, by omega, ?_⟩, by omega⟩
        intro m hm
        rw [List.take_succ_eq_append_getElem hk2] at hm
        rcases List.mem_append.1 hm with hm | hm
        · exact hall m hm
        · simp at hm; subst hm; exact hm1
    · simp at hc2
      have hk2 : T.empty[i].take k = T.empty[i] := List.take_of_length_le (by omega)
      rw [hk2] at hall
      simp [w3, add_in (x := i) (y := 1) (by omega) (by omega)]
      refine ⟨⟨g', hn', hk', w1, i + 1, by omega, by omega, ?_⟩, by simp [t3]; omega⟩
      intro j hj hji
      by_cases hji' : j = i
      · subst hji'
        have : T.empty[j].all okMin = true := by simpa using hall
        simp only [okRow, this, hx, decide_true, Bool.true_and, Bool.and_true, decide_eq_true_eq]
        rw [List.getElem?_eq_getElem (by omega)]
        simpa using h0
      · exact hr j hj (by omega)
  · simp at hc1
    have hok : okPlaces T = true := by
      simp only [okPlaces, okMin, Bool.and_eq_true, decide_eq_true_eq, List.all_eq_true, List.mem_range]
      refine ⟨hb1, hb2, hl, fun j hj => ?_⟩
      have := hr j hj (by omega)
      simpa [hj] using this
    simp
    refine floop_intro (fun z => z.d = [] ∧ Ge H z.H ∧ H.next < z.H.next ∧ z.H.get H.next = .cells true [.int .i64 T.places, .int .i64 T.layover, e, s] 4 ∧ z.t 1 = .pointer (some ⟨H.next, 0, none⟩) ∧
      ∃ k : Nat, k ≤ T.trips.length ∧ z.t 5 = .int .i64 k ∧ ∀ x ∈ T.trips.take k, okTrip T.places x = true) (fun z => T.trips.length - (intOf (z.t 5)).toNat) ?_ ?_
    · exact ⟨rfl, g, hn, hk, by simp [t1], 0, by simp, by simp, by simp⟩
    clear hc1 t1 t3 hk hn g
    rintro ⟨w, _, B⟩ ⟨rfl, g, hn, hk, w1, k, hkn, w5, hall⟩
    dsimp only at g hn hk w1 w5
    simp [w1, w5, hk, h.trips.lenV]
    refine fcond_intro (fun hc2 => ?_) (fun hc2 => ?_)
    · have hk2 : k < T.trips.length := by simpa using hc2
      obtain ⟨n1, o1, e1, l1, e2, _⟩ := (h.trips.ge g).at hk2
      have hxi : T.trips[k] ∈ T.trips := List.getElem_mem hk2
      have nb : H.next ≠ B.next := by omega
      have G : Ge H ((B.new (.cells true [.int .i64 0, .int .i64 0, .int .i64 0, .int .i64 0, .int .i64 0, .int .i64 0] 6)).set B.next (.cells true T.trips[k].cells 6)) := Ge.setNew (g.newOf _) g.next _
      have hbad : okTrip T.places T.trips[k] = false → checkT T = 1 := fun hb => checkT_bad hc12 (by
        have : T.trips.all (okTrip T.places) = false := by
          rw [Bool.eq_false_iff]; intro ha
          rw [List.all_eq_true.1 ha _ hxi] at hb; cases hb
        rw [this, Bool.and_false])
      simp [w1, w5, hk, e1, e2, nb, Tr.val]
      rw [sub_in (by omega) (by omega)]
      simp
      refine fcall_fun (in_spec _ _ _ _) ?_
      rintro _ _ ⟨rfl, rfl⟩
      rw [← refTrip_eq] at hbad
      have hok2 := refTrip_eq T.places T.trips[k]
      unfold refTrip at hbad hok2
      cases h1 : (decide (0 ≤ T.trips[k].src) && decide (T.trips[k].src ≤ T.places - 1))
      · have hb := hbad (by rw [h1]; rfl)
        simp [hb]
        exact G
      simp [hk, nb, w1]
      rw [sub_in (by omega) (by omega)]
      simp
      refine fcall_fun (in_spec _ _ _ _) ?_
      rintro _ _ ⟨rfl, rfl⟩
      cases h2 : (decide (0 ≤ T.trips[k].dst) && decide (T.trips[k].dst ≤ T.places - 1))
      · have hb := hbad (by rw [h2, Bool.false_and, Bool.and_false])
        simp [hb]
        exact G
      simp
      refine fcall_fun (in_spec _ _ _ _) ?_
      rintro _ _ ⟨rfl, rfl⟩
      cases h3 : (decide (0 ≤ T.trips[k].start) && decide (T.trips[k].start ≤ 2000))
      · have hb := hbad (by rw [h3, Bool.false_and, Bool.and_false, Bool.and_false])
        simp [hb]
        exact G
      simp
      refine fcall_fun (in_spec _ _ _ _) ?_
      rintro _ _ ⟨rfl, rfl⟩
      cases h4 : (decide (1 ≤ T.trips[k].least) && decide (T.trips[k].least ≤ T.trips[k].most))
      · have hb := hbad (by rw [h4, Bool.false_and, Bool.and_false, Bool.and_false, Bool.and_false])
        simp [hb]
        exact G
      simp
      by_cases h5 : T.trips[k].most ≤ 600
      case neg =>
        have hb := hbad (by simp [h5])
        have h5' : 600 < T.trips[k].most := by omega
        simp [h5', hb]
        exact G
      have h5' : ¬ 600 < T.trips[k].most := by omega
      simp [h5']
      refine fcall_fun (in_spec _ _ _ _) ?_
      rintro _ _ ⟨rfl, rfl⟩
      cases h6 : (decide (0 ≤ T.trips[k].kind) && decide (T.trips[k].kind ≤ 2))
      · have hb := hbad (by rw [h6]; simp only [Bool.and_false])
        simp [h5', hb]
        exact G
      rw [h1, h2, h3, h4, h6, decide_eq_true h5] at hok2
      simp [h5', w5, add_in (x := k) (y := 1) (by omega) (by omega)]
      refine ⟨⟨G, by omega, by simp [nb, hk], w1, k + 1, by omega, by omega, ?_⟩, by omega⟩
      intro x hx
      rw [List.take_succ_eq_append_getElem hk2] at hx
      rcases List.mem_append.1 hx with hx | hx
      · exact hall x hx
      · simp at hx; subst hx; rw [← hok2]; rfl
    · have hk2 : T.trips.take k = T.trips := List.take_of_length_le (by simp at hc2; omega)
      rw [hk2] at hall
      have hz : checkT T = 0 := checkT_zero.2 ⟨by omega, hok, by simpa using hall⟩
      simp [hz, g]

/-- The statements' word for it. -/
theorem faultOf_spec {e s : Value} {T : Tab} {H : Heap} (h : TabAt H e s T) : AFun Try.prog 21 [tabV T e s] H (fun v H' => v = .int .i64 (checkT T) ∧ Ge H H') := by
  refine AFun.mk ok21 hm (Nat.le_of_ble_eq_true rfl) ?_
  simp [a21, r21]
  refine fcall_fun (fault_spec (h.ge (by simp))) ?_
  rintro _ B ⟨rfl, g⟩
  simp
  exact Ge.trans (by simp) g

end Go.Proofs.Ytohohnpjilinmaa

/-
  The code of functions of the package, as the calculus has it.
-/
namespace Go.Proofs.Ytohohnpjilinmaa
open Go Go.Ab

/-- (layover/run.service).leftOut -/
noncomputable def c67x0 : Code := (rfN Try.f67.body 0).1
noncomputable def c67y0 : Code := (rfN Try.f67.body 0).2
noncomputable def a67x0 : ACode :=
  (.region [⟨(some 7), (.mov (.t 25)), none⟩])
theorem ok67x0 : ccode Try.prog 38 (cdraw Try.prog 38) c67x0 = some a67x0 := by kernel_rfl
def a67y0 : ACode :=
  (.block 3
   (.seq
    (.draw 4 [⟨⟨(some 26), (.ld true 8 (.t 5)), none⟩, 0, false, []⟩, ⟨⟨(some 27), (.mov (.t 7)), none⟩, 1, false, []⟩, ⟨⟨(some 28), (.call (.c (.func (.func 82) #[] #[])) [(.t 27)]), none⟩, 2, true, [0]⟩, ⟨⟨(some 29), (.call (.c (.func (.func 85) #[] #[])) [(.t 26), (.t 28)]), none⟩, 3, true, []⟩])
    (.cond (.t 29)
     (.seq
      (.region [⟨(some 30), (.mov (.t 7)), none⟩, ⟨(some 31), (.call (.c (.func (.func 86) #[] #[])) [(.t 30)]), none⟩, ⟨none, (.st 1 (.t 4) (.t 31)), none⟩])
      .ret)
     .skip)))
theorem ok67y0 : ccode Try.prog 38 (cdraw Try.prog 38) c67y0 = some a67y0 := by kernel_rfl
noncomputable def a67 : ACode :=
  (.seq
   (.region [⟨(some 2), (.box (.t 0)), none⟩, ⟨(some 4), (.new [(.slice none 0 0)]), none⟩])
   (.seq
    (.region [⟨(some 8), (.ld true 6 (.t 2)), none⟩, ⟨(some 9), (.mov (.t 1)), none⟩, ⟨(some 10), .mkm, none⟩, ⟨(some 11), (.bld [(.int .i64 0), (.int .i64 0), (.slice none 0 0), (.slice none 0 0), .nilFunc, (.slice none 0 0), (.slice none 0 0), (.map none)] [(0, 6, (.t 8)), (6, 1, (.t 9)), (7, 1, (.t 10))]), none⟩, ⟨(some 5), (.new [(.int .i64 0), (.int .i64 0), (.slice none 0 0), (.slice none 0 0), .nilFunc, (.slice none 0 0), (.slice none 0 0), (.map none)]), none⟩, ⟨none, (.st 8 (.t 5) (.t 11)), none⟩])
    (.seq
     (.seq
      (.region [⟨(some 12), (.fa 0 (.t 2)), none⟩, ⟨(some 13), (.fa 3 (.t 12)), none⟩, ⟨(some 14), (.ld false 1 (.t 13)), none⟩, ⟨(some 15), (.len (.t 14)), none⟩, ⟨(some 16), (.mov (.c (.int .i64 0))), none⟩])
      (.block 0
       (.loop
        (.seq
         (.region [⟨(some 17), (.bin .lss (.t 16) (.t 15)), none⟩])
         (.seq
          (.cond (.t 17)
           .skip
           (.exit 0))
          (.seq
           (.block 1
            (.seq
             (.region [⟨(some 18), (.mov (.t 16)), none⟩, ⟨(some 6), (.mov (.t 18)), none⟩])
             (.seq
              (.region [⟨(some 19), (.fa 0 (.t 2)), none⟩, ⟨(some 20), (.fa 3 (.t 19)), none⟩, ⟨(some 21), (.ld false 1 (.t 20)), none⟩, ⟨(some 22), (.len (.t 21)), none⟩, ⟨(some 23), (.mov (.t 6)), none⟩, ⟨(some 24), (.call (.c (.func (.func 84) #[] #[])) [(.t 22), (.t 23)]), none⟩])
              (.block 2
               (.rangeF (.t 24) #[25] c67x0 c67y0)))))
           (.region [⟨(some 32), (.bin .add (.t 16) (.c (.int .i64 1))), none⟩, ⟨(some 16), (.mov (.t 32)), none⟩])))))))
     (.seq
      (.region [⟨(some 33), (.fa 0 (.t 2)), none⟩, ⟨(some 34), (.fa 3 (.t 33)), none⟩, ⟨(some 35), (.ld false 1 (.t 34)), none⟩, ⟨(some 36), (.len (.t 35)), none⟩, ⟨(some 37), (.call (.c (.func (.func 87) #[] #[])) [(.t 36)]), none⟩, ⟨none, (.st 1 (.t 4) (.t 37)), none⟩])
      .ret))))
def r67 : List AOp := [(.ld false 1 (.t 4))]
theorem ok67 : FnOk Try.prog 67 Try.f67.ntmps a67 r67 := ⟨Try.f67, Try.func67, by kernel_rfl, by kernel_rfl, by kernel_rfl, fun asv w => by simp⟩

/-- layover/run.listsOf -/
def a84 : ACode :=
  (.seq
   (.region [⟨(some 2), (.box (.t 0)), none⟩, ⟨(some 3), (.box (.t 1)), none⟩, ⟨(some 4), (.mov (.c .nilFunc)), none⟩])
   (.seq
    (.region [⟨(some 5), (.fn (.func 91) [] [(.t 3), (.t 2)]), none⟩, ⟨(some 4), (.mov (.t 5)), none⟩])
    .ret))
def r84 : List AOp := [(.mov (.t 4))]
theorem ok84 : FnOk Try.prog 84 Try.f84.ntmps a84 r84 := ⟨Try.f84, Try.func84, by kernel_rfl, by kernel_rfl, by kernel_rfl, fun asv w => by simp⟩

/-- layover/run.listsOf$1 -/
def a91 : ACode :=
  (.seq
   (.region [⟨(some 3), (.box (.t 0)), none⟩])
   (.seq
    (.region [⟨(some 6), (.ld false 1 (.t 1)), none⟩, ⟨(some 7), (.mks 1 8 [(.int .i64 0)] (.t 6) (.t 6)), none⟩, ⟨(some 4), (.new [(.slice none 0 0)]), none⟩, ⟨none, (.st 1 (.t 4) (.t 7)), none⟩])
    (.seq
     (.region [⟨(some 5), (.new [.nilFunc]), none⟩])
     (.seq
      (.region [⟨(some 8), (.fn (.func 92) [] [(.t 1), (.t 3), (.t 4), (.t 2), (.t 5)]), none⟩, ⟨none, (.st 1 (.t 5) (.t 8)), none⟩])
      (.region [⟨(some 9), (.ld false 1 (.t 5)), none⟩, ⟨(some 10), (.call (.t 9) [(.c (.int .i64 0)), (.c (.int .i64 0))]), none⟩])))))
def r91 : List AOp := []
theorem ok91 : FnOk Try.prog 91 Try.f91.ntmps a91 r91 := ⟨Try.f91, Try.func91, by kernel_rfl, by kernel_rfl, by kernel_rfl, fun asv w => by simp⟩

/-- layover/run.listsOf$1$1 -/
def a92 : ACode :=
  (.seq
   (.region [⟨(some 9), (.mov (.c (.bool false))), none⟩])
   (.seq
    (.seq
     (.region [⟨(some 11), (.mov (.t 0)), none⟩, ⟨(some 12), (.ld false 1 (.t 2)), none⟩, ⟨(some 13), (.bin .eql (.t 11) (.t 12)), none⟩])
     (.cond (.t 13)
      (.seq
       (.region [⟨(some 14), (.ld false 1 (.t 3)), none⟩, ⟨(some 15), (.ld false 1 (.t 4)), none⟩, ⟨(some 16), (.call (.t 14) [(.t 15)]), none⟩, ⟨(some 9), (.mov (.t 16)), none⟩])
       .ret)
      .skip))
    (.seq
     (.seq
      (.region [⟨(some 17), (.mov (.t 1)), none⟩, ⟨(some 10), (.mov (.t 17)), none⟩])
      (.block 0
       (.loop
        (.seq
         (.seq
          (.region [⟨(some 18), (.mov (.t 10)), none⟩, ⟨(some 19), (.ld false 1 (.t 5)), none⟩, ⟨(some 20), (.bin .lss (.t 18) (.t 19)), none⟩])
          (.cond (.t 20)
           .skip
           (.exit 0)))
         (.seq
          (.block 1
           (.seq
            (.region [⟨(some 23), (.ld false 1 (.t 4)), none⟩, ⟨(some 24), (.mov (.t 0)), none⟩, ⟨(some 25), (.mov (.t 10)), none⟩, ⟨(some 26), (.isl 1 (.t 23) (.t 24)), none⟩, ⟨none, (.st 1 (.t 26) (.t 25)), none⟩])
            (.seq
             (.region [⟨(some 27), (.ld false 1 (.t 6)), none⟩, ⟨(some 28), (.mov (.t 0)), none⟩, ⟨(some 29), (.bin .add (.t 28) (.c (.int .i64 1))), none⟩, ⟨(some 30), (.mov (.t 10)), none⟩, ⟨(some 31), (.bin .add (.t 30) (.c (.int .i64 1))), none⟩, ⟨(some 32), (.call (.t 27) [(.t 29), (.t 31)]), none⟩, ⟨(some 33), (.not (.t 32)), none⟩])
             (.cond (.t 33)
              (.seq
               (.region [⟨(some 9), (.mov (.c (.bool false))), none⟩])
               .ret)
              .skip))))
          (.region [⟨(some 21), (.mov (.t 10)), none⟩, ⟨(some 22), (.bin .add (.t 21) (.c (.int .i64 1))), none⟩, ⟨(some 10), (.mov (.t 22)), none⟩]))))))
     (.seq
      (.region [⟨(some 9), (.mov (.c (.bool true))), none⟩])
      .ret))))
def r92 : List AOp := [(.mov (.t 9))]
theorem ok92 : FnOk Try.prog 92 Try.f92.ntmps a92 r92 := ⟨Try.f92, Try.func92, by kernel_rfl, by kernel_rfl, by kernel_rfl, fun asv w => by simp⟩

/-- layover/run.choose -/
def a82 : ACode :=
  (.seq
   (.region [⟨(some 2), (.new [(.bool false), (.bool false), (.bool false), (.bool false), (.bool false), (.bool false), (.bool false), (.bool false), (.bool false), (.bool false), (.bool false), (.bool false)]), none⟩])
   (.seq
    (.region [⟨(some 3), (.new [(.bool false), (.bool false), (.bool false), (.bool false), (.bool false), (.bool false), (.bool false), (.bool false), (.bool false), (.bool false), (.bool false), (.bool false)]), none⟩])
    (.seq
     (.seq
      (.region [⟨(some 6), (.mov (.t 0)), none⟩, ⟨(some 7), (.len (.t 6)), none⟩, ⟨(some 8), (.mov (.c (.int .i64 0))), none⟩])
      (.block 0
       (.loop
        (.seq
         (.region [⟨(some 9), (.bin .lss (.t 8) (.t 7)), none⟩])
         (.seq
          (.cond (.t 9)
           .skip
           (.exit 0))
          (.seq
           (.block 1
            (.seq
             (.region [⟨(some 10), (.isl 1 (.t 6) (.t 8)), none⟩, ⟨(some 11), (.ld false 1 (.t 10)), none⟩, ⟨(some 5), (.mov (.t 11)), none⟩])
             (.region [⟨(some 12), (.mov (.t 5)), none⟩, ⟨(some 13), (.iar 12 1 (.t 3) (.t 12)), none⟩, ⟨none, (.st 1 (.t 13) (.c (.bool true))), none⟩])))
           (.region [⟨(some 14), (.bin .add (.t 8) (.c (.int .i64 1))), none⟩, ⟨(some 8), (.mov (.t 14)), none⟩])))))))
     (.seq
      (.region [⟨(some 15), (.ld true 12 (.t 3)), none⟩, ⟨none, (.st 12 (.t 2) (.t 15)), none⟩])
      .ret))))
def r82 : List AOp := [(.ld true 12 (.t 2))]
theorem ok82 : FnOk Try.prog 82 Try.f82.ntmps a82 r82 := ⟨Try.f82, Try.func82, by kernel_rfl, by kernel_rfl, by kernel_rfl, fun asv w => by simp⟩

/-- (layover/run.shortage).isEnoughWithout -/
def a85 : ACode :=
  (.seq
   (.region [⟨(some 2), (.box (.t 0)), none⟩, ⟨(some 3), (.box (.t 1)), none⟩, ⟨(some 4), (.mov (.c (.bool false))), none⟩])
   (.seq
    (.seq
     (.region [⟨(some 10), (.fa 6 (.t 2)), none⟩, ⟨(some 11), (.ld false 1 (.t 10)), none⟩, ⟨(some 12), (.len (.t 11)), none⟩, ⟨(some 13), (.mov (.c (.int .i64 0))), none⟩])
     (.block 0
      (.loop
       (.seq
        (.region [⟨(some 14), (.bin .lss (.t 13) (.t 12)), none⟩])
        (.seq
         (.cond (.t 14)
          .skip
          (.exit 0))
         (.seq
          (.block 1
           (.seq
            (.region [⟨(some 15), (.mov (.t 13)), none⟩, ⟨(some 16), (.isl 1 (.t 11) (.t 13)), none⟩, ⟨(some 17), (.ld false 1 (.t 16)), none⟩, ⟨(some 5), (.mov (.t 15)), none⟩, ⟨(some 6), (.mov (.t 17)), none⟩])
            (.seq
             (.region [⟨(some 7), (.new [(.bool false), (.bool false), (.bool false), (.bool false), (.bool false), (.bool false), (.bool false), (.bool false), (.bool false), (.bool false), (.bool false), (.bool false)]), none⟩])
             (.seq
              (.seq
               (.region [⟨(some 18), (.fa 0 (.t 2)), none⟩, ⟨(some 19), (.fa 0 (.t 18)), none⟩, ⟨(some 20), (.fa 3 (.t 19)), none⟩, ⟨(some 21), (.ld false 1 (.t 20)), none⟩, ⟨(some 22), (.len (.t 21)), none⟩, ⟨(some 23), (.mov (.c (.int .i64 0))), none⟩])
               (.block 2
                (.loop
                 (.seq
                  (.region [⟨(some 24), (.bin .lss (.t 23) (.t 22)), none⟩])
                  (.seq
                   (.cond (.t 24)
                    .skip
                    (.exit 2))
                   (.seq
                    (.block 3
                     (.seq
                      (.region [⟨(some 25), (.mov (.t 23)), none⟩, ⟨(some 26), (.isl 6 (.t 21) (.t 23)), none⟩, ⟨(some 27), (.ld true 6 (.t 26)), none⟩, ⟨(some 9), (.new [(.int .i64 0), (.int .i64 0), (.int .i64 0), (.int .i64 0), (.int .i64 0), (.int .i64 0)]), none⟩, ⟨(some 8), (.mov (.t 25)), none⟩, ⟨none, (.st 6 (.t 9) (.t 27)), none⟩])
                      (.region [⟨(some 28), (.mov (.t 8)), none⟩, ⟨(some 29), (.fa 5 (.t 9)), none⟩, ⟨(some 30), (.ld false 1 (.t 29)), none⟩, ⟨(some 31), (.mov (.t 5)), none⟩, ⟨(some 32), (.bin .eql (.t 30) (.t 31)), none⟩, ⟨(some 33), (.mov (.t 32)), none⟩, ⟨(some 34), (.mov (.t 8)), (some (33, true))⟩, ⟨(some 35), (.iar 12 1 (.t 3) (.t 34)), (some (33, true))⟩, ⟨(some 36), (.ld false 1 (.t 35)), (some (33, true))⟩, ⟨(some 37), (.not (.t 36)), (some (33, true))⟩, ⟨(some 38), (.pick (.t 33) (.t 37) (.c (.bool false))), none⟩, ⟨(some 39), (.iar 12 1 (.t 7) (.t 28)), none⟩, ⟨none, (.st 1 (.t 39) (.t 38)), none⟩])))
                    (.region [⟨(some 40), (.bin .add (.t 23) (.c (.int .i64 1))), none⟩, ⟨(some 23), (.mov (.t 40)), none⟩])))))))
              (.seq
               (.region [⟨(some 41), (.ld true 8 (.t 2)), none⟩, ⟨(some 42), (.ld true 12 (.t 7)), none⟩, ⟨(some 43), (.call (.c (.func (.func 93) #[] #[])) [(.t 41), (.t 42)]), none⟩, ⟨(some 44), (.mov (.t 6)), none⟩, ⟨(some 45), (.bin .gtr (.t 43) (.t 44)), none⟩])
               (.cond (.t 45)
                (.seq
                 (.region [⟨(some 4), (.mov (.c (.bool false))), none⟩])
                 .ret)
                .skip))))))
          (.region [⟨(some 46), (.bin .add (.t 13) (.c (.int .i64 1))), none⟩, ⟨(some 13), (.mov (.t 46)), none⟩])))))))
    (.seq
     (.region [⟨(some 4), (.mov (.c (.bool true))), none⟩])
     .ret)))
def r85 : List AOp := [(.mov (.t 4))]
theorem ok85 : FnOk Try.prog 85 Try.f85.ntmps a85 r85 := ⟨Try.f85, Try.func85, by kernel_rfl, by kernel_rfl, by kernel_rfl, fun asv w => by simp⟩

/-- slices.Clone[[]int,int] -/
def a86 : ACode :=
  (.seq
   (.region [⟨(some 2), (.mov (.c (.slice none 0 0))), none⟩])
   (.seq
    (.seq
     (.region [⟨(some 3), (.mov (.t 0)), none⟩, ⟨(some 4), (.isn false (.t 3)), none⟩])
     (.cond (.t 4)
      (.seq
       (.region [⟨(some 2), (.mov (.c (.slice none 0 0))), none⟩])
       .ret)
      .skip))
    (.seq
     (.region [⟨(some 5), (.bsl 0 [] []), none⟩, ⟨(some 6), (.mov (.t 0)), none⟩, ⟨(some 7), (.app 1 8 (.t 5) (.t 6)), none⟩, ⟨(some 2), (.mov (.t 7)), none⟩])
     .ret)))
def r86 : List AOp := [(.mov (.t 2))]
theorem ok86 : FnOk Try.prog 86 Try.f86.ntmps a86 r86 := ⟨Try.f86, Try.func86, by kernel_rfl, by kernel_rfl, by kernel_rfl, fun asv w => by simp⟩

/-- layover/run.allNumbers -/
def a87 : ACode :=
  (.seq
   (.region [⟨(some 2), (.mov (.c (.slice none 0 0))), none⟩])
   (.seq
    (.region [⟨(some 5), (.mov (.t 0)), none⟩, ⟨(some 6), (.mks 1 8 [(.int .i64 0)] (.t 5) (.t 5)), none⟩, ⟨(some 3), (.mov (.t 6)), none⟩])
    (.seq
     (.seq
      (.region [⟨(some 7), (.mov (.t 0)), none⟩, ⟨(some 8), (.mov (.c (.int .i64 0))), none⟩])
      (.block 0
       (.loop
        (.seq
         (.region [⟨(some 9), (.bin .lss (.t 8) (.t 7)), none⟩])
         (.seq
          (.cond (.t 9)
           .skip
           (.exit 0))
          (.seq
           (.block 1
            (.seq
             (.region [⟨(some 10), (.mov (.t 8)), none⟩, ⟨(some 4), (.mov (.t 10)), none⟩])
             (.region [⟨(some 11), (.mov (.t 3)), none⟩, ⟨(some 12), (.mov (.t 4)), none⟩, ⟨(some 13), (.mov (.t 4)), none⟩, ⟨(some 14), (.isl 1 (.t 11) (.t 12)), none⟩, ⟨none, (.st 1 (.t 14) (.t 13)), none⟩])))
           (.region [⟨(some 15), (.bin .add (.t 8) (.c (.int .i64 1))), none⟩, ⟨(some 8), (.mov (.t 15)), none⟩])))))))
     (.seq
      (.region [⟨(some 16), (.mov (.t 3)), none⟩, ⟨(some 2), (.mov (.t 16)), none⟩])
      .ret))))
def r87 : List AOp := [(.mov (.t 2))]
theorem ok87 : FnOk Try.prog 87 Try.f87.ntmps a87 r87 := ⟨Try.f87, Try.func87, by kernel_rfl, by kernel_rfl, by kernel_rfl, fun asv w => by simp⟩

/-- (layover/run.shortage).fewest -/
def a93 : ACode :=
  (.seq
   (.region [⟨(some 2), (.box (.t 0)), none⟩, ⟨(some 3), (.box (.t 1)), none⟩, ⟨(some 4), (.mov (.c (.int .i64 0))), none⟩])
   (.seq
    (.seq
     (.region [⟨(some 12), (.fa 7 (.t 2)), none⟩, ⟨(some 13), (.ld false 1 (.t 12)), none⟩, ⟨(some 14), (.ld true 12 (.t 3)), none⟩, ⟨(some 15), (.lkp 93 (.int .i64 0) (.t 13) (.t 14)), none⟩, ⟨(some 11), (.mov (.t 15)), none⟩, ⟨(some 16), (.ext (.t 11) 0), none⟩, ⟨(some 17), (.ext (.t 11) 1), none⟩, ⟨(some 5), (.mov (.t 16)), none⟩, ⟨(some 6), (.mov (.t 17)), none⟩])
     (.seq
      (.region [⟨(some 18), (.mov (.t 6)), none⟩])
      (.cond (.t 18)
       (.seq
        (.region [⟨(some 19), (.mov (.t 5)), none⟩, ⟨(some 4), (.mov (.t 19)), none⟩])
        .ret)
       .skip)))
    (.seq
     (.region [⟨(some 7), (.mov (.c (.int .i64 0))), none⟩])
     (.seq
      (.region [⟨(some 20), (.fa 0 (.t 2)), none⟩, ⟨(some 21), (.ld true 6 (.t 20)), none⟩, ⟨(some 22), (.ld true 12 (.t 3)), none⟩, ⟨(some 23), (.call (.c (.func (.func 54) #[] #[])) [(.t 21), (.t 22)]), none⟩, ⟨(some 8), (.new [(.int .i64 0), (.int .i64 0), (.int .i64 0), (.int .i64 0), (.int .i64 0), (.int .i64 0), (.int .i64 0), (.int .i64 0), (.int .i64 0), (.int .i64 0), (.int .i64 0), (.int .i64 0)]), none⟩, ⟨none, (.st 12 (.t 8) (.t 23)), none⟩])
      (.seq
       (.seq
        (.region [⟨(some 24), (.ld true 12 (.t 3)), none⟩, ⟨(some 25), (.mov (.c (.int .i64 0))), none⟩])
        (.block 0
         (.loop
          (.seq
           (.region [⟨(some 26), (.bin .lss (.t 25) (.c (.int .i64 12))), none⟩])
           (.seq
            (.cond (.t 26)
             .skip
             (.exit 0))
            (.seq
             (.block 1
              (.seq
               (.region [⟨(some 27), (.mov (.t 25)), none⟩, ⟨(some 28), (.idx false 12 1 (.t 24) (.t 25)), none⟩, ⟨(some 9), (.mov (.t 27)), none⟩, ⟨(some 10), (.mov (.t 28)), none⟩])
               (.seq
                (.region [⟨(some 29), (.mov (.t 10)), none⟩, ⟨(some 30), (.mov (.t 29)), none⟩, ⟨(some 31), (.mov (.t 9)), (some (30, true))⟩, ⟨(some 32), (.iar 12 1 (.t 8) (.t 31)), (some (30, true))⟩, ⟨(some 33), (.ld false 1 (.t 32)), (some (30, true))⟩, ⟨(some 34), (.bin .eql (.t 33) (.c (.int .i64 (-1)))), (some (30, true))⟩, ⟨(some 35), (.pick (.t 30) (.t 34) (.c (.bool false))), none⟩])
                (.cond (.t 35)
                 (.region [⟨(some 36), (.mov (.t 7)), none⟩, ⟨(some 37), (.bin .add (.t 36) (.c (.int .i64 1))), none⟩, ⟨(some 7), (.mov (.t 37)), none⟩])
                 .skip))))
             (.region [⟨(some 38), (.bin .add (.t 25) (.c (.int .i64 1))), none⟩, ⟨(some 25), (.mov (.t 38)), none⟩])))))))
       (.seq
        (.region [⟨(some 39), (.fa 7 (.t 2)), none⟩, ⟨(some 40), (.ld false 1 (.t 39)), none⟩, ⟨(some 41), (.ld true 12 (.t 3)), none⟩, ⟨(some 42), (.mov (.t 7)), none⟩, ⟨none, (.mup 93 (.t 40) (.t 41) (.t 42)), none⟩])
        (.seq
         (.region [⟨(some 43), (.mov (.t 7)), none⟩, ⟨(some 4), (.mov (.t 43)), none⟩])
         .ret)))))))
def r93 : List AOp := [(.mov (.t 4))]
theorem ok93 : FnOk Try.prog 93 Try.f93.ntmps a93 r93 := ⟨Try.f93, Try.func93, by kernel_rfl, by kernel_rfl, by kernel_rfl, fun asv w => by simp⟩

/-- layover/run.Lacks -/
def a39 : ACode :=
  (.seq
   (.region [⟨(some 2), (.box (.t 0)), none⟩, ⟨(some 4), (.mov (.c (.slice none 0 0))), none⟩, ⟨(some 5), (.mov (.c (.int .i64 0))), none⟩])
   (.seq
    (.seq
     (.region [⟨(some 7), (.ld true 4 (.t 2)), none⟩, ⟨(some 8), (.call (.c (.func (.func 18) #[] #[])) [(.t 7)]), none⟩, ⟨(some 6), (.mov (.t 8)), none⟩])
     (.seq
      (.region [⟨(some 9), (.mov (.t 6)), none⟩, ⟨(some 10), (.bin .neq (.t 9) (.c (.int .i64 0))), none⟩])
      (.cond (.t 10)
       (.seq
        (.region [⟨(some 11), (.mov (.t 6)), none⟩, ⟨(some 4), (.mov (.c (.slice none 0 0))), none⟩, ⟨(some 5), (.mov (.t 11)), none⟩])
        .ret)
       .skip)))
    (.seq
     (.seq
      (.region [⟨(some 12), (.mov (.t 1)), none⟩, ⟨(some 13), (.len (.t 12)), none⟩, ⟨(some 14), (.bin .neq (.t 13) (.c (.int .i64 3))), none⟩, ⟨(some 15), (.mov (.t 14)), none⟩, ⟨(some 16), (.mov (.t 1)), (some (15, false))⟩, ⟨(some 17), (.call (.c (.func (.func 65) #[] #[])) [(.t 16), (.c (.func (.func 66) #[] #[]))]), (some (15, false))⟩, ⟨(some 18), (.not (.t 17)), (some (15, false))⟩, ⟨(some 19), (.pick (.t 15) (.c (.bool true)) (.t 18)), none⟩])
      (.cond (.t 19)
       (.seq
        (.region [⟨(some 4), (.mov (.c (.slice none 0 0))), none⟩, ⟨(some 5), (.mov (.c (.int .i64 2))), none⟩])
        .ret)
       .skip))
     (.seq
      (.region [⟨(some 20), (.ld true 4 (.t 2)), none⟩, ⟨(some 21), (.call (.c (.func (.func 51) #[] #[])) [(.t 20)]), none⟩, ⟨(some 22), (.mov (.t 1)), none⟩, ⟨(some 23), (.call (.c (.func (.func 67) #[] #[])) [(.t 21), (.t 22)]), none⟩, ⟨(some 4), (.mov (.t 23)), none⟩, ⟨(some 5), (.mov (.c (.int .i64 0))), none⟩])
      .ret))))
def r39 : List AOp := [(.mov (.t 4)), (.mov (.t 5))]
theorem ok39 : FnOk Try.prog 39 Try.f39.ntmps a39 r39 := ⟨Try.f39, Try.func39, by kernel_rfl, by kernel_rfl, by kernel_rfl, fun asv w => by simp⟩

/-- layover/layoverlaw01.awake -/
def a17 : ACode :=
  (.seq
   (.region [⟨(some 0), (.mov (.c (.bool false))), none⟩])
   (.seq
    (.region [⟨(some 8), (.call (.c (.func (.func 42) #[] #[])) []), none⟩, ⟨(some 9), (.call (.c (.func (.func 20) #[] #[])) [(.t 8)]), none⟩, ⟨(some 7), (.mov (.t 9)), none⟩, ⟨(some 10), (.ext (.t 7) 0), none⟩, ⟨(some 11), (.ext (.t 7) 1), none⟩, ⟨(some 1), (.mov (.t 10)), none⟩, ⟨(some 2), (.mov (.t 11)), none⟩])
    (.seq
     (.region [⟨(some 13), (.call (.c (.func (.func 42) #[] #[])) []), none⟩, ⟨(some 14), (.call (.c (.func (.func 26) #[] #[])) [(.t 13)]), none⟩, ⟨(some 12), (.mov (.t 14)), none⟩, ⟨(some 15), (.ext (.t 12) 0), none⟩, ⟨(some 16), (.ext (.t 12) 1), none⟩, ⟨(some 3), (.mov (.t 15)), none⟩, ⟨(some 4), (.mov (.t 16)), none⟩])
     (.seq
      (.region [⟨(some 18), (.call (.c (.func (.func 42) #[] #[])) []), none⟩, ⟨(some 19), (.bsl 3 [(.int .i64 0), (.int .i64 0), (.int .i64 0)] [(0, 1, (.c (.int .i64 1))), (1, 1, (.c (.int .i64 0))), (2, 1, (.c (.int .i64 0)))]), none⟩, ⟨(some 20), (.call (.c (.func (.func 39) #[] #[])) [(.t 18), (.t 19)]), none⟩, ⟨(some 17), (.mov (.t 20)), none⟩, ⟨(some 21), (.ext (.t 17) 0), none⟩, ⟨(some 22), (.ext (.t 17) 1), none⟩, ⟨(some 5), (.mov (.t 21)), none⟩, ⟨(some 6), (.mov (.t 22)), none⟩])
      (.seq
       (.draw 62 [⟨⟨(some 23), (.mov (.t 2)), none⟩, 0, false, []⟩, ⟨⟨(some 24), (.bin .eql (.t 23) (.c (.int .i64 0))), none⟩, 1, false, []⟩, ⟨⟨(some 25), (.mov (.t 24)), none⟩, 2, false, []⟩, ⟨⟨(some 26), (.mov (.t 1)), (some (25, true))⟩, 3, false, []⟩, ⟨⟨(some 27), (.len (.t 26)), (some (25, true))⟩, 4, false, []⟩, ⟨⟨(some 28), (.bin .eql (.t 27) (.c (.int .i64 5))), (some (25, true))⟩, 5, false, []⟩, ⟨⟨(some 29), (.pick (.t 25) (.t 28) (.c (.bool false))), none⟩, 6, false, []⟩, ⟨⟨(some 30), (.mov (.t 29)), none⟩, 7, false, []⟩, ⟨⟨(some 31), (.mov (.t 1)), (some (30, true))⟩, 8, false, []⟩, ⟨⟨(some 32), (.isl 1 (.t 31) (.c (.int .i64 0))), (some (30, true))⟩, 9, false, []⟩, ⟨⟨(some 33), (.ld false 1 (.t 32)), (some (30, true))⟩, 10, false, []⟩, ⟨⟨(some 34), (.bsl 2 [(.int .i64 0), (.int .i64 0)] [(0, 1, (.c (.int .i64 1))), (1, 1, (.c (.int .i64 3)))]), (some (30, true))⟩, 11, false, []⟩, ⟨⟨(some 35), (.call (.c (.func (.func 22) #[] #[])) [(.t 33), (.t 34)]), (some (30, true))⟩, 12, true, []⟩, ⟨⟨(some 36), (.pick (.t 30) (.t 35) (.c (.bool false))), none⟩, 13, false, []⟩, ⟨⟨(some 37), (.mov (.t 36)), none⟩, 14, false, []⟩, ⟨⟨(some 38), (.mov (.t 1)), (some (37, true))⟩, 15, false, []⟩, ⟨⟨(some 39), (.isl 1 (.t 38) (.c (.int .i64 1))), (some (37, true))⟩, 16, false, []⟩, ⟨⟨(some 40), (.ld false 1 (.t 39)), (some (37, true))⟩, 17, false, []⟩, ⟨⟨(some 41), (.bsl 1 [(.int .i64 0)] [(0, 1, (.c (.int .i64 3)))]), (some (37, true))⟩, 18, false, []⟩, ⟨⟨(some 42), (.call (.c (.func (.func 22) #[] #[])) [(.t 40), (.t 41)]), (some (37, true))⟩, 19, true, []⟩, ⟨⟨(some 43), (.pick (.t 37) (.t 42) (.c (.bool false))), none⟩, 20, false, []⟩, ⟨⟨(some 44), (.mov (.t 43)), none⟩, 21, false, []⟩, ⟨⟨(some 45), (.mov (.t 1)), (some (44, true))⟩, 22, false, []⟩, ⟨⟨(some 46), (.isl 1 (.t 45) (.c (.int .i64 2))), (some (44, true))⟩, 23, false, []⟩, ⟨⟨(some 47), (.ld false 1 (.t 46)), (some (44, true))⟩, 24, false, []⟩, ⟨⟨(some 48), (.len (.t 47)), (some (44, true))⟩, 25, false, []⟩, ⟨⟨(some 49), (.mov (.t 1)), (some (44, true))⟩, 26, false, []⟩, ⟨⟨(some 50), (.isl 1 (.t 49) (.c (.int .i64 3))), (some (44, true))⟩, 27, false, []⟩, ⟨⟨(some 51), (.ld false 1 (.t 50)), (some (44, true))⟩, 28, false, []⟩, ⟨⟨(some 52), (.len (.t 51)), (some (44, true))⟩, 29, false, []⟩, ⟨⟨(some 53), (.bin .add (.t 48) (.t 52)), (some (44, true))⟩, 30, false, []⟩, ⟨⟨(some 54), (.mov (.t 1)), (some (44, true))⟩, 31, false, []⟩, ⟨⟨(some 55), (.isl 1 (.t 54) (.c (.int .i64 4))), (some (44, true))⟩, 32, false, []⟩, ⟨⟨(some 56), (.ld false 1 (.t 55)), (some (44, true))⟩, 33, false, []⟩, ⟨⟨(some 57), (.len (.t 56)), (some (44, true))⟩, 34, false, []⟩, ⟨⟨(some 58), (.bin .add (.t 53) (.t 57)), (some (44, true))⟩, 35, false, []⟩, ⟨⟨(some 59), (.bin .eql (.t 58) (.c (.int .i64 0))), (some (44, true))⟩, 36, false, []⟩, ⟨⟨(some 60), (.pick (.t 44) (.t 59) (.c (.bool false))), none⟩, 37, false, []⟩, ⟨⟨(some 61), (.mov (.t 60)), none⟩, 38, false, []⟩, ⟨⟨(some 62), (.mov (.t 4)), (some (61, true))⟩, 39, false, []⟩, ⟨⟨(some 63), (.bin .eql (.t 62) (.c (.int .i64 0))), (some (61, true))⟩, 40, false, []⟩, ⟨⟨(some 64), (.pick (.t 61) (.t 63) (.c (.bool false))), none⟩, 41, false, []⟩, ⟨⟨(some 65), (.mov (.t 64)), none⟩, 42, false, []⟩, ⟨⟨(some 66), (.mov (.t 3)), (some (65, true))⟩, 43, false, []⟩, ⟨⟨(some 67), (.len (.t 66)), (some (65, true))⟩, 44, false, []⟩, ⟨⟨(some 68), (.bin .eql (.t 67) (.c (.int .i64 3))), (some (65, true))⟩, 45, false, []⟩, ⟨⟨(some 69), (.pick (.t 65) (.t 68) (.c (.bool false))), none⟩, 46, false, []⟩, ⟨⟨(some 70), (.mov (.t 69)), none⟩, 47, false, []⟩, ⟨⟨(some 72), (.mov (.t 3)), (some (70, true))⟩, 49, false, []⟩, ⟨⟨(some 71), (.call (.c (.func (.func 42) #[] #[])) []), (some (70, true))⟩, 48, true, []⟩, ⟨⟨(some 73), (.call (.c (.func (.func 27) #[] #[])) [(.t 71), (.t 72)]), (some (70, true))⟩, 50, true, []⟩, ⟨⟨(some 74), (.pick (.t 70) (.t 73) (.c (.bool false))), none⟩, 51, false, []⟩, ⟨⟨(some 75), (.mov (.t 74)), none⟩, 52, false, []⟩, ⟨⟨(some 76), (.mov (.t 6)), (some (75, true))⟩, 53, false, []⟩, ⟨⟨(some 77), (.bin .eql (.t 76) (.c (.int .i64 0))), (some (75, true))⟩, 54, false, []⟩, ⟨⟨(some 78), (.pick (.t 75) (.t 77) (.c (.bool false))), none⟩, 55, false, []⟩, ⟨⟨(some 79), (.mov (.t 78)), none⟩, 56, false, []⟩, ⟨⟨(some 80), (.mov (.t 5)), (some (79, true))⟩, 57, false, []⟩, ⟨⟨(some 81), (.bsl 2 [(.int .i64 0), (.int .i64 0)] [(0, 1, (.c (.int .i64 2))), (1, 1, (.c (.int .i64 4)))]), (some (79, true))⟩, 58, false, []⟩, ⟨⟨(some 82), (.call (.c (.func (.func 22) #[] #[])) [(.t 80), (.t 81)]), (some (79, true))⟩, 59, true, []⟩, ⟨⟨(some 83), (.pick (.t 79) (.t 82) (.c (.bool false))), none⟩, 60, false, []⟩, ⟨⟨(some 0), (.mov (.t 83)), none⟩, 61, false, []⟩])
       .ret)))))
def r17 : List AOp := [(.mov (.t 0))]
theorem ok17 : FnOk Try.prog 17 Try.f17.ntmps a17 r17 := ⟨Try.f17, Try.func17, by kernel_rfl, by kernel_rfl, by kernel_rfl, fun asv w => by simp⟩

end Go.Proofs.Ytohohnpjilinmaa

/-
  Choices of trips as keys of a map.
-/
namespace Go.Proofs.Ytohohnpjilinmaa
open Go Go.Ab

theorem run_eqCh2 (x y : List Bool) (hx : x.length = 12) (hy : y.length = 12) (w : World) : (Op.equal 93 (chV x) (chV y)).run Try.prog w = .ok (decide (x = y)) w := run_eqCh x y hx hy w

theorem run_askCh (c : List Bool) (hc : c.length = 12) : ∀ (cs : List (List Bool)) (es : List MapEntry) (i : Nat) (w : World), es.map (·.key) = cs.map chV → (∀ d ∈ cs, d.length = 12) →
    (Instr.findAsking 93 (chV c) es i).run Try.prog w = .ok ((cs.findIdx? fun d => decide (c = d)).bind fun j => es[j]?.map fun e => (i + j, e.val)) w
  | [], es, i, w, h, _ => by
    have : es = [] := by simpa using h
    subst this; simp [Instr.findAsking]
  | d :: cs, [], i, w, h, _ => by simp at h
  | d :: cs, e :: es, i, w, h, hl => by
    simp only [List.map_cons, List.cons.injEq] at h
    have hd := hl d (List.mem_cons_self)
    simp only [Instr.findAsking, Sem.run_bind, h.1, run_eqCh2 c d hc hd, Result.andThen_ok]
    by_cases hcd : c = d
    · simp [hcd, List.findIdx?_cons]
    · have ih := run_askCh c hc cs es (i + 1) w h.2 (fun d' hd' => hl d' (List.mem_cons_of_mem _ hd'))
      simp only [hcd, decide_false, Bool.false_eq_true, if_false, List.findIdx?_cons]
      rw [ih]
      cases cs.findIdx? fun d => decide (c = d) with
      | none => rfl
      | some j => simp [Nat.add_assoc, Nat.add_comm 1 j]

theorem run_checkCh (c : List Bool) (hc : c.length = 12) (b : Bool) (w : World) : (Instr.checkKey b 10000 93 (chV c)).run Try.prog w = .ok () w := by
  have ha : ∀ w, (isAgg 4).run Try.prog w = .ok false w := fun w => run_isAgg Try.underlying4 w
  have hz0 : (Try.prog.info? 4).map (·.size) = some 1 := by kernel_rfl
  have hz : ∀ w, (sizeOf 4).run Try.prog w = .ok 1 w := fun w => by
    obtain ⟨j, h1, h2⟩ := Option.map_eq_some_iff.1 hz0
    rw [Go.Ab.run_sizeOf h1, h2]
  have hk : ∀ (x : Bool) w, (Instr.checkKey b 9999 4 (.bool x)).run Try.prog w = .ok () w := fun x w => by
    rw [show (9999 : Nat) = 9998 + 1 from rfl, Instr.checkKey]
    simp only [Sem.run_bind, run_underlying Try.underlying4, Result.andThen_ok]
    rfl
  rw [show (10000 : Nat) = 9999 + 1 from rfl, Instr.checkKey]
  simp only [Sem.run_bind, run_underlying Try.underlying93, Result.andThen_ok]
  simp only [Std.Legacy.Range.forIn_eq_forIn_range', Std.Legacy.Range.size, Nat.sub_zero, Nat.add_sub_cancel, Nat.div_one]
  have key : ∀ (l : List Nat), (∀ i ∈ l, i < 12) → ∀ w, Sem.run Try.prog (forIn l PUnit.unit fun i (_ : PUnit) => (do
            let n ← sizeOf 4
            let x ← part 4 (chA c) (i * n)
            Instr.checkKey b 9999 4 x
            pure (ForInStep.yield PUnit.unit) : Sem (ForInStep PUnit))) w = .ok PUnit.unit w := by
    intro l
    induction l with
    | nil => intro _ w; simp
    | cons i l ih =>
      intro hl w
      have hi := hl i (List.mem_cons_self)
      have hix : i < c.length := by omega
      have hp : ∀ w, (part 4 (chA c) (i * 1)).run Try.prog w = .ok (.bool c[i]) w := fun w => by simp [part, ha, chA_get hix]
      rw [List.forIn_cons]
      simp only [Sem.run_bind, hz, hp, hk, Result.andThen_ok, Sem.run_pure]
      exact ih (fun j hj => hl j (List.mem_cons_of_mem _ hj)) w
  rw [key _ (by simp)]
  rfl

theorem keyV_ch {c : List Bool} {cs : List (List Bool)} (hc : c.length = 12) (hl : ∀ d ∈ cs, d.length = 12) : keyV Try.prog 93 (chV c) (cs.map chV) = some (cs.findIdx? fun d => decide (c = d)) := by
  refine keyV_of (fun w es h => ⟨fun b => run_checkCh c hc b w, ?_⟩) (fun i hi => ?_)
  · have := run_askCh c hc cs es 0 w h hl
    simp only [Nat.zero_add] at this
    simp only [Instr.findKey, Sem.run_bind, run_underlying Try.underlying93, Result.andThen_ok]
    cases es with
    | nil =>
      have : cs = [] := by simpa using h
      subst this; simp [Instr.findNow]
    | cons e es =>
      cases cs with
      | nil => simp at h
      | cons d cs =>
        simp only [List.map_cons, List.cons.injEq] at h
        simp only [Instr.findNow, Instr.sameNow]
        exact this
  · obtain ⟨h1, _⟩ := List.findIdx?_eq_some_iff_getElem.1 hi
    simpa using h1

end Go.Proofs.Ytohohnpjilinmaa

/-
  The contract of the function that keeps how few buses a choice of trips needs.
-/
namespace Go.Proofs.Ytohohnpjilinmaa
open Go Go.Ab

/-- The first m of a choice that nobody leads. -/
def unled (looked : List Bool) (led : List Int) (m : Nat) : Nat := ((List.range m).filter fun k => looked[k]?.getD false && decide (led[k]?.getD 0 = -1)).length
def fewestL (T : Tab) (looked : List Bool) : Int := unled looked (joinL T.followers looked T.trips.length) 12

theorem unled_succ {looked : List Bool} {led : List Int} {m : Nat} : unled looked led (m + 1) = unled looked led m + (if looked[m]?.getD false && decide (led[m]?.getD 0 = -1) then 1 else 0) := by
  simp only [unled, List.range_succ, List.filter_append, List.length_append]
  congr 1
  by_cases h : (looked[m]?.getD false && decide (led[m]?.getD 0 = -1)) = true
  · rw [if_pos h]; simp only [List.filter_cons, h, if_true, List.filter_nil, List.length_singleton]
  · rw [if_neg h]
    rw [Bool.not_eq_true] at h
    simp only [List.filter_cons, h, List.filter_nil]
    rfl
theorem unled_le {looked : List Bool} {led : List Int} {m : Nat} : unled looked led m ≤ m := by
  unfold unled
  exact Nat.le_trans (List.length_filter_le _ _) (by simp)

/-- What the map has kept is so. -/
def Known (T : Tab) (H : Heap) (mp : Nat) : Prop :=
  ∃ (es : List (Value × Value × Nat)) (clock : Nat) (cs : List (List Bool)), H.get mp = .map es clock ∧ es.map (·.1) = cs.map chV ∧ (∀ d ∈ cs, d.length = 12) ∧ ∀ (j : Nat) (e : Value × Value × Nat) (d : List Bool), es[j]? = some e → cs[j]? = some d → e.2.1 = .int .i64 (fewestL T d)

theorem flat_ch (c : List Bool) : flat (chV c) = true := by simp [flat, chA, flat1]
theorem all_flat_ch (cs : List (List Bool)) : (cs.map chV).all flat = true := by simp [flat_ch]

/-- All but one name are as they were. -/
structure GeX (m : Nat) (A B : Heap) : Prop where
  next : A.next ≤ B.next
  get : ∀ n, n < A.next → n ≠ m → B.get n = A.get n

theorem GeX.of_ge {m : Nat} {A B : Heap} (h : Ge A B) : GeX m A B := ⟨h.next, fun n hn _ => h.get n hn⟩
theorem GeX.trans {m : Nat} {A B C : Heap} (h : GeX m A B) (k : GeX m B C) : GeX m A C := ⟨Nat.le_trans h.next k.next, fun n hn hm => (k.get n (Nat.lt_of_lt_of_le hn h.next) hm).trans (h.get n hn hm)⟩
theorem GeX.ge {m : Nat} {H A B : Heap} (g : Ge H A) (hm : H.next ≤ m) (h : GeX m A B) : Ge H B := ⟨Nat.le_trans g.next h.next, fun n hn => (h.get n (Nat.lt_of_lt_of_le hn g.next) (by omega)).trans (g.get n hn)⟩

abbrev shV (T : Tab) (e s f fl : Value) (mp : Nat) : Value := .agg #[.int .i64 T.places, .int .i64 T.layover, e, s, .func (.func 74) #[] #[], f, fl, .map (some mp)]

theorem fewest_spec {T : Tab} {H0 H : Heap} {e s f fl : Value} {mp : Nat} {looked : List Bool} (h : TabAt H0 e s T) (hT : Valid T) (hrows : RowsAt H0 f T.followers) (g : Ge H0 H) (_hmp : H0.next ≤ mp) (hmn : mp < H.next) (hk : Known T H mp) (hl : looked.length = 12) :
    AFun Try.prog 93 [shV T e s f fl mp, chV looked] H (fun v B => v = .int .i64 (fewestL T looked) ∧ Known T B mp ∧ GeX mp H B) := by
  refine AFun.mk ok93 hm (Nat.le_of_ble_eq_true rfl) ?_
  have hcl : (chA looked).toList = looked.map .bool := chA_toList looked
  have hcs : (chA looked).size = 12 := by rw [chA_size, hl]
  have hr := rdL_self (cs := looked.map Value.bool) (n := 12) (by simp [hl])
  have hra : (looked.map Value.bool).toArray = chA looked := rfl
  obtain ⟨es, clock, cs, hg, hkeys, hlen, hval⟩ := hk
  have hF := followers_ok hT.few
  have hmn0 : mp ≠ H.next := by omega
  have hmn1 : mp ≠ H.next + 1 := by omega
  have hlk : lkpV Try.prog 93 (.int .i64 0) (chV looked) es = match cs.findIdx? (fun d => decide (looked = d)) with
      | some i => es[i]?.map fun e => .tuple #[e.2.1, .bool true]
      | none => some (.tuple #[.int .i64 0, .bool false]) := by
    unfold lkpV
    rw [if_pos ⟨flat_ch _, by rw [hkeys]; exact all_flat_ch cs, rfl⟩, hkeys, keyV_ch hl hlen]
    cases cs.findIdx? fun d => decide (looked = d) <;> rfl
  have hlh : lkpH Try.prog 93 (.int .i64 0) ((H.new (.cells true [.int .i64 T.places, .int .i64 T.layover, e, s, .func (.func 74) #[] #[], f, fl, .map (some mp)] 8)).new (.cells true (looked.map .bool) 12)) (chV looked) (.map (some mp)) = lkpV Try.prog 93 (.int .i64 0) (chV looked) es := lkpH_at (c := clock) (by simp [hmn0, hmn1, hg])
  simp [a93, r93, hcl, hcs, hr]
  have hlh' : lkpH Try.prog 93 (.int .i64 0) ((H.new (.cells true [.int .i64 T.places, .int .i64 T.layover, e, s, .func (.func 74) #[] #[], f, fl, .map (some mp)] 8)).new (.cells true (looked.map .bool) 12)) (.agg (looked.map Value.bool).toArray) (.map (some mp)) = lkpV Try.prog 93 (.int .i64 0) (chV looked) es := hlh
  rw [hlh', hlk]
  have g2 : Ge H ((H.new (.cells true [.int .i64 T.places, .int .i64 T.layover, e, s, .func (.func 74) #[] #[], f, fl, .map (some mp)] 8)).new (.cells true (looked.map .bool) 12)) := (Ge.new _ _).newOf _
  cases hfi : cs.findIdx? fun d => decide (looked = d) with
  | some i =>
    obtain ⟨hi1, hi2, _⟩ := List.findIdx?_eq_some_iff_getElem.1 hfi
    have hle : es.length = cs.length := by
      have := congrArg List.length hkeys; simpa using this
    have hei : es[i]? = some (es[i]'(by omega)) := by simp [(by omega : i < es.length)]
    have hv := hval i _ _ hei (by simp [hi1] : cs[i]? = some cs[i])
    have hd : cs[i] = looked := by simpa using Eq.symm (of_decide_eq_true hi2)
    rw [hd] at hv
    simp [hei, hv]
    exact ⟨⟨es, clock, cs, by simp [hmn0, hmn1, hg], hkeys, hlen, hval⟩, GeX.of_ge g2⟩
  | none =>
    simp [hr]
    have hcall := join_spec (looked := looked) ((h.ge g).ge g2) hF hl (hrows.ge (g.trans g2))
    refine fcall_fun hcall ?_
    rintro _ B ⟨rfl, gB⟩
    have b0 := gB.got (n := H.next) (by simp) rfl
    have b1 := gB.got (n := H.next + 1) (by simp) rfl
    have bm := gB.got (n := mp) (by simp; omega) (by simp [hmn0, hmn1]; exact hg)
    simp at b0 b1
    have hled := joinL_ok (looked := looked) hF T.trips.length (Nat.le_refl _)
    have nB := gB.next
    simp at nB
    have nb0 : H.next ≠ B.next := by omega
    have nb1 : H.next + 1 ≠ B.next := by omega
    have nbm : mp ≠ B.next := by omega
    simp [inA_toList, inA_size, hled.1, b1, nb1, hr]
    generalize hL : joinL T.followers looked T.trips.length = led at hled
    refine floop_intro (fun z => z.d = [] ∧ Ge H z.H ∧ z.t 2 = .pointer (some ⟨H.next, 0, none⟩) ∧ z.t 3 = .pointer (some ⟨H.next + 1, 0, none⟩) ∧ z.t 8 = .pointer (some ⟨B.next, 0, none⟩) ∧ z.t 24 = chV looked ∧
      z.H.get H.next = .cells true [.int .i64 T.places, .int .i64 T.layover, e, s, .func (.func 74) #[] #[], f, fl, .map (some mp)] 8 ∧ z.H.get (H.next + 1) = .cells true (looked.map .bool) 12 ∧ z.H.get B.next = .cells true (led.map (.int .i64)) 12 ∧ z.H.get mp = .map es clock ∧
      ∃ m : Nat, m ≤ 12 ∧ z.t 25 = .int .i64 m ∧ z.t 7 = .int .i64 (unled looked led m)) (fun z => 12 - (intOf (z.t 25)).toNat) ?_ ?_
    · refine ⟨rfl, Ge.setNew (((g2.trans gB)).newOf _) (by omega) _, by simp, by simp, by simp, by simp [chA], by simp [nb0, b0], by simp [nb1, b1], by simp, by simp [nbm, bm], 0, by simp, by simp, by simp [unled]⟩
    clear b0 b1 bm nb0 nb1 nbm
    rintro ⟨t, _, A⟩ ⟨rfl, gA, t2, t3, t8, t24, b0, b1, bl, bm, m, hm12, t25, t7⟩
    dsimp only at gA t2 t3 t8 t24 b0 b1 bl bm t25 t7
    simp [t25]
    refine fcond_intro (fun hc => ?_) (fun hc => ?_)
    · have hm' : m < 12 := by simp at hc; omega
      have hix : idxV false 12 1 (chV looked) (.int .i64 m) = some (.bool (looked[m]'(by omega))) := by
        rw [idxV_at hm', chA_get (by omega)]
      have hlm : looked[m]?.getD false = looked[m]'(by omega) := by simp [hl, hm']
      have hdm : led[m]?.getD 0 = led[m]'(by rw [hled.1]; omega) := by simp [hled.1, hm']
      have hI : iarV 12 1 (.pointer (some ⟨B.next, 0, none⟩)) (.int .i64 m) = some (.pointer (some ⟨B.next, m, none⟩)) := by
        rw [iarV_in (by omega) (by omega)]; simp
      have hle := unled_le (looked := looked) (led := led) (m := m)
      have hsucc := unled_succ (looked := looked) (led := led) (m := m)
      rw [hlm, hdm] at hsucc
      simp [t24, t25, hix]
      generalize looked[m]'(by omega) = lk at hsucc
      cases lk
      · simp at hsucc
        simp [t25, add_in (x := m) (y := 1) (by omega) (by omega)]
        exact ⟨⟨gA, t2, t3, t8, t24, b0, b1, bl, bm, m + 1, by omega, by omega, by rw [hsucc]; exact t7⟩, by omega⟩
      · simp [t8, hI, bl, hled.1, hm']
        by_cases hd : led[m]'(by rw [hled.1]; omega) = -1
        · simp [hd] at hsucc
          simp [hd, t7, t25, add_in (x := m) (y := 1) (by omega) (by omega), add_in (x := unled looked led m) (y := 1) (by omega) (by omega)]
          exact ⟨⟨gA, t2, t3, t8, t24, b0, b1, bl, bm, m + 1, by omega, by omega, by rw [hsucc]; omega⟩, by omega⟩
        · simp [hd] at hsucc
          simp [hd, t25, add_in (x := m) (y := 1) (by omega) (by omega)]
          exact ⟨⟨gA, t2, t3, t8, t24, b0, b1, bl, bm, m + 1, by omega, by omega, by rw [hsucc]; exact t7⟩, by omega⟩
    · have hm' : m = 12 := by simp at hc; omega
      subst hm'
      have hmu := mupH_at (P := Try.prog) (T := 93) (k := chV looked) (v := .int .i64 (unled looked led 12)) bm (flat_ch _) (by rw [hkeys]; exact all_flat_ch cs) (by rw [hkeys, keyV_ch hl hlen, hfi])
      have hmu' : mupH Try.prog 93 A (.agg (looked.map Value.bool).toArray) (.int .i64 (unled looked led 12)) (.map (some mp)) = some (A.set mp (.map (es ++ [(chV looked, .int .i64 (unled looked led 12), clock)]) (clock + 1))) := hmu
      simp [t2, t3, t7, b0, b1, hr, hmu']
      have hfw : fewestL T looked = unled looked led 12 := by unfold fewestL; rw [hL]
      refine ⟨hfw.symm, ⟨es ++ [(chV looked, .int .i64 (unled looked led 12), clock)], clock + 1, cs ++ [looked], by simp, by simp [hkeys], ?_, ?_⟩, ?_⟩
      · intro d hd
        rcases List.mem_append.1 hd with hd | hd
        · exact hlen d hd
        · simp at hd; rw [hd]; exact hl
      · have hle : es.length = cs.length := by
          have := congrArg List.length hkeys; simpa using this
        intro j e' d h1 h2
        by_cases hj : j < es.length
        · rw [List.getElem?_append_left hj] at h1
          rw [List.getElem?_append_left (by omega)] at h2
          exact hval j e' d h1 h2
        · rw [List.getElem?_append_right (by omega)] at h1
          rw [List.getElem?_append_right (by omega), ← hle] at h2
          have hj0 : j - es.length = 0 := by
            have := (List.getElem?_eq_some_iff.1 h1).1
            simp at this; omega
          rw [hj0] at h1 h2
          simp at h1 h2
          rw [← h1, ← h2, hfw]
      · exact ⟨gA.next, fun n hn hne => by rw [Heap.set_get, if_neg hne]; exact gA.get n hn⟩

end Go.Proofs.Ytohohnpjilinmaa

/-
  Contracts of choose, of allNumbers and of Clone.
-/
namespace Go.Proofs.Ytohohnpjilinmaa
open Go Go.Ab

def pickTo (xs : List Int) (m : Nat) : List Bool := (xs.take m).foldl (fun c x => c.set x.toNat true) (List.replicate 12 false)
def pickL (xs : List Int) : List Bool := pickTo xs xs.length
theorem pickTo_length {xs : List Int} : ∀ m, (pickTo xs m).length = 12 := by
  intro m
  unfold pickTo
  have : ∀ (l : List Int) (c : List Bool), (l.foldl (fun c x => c.set x.toNat true) c).length = c.length := by
    intro l; induction l with
    | nil => intro c; rfl
    | cons x l ih => intro c; simp only [List.foldl_cons]; rw [ih]; simp
  rw [this]; simp
theorem pickTo_succ {xs : List Int} {m : Nat} (h : m < xs.length) : pickTo xs (m + 1) = (pickTo xs m).set xs[m].toNat true := by
  unfold pickTo; rw [List.take_succ_eq_append_getElem h, List.foldl_append]; rfl

theorem choose_spec {H : Heap} {v : Value} {xs : List Int} (hv : IntsAt H v xs) (hx : ∀ x ∈ xs, 0 ≤ x ∧ x < 12) : AFun Try.prog 82 [v] H (fun r B => r = chV (pickL xs) ∧ Ge H B) := by
  refine AFun.mk ok82 hm (Nat.le_of_ble_eq_true rfl) ?_
  have h62 := hv.2
  simp [a82, r82, hv.lenV]
  refine floop_intro (fun z => z.d = [] ∧ Ge H z.H ∧ H.next + 2 ≤ z.H.next ∧ z.t 2 = .pointer (some ⟨H.next, 0, none⟩) ∧ z.t 3 = .pointer (some ⟨H.next + 1, 0, none⟩) ∧ z.H.get H.next = .cells true (List.replicate 12 (.bool false)) 12 ∧ z.t 6 = v ∧ z.t 7 = .int .i64 xs.length ∧
    ∃ i : Nat, i ≤ xs.length ∧ z.t 8 = .int .i64 i ∧ z.H.get (H.next + 1) = .cells true ((pickTo xs i).map .bool) 12) (fun z => xs.length - (intOf (z.t 8)).toNat) ?_ ?_
  · exact ⟨rfl, (Ge.new _ _).newOf _, by simp, by simp, by simp, by simp, by simp, by simp, 0, by simp, by simp, by simp; rfl⟩
  rintro ⟨t, _, A⟩ ⟨rfl, g, hn, t2, t3, b0, t6, t7, i, hi, t8, b1⟩
  dsimp only at g hn t2 t3 b0 t6 t7 t8 b1
  have hpl := pickTo_length (xs := xs) i
  simp [t7, t8]
  refine fcond_intro (fun hc => ?_) (fun hc => ?_)
  · have h1 : i < xs.length := by simpa using hc
    obtain ⟨p, e1, e2⟩ := (hv.ge g).at h1
    have hxi := hx _ (List.getElem_mem h1)
    have hle : xs[i] ≤ 11 := by omega
    have hw : wrL ((pickTo xs i).map Value.bool) xs[i].toNat [.bool true] = (pickTo xs (i + 1)).map .bool := by
      rw [wrL_one _ _ _ (by simp; omega), map_set_bool, pickTo_succ h1]
    simp [t3, t6, t8, e1, e2, iar12 (n := H.next + 1) hxi.1 hxi.2, b1, hpl, hle, hw, add_in (x := i) (y := 1) (by omega) (by omega)]
    exact ⟨⟨Ge.setNew g (by omega) _, hn, t2, by simpa using b0, t7, i + 1, by omega, by omega, rfl⟩, by omega⟩
  · have h1 : i = xs.length := by simp at hc; omega
    subst h1
    change A.get (H.next + 1) = .cells true ((pickL xs).map .bool) 12 at b1
    have hpl' : (pickL xs).length = 12 := pickTo_length _
    have hr := rdL_self (cs := (pickL xs).map Value.bool) (n := 12) (by simp [hpl'])
    simp at b0
    simp [t2, t3, b0, b1, hr, hpl', Function.comp_def]
    exact ⟨by simp [chA], Ge.setNew g (by omega) _⟩

theorem clone_spec {H : Heap} {v : Value} {xs : List Int} (hv : IntsAt H v xs) (hl : xs.length ≤ 2 ^ 20) : AFun Try.prog 86 [v] H (fun r B => IntsAt B r xs ∧ Ge H B ∧ ∀ a n c, r = .slice (some a) n c → H.next ≤ a.block) := by
  refine AFun.mk ok86 hm (Nat.le_of_ble_eq_true rfl) ?_
  have hv2 := hv
  rcases hv.1.cases2 with ⟨rfl, h0, _⟩ | ⟨a0, cap, rfl⟩
  · simp [a86, r86]
    have : xs = [] := List.length_eq_zero_iff.1 h0
    subst this
    exact hv
  · have hv3 := (hv.ge (Ge.new H (.cells true [] 0))).1.1
    simp [a86, r86]
    refine ⟨0, [], some H.next, 0, xs.length, xs.map (.int .i64), ?_, hv3, map_one_int _, by omega, ?_⟩
    · simp [baseOf]
    rw [if_neg (by simp)]
    intro cap' hcap
    simp
    have ho : OwnSl (appHeap (H.new (.cells true [] 0)) (H.next + 1) (H.next + 2) (some H.next) (xs.map (Value.int .i64)) cap') H.next (.slice (some ⟨H.next + 1, 0, none⟩) xs.length cap') (xs.map (.int .i64)) :=
      .inr ⟨H.next + 1, cap', cap', by simp, by omega, by simp [appHeap], by simp [appHeap], by simp; omega, Nat.le_refl _⟩
    refine ⟨⟨by simpa using ho.slr, by omega⟩, ?_⟩
    exact Ge.app (Ge.new _ _) (by omega) (by simp) (by simp)

theorem allNumbers_spec {H : Heap} {n : Nat} (hn : n ≤ 12) : AFun Try.prog 87 [.int .i64 n] H (fun r B => IntsAt B r ((List.range n).map Int.ofNat) ∧ Ge H B ∧ ∀ a n c, r = .slice (some a) n c → H.next ≤ a.block) := by
  refine AFun.mk ok87 hm (Nat.le_of_ble_eq_true rfl) ?_
  have hmk : ∀ k, mksV k 1 8 [.int .i64 0] (.int .i64 n) (.int .i64 n) = some _ := fun k => mksV_at (by omega) (by omega)
  have hz : zrep n [Value.int .i64 0] = (List.replicate n 0).map (Value.int .i64) := by
    have : ∀ n, zrep n [Value.int .i64 0] = (List.replicate n 0).map (Value.int .i64) := by
      intro n; induction n with
      | zero => rfl
      | succ n ih => rw [zrep_succ, ih]; rfl
    exact this n
  simp [a87, r87, hmk, hz]
  refine floop_intro (fun z => z.d = [] ∧ Ge H z.H ∧ H.next < z.H.next ∧ z.t 3 = .slice (some ⟨H.next, 0, none⟩) n n ∧ z.t 7 = .int .i64 n ∧
    ∃ i : Nat, i ≤ n ∧ z.t 8 = .int .i64 i ∧ z.H.get H.next = .cells true (((List.range i).map Int.ofNat ++ List.replicate (n - i) 0).map (.int .i64)) n) (fun z => n - (intOf (z.t 8)).toNat) ?_ ?_
  · exact ⟨rfl, by simp, by simp, by simp, by simp, 0, by simp, by simp, by simp⟩
  rintro ⟨t, _, A⟩ ⟨rfl, g, hlt, t3, t7, i, hi, t8, b0⟩
  dsimp only at g hlt t3 t7 t8 b0
  simp [t7, t8]
  refine fcond_intro (fun hc => ?_) (fun hc => ?_)
  · have h1 : i < n := by simpa using hc
    have hI : islV 1 (.slice (some ⟨H.next, 0, none⟩) n n) (.int .i64 i) = some (.pointer (some ⟨H.next, i, none⟩)) := by
      rw [islV_in (by omega) (by omega)]; simp
    have hst := stV_at (v := .int .i64 i) (sz := 1) (off := i) b0 rfl (by simp; omega) rfl
    have hw : wrL (((List.range i).map Int.ofNat ++ List.replicate (n - i) 0).map (Value.int .i64)) i [.int .i64 i] = ((List.range (i + 1)).map Int.ofNat ++ List.replicate (n - (i + 1)) 0).map (.int .i64) := by
      rw [wrL_one _ _ _ (by simp; omega), map_set_int]
      congr 1
      rw [List.set_append_right _ _ (by simp), List.range_succ, List.map_append]
      simp
      obtain ⟨q, hq⟩ : ∃ q, n - i = q + 1 := ⟨n - i - 1, by omega⟩
      rw [hq, (by omega : n - (i + 1) = q)]
      simp [List.replicate_succ]
    rw [cells_int] at hst
    simp only [hw] at hst
    rw [stV_ptr] at hst
    simp [t3, t8, hI, hst, add_in (x := i) (y := 1) (by omega) (by omega)]
    exact ⟨⟨Ge.setNew g (Nat.le_refl _) _, hlt, t7, i + 1, by omega, by omega, rfl⟩, by omega⟩
  · have h1 : i = n := by simp at hc; omega
    subst h1
    simp at b0
    simp [t3]
    refine ⟨⟨⟨?_, ?_⟩, by simp; omega⟩, g⟩
    · simp [slCells, b0, rdL]
      rw [List.take_of_length_le (by simp)]
    · intro a n' c e; simp at e; rw [← e.1]; exact hlt

end Go.Proofs.Ytohohnpjilinmaa

/-
  The contract of isEnoughWithout.
-/
namespace Go.Proofs.Ytohohnpjilinmaa
open Go Go.Ab

/-- The trips of a kind that are not out, among the first m. -/
def kindTo (T : Tab) (kind : Int) (out : List Bool) (m : Nat) : List Bool := (List.range 12).map fun k => decide (k < m) && (match T.trips[k]? with | some x => decide (x.kind = kind) && !(out[k]?.getD false) | none => false)
theorem kindTo_length {T : Tab} {kind : Int} {out : List Bool} {m : Nat} : (kindTo T kind out m).length = 12 := by simp [kindTo]
theorem kindTo_set {T : Tab} {kind : Int} {out : List Bool} {m : Nat} (hm : m < T.trips.length) (h12 : m < 12) : (kindTo T kind out m).set m (decide (T.trips[m].kind = kind) && !(out[m]?.getD false)) = kindTo T kind out (m + 1) := by
  apply List.ext_getElem
  · simp [kindTo]
  · intro i h1 h2
    simp only [kindTo, List.getElem_set, List.getElem_map, List.getElem_range]
    split
    · subst_vars; simp [hm]
    · by_cases h3 : i < m
      · simp [h3, Nat.lt_succ_of_lt h3]
      · have : ¬ i < m + 1 := by omega
        simp [h3, this]

/-- Is the fleet enough without some trips, for the first m kinds? -/
def enoughTo (T : Tab) (fleet : List Int) (out : List Bool) (m : Nat) : Bool := (List.range m).all fun k => decide (fewestL T (kindTo T k out T.trips.length) ≤ fleet[k]?.getD 0)

theorem enoughTo_succ {T : Tab} {fleet : List Int} {out : List Bool} {m : Nat} : enoughTo T fleet out (m + 1) = (enoughTo T fleet out m && decide (fewestL T (kindTo T m out T.trips.length) ≤ fleet[m]?.getD 0)) := by
  simp [enoughTo, List.range_succ]
theorem enoughTo_false {T : Tab} {fleet : List Int} {out : List Bool} {m n : Nat} (hmn : m ≤ n) (h : enoughTo T fleet out m = false) : enoughTo T fleet out n = false := by
  rw [Bool.eq_false_iff] at h ⊢
  intro ha
  apply h
  simp only [enoughTo, List.all_eq_true, List.mem_range] at ha ⊢
  exact fun k hk => ha k (by omega)

theorem enough_spec {T : Tab} {H0 H : Heap} {e s f fl : Value} {mp : Nat} {fleet : List Int} {out : List Bool} (h : TabAt H0 e s T) (hT : Valid T) (hrows : RowsAt H0 f T.followers) (hfl : IntsAt H0 fl fleet) (g : Ge H0 H) (hmp : H0.next ≤ mp) (hmn : mp < H.next) (hk : Known T H mp) (hl : out.length = 12) :
    AFun Try.prog 85 [shV T e s f fl mp, chV out] H (fun v B => v = .bool (enoughTo T fleet out fleet.length) ∧ Known T B mp ∧ GeX mp H B) := by
  refine AFun.mk ok85 hm (Nat.le_of_ble_eq_true rfl) ?_
  have hcl : (chA out).toList = out.map .bool := chA_toList out
  have hcs : (chA out).size = 12 := by rw [chA_size, hl]
  have h62 := hfl.2
  have hfew := hT.few
  simp [a85, r85, hcl, hcs, hfl.lenV]
  refine floop_intro (fun z => z.d = [] ∧ GeX mp H z.H ∧ H.next + 2 ≤ z.H.next ∧ Known T z.H mp ∧ z.t 2 = .pointer (some ⟨H.next, 0, none⟩) ∧ z.t 3 = .pointer (some ⟨H.next + 1, 0, none⟩) ∧
    z.H.get H.next = .cells true [.int .i64 T.places, .int .i64 T.layover, e, s, .func (.func 74) #[] #[], f, fl, .map (some mp)] 8 ∧ z.H.get (H.next + 1) = .cells true (out.map .bool) 12 ∧ z.t 11 = fl ∧ z.t 12 = .int .i64 fleet.length ∧
    ∃ k : Nat, k ≤ fleet.length ∧ z.t 13 = .int .i64 k ∧ enoughTo T fleet out k = true) (fun z => fleet.length - (intOf (z.t 13)).toNat) ?_ ?_
  · have hmn0 : mp ≠ H.next := by omega
    have hmn1 : mp ≠ H.next + 1 := by omega
    obtain ⟨es, clock, cs, k1, k2⟩ := hk
    refine ⟨rfl, GeX.of_ge ((Ge.new _ _).newOf _), by simp, ⟨es, clock, cs, by simp [hmn0, hmn1, k1], k2⟩, by simp, by simp, by simp, by simp, by simp, by simp, 0, by simp, by simp, by simp [enoughTo]⟩
  rintro ⟨t, _, A⟩ ⟨rfl, gx, hn, hkA, t2, t3, b0, b1, t11, t12, k, hkl, t13, hen⟩
  dsimp only at gx hn hkA t2 t3 b0 b1 t11 t12 t13
  have gA := gx.ge g hmp
  simp [t12, t13]
  refine fcond_intro (fun hc => ?_) (fun hc => ?_)
  · have h1 : k < fleet.length := by simpa using hc
    obtain ⟨p, e1, e2⟩ := (hfl.ge gA).at h1
    have ne0 : H.next ≠ A.next := by omega
    have ne1 : H.next + 1 ≠ A.next := by omega
    simp [t2, t11, t13, e1, e2, ne0, b0, h.trips.lenV]
    refine floop_intro (fun z => z.d = [] ∧ Ge A z.H ∧ A.next < z.H.next ∧ z.t 2 = .pointer (some ⟨H.next, 0, none⟩) ∧ z.t 3 = .pointer (some ⟨H.next + 1, 0, none⟩) ∧ z.t 11 = fl ∧ z.t 12 = .int .i64 fleet.length ∧ z.t 13 = .int .i64 k ∧ z.t 5 = .int .i64 k ∧ z.t 6 = .int .i64 fleet[k] ∧ z.t 7 = .pointer (some ⟨A.next, 0, none⟩) ∧ z.t 21 = s ∧ z.t 22 = .int .i64 T.trips.length ∧
      ∃ m : Nat, m ≤ T.trips.length ∧ z.t 23 = .int .i64 m ∧ z.H.get A.next = .cells true ((kindTo T k out m).map .bool) 12) (fun z => T.trips.length - (intOf (z.t 23)).toNat) ?_ ?_
    · exact ⟨rfl, Ge.new _ _, by simp, by simp [t2], by simp [t3], by simp [t11], by simp [t12], by simp [t13], by simp, by simp, by simp, by simp, by simp, 0, by simp, by simp, by simp [kindTo]; rfl⟩
    rintro ⟨w, _, B⟩ ⟨rfl, gB, hnB, w2, w3, w11, w12, w13, w5, w6, w7, w21, w22, m, hm, w23, bl⟩
    dsimp only at gB hnB w2 w3 w11 w12 w13 w5 w6 w7 w21 w22 w23 bl
    have hkl2 := kindTo_length (T := T) (kind := k) (out := out) (m := m)
    simp [w22, w23]
    refine fcond_intro (fun hc2 => ?_) (fun hc2 => ?_)
    · have hm' : m < T.trips.length := by simpa using hc2
      obtain ⟨n1, o1, f1, l1, f2, _⟩ := (h.trips.ge (gA.trans gB)).at hm'
      have bo := gB.got (by omega) b1
      have hset := kindTo_set (T := T) (kind := k) (out := out) hm' (by omega)
      have hI : ∀ q, iarV 12 1 (.pointer (some ⟨q, 0, none⟩)) (.int .i64 m) = some (.pointer (some ⟨q, m, none⟩)) := fun q => by
        rw [iarV_in (by omega) (by omega)]; simp
      have hm12 : m < 12 := by omega
      have hom : out[m]?.getD false = out[m]'(by omega) := by simp [hl, hm12]
      have nb1 : H.next + 1 ≠ B.next := by omega
      have nb2 : A.next ≠ B.next := by omega
      rw [hom] at hset
      have hw : ∀ x, wrL ((kindTo T k out m).map Value.bool) m [.bool x] = ((kindTo T k out m).set m x).map .bool := fun x => by
        rw [wrL_one _ _ _ (by simp; omega), map_set_bool]
      simp [w5, w21, w23, f1, f2, Tr.val]
      have G : Ge A ((B.new (.cells true [.int .i64 0, .int .i64 0, .int .i64 0, .int .i64 0, .int .i64 0, .int .i64 0] 6)).set B.next (.cells true T.trips[m].cells 6)) := Ge.setNew (gB.newOf _) gB.next _
      by_cases hkd : T.trips[m].kind = (k : Int)
      · rw [decide_eq_true hkd, Bool.true_and] at hset
        simp [hkd, w3, hI, nb1, bo, hl, hm12, w7, nb2, bl, hkl2, hw, w23, add_in (x := m) (y := 1) (by omega) (by omega), (by omega : m + 1 ≤ 12)]
        exact ⟨⟨Ge.setNew (Ge.setNew (gB.newOf _) gB.next _) (Nat.le_refl _) _, by omega, w2, w11, w12, w13, w5, w6, w21, w22, m + 1, by omega, by omega, by rw [← hset, map_set_bool]⟩, by omega⟩
      · rw [decide_eq_false hkd, Bool.false_and] at hset
        simp [hkd, w7, hI, nb2, bl, hkl2, hw, w23, add_in (x := m) (y := 1) (by omega) (by omega), (by omega : m + 1 ≤ 12)]
        exact ⟨⟨Ge.setNew (Ge.setNew (gB.newOf _) gB.next _) (Nat.le_refl _) _, by omega, w2, w3, w11, w12, w13, w5, w6, w21, w22, m + 1, by omega, by omega, by rw [← hset, map_set_bool]⟩, by omega⟩
    · have hm' : m = T.trips.length := by simp at hc2; omega
      subst hm'
      have hr := rdL_self (cs := (kindTo T k out T.trips.length).map Value.bool) (n := 12) (by simp [hkl2])
      have bb := gB.got (by omega) b0
      simp [w2, w7, bb, bl, hr]
      have gxn := gx.next
      have hkB : Known T B mp := by
        obtain ⟨es, clock, cs, k1, k2⟩ := hkA
        exact ⟨es, clock, cs, gB.got (by omega) k1, k2⟩
      refine fcall_fun (fewest_spec (looked := kindTo T k out T.trips.length) h hT hrows (gA.trans gB) hmp (by have := gB.next; omega) hkB hkl2) ?_
      rintro _ C ⟨rfl, hkC, gC⟩
      have gHC : GeX mp H C := (gx.trans (GeX.of_ge gB)).trans gC
      have gBn := gB.next
      have gCn := gC.next
      have b0C := (gC.get H.next (by omega) (by omega)).trans bb
      have b1C := (gC.get (H.next + 1) (by omega) (by omega)).trans (gB.got (by omega) b1)
      have hfk : fleet[k]?.getD 0 = fleet[k] := by simp [h1]
      have hsucc := enoughTo_succ (T := T) (fleet := fleet) (out := out) (m := k)
      rw [hen, Bool.true_and, hfk] at hsucc
      simp [w6]
      refine fcond_intro (fun hc3 => ?_) (fun hc3 => ?_)
      · simp at hc3
        have hf : enoughTo T fleet out fleet.length = false := enoughTo_false (m := k + 1) (by omega) (by rw [hsucc]; simp; omega)
        simp [hf, hkC, gHC]
      · simp at hc3
        simp [w13, add_in (x := k) (y := 1) (by omega) (by omega)]
        exact ⟨⟨gHC, by omega, hkC, w2, w3, b0C, b1C, w11, w12, k + 1, by omega, by omega, by rw [hsucc]; simpa using hc3⟩, by simp [t13]; omega⟩
  · have h1 : k = fleet.length := by simp at hc; omega
    subst h1
    simp [hen, hkA, gx]

end Go.Proofs.Ytohohnpjilinmaa

/-
  The contract of the chapter's timetable.
-/
namespace Go.Proofs.Ytohohnpjilinmaa
open Go Go.Ab

def dayT : Tab := { places := 2, layover := 5, empty := [[0, 20], [30, 0]], trips := [⟨0, 1, 100, 40, 60, 0⟩, ⟨1, 0, 165, 20, 30, 0⟩, ⟨0, 1, 165, 40, 60, 0⟩, ⟨0, 1, 200, 30, 30, 0⟩, ⟨1, 0, 240, 10, 20, 1⟩] }

theorem day_spec {H : Heap} : AFun Try.prog 42 [] H (fun r B => (∃ e s, r = tabV dayT e s ∧ TabAt B e s dayT) ∧ Ge H B) := by
  refine AFun.mk ok42 hm (Nat.le_of_ble_eq_true rfl) ?_
  simp [a42, r42]
  refine ⟨⟨_, _, ⟨rfl, rfl, rfl, rfl⟩, ?_⟩, ?_⟩
  · refine ⟨⟨[.slice (some ⟨H.next + 1, 0, none⟩) 2 2, .slice (some ⟨H.next + 2, 0, none⟩) 2 2], ⟨?_, ?_⟩, by decide, ?_⟩, ⟨⟨?_, ?_⟩, by decide⟩⟩
    · simp [slCells, dayT]
    · intro a n c e; simp at e; rw [← e.1]; simp
    · intro i hi
      match i, hi with
      | 0, _ =>
        refine ⟨_, rfl, ⟨?_, ?_⟩, by simp [dayT]⟩
        · simp [slCells, dayT]
        · intro a n c e; simp at e; rw [← e.1]; simp
      | 1, _ =>
        refine ⟨_, rfl, ⟨?_, ?_⟩, by simp [dayT]⟩
        · simp [slCells, dayT]
        · intro a n c e; simp at e; rw [← e.1]; simp
    · simp [slCells, dayT, Tr.cells]
    · intro a n c e; simp at e; rw [← e.1]; simp
  · refine Ge.setNew (((((Ge.new _ _).newOf _).newOf _).newOf _).newOf _) (by omega) _

end Go.Proofs.Ytohohnpjilinmaa
