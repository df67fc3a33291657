/-
  Joined texts of a calculus of abstract memory, and of contracts of the program's functions.
-/
import Derived.Test.YtohohnpjilinmaaJ5
import Derived.Test.YtohohnpjilinmaaChecked
import Derived.KernelRfl
/-
  The code of functions of the package, as the calculus has it.
-/
namespace Go.Proofs.Ytohohnpjilinmaa
open Go Go.Ab

/-- (layover/run.service).allTrips -/
def a55 : ACode :=
  (.seq
   (.region [⟨(some 1), (.box (.t 0)), none⟩, ⟨(some 2), (.new [(.bool false), (.bool false), (.bool false), (.bool false), (.bool false), (.bool false), (.bool false), (.bool false), (.bool false), (.bool false), (.bool false), (.bool false)]), none⟩])
   (.seq
    (.region [⟨(some 3), (.new [(.bool false), (.bool false), (.bool false), (.bool false), (.bool false), (.bool false), (.bool false), (.bool false), (.bool false), (.bool false), (.bool false), (.bool false)]), none⟩])
    (.seq
     (.seq
      (.region [⟨(some 5), (.fa 0 (.t 1)), none⟩, ⟨(some 6), (.fa 3 (.t 5)), none⟩, ⟨(some 7), (.ld false 1 (.t 6)), none⟩, ⟨(some 8), (.len (.t 7)), none⟩, ⟨(some 9), (.mov (.c (.int .i64 0))), none⟩])
      (.block 0
       (.loop
        (.seq
         (.region [⟨(some 10), (.bin .lss (.t 9) (.t 8)), none⟩])
         (.seq
          (.cond (.t 10)
           .skip
           (.exit 0))
          (.seq
           (.block 1
            (.seq
             (.region [⟨(some 11), (.mov (.t 9)), none⟩, ⟨(some 4), (.mov (.t 11)), none⟩])
             (.region [⟨(some 12), (.mov (.t 4)), none⟩, ⟨(some 13), (.iar 12 1 (.t 3) (.t 12)), none⟩, ⟨none, (.st 1 (.t 13) (.c (.bool true))), none⟩])))
           (.region [⟨(some 14), (.bin .add (.t 9) (.c (.int .i64 1))), none⟩, ⟨(some 9), (.mov (.t 14)), none⟩])))))))
     (.seq
      (.region [⟨(some 15), (.ld true 12 (.t 3)), none⟩, ⟨none, (.st 12 (.t 2) (.t 15)), none⟩])
      .ret))))
def r55 : List AOp := [(.ld true 12 (.t 2))]
theorem ok55 : FnOk Try.prog 55 Try.f55.ntmps a55 r55 := ⟨Try.f55, Try.func55, by kernel_rfl, by kernel_rfl, by kernel_rfl, fun asv w => by simp⟩

/-- (layover/run.service).validNumber -/
def a78 : ACode :=
  (.seq
   (.region [⟨(some 2), (.box (.t 0)), none⟩, ⟨(some 4), (.mov (.c (.bool false))), none⟩])
   (.seq
    (.region [⟨(some 5), (.mov (.t 1)), none⟩, ⟨(some 6), (.fa 0 (.t 2)), none⟩, ⟨(some 7), (.fa 3 (.t 6)), none⟩, ⟨(some 8), (.ld false 1 (.t 7)), none⟩, ⟨(some 9), (.len (.t 8)), none⟩, ⟨(some 10), (.bin .sub (.t 9) (.c (.int .i64 1))), none⟩, ⟨(some 11), (.call (.c (.func (.func 71) #[] #[])) [(.t 5), (.c (.int .i64 0)), (.t 10)]), none⟩, ⟨(some 4), (.mov (.t 11)), none⟩])
    .ret))
def r78 : List AOp := [(.mov (.t 4))]
theorem ok78 : FnOk Try.prog 78 Try.f78.ntmps a78 r78 := ⟨Try.f78, Try.func78, by kernel_rfl, by kernel_rfl, by kernel_rfl, fun asv w => by simp⟩

/-- (layover/run.service).isCutting -/
def a56 : ACode :=
  (.seq
   (.region [⟨(some 2), (.box (.t 0)), none⟩, ⟨(some 4), (.mov (.c (.bool false))), none⟩])
   (.seq
    (.region [⟨(some 5), (.new [(.bool false), (.bool false), (.bool false), (.bool false), (.bool false), (.bool false), (.bool false), (.bool false), (.bool false), (.bool false), (.bool false), (.bool false)]), none⟩])
    (.seq
     (.seq
      (.region [⟨(some 10), (.mov (.t 1)), none⟩, ⟨(some 11), (.len (.t 10)), none⟩, ⟨(some 12), (.mov (.c (.int .i64 0))), none⟩])
      (.block 0
       (.loop
        (.seq
         (.region [⟨(some 13), (.bin .lss (.t 12) (.t 11)), none⟩])
         (.seq
          (.cond (.t 13)
           .skip
           (.exit 0))
          (.seq
           (.block 1
            (.seq
             (.region [⟨(some 14), (.isl 1 (.t 10) (.t 12)), none⟩, ⟨(some 15), (.ld false 1 (.t 14)), none⟩, ⟨(some 7), (.mov (.t 15)), none⟩])
             (.seq
              (.seq
               (.region [⟨(some 16), (.mov (.t 7)), none⟩, ⟨(some 17), (.len (.t 16)), none⟩, ⟨(some 18), (.bin .eql (.t 17) (.c (.int .i64 0))), none⟩, ⟨(some 19), (.mov (.t 18)), none⟩, ⟨(some 20), (.mov (.t 7)), (some (19, false))⟩, ⟨(some 21), (.ld true 6 (.t 2)), (some (19, false))⟩, ⟨(some 22), (.fn (.func 78) [(.t 21)] []), (some (19, false))⟩, ⟨(some 23), (.call (.c (.func (.func 65) #[] #[])) [(.t 20), (.t 22)]), (some (19, false))⟩, ⟨(some 24), (.not (.t 23)), (some (19, false))⟩, ⟨(some 25), (.pick (.t 19) (.c (.bool true)) (.t 24)), none⟩])
               (.cond (.t 25)
                (.seq
                 (.region [⟨(some 4), (.mov (.c (.bool false))), none⟩])
                 .ret)
                .skip))
              (.seq
               (.region [⟨(some 26), (.mov (.t 7)), none⟩, ⟨(some 27), (.len (.t 26)), none⟩, ⟨(some 28), (.mov (.c (.int .i64 0))), none⟩])
               (.block 2
                (.loop
                 (.seq
                  (.region [⟨(some 29), (.bin .lss (.t 28) (.t 27)), none⟩])
                  (.seq
                   (.cond (.t 29)
                    .skip
                    (.exit 2))
                   (.seq
                    (.block 3
                     (.seq
                      (.region [⟨(some 30), (.mov (.t 28)), none⟩, ⟨(some 31), (.isl 1 (.t 26) (.t 28)), none⟩, ⟨(some 32), (.ld false 1 (.t 31)), none⟩, ⟨(some 8), (.mov (.t 30)), none⟩, ⟨(some 9), (.mov (.t 32)), none⟩])
                      (.seq
                       (.seq
                        (.draw 18 [⟨⟨(some 33), (.mov (.t 9)), none⟩, 0, false, []⟩, ⟨⟨(some 34), (.iar 12 1 (.t 5) (.t 33)), none⟩, 1, false, []⟩, ⟨⟨(some 35), (.ld false 1 (.t 34)), none⟩, 2, false, []⟩, ⟨⟨(some 36), (.mov (.t 35)), none⟩, 3, false, []⟩, ⟨⟨(some 37), (.mov (.t 8)), (some (36, false))⟩, 4, false, []⟩, ⟨⟨(some 38), (.bin .gtr (.t 37) (.c (.int .i64 0))), (some (36, false))⟩, 5, false, []⟩, ⟨⟨(some 39), (.mov (.t 38)), (some (36, false))⟩, 6, false, []⟩, ⟨⟨(some 40), (.ld true 6 (.t 2)), (some (39, true))⟩, 7, false, []⟩, ⟨⟨(some 41), (.mov (.t 7)), (some (39, true))⟩, 8, false, []⟩, ⟨⟨(some 42), (.mov (.t 8)), (some (39, true))⟩, 9, false, []⟩, ⟨⟨(some 43), (.bin .sub (.t 42) (.c (.int .i64 1))), (some (39, true))⟩, 10, false, []⟩, ⟨⟨(some 44), (.isl 1 (.t 41) (.t 43)), (some (39, true))⟩, 11, false, []⟩, ⟨⟨(some 45), (.ld false 1 (.t 44)), (some (39, true))⟩, 12, false, []⟩, ⟨⟨(some 46), (.mov (.t 9)), (some (39, true))⟩, 13, false, []⟩, ⟨⟨(some 47), (.call (.c (.func (.func 79) #[] #[])) [(.t 40), (.t 45), (.t 46)]), (some (39, true))⟩, 14, true, []⟩, ⟨⟨(some 48), (.not (.t 47)), (some (39, true))⟩, 15, false, []⟩, ⟨⟨(some 49), (.pick (.t 39) (.t 48) (.c (.bool false))), (some (36, false))⟩, 16, false, []⟩, ⟨⟨(some 50), (.pick (.t 36) (.c (.bool true)) (.t 49)), none⟩, 17, false, []⟩])
                        (.cond (.t 50)
                         (.seq
                          (.region [⟨(some 4), (.mov (.c (.bool false))), none⟩])
                          .ret)
                         .skip))
                       (.region [⟨(some 51), (.mov (.t 9)), none⟩, ⟨(some 52), (.iar 12 1 (.t 5) (.t 51)), none⟩, ⟨none, (.st 1 (.t 52) (.c (.bool true))), none⟩]))))
                    (.region [⟨(some 53), (.bin .add (.t 28) (.c (.int .i64 1))), none⟩, ⟨(some 28), (.mov (.t 53)), none⟩]))))))))))
           (.region [⟨(some 54), (.bin .add (.t 12) (.c (.int .i64 1))), none⟩, ⟨(some 12), (.mov (.t 54)), none⟩])))))))
     (.seq
      (.draw 5 [⟨⟨(some 55), (.ld true 12 (.t 5)), none⟩, 0, false, []⟩, ⟨⟨(some 56), (.ld true 6 (.t 2)), none⟩, 1, false, []⟩, ⟨⟨(some 57), (.call (.c (.func (.func 55) #[] #[])) [(.t 56)]), none⟩, 2, true, [0]⟩, ⟨⟨(some 58), (.gen 59 ⟨(some 58), (.binOp .eql 93 (.tmp 55) (.tmp 57) 93), 4, "prove.go:20", #[{ on := 0, ground := Go.Ground.data }, { on := 2, ground := Go.Ground.data }], none⟩), none⟩, 3, false, []⟩, ⟨⟨(some 4), (.mov (.t 58)), none⟩, 4, false, []⟩])
      .ret))))
def r56 : List AOp := [(.mov (.t 4))]
theorem ok56 : FnOk Try.prog 56 Try.f56.ntmps a56 r56 := ⟨Try.f56, Try.func56, by kernel_rfl, by kernel_rfl, by kernel_rfl, fun asv w => by simp⟩

/-- layover/run.ProveCut -/
def a27 : ACode :=
  (.seq
   (.region [⟨(some 2), (.box (.t 0)), none⟩, ⟨(some 4), (.mov (.c (.bool false))), none⟩])
   (.seq
    (.region [⟨(some 5), (.ld true 4 (.t 2)), none⟩, ⟨(some 6), (.call (.c (.func (.func 18) #[] #[])) [(.t 5)]), none⟩, ⟨(some 7), (.bin .eql (.t 6) (.c (.int .i64 0))), none⟩, ⟨(some 8), (.mov (.t 7)), none⟩, ⟨(some 9), (.ld true 4 (.t 2)), (some (8, true))⟩, ⟨(some 10), (.call (.c (.func (.func 51) #[] #[])) [(.t 9)]), (some (8, true))⟩, ⟨(some 11), (.mov (.t 1)), (some (8, true))⟩, ⟨(some 12), (.call (.c (.func (.func 56) #[] #[])) [(.t 10), (.t 11)]), (some (8, true))⟩, ⟨(some 13), (.pick (.t 8) (.t 12) (.c (.bool false))), none⟩, ⟨(some 4), (.mov (.t 13)), none⟩])
    .ret))
def r27 : List AOp := [(.mov (.t 4))]
theorem ok27 : FnOk Try.prog 27 Try.f27.ntmps a27 r27 := ⟨Try.f27, Try.func27, by kernel_rfl, by kernel_rfl, by kernel_rfl, fun asv w => by simp⟩

/-- (layover/run.leaders).turned -/
def a76 : ACode :=
  (.seq
   (.region [⟨(some 1), (.box (.t 0)), none⟩, ⟨(some 2), (.new [(.int .i64 0), (.int .i64 0), (.int .i64 0), (.int .i64 0), (.int .i64 0), (.int .i64 0), (.int .i64 0), (.int .i64 0), (.int .i64 0), (.int .i64 0), (.int .i64 0), (.int .i64 0)]), none⟩])
   (.seq
    (.region [⟨(some 3), (.new [(.int .i64 0), (.int .i64 0), (.int .i64 0), (.int .i64 0), (.int .i64 0), (.int .i64 0), (.int .i64 0), (.int .i64 0), (.int .i64 0), (.int .i64 0), (.int .i64 0), (.int .i64 0)]), none⟩])
    (.seq
     (.seq
      (.region [⟨(some 7), (.mov (.c (.int .i64 0))), none⟩])
      (.block 0
       (.loop
        (.seq
         (.region [⟨(some 8), (.bin .lss (.t 7) (.c (.int .i64 12))), none⟩])
         (.seq
          (.cond (.t 8)
           .skip
           (.exit 0))
          (.seq
           (.block 1
            (.seq
             (.region [⟨(some 9), (.mov (.t 7)), none⟩, ⟨(some 4), (.mov (.t 9)), none⟩])
             (.region [⟨(some 10), (.mov (.t 4)), none⟩, ⟨(some 11), (.iar 12 1 (.t 3) (.t 10)), none⟩, ⟨none, (.st 1 (.t 11) (.c (.int .i64 (-1)))), none⟩])))
           (.region [⟨(some 12), (.bin .add (.t 7) (.c (.int .i64 1))), none⟩, ⟨(some 7), (.mov (.t 12)), none⟩])))))))
     (.seq
      (.seq
       (.region [⟨(some 13), (.ld true 12 (.t 1)), none⟩, ⟨(some 14), (.mov (.c (.int .i64 0))), none⟩])
       (.block 2
        (.loop
         (.seq
          (.region [⟨(some 15), (.bin .lss (.t 14) (.c (.int .i64 12))), none⟩])
          (.seq
           (.cond (.t 15)
            .skip
            (.exit 2))
           (.seq
            (.block 3
             (.seq
              (.region [⟨(some 16), (.mov (.t 14)), none⟩, ⟨(some 17), (.idx false 12 1 (.t 13) (.t 14)), none⟩, ⟨(some 5), (.mov (.t 16)), none⟩, ⟨(some 6), (.mov (.t 17)), none⟩])
              (.seq
               (.region [⟨(some 18), (.mov (.t 6)), none⟩, ⟨(some 19), (.bin .neq (.t 18) (.c (.int .i64 (-1)))), none⟩])
               (.cond (.t 19)
                (.region [⟨(some 20), (.mov (.t 6)), none⟩, ⟨(some 21), (.mov (.t 5)), none⟩, ⟨(some 22), (.iar 12 1 (.t 3) (.t 20)), none⟩, ⟨none, (.st 1 (.t 22) (.t 21)), none⟩])
                .skip))))
            (.region [⟨(some 23), (.bin .add (.t 14) (.c (.int .i64 1))), none⟩, ⟨(some 14), (.mov (.t 23)), none⟩])))))))
      (.seq
       (.region [⟨(some 24), (.ld true 12 (.t 3)), none⟩, ⟨none, (.st 12 (.t 2) (.t 24)), none⟩])
       .ret)))))
def r76 : List AOp := [(.ld true 12 (.t 2))]
theorem ok76 : FnOk Try.prog 76 Try.f76.ntmps a76 r76 := ⟨Try.f76, Try.func76, by kernel_rfl, by kernel_rfl, by kernel_rfl, fun asv w => by simp⟩

/-- (layover/run.service).blocks -/
def a53 : ACode :=
  (.seq
   (.region [⟨(some 2), (.box (.t 0)), none⟩, ⟨(some 3), (.box (.t 1)), none⟩, ⟨(some 4), (.mov (.c (.slice none 0 0))), none⟩])
   (.seq
    (.region [⟨(some 10), (.bsl 0 [] []), none⟩, ⟨(some 5), (.mov (.t 10)), none⟩])
    (.seq
     (.region [⟨(some 11), (.ld true 12 (.t 3)), none⟩, ⟨(some 12), (.call (.c (.func (.func 76) #[] #[])) [(.t 11)]), none⟩, ⟨(some 6), (.new [(.int .i64 0), (.int .i64 0), (.int .i64 0), (.int .i64 0), (.int .i64 0), (.int .i64 0), (.int .i64 0), (.int .i64 0), (.int .i64 0), (.int .i64 0), (.int .i64 0), (.int .i64 0)]), none⟩, ⟨none, (.st 12 (.t 6) (.t 12)), none⟩])
     (.seq
      (.seq
       (.region [⟨(some 13), (.fa 0 (.t 2)), none⟩, ⟨(some 14), (.fa 3 (.t 13)), none⟩, ⟨(some 15), (.ld false 1 (.t 14)), none⟩, ⟨(some 16), (.len (.t 15)), none⟩, ⟨(some 17), (.mov (.c (.int .i64 0))), none⟩])
       (.block 0
        (.loop
         (.seq
          (.region [⟨(some 18), (.bin .lss (.t 17) (.t 16)), none⟩])
          (.seq
           (.cond (.t 18)
            .skip
            (.exit 0))
           (.seq
            (.block 1
             (.seq
              (.region [⟨(some 19), (.mov (.t 17)), none⟩, ⟨(some 7), (.mov (.t 19)), none⟩])
              (.seq
               (.seq
                (.region [⟨(some 20), (.mov (.t 7)), none⟩, ⟨(some 21), (.iar 12 1 (.t 3) (.t 20)), none⟩, ⟨(some 22), (.ld false 1 (.t 21)), none⟩, ⟨(some 23), (.bin .neq (.t 22) (.c (.int .i64 (-1)))), none⟩])
                (.cond (.t 23)
                 (.exit 1)
                 .skip))
               (.seq
                (.region [⟨(some 24), (.bsl 0 [] []), none⟩, ⟨(some 8), (.mov (.t 24)), none⟩])
                (.seq
                 (.seq
                  (.region [⟨(some 25), (.mov (.t 7)), none⟩, ⟨(some 9), (.mov (.t 25)), none⟩])
                  (.block 2
                   (.loop
                    (.seq
                     (.seq
                      (.region [⟨(some 26), (.mov (.t 9)), none⟩, ⟨(some 27), (.bin .neq (.t 26) (.c (.int .i64 (-1)))), none⟩])
                      (.cond (.t 27)
                       .skip
                       (.exit 2)))
                     (.seq
                      (.block 3
                       (.region [⟨(some 31), (.mov (.t 8)), none⟩, ⟨(some 32), (.mov (.t 9)), none⟩, ⟨(some 33), (.bsl 1 [(.int .i64 0)] [(0, 1, (.t 32))]), none⟩, ⟨(some 34), (.app 1 8 (.t 31) (.t 33)), none⟩, ⟨(some 8), (.mov (.t 34)), none⟩]))
                      (.region [⟨(some 28), (.mov (.t 9)), none⟩, ⟨(some 29), (.iar 12 1 (.t 6) (.t 28)), none⟩, ⟨(some 30), (.ld false 1 (.t 29)), none⟩, ⟨(some 9), (.mov (.t 30)), none⟩]))))))
                 (.region [⟨(some 35), (.mov (.t 5)), none⟩, ⟨(some 36), (.mov (.t 8)), none⟩, ⟨(some 37), (.bsl 1 [(.slice none 0 0)] [(0, 1, (.t 36))]), none⟩, ⟨(some 38), (.app 1 24 (.t 35) (.t 37)), none⟩, ⟨(some 5), (.mov (.t 38)), none⟩]))))))
            (.region [⟨(some 39), (.bin .add (.t 17) (.c (.int .i64 1))), none⟩, ⟨(some 17), (.mov (.t 39)), none⟩])))))))
      (.seq
       (.region [⟨(some 40), (.mov (.t 5)), none⟩, ⟨(some 4), (.mov (.t 40)), none⟩])
       .ret)))))
def r53 : List AOp := [(.mov (.t 4))]
theorem ok53 : FnOk Try.prog 53 Try.f53.ntmps a53 r53 := ⟨Try.f53, Try.func53, by kernel_rfl, by kernel_rfl, by kernel_rfl, fun asv w => by simp⟩

/-- (layover/run.service).join -/
def a54 : ACode :=
  (.seq
   (.region [⟨(some 2), (.box (.t 0)), none⟩, ⟨(some 3), (.box (.t 1)), none⟩, ⟨(some 4), (.new [(.int .i64 0), (.int .i64 0), (.int .i64 0), (.int .i64 0), (.int .i64 0), (.int .i64 0), (.int .i64 0), (.int .i64 0), (.int .i64 0), (.int .i64 0), (.int .i64 0), (.int .i64 0)]), none⟩])
   (.seq
    (.region [⟨(some 5), (.new [(.int .i64 0), (.int .i64 0), (.int .i64 0), (.int .i64 0), (.int .i64 0), (.int .i64 0), (.int .i64 0), (.int .i64 0), (.int .i64 0), (.int .i64 0), (.int .i64 0), (.int .i64 0)]), none⟩])
    (.seq
     (.seq
      (.region [⟨(some 10), (.mov (.c (.int .i64 0))), none⟩])
      (.block 0
       (.loop
        (.seq
         (.region [⟨(some 11), (.bin .lss (.t 10) (.c (.int .i64 12))), none⟩])
         (.seq
          (.cond (.t 11)
           .skip
           (.exit 0))
          (.seq
           (.block 1
            (.seq
             (.region [⟨(some 12), (.mov (.t 10)), none⟩, ⟨(some 6), (.mov (.t 12)), none⟩])
             (.region [⟨(some 13), (.mov (.t 6)), none⟩, ⟨(some 14), (.iar 12 1 (.t 5) (.t 13)), none⟩, ⟨none, (.st 1 (.t 14) (.c (.int .i64 (-1)))), none⟩])))
           (.region [⟨(some 15), (.bin .add (.t 10) (.c (.int .i64 1))), none⟩, ⟨(some 10), (.mov (.t 15)), none⟩])))))))
     (.seq
      (.region [⟨(some 7), (.new [(.bool false), (.bool false), (.bool false), (.bool false), (.bool false), (.bool false), (.bool false), (.bool false), (.bool false), (.bool false), (.bool false), (.bool false)]), none⟩])
      (.seq
       (.region [⟨(some 8), (.new [.nilFunc]), none⟩])
       (.seq
        (.region [⟨(some 16), (.fn (.func 77) [] [(.t 2), (.t 3), (.t 7), (.t 5), (.t 8)]), none⟩, ⟨none, (.st 1 (.t 8) (.t 16)), none⟩])
        (.seq
         (.seq
          (.region [⟨(some 17), (.fa 0 (.t 2)), none⟩, ⟨(some 18), (.fa 3 (.t 17)), none⟩, ⟨(some 19), (.ld false 1 (.t 18)), none⟩, ⟨(some 20), (.len (.t 19)), none⟩, ⟨(some 21), (.mov (.c (.int .i64 0))), none⟩])
          (.block 2
           (.loop
            (.seq
             (.region [⟨(some 22), (.bin .lss (.t 21) (.t 20)), none⟩])
             (.seq
              (.cond (.t 22)
               .skip
               (.exit 2))
              (.seq
               (.block 3
                (.seq
                 (.region [⟨(some 23), (.mov (.t 21)), none⟩, ⟨(some 9), (.mov (.t 23)), none⟩])
                 (.seq
                  (.region [⟨(some 24), (.bld [(.bool false), (.bool false), (.bool false), (.bool false), (.bool false), (.bool false), (.bool false), (.bool false), (.bool false), (.bool false), (.bool false), (.bool false)] []), none⟩, ⟨none, (.st 12 (.t 7) (.t 24)), none⟩])
                  (.seq
                   (.region [⟨(some 25), (.mov (.t 9)), none⟩, ⟨(some 26), (.iar 12 1 (.t 3) (.t 25)), none⟩, ⟨(some 27), (.ld false 1 (.t 26)), none⟩])
                   (.cond (.t 27)
                    (.region [⟨(some 28), (.ld false 1 (.t 8)), none⟩, ⟨(some 29), (.mov (.t 9)), none⟩, ⟨(some 30), (.call (.t 28) [(.t 29)]), none⟩])
                    .skip)))))
               (.region [⟨(some 31), (.bin .add (.t 21) (.c (.int .i64 1))), none⟩, ⟨(some 21), (.mov (.t 31)), none⟩])))))))
         (.seq
          (.region [⟨(some 32), (.ld true 12 (.t 5)), none⟩, ⟨none, (.st 12 (.t 4) (.t 32)), none⟩])
          .ret))))))))
def r54 : List AOp := [(.ld true 12 (.t 4))]
theorem ok54 : FnOk Try.prog 54 Try.f54.ntmps a54 r54 := ⟨Try.f54, Try.func54, by kernel_rfl, by kernel_rfl, by kernel_rfl, fun asv w => by simp⟩

/-- (layover/run.service).join$1 -/
def a77 : ACode :=
  (.seq
   (.region [⟨(some 7), (.mov (.c (.bool false))), none⟩])
   (.seq
    (.region [⟨(some 8), (.mov (.c (.int .i64 (-1)))), none⟩])
    (.seq
     .skip
     (.seq
      (.seq
       (.region [⟨(some 11), (.fa 5 (.t 1)), none⟩, ⟨(some 12), (.ld false 1 (.t 11)), none⟩, ⟨(some 13), (.mov (.t 0)), none⟩, ⟨(some 14), (.isl 1 (.t 12) (.t 13)), none⟩, ⟨(some 15), (.ld false 1 (.t 14)), none⟩, ⟨(some 16), (.len (.t 15)), none⟩, ⟨(some 17), (.mov (.c (.int .i64 0))), none⟩])
       (.block 0
        (.loop
         (.seq
          (.region [⟨(some 18), (.bin .lss (.t 17) (.t 16)), none⟩])
          (.seq
           (.cond (.t 18)
            .skip
            (.exit 0))
           (.seq
            (.block 1
             (.seq
              (.region [⟨(some 19), (.isl 1 (.t 15) (.t 17)), none⟩, ⟨(some 20), (.ld false 1 (.t 19)), none⟩, ⟨(some 10), (.mov (.t 20)), none⟩])
              (.seq
               (.block 2
                (.seq
                 (.region [⟨(some 22), (.mov (.t 10)), none⟩, ⟨(some 23), (.iar 12 1 (.t 2) (.t 22)), none⟩, ⟨(some 24), (.ld false 1 (.t 23)), none⟩, ⟨(some 25), (.not (.t 24)), none⟩, ⟨(some 26), (.mov (.t 25)), none⟩, ⟨(some 27), (.mov (.t 10)), (some (26, false))⟩, ⟨(some 28), (.iar 12 1 (.t 3) (.t 27)), (some (26, false))⟩, ⟨(some 29), (.ld false 1 (.t 28)), (some (26, false))⟩, ⟨(some 30), (.pick (.t 26) (.c (.bool true)) (.t 29)), none⟩, ⟨(some 21), (.mov (.t 30)), none⟩])
                 (.cond (.t 21)
                  (.exit 1)
                  (.seq
                   (.region [⟨(some 32), (.mov (.t 10)), none⟩, ⟨(some 33), (.iar 12 1 (.t 4) (.t 32)), none⟩, ⟨(some 34), (.ld false 1 (.t 33)), none⟩, ⟨(some 35), (.bin .eql (.t 34) (.c (.int .i64 (-1)))), none⟩, ⟨(some 31), (.mov (.t 35)), none⟩])
                   (.cond (.t 31)
                    (.seq
                     (.region [⟨(some 36), (.mov (.t 10)), none⟩, ⟨(some 8), (.mov (.t 36)), none⟩])
                     (.exit 0))
                    .skip)))))
               (.seq
                (.region [⟨(some 37), (.mov (.t 10)), none⟩, ⟨(some 38), (.iar 12 1 (.t 3) (.t 37)), none⟩, ⟨none, (.st 1 (.t 38) (.c (.bool true))), none⟩])
                (.seq
                 (.draw 5 [⟨⟨(some 39), (.ld false 1 (.t 5)), none⟩, 0, false, []⟩, ⟨⟨(some 40), (.mov (.t 10)), none⟩, 1, false, []⟩, ⟨⟨(some 41), (.iar 12 1 (.t 4) (.t 40)), none⟩, 2, false, []⟩, ⟨⟨(some 42), (.ld false 1 (.t 41)), none⟩, 3, false, []⟩, ⟨⟨(some 43), (.call (.t 39) [(.t 42)]), none⟩, 4, true, []⟩])
                 (.cond (.t 43)
                  (.seq
                   (.region [⟨(some 44), (.mov (.t 10)), none⟩, ⟨(some 8), (.mov (.t 44)), none⟩])
                   (.exit 0))
                  .skip))))))
            (.region [⟨(some 45), (.bin .add (.t 17) (.c (.int .i64 1))), none⟩, ⟨(some 17), (.mov (.t 45)), none⟩])))))))
      (.seq
       (.seq
        (.region [⟨(some 46), (.mov (.t 8)), none⟩, ⟨(some 47), (.bin .neq (.t 46) (.c (.int .i64 (-1)))), none⟩])
        (.cond (.t 47)
         (.region [⟨(some 48), (.mov (.t 8)), none⟩, ⟨(some 49), (.mov (.t 0)), none⟩, ⟨(some 50), (.iar 12 1 (.t 4) (.t 48)), none⟩, ⟨none, (.st 1 (.t 50) (.t 49)), none⟩])
         .skip))
       (.seq
        (.region [⟨(some 51), (.mov (.t 8)), none⟩, ⟨(some 52), (.bin .neq (.t 51) (.c (.int .i64 (-1)))), none⟩, ⟨(some 7), (.mov (.t 52)), none⟩])
        .ret))))))
def r77 : List AOp := [(.mov (.t 7))]
theorem ok77 : FnOk Try.prog 77 Try.f77.ntmps a77 r77 := ⟨Try.f77, Try.func77, by kernel_rfl, by kernel_rfl, by kernel_rfl, fun asv w => by simp⟩

/-- layover/run.Cut -/
def a26 : ACode :=
  (.seq
   (.region [⟨(some 1), (.box (.t 0)), none⟩, ⟨(some 2), (.mov (.c (.slice none 0 0))), none⟩, ⟨(some 3), (.mov (.c (.int .i64 0))), none⟩])
   (.seq
    (.seq
     (.region [⟨(some 6), (.ld true 4 (.t 1)), none⟩, ⟨(some 7), (.call (.c (.func (.func 18) #[] #[])) [(.t 6)]), none⟩, ⟨(some 4), (.mov (.t 7)), none⟩])
     (.seq
      (.region [⟨(some 8), (.mov (.t 4)), none⟩, ⟨(some 9), (.bin .neq (.t 8) (.c (.int .i64 0))), none⟩])
      (.cond (.t 9)
       (.seq
        (.region [⟨(some 10), (.mov (.t 4)), none⟩, ⟨(some 2), (.mov (.c (.slice none 0 0))), none⟩, ⟨(some 3), (.mov (.t 10)), none⟩])
        .ret)
       .skip)))
    (.seq
     (.region [⟨(some 11), (.ld true 4 (.t 1)), none⟩, ⟨(some 12), (.call (.c (.func (.func 51) #[] #[])) [(.t 11)]), none⟩, ⟨(some 5), (.new [(.int .i64 0), (.int .i64 0), (.slice none 0 0), (.slice none 0 0), .nilFunc, (.slice none 0 0)]), none⟩, ⟨none, (.st 6 (.t 5) (.t 12)), none⟩])
     (.seq
      (.draw 8 [⟨⟨(some 13), (.ld true 6 (.t 5)), none⟩, 0, false, []⟩, ⟨⟨(some 14), (.ld true 6 (.t 5)), none⟩, 1, false, []⟩, ⟨⟨(some 15), (.ld true 6 (.t 5)), none⟩, 2, false, []⟩, ⟨⟨(some 16), (.call (.c (.func (.func 55) #[] #[])) [(.t 15)]), none⟩, 3, true, [1, 0]⟩, ⟨⟨(some 17), (.call (.c (.func (.func 54) #[] #[])) [(.t 14), (.t 16)]), none⟩, 4, true, [0]⟩, ⟨⟨(some 18), (.call (.c (.func (.func 53) #[] #[])) [(.t 13), (.t 17)]), none⟩, 5, true, []⟩, ⟨⟨(some 2), (.mov (.t 18)), none⟩, 6, false, []⟩, ⟨⟨(some 3), (.mov (.c (.int .i64 0))), none⟩, 7, false, []⟩])
      .ret))))
def r26 : List AOp := [(.mov (.t 2)), (.mov (.t 3))]
theorem ok26 : FnOk Try.prog 26 Try.f26.ntmps a26 r26 := ⟨Try.f26, Try.func26, by kernel_rfl, by kernel_rfl, by kernel_rfl, fun asv w => by simp⟩

end Go.Proofs.Ytohohnpjilinmaa

/-
  Equality of two choices of trips, in the machine's words.
-/
namespace Go.Proofs.Ytohohnpjilinmaa
open Go Go.Ab

def chA (c : List Bool) : Array Value := (c.map Value.bool).toArray
abbrev chV (c : List Bool) : Value := .agg (chA c)

theorem chA_get {c : List Bool} {i : Nat} (h : i < c.length) : (chA c)[i]? = some (.bool c[i]) := by simp [chA, h]

theorem run_eqCh (x y : List Bool) (hx : x.length = 12) (hy : y.length = 12) (w : World) : (Op.equalIn 10000 93 (chV x) (chV y)).run Try.prog w = .ok (decide (x = y)) w := by
  have ha : ∀ w, (isAgg 4).run Try.prog w = .ok false w := fun w => run_isAgg Try.underlying4 w
  have he : ∀ (a b : Bool) w, (Op.equalIn 9999 4 (.bool a) (.bool b)).run Try.prog w = .ok (a == b) w := fun a b w => run_equalIn_bool' w 9998 4 a b Try.underlying4
  have hz0 : (Try.prog.info? 4).map (·.size) = some 1 := by kernel_rfl
  have hz : ∀ w, (sizeOf 4).run Try.prog w = .ok 1 w := fun w => by
    obtain ⟨j, h1, h2⟩ := Option.map_eq_some_iff.1 hz0
    rw [Go.Ab.run_sizeOf h1, h2]
  rw [show (10000 : Nat) = 9999 + 1 from rfl, Op.equalIn]
  simp only [Sem.run_bind, run_underlying Try.underlying93, Result.andThen_ok, hz]
  simp only [Std.Legacy.Range.forIn_eq_forIn_range', Std.Legacy.Range.size, Nat.sub_zero, Nat.add_sub_cancel, Nat.div_one]
  have key : ∀ (l : List Nat), (∀ i ∈ l, i < 12) → ∀ w, Sem.run Try.prog (forIn l ((none, ()) : Option Bool × Unit) fun i (_ : Option Bool × Unit) => (do
            let a ← part 4 (chA x) (i * 1)
            let b ← part 4 (chA y) (i * 1)
            let r ← Op.equalIn 9999 4 a b
            if (!r) = true then pure (ForInStep.done (some false, ())) else pure (ForInStep.yield (none, ())) : Sem (ForInStep (Option Bool × Unit)))) w = .ok (if ∀ i ∈ l, x[i]? = y[i]? then (none, ()) else (some false, ())) w := by
    intro l
    induction l with
    | nil => intro _ w; simp
    | cons i l ih =>
      intro hl w
      have hi := hl i (List.mem_cons_self)
      have hix : i < x.length := by omega
      have hiy : i < y.length := by omega
      have hpx : ∀ w, (part 4 (chA x) (i * 1)).run Try.prog w = .ok (.bool x[i]) w := fun w => by simp [part, ha, chA_get hix]
      have hpy : ∀ w, (part 4 (chA y) (i * 1)).run Try.prog w = .ok (.bool y[i]) w := fun w => by simp [part, ha, chA_get hiy]
      rw [List.forIn_cons]
      simp only [Sem.run_bind, hpx, hpy, he, Result.andThen_ok]
      have hq : (x[i]? = y[i]?) ↔ x[i] = y[i] := by simp [hix, hiy]
      by_cases hxy : x[i] = y[i]
      · simp only [hxy, beq_self_eq_true, Bool.not_true, Bool.false_eq_true, if_false, Sem.run_pure, Result.andThen_ok, List.mem_cons, forall_eq_or_imp, hq, true_and]
        exact ih (fun j hj => hl j (List.mem_cons_of_mem _ hj)) w
      · have : (x[i] == y[i]) = false := by simpa using hxy
        simp only [this, Bool.not_false, if_true, Sem.run_pure, Result.andThen_ok, List.mem_cons, forall_eq_or_imp, hq, hxy, false_and, if_false]
  rw [key _ (by simp)]
  have hiff : (∀ i ∈ List.range' 0 12, x[i]? = y[i]?) ↔ x = y := by
    constructor
    · intro h
      apply List.ext_getElem? 
      intro i
      by_cases hi : i < 12
      · exact h i (by simp [hi])
      · rw [List.getElem?_eq_none (by omega), List.getElem?_eq_none (by omega)]
    · rintro rfl i _; rfl
  by_cases hxy : x = y
  · rw [if_pos (hiff.2 hxy)]; simp [hxy]
  · rw [if_neg (fun h => hxy (hiff.1 h))]; simp [hxy]

theorem aval_eqCh {t : Nat → Value} {H : Heap} {N x y : Nat} {a b : List Bool} {d : Option Tmp} {ty U : TypeId} {pos : String} {af : Array Edge} {g : Option (Nat × Bool)} (hx : t x = chV a) (hy : t y = chV b) (h1 : x < N) (h2 : y < N) (ha : a.length = 12) (hb : b.length = 12) :
    aval Try.prog t H (.gen N ⟨d, .binOp .eql 93 (.tmp x) (.tmp y) U, ty, pos, af, g⟩) = some (.bool (decide (a = b))) := by
  have hf : ∀ c : List Bool, flat (chV c) = true := fun c => by simp [flat, chA, flat1]
  refine aval_gen ?_ rfl fun w => ?_
  · simp [Op.operands, flatO, hx, hy, h1, h2, hf]
  · have hg : Try.prog.eqGuardType Try.prog.depth 93 = false := by kernel_rfl
    simp only [execOp, evO, hx, hy, Sem.run_bind]
    rw [run_eqGuard_agg w .eql 93 _ _ _ _ hg]
    simp only [Result.andThen_ok, run_eql_struct]
    rw [run_eqCh a b ha hb]
    rfl

end Go.Proofs.Ytohohnpjilinmaa

/-
  Contracts of the choices of trips.
-/
namespace Go.Proofs.Ytohohnpjilinmaa
open Go Go.Ab

/-- The first n of twelve. -/
def upTo (n : Nat) : List Bool := (List.range 12).map fun k => decide (k < n)
theorem upTo_length (n : Nat) : (upTo n).length = 12 := by simp [upTo]
theorem upTo_set {n : Nat} (_h : n < 12) : (upTo n).set n true = upTo (n + 1) := by
  apply List.ext_getElem
  · simp [upTo]
  · intro i h1 h2
    simp only [upTo, List.getElem_set, List.getElem_map, List.getElem_range]
    split
    · subst_vars; simp
    · congr 1; apply propext; omega

theorem chA_toList (c : List Bool) : (chA c).toList = c.map Value.bool := by simp [chA]
theorem chA_size (c : List Bool) : (chA c).size = c.length := by simp [chA]
theorem map_one (c : List Bool) : (c.map Value.bool).all one = true := by simp [Function.comp_def]
theorem rdL_self {cs : List Value} {n : Nat} (h : cs.length = n) : rdL cs 0 n = some cs := by
  subst h; simp [rdL]
theorem map_set_bool (c : List Bool) (i : Nat) (b : Bool) : (c.map Value.bool).set i (.bool b) = (c.set i b).map Value.bool := by rw [List.map_set]

theorem allTrips_spec {e s f : Value} {T : Tab} {H : Heap} (h : TabAt H e s T) (hfew : T.trips.length ≤ 12) : AFun Try.prog 55 [svcV T e s f] H (fun v H' => v = chV (upTo T.trips.length) ∧ Ge H H') := by
  refine AFun.mk ok55 hm (Nat.le_of_ble_eq_true rfl) ?_
  simp [a55, r55, h.trips.lenV]
  refine floop_intro (fun z => z.d = [] ∧ Ge H z.H ∧ H.next + 3 ≤ z.H.next ∧ z.t 2 = .pointer (some ⟨H.next + 1, 0, none⟩) ∧ z.t 3 = .pointer (some ⟨H.next + 2, 0, none⟩) ∧ z.H.get (H.next + 1) = .cells true (List.replicate 12 (.bool false)) 12 ∧ z.t 8 = .int .i64 T.trips.length ∧
    ∃ i : Nat, i ≤ T.trips.length ∧ z.t 9 = .int .i64 i ∧ z.H.get (H.next + 2) = .cells true ((upTo i).map .bool) 12) (fun z => T.trips.length - (intOf (z.t 9)).toNat) ?_ ?_
  · refine ⟨rfl, ?_, by simp, by simp, by simp, by simp, by simp, 0, by simp, by simp, by simp; rfl⟩
    exact ((Ge.new _ _).newOf _).newOf _
  · rintro ⟨t, _, A⟩ ⟨rfl, g, hn, t2, t3, hb1, t8, i, hi, t9, hb2⟩
    dsimp only at g hn t2 t3 hb1 t8 t9 hb2
    have hl := upTo_length i
    simp [t8, t9]
    refine fcond_intro (fun hc => ?_) (fun hc => ?_)
    · have hi' : i < T.trips.length := by simpa using hc
      have hiar : iarV 12 1 (.pointer (some ⟨H.next + 2, 0, none⟩)) (.int .i64 i) = some (.pointer (some ⟨H.next + 2, i, none⟩)) := by
        rw [iarV_in (by omega) (by omega)]; simp
      have hw : wrL ((upTo i).map Value.bool) i [.bool true] = (upTo (i + 1)).map .bool := by
        rw [wrL_one _ _ _ (by simp; omega), map_set_bool, upTo_set (by omega)]
      simp [t3, hiar, hb2, hl, hw, t9, add_in (x := i) (y := 1) (by omega) (by omega), (by omega : i + 1 ≤ 12)]
      refine ⟨⟨Ge.setNew g (by omega) _, hn, t2, hb1, t8, i + 1, by omega, by omega, rfl⟩, by omega⟩
    · have hi' : i = T.trips.length := by simp at hc; omega
      subst hi'
      have hs : wrL (List.replicate 12 (.bool false)) 0 ((upTo T.trips.length).map Value.bool) = (upTo T.trips.length).map Value.bool := by
        simp [wrL, hl]
      simp [t2, t3, hb1, hb2, rdL_self (cs := (upTo T.trips.length).map Value.bool) (n := 12) (by simp [hl]), hl, Function.comp_def]
      exact ⟨by simp [chA], Ge.setNew g (by omega) _⟩

theorem validNumber_spec {e s f : Value} {T : Tab} {H : Heap} {x : Int} (h : TabAt H e s T) : AFun Try.prog 78 [svcV T e s f, .int .i64 x] H (fun v H' => v = .bool (decide (0 ≤ x) && decide (x ≤ T.trips.length - 1)) ∧ Ge H H') := by
  refine AFun.mk ok78 hm (Nat.le_of_ble_eq_true rfl) ?_
  have h62 := h.trips.2
  simp [a78, r78, h.trips.lenV, sub_in (x := T.trips.length) (y := 1) (by omega) (by omega)]
  refine fcall_fun (within_spec _ _ _ _) ?_
  rintro _ _ ⟨rfl, rfl⟩
  simp

end Go.Proofs.Ytohohnpjilinmaa


/-
  The contract of the program's check of a cutting.
-/
namespace Go.Proofs.Ytohohnpjilinmaa
open Go Go.Ab

def Tab.num (T : Tab) (x : Int) : Bool := decide (0 ≤ x) && decide (x ≤ T.trips.length - 1)

/-- A trip of a block is looked at. -/
def tripStep (T : Tab) (b : List Int) (d : List Bool) (k : Nat) : Option (List Bool) :=
  if d[(b[k]?.getD 0).toNat]?.getD false then none
  else if decide (0 < k) && !T.mayN (b[k - 1]?.getD 0).toNat (b[k]?.getD 0).toNat then none
  else some (d.set (b[k]?.getD 0).toNat true)

def blockStep (T : Tab) (d : List Bool) (b : List Int) : Option (List Bool) :=
  if b.length = 0 then none else if b.all T.num then (List.range b.length).foldlM (tripStep T b) d else none

def isCutL (T : Tab) (blocks : List (List Int)) : Bool := match blocks.foldlM (blockStep T) (List.replicate 12 false) with
  | none => false
  | some d => decide (d = upTo T.trips.length)

theorem isCutL_none {T : Tab} {blocks : List (List Int)} (h : blocks.foldlM (blockStep T) (List.replicate 12 false) = none) : isCutL T blocks = false := by unfold isCutL; rw [h]
theorem isCutL_some {T : Tab} {blocks : List (List Int)} {d : List Bool} (h : blocks.foldlM (blockStep T) (List.replicate 12 false) = some d) : isCutL T blocks = decide (d = upTo T.trips.length) := by unfold isCutL; rw [h]

theorem foldlM_none {α β : Type} {f : β → α → Option β} {l : List α} {i : Nat} {a : β} (h : (l.take i).foldlM f a = none) : l.foldlM f a = none := by
  rw [← List.take_append_drop i l, List.foldlM_append, h]; rfl
theorem foldlM_range_none {β : Type} {f : β → Nat → Option β} {n i : Nat} {a : β} (hi : i ≤ n) (h : (List.range i).foldlM f a = none) : (List.range n).foldlM f a = none := by
  have : List.range i = (List.range n).take i := by simp [List.take_range, Nat.min_eq_left hi]
  rw [this] at h
  exact foldlM_none h
theorem foldlM_take_succ {α β : Type} {f : β → α → Option β} {l : List α} {i : Nat} {a d : β} (hi : i < l.length) (h : (l.take i).foldlM f a = some d) : (l.take (i + 1)).foldlM f a = f d l[i] := by
  rw [List.take_succ_eq_append_getElem hi, List.foldlM_append, h]
  simp
theorem foldlM_range_succ {β : Type} {f : β → Nat → Option β} {i : Nat} {a d : β} (h : (List.range i).foldlM f a = some d) : (List.range (i + 1)).foldlM f a = f d i := by
  rw [List.range_succ, List.foldlM_append, h]
  simp

theorem may_specI {e s f : Value} {T : Tab} {H : Heap} {x y : Int} (h : TabAt H e s T) (hT : Valid T) (hx : T.num x = true) (hy : T.num y = true) :
    AFun Try.prog 79 [svcV T e s f, .int .i64 x, .int .i64 y] H (fun r H' => r = .bool (T.mayN x.toNat y.toNat) ∧ Ge H H') := by
  simp [Tab.num] at hx hy
  have h1 : x.toNat < T.trips.length := by omega
  have h2 : y.toNat < T.trips.length := by omega
  have := may_spec (f := f) h hT h1 h2
  rw [← Tab.mayN_eq h1 h2, Int.toNat_of_nonneg hx.1, Int.toNat_of_nonneg hy.1] at this
  exact this

theorem isCutting_spec {e s f bv : Value} {T : Tab} {H : Heap} {blocks : List (List Int)} (h : TabAt H e s T) (hT : Valid T) (hb : RowsAt H bv blocks) :
    AFun Try.prog 56 [svcV T e s f, bv] H (fun v H' => v = .bool (isCutL T blocks) ∧ Ge H H') := by
  refine AFun.mk ok56 hm (Nat.le_of_ble_eq_true rfl) ?_
  have hfew := hT.few
  have h62 := hb.lt
  simp [a56, r56, hb.lenV]
  refine floop_intro (fun z => z.d = [] ∧ Ge H z.H ∧ H.next + 2 ≤ z.H.next ∧ z.t 2 = .pointer (some ⟨H.next, 0, none⟩) ∧ z.t 5 = .pointer (some ⟨H.next + 1, 0, none⟩) ∧
    z.H.get H.next = .cells true [.int .i64 T.places, .int .i64 T.layover, e, s, .func (.func 74) #[] #[], f] 6 ∧ z.t 10 = bv ∧ z.t 11 = .int .i64 blocks.length ∧
    ∃ (i : Nat) (d : List Bool), i ≤ blocks.length ∧ z.t 12 = .int .i64 i ∧ d.length = 12 ∧ (blocks.take i).foldlM (blockStep T) (List.replicate 12 false) = some d ∧ z.H.get (H.next + 1) = .cells true (d.map .bool) 12) (fun z => blocks.length - (intOf (z.t 12)).toNat) ?_ ?_
  · refine ⟨rfl, (Ge.new _ _).newOf _, by simp, by simp, by simp, by simp, by simp, by simp, 0, List.replicate 12 false, by simp, by simp, by simp, by simp, by simp⟩
  rintro ⟨t, _, A⟩ ⟨rfl, g, hn, t2, t5, hbx, t10, t11, i, d, hi, t12, hdl, hfold, hd⟩
  dsimp only at g hn t2 t5 hbx t10 t11 t12 hd
  simp [t11, t12]
  refine fcond_intro (fun hc => ?_) (fun hc => ?_)
  · have hi' : i < blocks.length := by simpa using hc
    obtain ⟨p, u, e1, e2, e3⟩ := hb.atGe g hi'
    have hnext := foldlM_take_succ hi' hfold
    simp [t10, t12, e1, e2, e3.lenV]
    by_cases h0 : blocks[i] = []
    · have hcut := isCutL_none (foldlM_none (i := i + 1) (by rw [hnext]; simp [blockStep, h0]))
      simp [h0, hcut, g]
    · simp [h0, t2, hbx]
      refine fcall_fun (every_int_spec (p := T.num) (e3.ge g) fun x B gB => ACall.of_fun ((validNumber_spec (x := x) ((h.ge g).ge gB)).mono ?_)) ?_
      · rintro v B' ⟨rfl, gB'⟩; exact ⟨rfl, gB'⟩
      rintro _ B ⟨rfl, gB⟩
      have G := g.trans gB
      by_cases hall : blocks[i].all T.num = true
      case neg =>
        rw [Bool.not_eq_true] at hall
        have hcut := isCutL_none (foldlM_none (i := i + 1) (by rw [hnext]; simp [blockStep, h0, hall]))
        simp [h0, hall, hcut, G]
      have hstep : blockStep T d blocks[i] = (List.range blocks[i].length).foldlM (tripStep T blocks[i]) d := by
        simp only [blockStep, hall, if_true]; rw [if_neg (by simpa using h0)]
      rw [hstep] at hnext
      have hlb := e3.2
      simp [h0, hall, e3.lenV]
      refine floop_intro (fun z => z.d = [] ∧ Ge H z.H ∧ H.next + 2 ≤ z.H.next ∧ z.t 2 = .pointer (some ⟨H.next, 0, none⟩) ∧ z.t 5 = .pointer (some ⟨H.next + 1, 0, none⟩) ∧
        z.H.get H.next = .cells true [.int .i64 T.places, .int .i64 T.layover, e, s, .func (.func 74) #[] #[], f] 6 ∧ z.t 10 = bv ∧ z.t 11 = .int .i64 blocks.length ∧ z.t 12 = .int .i64 i ∧ z.t 7 = u ∧ z.t 26 = u ∧ z.t 27 = .int .i64 blocks[i].length ∧
        ∃ (j : Nat) (d' : List Bool), j ≤ blocks[i].length ∧ z.t 28 = .int .i64 j ∧ d'.length = 12 ∧ (List.range j).foldlM (tripStep T blocks[i]) d = some d' ∧ z.H.get (H.next + 1) = .cells true (d'.map .bool) 12) (fun z => blocks[i].length - (intOf (z.t 28)).toNat) ?_ ?_
      · have kb := gB.got (by omega) hbx
        have kd := gB.got (by omega) hd
        exact ⟨rfl, G, by have := gB.next; simp; omega, by simp [t2], by simp [t5], kb, by simp [t10], by simp [t11], by simp [t12], by simp, by simp, by simp, 0, d, by simp, by simp, hdl, by simp, kd⟩
      rintro ⟨w, _, C⟩ ⟨rfl, g', hn', w2, w5, hbx', w10, w11, w12, w7, w26, w27, j, d', hj, w28, hdl', hfold', hd'⟩
      dsimp only at g' hn' w2 w5 hbx' w10 w11 w12 w7 w26 w27 w28 hd'
      simp [w27, w28]
      refine fcond_intro (fun hc => ?_) (fun hc => ?_)
      · have hj' : j < blocks[i].length := by simpa using hc
        have hu := e3.ge g'
        obtain ⟨p', f1, f2⟩ := hu.at hj'
        have hx := List.all_eq_true.1 hall _ (List.getElem_mem hj')
        simp [Tab.num] at hx
        have hx12 : blocks[i][j].toNat < 12 := by omega
        have hiar : iarV 12 1 (.pointer (some ⟨H.next + 1, 0, none⟩)) (.int .i64 blocks[i][j]) = some (.pointer (some ⟨H.next + 1, blocks[i][j].toNat, none⟩)) := by
          rw [iarV_in (by omega) (by omega)]; simp
        have hdx : (d'.map Value.bool)[blocks[i][j].toNat]? = some (.bool d'[blocks[i][j].toNat]) := by simp [hdl', hx12]
        simp [w26, w28, f1, f2, w5, hiar, hd', hdx]
        have hbj : blocks[i][j]?.getD 0 = blocks[i][j] := by simp [hj']
        have hdj : d'[blocks[i][j].toNat]?.getD false = d'[blocks[i][j].toNat]'(by omega) := by simp [hdl', hx12]
        have hone := foldlM_range_succ hfold'
        rw [tripStep, hbj, hdj] at hone
        generalize d'[blocks[i][j].toNat]'(by omega) = dv at hone
        cases dv
        · simp at hone
          simp
          have hst : ∀ B : Heap, B.get (H.next + 1) = .cells true (d'.map Value.bool) 12 → stV B 1 (.pointer (some ⟨H.next + 1, blocks[i][j].toNat, none⟩)) (.bool true) = some (B.set (H.next + 1) (.cells true ((d'.set blocks[i][j].toNat true).map .bool) 12)) := by
            intro B hB
            rw [stV_at hB (by simp) (by simp; omega) (by simp)]
            have : wrL (d'.map Value.bool) blocks[i][j].toNat [.bool true] = (d'.set blocks[i][j].toNat true).map .bool := by
              rw [wrL_one _ _ _ (by simp; omega), map_set_bool]
            simp [this]
          by_cases hj0 : 0 < j
          · have e1' : (j : Int) - 1 = ((j - 1 : Nat) : Int) := by omega
            obtain ⟨p2, k1, k2⟩ := (hu.ge (Ge.more C 18)).at (i := j - 1) (by omega)
            have hb2 : blocks[i][j - 1]?.getD 0 = blocks[i][j - 1] := by simp [(by omega : j - 1 < blocks[i].length)]
            rw [hb2] at hone
            simp [hj0] at hone
            simp [hj0, w2, w7, hbx', sub_in (x := j) (y := 1) (by omega) (by omega), e1', k1, k2]
            have hx2 : T.num blocks[i][j - 1] = true := List.all_eq_true.1 hall _ (List.getElem_mem _)
            refine fcall_fun (may_specI ((h.ge g').ge (Ge.more C 18)) hT hx2 (List.all_eq_true.1 hall _ (List.getElem_mem hj'))) ?_
            rintro _ D ⟨rfl, gD⟩
            have GD := (g'.grow 18).trans gD
            have kb := gD.got (by simp; omega) hbx'
            have kd := gD.got (by simp; omega) hd'
            have nD : H.next + 2 ≤ D.next := by have := gD.next; simp at this; omega
            cases hmay : T.mayN blocks[i][j - 1].toNat blocks[i][j].toNat
            · rw [hmay] at hone
              simp at hone
              have hcut := isCutL_none (foldlM_none (i := i + 1) (by rw [hnext]; exact foldlM_range_none (i := j + 1) (by omega) hone))
              simp [hcut, hj0]
              exact GD
            · rw [hmay] at hone
              simp at hone
              simp [hj0, w5, hiar, hst D kd, w28, add_in (x := j) (y := 1) (by omega) (by omega)]
              refine ⟨⟨Ge.setNew GD (by omega) _, nD, w2, kb, w10, w11, w12, w7, w26, w27, j + 1, by omega, by omega, _, ?_, hone, by rw [map_set_bool]⟩, by omega⟩
              simp [hdl']
          · simp [hj0] at hone
            have hs2 := hst ⟨C.get, C.next + 18⟩ hd'
            simp at hs2
            simp [hj0, w5, hiar, hs2, w28, add_in (x := j) (y := 1) (by omega) (by omega)]
            refine ⟨⟨Ge.setNew (g'.grow 18) (by omega) _, by omega, w2, hbx', w10, w11, w12, w7, w26, w27, j + 1, by omega, by omega, _, ?_, hone, by rw [map_set_bool]⟩, by omega⟩
            simp [hdl']
        · simp at hone
          have hcut := isCutL_none (foldlM_none (i := i + 1) (by rw [hnext]; exact foldlM_range_none (i := j + 1) (by omega) hone))
          simp [hcut]
          exact g'.grow 18
      · have hj' : j = blocks[i].length := by simp at hc; omega
        subst hj'
        simp [w12, add_in (x := i) (y := 1) (by omega) (by omega)]
        exact ⟨⟨g', hn', w2, w5, hbx', w10, w11, i + 1, by omega, by omega, d', hdl', hnext.trans hfold', hd'⟩, by simp [t12]; omega⟩
  · have hi' : i = blocks.length := by simp at hc; omega
    subst hi'
    rw [List.take_length] at hfold
    have hr := rdL_self (cs := d.map Value.bool) (n := 12) (by simp [hdl])
    simp [t2, t5, hbx, hd, hr]
    refine fcall_fun (allTrips_spec ((h.ge g).ge (Ge.more A 5)) hfew) ?_
    rintro _ B ⟨rfl, gB⟩
    have kb := gB.got (n := H.next + 1) (by simp; omega) hd
    simp [t5, kb, hr]
    rw [aval_eqCh (a := d) (b := upTo T.trips.length) (by simp [chA]) (by simp) (by decide) (by decide) hdl (upTo_length _)]
    simp [isCutL_some hfold]
    exact (g.grow 5).trans gB

end Go.Proofs.Ytohohnpjilinmaa

/-
  The contracts of ProveCut and of what turns leaders into followers.
-/
namespace Go.Proofs.Ytohohnpjilinmaa
open Go Go.Ab

theorem proveCut_spec {e s bv : Value} {T : Tab} {H : Heap} {blocks : List (List Int)} (h : TabAt H e s T) (hb : RowsAt H bv blocks) :
    AFun Try.prog 27 [tabV T e s, bv] H (fun v H' => v = .bool (decide (checkT T = 0) && isCutL T blocks) ∧ Ge H H') := by
  refine AFun.mk ok27 hm (Nat.le_of_ble_eq_true rfl) ?_
  simp [a27, r27]
  refine fcall_fun (checkTable_spec (h.ge (by simp))) ?_
  rintro _ H1 ⟨rfl, g1⟩
  have G1 : Ge H H1 := Ge.trans (by simp) g1
  have b1 := g1.got (n := H.next) (by simp) rfl
  simp at b1
  by_cases hc : checkT T = 0
  · simp [hc, b1]
    refine fcall_fun (newService_spec (h.ge G1) (checkT_zero.1 hc)) ?_
    rintro _ H2 ⟨f, rfl, g2, _⟩
    have G2 := G1.trans g2
    simp [hc]
    refine fcall_fun (isCutting_spec (h.ge G2) (checkT_zero.1 hc) (hb.ge G2)) ?_
    rintro _ H3 ⟨rfl, g3⟩
    simp [hc, G2.trans g3]
  · simp [hc, G1]

end Go.Proofs.Ytohohnpjilinmaa

/-
  How trips are given followers: the same in plain words.
-/
namespace Go.Proofs.Ytohohnpjilinmaa

/-- Who leads each trip, and which were asked for. -/
structure JS where
  led : List Int
  asked : List Bool

def scanL (g : Nat → JS → Bool × JS) (looked : List Bool) : List Int → JS → Option Int × JS
  | [], z => (none, z)
  | x :: l, z =>
    if !(looked[x.toNat]?.getD false) || z.asked[x.toNat]?.getD false then scanL g looked l z
    else if z.led[x.toNat]?.getD 0 = -1 then (some x, z)
    else
      let r := g (z.led[x.toNat]?.getD 0).toNat { z with asked := z.asked.set x.toNat true }
      if r.1 then (some x, r.2) else scanL g looked l r.2

def giveL (F : List (List Int)) (looked : List Bool) : Nat → Nat → JS → Bool × JS
  | 0, _, z => (false, z)
  | n + 1, trip, z =>
    let r := scanL (giveL F looked n) looked (F[trip]?.getD []) z
    match r.1 with
    | some x => (true, { r.2 with led := r.2.led.set x.toNat trip })
    | none => (false, r.2)

structure JS.Ok (n : Nat) (z : JS) : Prop where
  led : z.led.length = 12
  asked : z.asked.length = 12
  num : ∀ x ∈ z.led, x = -1 ∨ (0 ≤ x ∧ x < n)

theorem count_set_true {a : List Bool} {i : Nat} (h : i < a.length) (hf : a[i] = false) : (a.set i true).count false + 1 = a.count false := by
  induction a generalizing i with
  | nil => simp at h
  | cons x l ih =>
    cases i with
    | zero => simp at hf; subst hf; simp
    | succ i =>
      simp at h hf
      have := ih h hf
      simp [List.count_cons]
      omega

def FollOk (n : Nat) (F : List (List Int)) : Prop := F.length = n ∧ n ≤ 12 ∧ ∀ l ∈ F, ∀ x ∈ l, 0 ≤ x ∧ x < (n : Int)

theorem scanL_ok {n : Nat} {g : Nat → JS → Bool × JS} {looked : List Bool} (hn : n ≤ 12) (hg : ∀ t z, t < n → z.Ok n → (g t z).2.Ok n ∧ (g t z).2.asked.count false ≤ z.asked.count false) :
    ∀ (l : List Int) (z : JS), (∀ x ∈ l, 0 ≤ x ∧ x < (n : Int)) → z.Ok n →
      (scanL g looked l z).2.Ok n ∧ (scanL g looked l z).2.asked.count false ≤ z.asked.count false ∧ (∀ x, (scanL g looked l z).1 = some x → x ∈ l)
  | [], z, _, hz => by simp [scanL, hz]
  | x :: l, z, hl, hz => by
    have hx := hl x (List.mem_cons_self)
    have hl' : ∀ y ∈ l, 0 ≤ y ∧ y < (n : Int) := fun y hy => hl y (List.mem_cons_of_mem _ hy)
    have hxl : x.toNat < z.led.length := by rw [hz.led]; omega
    have hxa : x.toNat < z.asked.length := by rw [hz.asked]; omega
    unfold scanL
    split
    · obtain ⟨h1, h2, h3⟩ := scanL_ok hn hg l z hl' hz
      exact ⟨h1, h2, fun y hy => List.mem_cons_of_mem _ (h3 y hy)⟩
    · rename_i hc
      split
      · refine ⟨hz, Nat.le_refl _, fun y hy => ?_⟩
        simp at hy; simp [hy]
      · rename_i hd
        have hd' : z.led[x.toNat] ≠ -1 := by simpa [hxl] using hd
        have ha : z.asked[x.toNat] = false := by
          simp [hxa] at hc; exact hc.2
        have hm := hz.num _ (List.getElem_mem hxl)
        have hz1 : JS.Ok n { z with asked := z.asked.set x.toNat true } := ⟨hz.led, by simpa using hz.asked, hz.num⟩
        have hcnt := count_set_true hxa ha
        have e : z.led[x.toNat]?.getD 0 = z.led[x.toNat] := by simp [hxl]
        obtain ⟨k1, k2⟩ := hg (z.led[x.toNat]?.getD 0).toNat { z with asked := z.asked.set x.toNat true } (by rw [e]; omega) hz1
        simp only at k2
        dsimp only
        split
        · refine ⟨k1, Nat.le_trans k2 (by omega), fun y hy => ?_⟩
          simp at hy; simp [hy]
        · obtain ⟨h1, h2, h3⟩ := scanL_ok hn hg l _ hl' k1
          exact ⟨h1, Nat.le_trans h2 (Nat.le_trans k2 (by omega)), fun y hy => List.mem_cons_of_mem _ (h3 y hy)⟩

theorem giveL_ok {n : Nat} {F : List (List Int)} {looked : List Bool} (hF : FollOk n F) : ∀ (k t : Nat) (z : JS), t < n → z.Ok n → (giveL F looked k t z).2.Ok n ∧ (giveL F looked k t z).2.asked.count false ≤ z.asked.count false
  | 0, t, z, _, hz => ⟨hz, Nat.le_refl _⟩
  | k + 1, t, z, ht, hz => by
    have hrow : F[t]?.getD [] ∈ F := by
      have : t < F.length := by rw [hF.1]; exact ht
      simp [this]
    obtain ⟨h1, h2, h3⟩ := scanL_ok hF.2.1 (fun t z => giveL_ok hF k t z) (looked := looked) (F[t]?.getD []) z (hF.2.2 _ hrow) hz
    simp only [giveL]
    split
    · rename_i x hx
      refine ⟨⟨by simpa using h1.led, h1.asked, fun y hy => ?_⟩, h2⟩
      rcases List.mem_or_eq_of_mem_set hy with hy | rfl
      · exact h1.num y hy
      · right; omega
    · exact ⟨h1, h2⟩

end Go.Proofs.Ytohohnpjilinmaa

/-
  The contract of the function that gives a trip a follower.
-/
namespace Go.Proofs.Ytohohnpjilinmaa
open Go Go.Ab

/-- The names of what give reads and turns. -/
structure JN where
  s : Nat
  l : Nat
  a : Nat
  d : Nat
  g : Nat

def JN.caps (b : JN) : List Value := [.pointer (some ⟨b.s, 0, none⟩), .pointer (some ⟨b.l, 0, none⟩), .pointer (some ⟨b.a, 0, none⟩), .pointer (some ⟨b.d, 0, none⟩), .pointer (some ⟨b.g, 0, none⟩)]

structure JEnv (T : Tab) (H0 H : Heap) (b : JN) (e s f : Value) (looked : List Bool) (z : JS) : Prop where
  ge : Ge H0 H
  lo : H0.next ≤ b.s ∧ H0.next ≤ b.l ∧ H0.next ≤ b.a ∧ H0.next ≤ b.d ∧ H0.next ≤ b.g
  lt : b.s < H.next ∧ b.l < H.next ∧ b.a < H.next ∧ b.d < H.next ∧ b.g < H.next
  na : b.s ≠ b.a ∧ b.l ≠ b.a ∧ b.d ≠ b.a ∧ b.g ≠ b.a
  nd : b.s ≠ b.d ∧ b.l ≠ b.d ∧ b.a ≠ b.d ∧ b.g ≠ b.d
  svc : H.get b.s = .cells true [.int .i64 T.places, .int .i64 T.layover, e, s, .func (.func 74) #[] #[], f] 6
  look : H.get b.l = .cells true (looked.map .bool) 12
  ask : H.get b.a = .cells true (z.asked.map .bool) 12
  led : H.get b.d = .cells true (z.led.map (.int .i64)) 12
  give : H.get b.g = .cells true [.func (.func 77) #[] b.caps.toArray] 1

theorem map_one_int (c : List Int) : (c.map (Value.int .i64)).all one = true := by simp [Function.comp_def]
theorem map_set_int (c : List Int) (i : Nat) (x : Int) : (c.map (Value.int .i64)).set i (.int .i64 x) = (c.set i x).map (.int .i64) := by rw [List.map_set]

theorem JEnv.setAsk {T : Tab} {H0 H : Heap} {b : JN} {e s f : Value} {looked : List Bool} {z : JS} (h : JEnv T H0 H b e s f looked z) (a : List Bool) :
    JEnv T H0 (H.set b.a (.cells true (a.map .bool) 12)) b e s f looked { z with asked := a } where
  ge := Ge.setNew h.ge h.lo.2.2.1 _
  lo := h.lo
  lt := h.lt
  na := h.na
  nd := h.nd
  svc := by simp [h.na.1, h.svc]
  look := by simp [h.na.2.1, h.look]
  ask := by simp
  led := by simp [h.na.2.2.1, h.led]
  give := by simp [h.na.2.2.2, h.give]

theorem JEnv.setLed {T : Tab} {H0 H : Heap} {b : JN} {e s f : Value} {looked : List Bool} {z : JS} (h : JEnv T H0 H b e s f looked z) (a : List Int) :
    JEnv T H0 (H.set b.d (.cells true (a.map (.int .i64)) 12)) b e s f looked { z with led := a } where
  ge := Ge.setNew h.ge h.lo.2.2.2.1 _
  lo := h.lo
  lt := h.lt
  na := h.na
  nd := h.nd
  svc := by simp [h.nd.1, h.svc]
  look := by simp [h.nd.2.1, h.look]
  ask := by simp [h.nd.2.2.1, h.ask]
  led := by simp
  give := by simp [h.nd.2.2.2, h.give]

theorem JEnv.grow {T : Tab} {H0 H : Heap} {b : JN} {e s f : Value} {looked : List Bool} {z : JS} (h : JEnv T H0 H b e s f looked z) (k : Nat) :
    JEnv T H0 ⟨H.get, H.next + k⟩ b e s f looked z where
  ge := h.ge.grow k
  lo := h.lo
  lt := by have := h.lt; simp; omega
  na := h.na
  nd := h.nd
  svc := h.svc
  look := h.look
  ask := h.ask
  led := h.led
  give := h.give

/-- All but two names are as they were. -/
structure Keep (b : JN) (A B : Heap) : Prop where
  next : A.next ≤ B.next
  get : ∀ n, n < A.next → n ≠ b.a → n ≠ b.d → B.get n = A.get n

theorem Keep.refl (b : JN) (A : Heap) : Keep b A A := ⟨Nat.le_refl _, fun _ _ _ _ => rfl⟩
theorem Keep.trans {b : JN} {A B C : Heap} (h : Keep b A B) (k : Keep b B C) : Keep b A C := ⟨Nat.le_trans h.next k.next, fun n hn h1 h2 => (k.get n (Nat.lt_of_lt_of_le hn h.next) h1 h2).trans (h.get n hn h1 h2)⟩
theorem Keep.setA {b : JN} {A B : Heap} (h : Keep b A B) (x : AObj) : Keep b A (B.set b.a x) := ⟨h.next, fun n hn h1 h2 => by rw [Heap.set_get, if_neg h1]; exact h.get n hn h1 h2⟩
theorem Keep.setD {b : JN} {A B : Heap} (h : Keep b A B) (x : AObj) : Keep b A (B.set b.d x) := ⟨h.next, fun n hn h1 h2 => by rw [Heap.set_get, if_neg h2]; exact h.get n hn h1 h2⟩
theorem Keep.grow {b : JN} {A B : Heap} (h : Keep b A B) (k : Nat) : Keep b A ⟨B.get, B.next + k⟩ := ⟨Nat.le_trans h.next (Nat.le_add_right _ _), h.get⟩

theorem iar12 {n : Nat} {x : Int} (h0 : 0 ≤ x) (h1 : x < 12) : iarV 12 1 (.pointer (some ⟨n, 0, none⟩)) (.int .i64 x) = some (.pointer (some ⟨n, x.toNat, none⟩)) := by
  rw [iarV_in (by omega) (by omega)]; simp

theorem give_spec {T : Tab} {H0 : Heap} {b : JN} {e s f : Value} {looked : List Bool} {F : List (List Int)} {n : Nat} (hF : FollOk n F) (hl : looked.length = 12) (hrows : RowsAt H0 f F) :
    ∀ (k : Nat) (A : Heap) (z : JS) (trip : Nat), JEnv T H0 A b e s f looked z → z.Ok n → trip < n → z.asked.count false < k →
      AFun Try.prog 77 (.int .i64 trip :: b.caps) A (fun v B => v = .bool (giveL F looked k trip z).1 ∧ JEnv T H0 B b e s f looked (giveL F looked k trip z).2 ∧ Keep b A B)
  | 0, _, _, _, _, _, _, h => by omega
  | k + 1, A, z, trip, hJ, hz, ht, hk => by
    refine AFun.mk ok77 hm (Nat.le_of_ble_eq_true rfl) ?_
    have htF : trip < F.length := by rw [hF.1]; exact ht
    have hn12 := hF.2.1
    obtain ⟨p, u, e1, e2, e3⟩ := hrows.atGe hJ.ge htF
    have hb := hJ.svc
    simp [a77, r77, JN.caps, hb, e1, e2, e3.lenV]
    have hlb := e3.2
    have eF : F[trip]?.getD [] = F[trip] := by simp [htF]
    refine floop_intro (fun y => y.d = [] ∧ y.t 0 = .int .i64 trip ∧ y.t 1 = .pointer (some ⟨b.s, 0, none⟩) ∧ y.t 2 = .pointer (some ⟨b.l, 0, none⟩) ∧ y.t 3 = .pointer (some ⟨b.a, 0, none⟩) ∧ y.t 4 = .pointer (some ⟨b.d, 0, none⟩) ∧ y.t 5 = .pointer (some ⟨b.g, 0, none⟩) ∧
      y.t 8 = .int .i64 (-1) ∧ y.t 15 = u ∧ y.t 16 = .int .i64 F[trip].length ∧ Keep b A y.H ∧
      ∃ (i : Nat) (z' : JS), i ≤ F[trip].length ∧ y.t 17 = .int .i64 i ∧ JEnv T H0 y.H b e s f looked z' ∧ z'.Ok n ∧ z'.asked.count false ≤ z.asked.count false ∧ scanL (giveL F looked k) looked F[trip] z = scanL (giveL F looked k) looked (F[trip].drop i) z') (fun y => F[trip].length - (intOf (y.t 17)).toNat) ?_ ?_
    · exact ⟨rfl, by simp, by simp, by simp, by simp, by simp, by simp, by simp, by simp, by simp, Keep.refl b A, 0, z, by simp, by simp, hJ, hz, Nat.le_refl _, by simp⟩
    rintro ⟨t, _, B⟩ ⟨rfl, t0, t1, t2, t3, t4, t5, t8, t15, t16, hK, i, z', hi, t17, hJ', hz', hcnt, hscan⟩
    dsimp only at t0 t1 t2 t3 t4 t5 t8 t15 t16 hK t17 hJ'
    simp [t16, t17]
    refine fcond_intro (fun hc => ?_) (fun hc => ?_)
    · have hi' : i < F[trip].length := by simpa using hc
      obtain ⟨p', f1, f2⟩ := (e3.ge hJ'.ge).at hi'
      have hx := hF.2.2 _ (List.getElem_mem htF) _ (List.getElem_mem hi')
      have hx12 : F[trip][i].toNat < 12 := by omega
      have hdrop : F[trip].drop i = F[trip][i] :: F[trip].drop (i + 1) := List.drop_eq_getElem_cons hi'
      rw [hdrop] at hscan
      have hI : ∀ m, iarV 12 1 (.pointer (some ⟨m, 0, none⟩)) (.int .i64 F[trip][i]) = some (.pointer (some ⟨m, F[trip][i].toNat, none⟩)) := fun m => iar12 (by omega) (by omega)
      have hx11 : F[trip][i] ≤ 11 := by omega
      have hlA := hz'.asked
      have hlD := hz'.led
      simp [t2, t15, t17, f1, f2, hI, hJ'.look, hl, hx12]
      have hlk : looked[F[trip][i].toNat]?.getD false = looked[F[trip][i].toNat]'(by omega) := by simp [hl, hx12]
      have hak : z'.asked[F[trip][i].toNat]?.getD false = z'.asked[F[trip][i].toNat]'(by omega) := by simp [hlA, hx12]
      have hdk : z'.led[F[trip][i].toNat]?.getD 0 = z'.led[F[trip][i].toNat]'(by omega) := by simp [hlD, hx12]
      rw [scanL, hlk, hak, hdk] at hscan
      generalize looked[F[trip][i].toNat]'(by omega) = lk at hscan
      cases lk
      case false =>
        simp at hscan
        simp [t17, add_in (x := i) (y := 1) (by omega) (by omega)]
        exact ⟨⟨t0, t1, t2, t3, t4, t5, t8, t15, t16, hK, i + 1, by omega, by omega, z', hJ', hz', hcnt, hscan⟩, by omega⟩
      simp at hscan
      simp [t3, hI, hJ'.ask, hlA, hx12]
      generalize hav : z'.asked[F[trip][i].toNat]'(by omega) = av at hscan
      cases av
      case true =>
        simp at hscan
        simp [t17, add_in (x := i) (y := 1) (by omega) (by omega)]
        exact ⟨⟨t0, t1, t2, t3, t4, t5, t8, t15, t16, hK, i + 1, by omega, by omega, z', hJ', hz', hcnt, hscan⟩, by omega⟩
      simp at hscan
      simp [t4, hI, hJ'.led, hlD, hx12]
      have hmem := hz'.num _ (List.getElem_mem (l := z'.led) (n := F[trip][i].toNat) (by omega))
      by_cases hd : z'.led[F[trip][i].toNat]'(by omega) = -1
      · simp [hd] at hscan
        have hxn : F[trip][i] ≠ -1 := by omega
        have hw : wrL (z'.led.map (Value.int .i64)) F[trip][i].toNat [.int .i64 trip] = (z'.led.set F[trip][i].toNat trip).map (.int .i64) := by
          rw [wrL_one _ _ _ (by simp; omega), map_set_int]
        have e2 : giveL F looked (k + 1) trip z = (true, { z' with led := z'.led.set F[trip][i].toNat trip }) := by simp [giveL, eF, hscan]
        simp [hd, hxn, t0, t4, hI, hJ'.led, hlD, hx11, hw]
        rw [e2, map_set_int]
        exact ⟨rfl, hJ'.setLed _, hK.setD _⟩
      · simp [hd] at hscan
        have hw : wrL (z'.asked.map Value.bool) F[trip][i].toNat [.bool true] = (z'.asked.set F[trip][i].toNat true).map .bool := by
          rw [wrL_one _ _ _ (by simp; omega), map_set_bool]
        have hJ1 := (hJ'.setAsk (z'.asked.set F[trip][i].toNat true)).grow 5
        have hz1 : JS.Ok n { z' with asked := z'.asked.set F[trip][i].toNat true } := ⟨hz'.led, by simpa using hz'.asked, hz'.num⟩
        have hcnt1 := count_set_true (a := z'.asked) (i := F[trip][i].toNat) (by omega) hav
        have hled : (z'.led[F[trip][i].toNat]'(by omega)).toNat < n := by omega
        have hcall := give_spec hF hl hrows k _ _ _ hJ1 hz1 hled (by simp only; omega)
        have hok1 := giveL_ok (looked := looked) hF k _ _ hled hz1
        have hnn : (((z'.led[F[trip][i].toNat]'(by omega)).toNat : Nat) : Int) = z'.led[F[trip][i].toNat]'(by omega) := by omega
        rw [hnn] at hcall
        simp [hd, t3, t5, t4, hI, hJ'.ask, hlA, hx11, hx12, hw, hJ'.give, hJ'.led, hlD, hJ'.na.2.2.2, hJ'.na.2.2.1]
        rw [map_set_bool]
        refine fcall_intro ((ACall.of_fun (xs := #[]) (us := b.caps.toArray) (args := [.int .i64 _]) hcall).mono ?_)
        rintro _ C ⟨rfl, hJ2, hK2⟩
        have hK3 : Keep b A C := (((hK.setA _).grow 5).trans hK2)
        cases hr : (giveL F looked k (z'.led[F[trip][i].toNat]'(by omega)).toNat { z' with asked := z'.asked.set F[trip][i].toNat true }).1
        · simp [hr] at hscan
          simp [t17, add_in (x := i) (y := 1) (by omega) (by omega)]
          exact ⟨⟨t0, t1, t2, t3, t4, t5, t8, t15, t16, hK3, i + 1, by omega, by omega, _, hJ2, hok1.1, Nat.le_trans hok1.2 (by simp only; omega), hscan⟩, by omega⟩
        · simp [hr] at hscan
          have hxn : F[trip][i] ≠ -1 := by omega
          have hlD2 := hok1.1.led
          have hw2 : ∀ l : List Int, l.length = 12 → wrL (l.map (Value.int .i64)) F[trip][i].toNat [.int .i64 trip] = (l.set F[trip][i].toNat trip).map (.int .i64) := fun l hl => by
            rw [wrL_one _ _ _ (by simp; omega), map_set_int]
          have e2 : giveL F looked (k + 1) trip z = (true, { (giveL F looked k (z'.led[F[trip][i].toNat]'(by omega)).toNat { z' with asked := z'.asked.set F[trip][i].toNat true }).2 with led := (giveL F looked k (z'.led[F[trip][i].toNat]'(by omega)).toNat { z' with asked := z'.asked.set F[trip][i].toNat true }).2.led.set F[trip][i].toNat trip }) := by simp [giveL, eF, hscan]
          simp [hxn, t0, t4, hI, hJ2.led, hlD2, hx11, hw2 _ hlD2]
          rw [e2, map_set_int]
          exact ⟨rfl, hJ2.setLed _, hK3.setD _⟩
    · have hi' : i = F[trip].length := by simp at hc; omega
      subst hi'
      simp at hscan
      simp [t8, giveL, eF, hscan, scanL]
      exact ⟨hJ', hK⟩

end Go.Proofs.Ytohohnpjilinmaa

/-
  The contract of the function that lets trips follow others.
-/
namespace Go.Proofs.Ytohohnpjilinmaa
open Go Go.Ab

def joinStep (F : List (List Int)) (looked : List Bool) (led : List Int) (trip : Nat) : List Int :=
  if looked[trip]?.getD false then (giveL F looked 13 trip ⟨led, List.replicate 12 false⟩).2.led else led
def joinL (F : List (List Int)) (looked : List Bool) (n : Nat) : List Int := (List.range n).foldl (joinStep F looked) (List.replicate 12 (-1))

def LedOk (n : Nat) (led : List Int) : Prop := led.length = 12 ∧ ∀ x ∈ led, x = -1 ∨ (0 ≤ x ∧ x < n)

def inA (c : List Int) : Array Value := (c.map (Value.int .i64)).toArray
abbrev inV (c : List Int) : Value := .agg (inA c)

theorem joinStep_ok {n : Nat} {F : List (List Int)} {looked : List Bool} {led : List Int} {trip : Nat} (hF : FollOk n F) (ht : trip < n) (h : LedOk n led) : LedOk n (joinStep F looked led trip) := by
  unfold joinStep
  split
  · have := (giveL_ok (looked := looked) hF 13 trip ⟨led, List.replicate 12 false⟩ ht ⟨h.1, by simp, h.2⟩).1
    exact ⟨this.led, this.num⟩
  · exact h

theorem joinL_ok {n : Nat} {F : List (List Int)} {looked : List Bool} (hF : FollOk n F) : ∀ m, m ≤ n → LedOk n (joinL F looked m)
  | 0, _ => ⟨by simp [joinL], fun x hx => by simp [joinL] at hx; simp [hx]⟩
  | m + 1, h => by
    have := joinL_ok (looked := looked) hF m (by omega)
    unfold joinL at *
    rw [List.range_succ, List.foldl_append]
    exact joinStep_ok hF (by omega) this

theorem joinL_succ {F : List (List Int)} {looked : List Bool} {m : Nat} : joinL F looked (m + 1) = joinStep F looked (joinL F looked m) m := by
  unfold joinL; rw [List.range_succ, List.foldl_append]; rfl

/-- The first m of twelve are -1, the others are noughts. -/
def minus (m : Nat) : List Int := (List.range 12).map fun k => if k < m then -1 else 0
theorem minus_length (m : Nat) : (minus m).length = 12 := by simp [minus]
theorem minus_set {m : Nat} : (minus m).set m (-1) = minus (m + 1) := by
  apply List.ext_getElem
  · simp [minus]
  · intro i h1 h2
    simp only [minus, List.getElem_set, List.getElem_map, List.getElem_range]
    split
    · subst_vars; simp
    · by_cases h3 : i < m
      · simp [h3, Nat.lt_succ_of_lt h3]
      · have : ¬ i < m + 1 := by omega
        simp [h3, this]

theorem join_spec {T : Tab} {H : Heap} {e s f : Value} {looked : List Bool} {F : List (List Int)} (h : TabAt H e s T) (hF : FollOk T.trips.length F) (hl : looked.length = 12) (hrows : RowsAt H f F) :
    AFun Try.prog 54 [svcV T e s f, chV looked] H (fun v B => v = inV (joinL F looked T.trips.length) ∧ Ge H B) := by
  refine AFun.mk ok54 hm (Nat.le_of_ble_eq_true rfl) ?_
  have hn12 := hF.2.1
  have hcl : (chA looked).toList = looked.map .bool := chA_toList looked
  have hcs : (chA looked).size = 12 := by rw [chA_size, hl]
  simp [a54, r54, hcl, hcs]
  refine floop_intro (fun z => z.d = [] ∧ Ge H z.H ∧ z.H.next = H.next + 4 ∧ z.t 2 = .pointer (some ⟨H.next, 0, none⟩) ∧ z.t 3 = .pointer (some ⟨H.next + 1, 0, none⟩) ∧ z.t 4 = .pointer (some ⟨H.next + 2, 0, none⟩) ∧ z.t 5 = .pointer (some ⟨H.next + 3, 0, none⟩) ∧
    z.H.get H.next = .cells true [.int .i64 T.places, .int .i64 T.layover, e, s, .func (.func 74) #[] #[], f] 6 ∧ z.H.get (H.next + 1) = .cells true (looked.map .bool) 12 ∧ z.H.get (H.next + 2) = .cells true ((List.replicate 12 0).map (Value.int .i64)) 12 ∧
    ∃ m : Nat, m ≤ 12 ∧ z.t 10 = .int .i64 m ∧ z.H.get (H.next + 3) = .cells true ((minus m).map (.int .i64)) 12) (fun z => 12 - (intOf (z.t 10)).toNat) ?_ ?_
  · refine ⟨rfl, (((Ge.new _ _).newOf _).newOf _).newOf _, by simp, by simp, by simp, by simp, by simp, by simp, by simp, by simp, 0, by simp, by simp, by simp; rfl⟩
  rintro ⟨t, _, A⟩ ⟨rfl, g, hn, t2, t3, t4, t5, b0, b1, b2, m, hm12, t10, b3⟩
  dsimp only at g hn t2 t3 t4 t5 b0 b1 b2 t10 b3
  simp [t10]
  refine fcond_intro (fun hc => ?_) (fun hc => ?_)
  · have hm' : m < 12 := by simp at hc; omega
    have hml := minus_length m
    have hw : wrL ((minus m).map (Value.int .i64)) m [.int .i64 (-1)] = (minus (m + 1)).map (.int .i64) := by
      rw [wrL_one _ _ _ (by simp; omega), map_set_int, minus_set]
    have hI : iarV 12 1 (.pointer (some ⟨H.next + 3, 0, none⟩)) (.int .i64 m) = some (.pointer (some ⟨H.next + 3, m, none⟩)) := by
      rw [iarV_in (by omega) (by omega)]; simp
    simp [t5, hI, b3, hml, hw, t10, add_in (x := m) (y := 1) (by omega) (by omega), (by omega : m + 1 ≤ 12)]
    exact ⟨⟨Ge.setNew g (by omega) _, hn, t2, t3, t4, b0, b1, b2, m + 1, by omega, by omega, rfl⟩, by omega⟩
  · have hm' : m = 12 := by simp at hc; omega
    subst hm'
    have hm0 : minus 12 = List.replicate 12 (-1) := rfl
    rw [hm0] at b3
    simp [t2, t3, t5, b0, hn, h.trips.lenV]
    refine floop_intro (fun z => z.d = [] ∧ z.t 3 = .pointer (some ⟨H.next + 1, 0, none⟩) ∧ z.t 4 = .pointer (some ⟨H.next + 2, 0, none⟩) ∧ z.t 5 = .pointer (some ⟨H.next + 3, 0, none⟩) ∧ z.t 7 = .pointer (some ⟨H.next + 4, 0, none⟩) ∧ z.t 8 = .pointer (some ⟨H.next + 5, 0, none⟩) ∧ z.t 20 = .int .i64 T.trips.length ∧
      H.next + 6 ≤ z.H.next ∧ z.H.get (H.next + 2) = .cells true ((List.replicate 12 0).map (Value.int .i64)) 12 ∧
      ∃ (m : Nat) (a : List Bool), m ≤ T.trips.length ∧ z.t 21 = .int .i64 m ∧ a.length = 12 ∧ JEnv T H z.H ⟨H.next, H.next + 1, H.next + 4, H.next + 3, H.next + 5⟩ e s f looked ⟨joinL F looked m, a⟩) (fun z => T.trips.length - (intOf (z.t 21)).toNat) ?_ ?_
    · refine ⟨rfl, by simp [t3], by simp [t4], by simp [t5], by simp, by simp, by simp, by simp [hn], by simp [b2, hn], 0, List.replicate 12 false, by simp, by simp, by simp, ?_⟩
      constructor
      · exact Ge.setNew ((g.newOf _).newOf _) (by omega) _
      · simp
      · simp [hn]
      · simp
      · simp
      · simp [hn, b0]
      · simp [hn, b1]
      · simp [hn]
      · simp [hn, b3, joinL]
      · simp [JN.caps]
    clear g hn t2 t3 t4 t5 b0 b1 b2 t10 b3 hc hm12 A t
    rintro ⟨t, _, A⟩ ⟨rfl, t3, t4, t5, t7, t8, t20, hn, b2, m, a, hm, t21, ha, hJ⟩
    dsimp only at t3 t4 t5 t7 t8 t20 hn b2 t21 hJ
    have hled := joinL_ok (looked := looked) hF m hm
    simp [t20, t21]
    refine fcond_intro (fun hc => ?_) (fun hc => ?_)
    · have hm' : m < T.trips.length := by simpa using hc
      have hw : ∀ a : List Bool, a.length = 12 → wrL (a.map Value.bool) 0 (List.replicate 12 (.bool false)) = List.replicate 12 (.bool false) := fun a ha => by simp [wrL, ha]
      simp only [List.reduceReplicate] at hw
      have hI : iarV 12 1 (.pointer (some ⟨H.next + 1, 0, none⟩)) (.int .i64 m) = some (.pointer (some ⟨H.next + 1, m, none⟩)) := by
        rw [iarV_in (by omega) (by omega)]; simp
      have hJ1 := hJ.setAsk (List.replicate 12 false)
      have hask := hJ.ask
      simp only at hask
      have hlook := hJ1.look
      simp at hlook
      simp [t21, t7, hask, ha, hw _ ha, t3, hI, hlook, hl, (by omega : m < 12)]
      have hJ2 := joinL_succ (F := F) (looked := looked) (m := m)
      have hlm : looked[m]?.getD false = looked[m]'(by omega) := by simp [hl, (by omega : m < 12)]
      rw [joinStep, hlm] at hJ2
      generalize looked[m]'(by omega) = lk at hJ2
      cases lk
      · simp at hJ2
        simp [t21, add_in (x := m) (y := 1) (by omega) (by omega)]
        refine ⟨⟨t3, t4, t5, t7, t8, t20, hn, by simp [b2], m + 1, by omega, by omega, List.replicate 12 false, by simp, ?_⟩, by omega⟩
        rw [hJ2]; simpa using hJ1
      · simp at hJ2
        have hgive := hJ1.give
        simp at hgive
        simp [t8, hgive]
        have hcall := give_spec hF hl hrows 13 _ _ m hJ1 ⟨hled.1, by simp, hled.2⟩ hm' (by simp)
        refine fcall_intro ((ACall.of_fun (xs := #[]) (us := (JN.caps ⟨H.next, H.next + 1, H.next + 4, H.next + 3, H.next + 5⟩).toArray) (args := [.int .i64 m]) hcall).mono ?_)
        rintro _ C ⟨_, hJ3, hK⟩
        have hok := giveL_ok (looked := looked) hF 13 m ⟨joinL F looked m, List.replicate 12 false⟩ hm' ⟨hled.1, by simp, hled.2⟩
        simp [t21, add_in (x := m) (y := 1) (by omega) (by omega)]
        have b2' := hK.get (H.next + 2) (by simp; omega) (by simp) (by simp)
        refine ⟨⟨t3, t4, t5, t7, t8, t20, Nat.le_trans hn hK.next, b2'.trans (by simpa using b2), m + 1, by omega, by omega, _, hok.1.asked, ?_⟩, by omega⟩
        rw [hJ2]; exact hJ3
    · have hm' : m = T.trips.length := by simp at hc; omega
      subst hm'
      have hb3 := hJ.led
      simp only at hb3
      simp at b2
      simp [t4, t5, hb3, b2, rdL_self (cs := (joinL F looked T.trips.length).map (Value.int .i64)) (n := 12) (by simp [hled.1]), hled.1]
      exact ⟨by simp [inA], Ge.setNew hJ.ge (by omega) _⟩

end Go.Proofs.Ytohohnpjilinmaa

/-
  The contract of the function that turns leaders into followers.
-/
namespace Go.Proofs.Ytohohnpjilinmaa
open Go Go.Ab

def turnStep (led next : List Int) (k : Nat) : List Int := if led[k]?.getD 0 = -1 then next else next.set (led[k]?.getD 0).toNat k
def turnTo (led : List Int) (m : Nat) : List Int := (List.range m).foldl (turnStep led) (List.replicate 12 (-1))
def turnL (led : List Int) : List Int := turnTo led 12
theorem turnTo_succ {led : List Int} {m : Nat} : turnTo led (m + 1) = turnStep led (turnTo led m) m := by
  unfold turnTo; rw [List.range_succ, List.foldl_append]; rfl

theorem turnStep_length {led next : List Int} {k : Nat} : (turnStep led next k).length = next.length := by
  unfold turnStep; split <;> simp
theorem turnTo_length {led : List Int} : ∀ m, (turnTo led m).length = 12
  | 0 => by simp [turnTo]
  | m + 1 => by rw [turnTo_succ, turnStep_length]; exact turnTo_length m

theorem inA_toList (c : List Int) : (inA c).toList = c.map (Value.int .i64) := by simp [inA]
theorem inA_size (c : List Int) : (inA c).size = c.length := by simp [inA]
theorem inA_get {c : List Int} {i : Nat} (h : i < c.length) : (inA c)[i]? = some (.int .i64 c[i]) := by simp [inA, h]

theorem turned_spec {H : Heap} {n : Nat} {led : List Int} (hn : n ≤ 12) (hl : LedOk n led) : AFun Try.prog 76 [inV led] H (fun v B => v = inV (turnL led) ∧ Ge H B) := by
  refine AFun.mk ok76 hm (Nat.le_of_ble_eq_true rfl) ?_
  simp [a76, r76, inA_toList, inA_size, hl.1]
  refine floop_intro (fun z => z.d = [] ∧ Ge H z.H ∧ z.H.next = H.next + 3 ∧ z.t 1 = .pointer (some ⟨H.next, 0, none⟩) ∧ z.t 2 = .pointer (some ⟨H.next + 1, 0, none⟩) ∧ z.t 3 = .pointer (some ⟨H.next + 2, 0, none⟩) ∧
    z.H.get H.next = .cells true (led.map (.int .i64)) 12 ∧ z.H.get (H.next + 1) = .cells true ((List.replicate 12 0).map (Value.int .i64)) 12 ∧
    ∃ m : Nat, m ≤ 12 ∧ z.t 7 = .int .i64 m ∧ z.H.get (H.next + 2) = .cells true ((minus m).map (.int .i64)) 12) (fun z => 12 - (intOf (z.t 7)).toNat) ?_ ?_
  · refine ⟨rfl, ((Ge.new _ _).newOf _).newOf _, by simp, by simp, by simp, by simp, by simp, by simp, 0, by simp, by simp, by simp; rfl⟩
  rintro ⟨t, _, A⟩ ⟨rfl, g, hx, t1, t2, t3, b0, b1, m, hm12, t7, b2⟩
  dsimp only at g hx t1 t2 t3 b0 b1 t7 b2
  simp [t7]
  refine fcond_intro (fun hc => ?_) (fun hc => ?_)
  · have hm' : m < 12 := by simp at hc; omega
    have hml := minus_length m
    have hw : wrL ((minus m).map (Value.int .i64)) m [.int .i64 (-1)] = (minus (m + 1)).map (.int .i64) := by
      rw [wrL_one _ _ _ (by simp; omega), map_set_int, minus_set]
    have hI : iarV 12 1 (.pointer (some ⟨H.next + 2, 0, none⟩)) (.int .i64 m) = some (.pointer (some ⟨H.next + 2, m, none⟩)) := by
      rw [iarV_in (by omega) (by omega)]; simp
    simp [t3, hI, b2, hml, hw, t7, add_in (x := m) (y := 1) (by omega) (by omega), (by omega : m + 1 ≤ 12)]
    exact ⟨⟨Ge.setNew g (by omega) _, hx, t1, t2, b0, b1, m + 1, by omega, by omega, rfl⟩, by omega⟩
  have hm' : m = 12 := by simp at hc; omega
  subst hm'
  have hm0 : minus 12 = List.replicate 12 (-1) := rfl
  rw [hm0] at b2
  have hr := rdL_self (cs := led.map (Value.int .i64)) (n := 12) (by simp [hl.1])
  simp [t1, b0, hr]
  refine floop_intro (fun z => z.d = [] ∧ Ge H z.H ∧ z.H.next = H.next + 3 ∧ z.t 2 = .pointer (some ⟨H.next + 1, 0, none⟩) ∧ z.t 3 = .pointer (some ⟨H.next + 2, 0, none⟩) ∧ z.t 13 = inV led ∧
    z.H.get (H.next + 1) = .cells true ((List.replicate 12 0).map (Value.int .i64)) 12 ∧
    ∃ m : Nat, m ≤ 12 ∧ z.t 14 = .int .i64 m ∧ z.H.get (H.next + 2) = .cells true ((turnTo led m).map (.int .i64)) 12) (fun z => 12 - (intOf (z.t 14)).toNat) ?_ ?_
  · exact ⟨rfl, g, hx, by simp [t2], by simp [t3], by simp [inA], b1, 0, by simp, by simp, b2⟩
  clear g hx t1 t2 t3 b0 b1 t7 b2 hc A t
  rintro ⟨t, _, A⟩ ⟨rfl, g, hx, t2, t3, t13, b1, m, hm12, t14, b2⟩
  dsimp only at g hx t2 t3 t13 b1 t14 b2
  have htl := turnTo_length (led := led) m
  simp [t14]
  refine fcond_intro (fun hc => ?_) (fun hc => ?_)
  · have hm' : m < 12 := by simp at hc; omega
    have hix : idxV false 12 1 (inV led) (.int .i64 m) = some (.int .i64 (led[m]'(by rw [hl.1]; omega))) := by
      rw [idxV_at hm', inA_get (by rw [hl.1]; omega)]
    have hled : led[m]?.getD 0 = led[m]'(by rw [hl.1]; omega) := by simp [hl.1, hm']
    have hmem := hl.2 _ (List.getElem_mem (l := led) (n := m) (by rw [hl.1]; omega))
    simp [t13, t14, hix]
    refine fcond_intro (fun hc1 => ?_) (fun hc1 => ?_)
    · simp at hc1
      have hI : iarV 12 1 (.pointer (some ⟨H.next + 2, 0, none⟩)) (.int .i64 (led[m]'(by rw [hl.1]; omega))) = some (.pointer (some ⟨H.next + 2, (led[m]'(by rw [hl.1]; omega)).toNat, none⟩)) := iar12 (by omega) (by omega)
      have hle : (led[m]'(by rw [hl.1]; omega)) ≤ 11 := by omega
      have hw : wrL ((turnTo led m).map (Value.int .i64)) (led[m]'(by rw [hl.1]; omega)).toNat [.int .i64 m] = (turnTo led (m + 1)).map (.int .i64) := by
        rw [wrL_one _ _ _ (by simp [turnTo_length]; omega), map_set_int, turnTo_succ, turnStep, hled, if_neg hc1]
      simp [t3, hI, b2, htl, hle, hw, t14, add_in (x := m) (y := 1) (by omega) (by omega)]
      exact ⟨⟨Ge.setNew g (by omega) _, hx, t2, t13, by simpa using b1, m + 1, by omega, by omega, rfl⟩, by omega⟩
    · simp at hc1
      simp [t14, add_in (x := m) (y := 1) (by omega) (by omega)]
      refine ⟨⟨g, hx, t2, t3, t13, by simpa using b1, m + 1, by omega, by omega, ?_⟩, by omega⟩
      rw [turnTo_succ, turnStep, hled, if_pos hc1]; exact b2
  · have hm' : m = 12 := by simp at hc; omega
    subst hm'
    have hr := rdL_self (cs := (turnL led).map (Value.int .i64)) (n := 12) (by simp [turnL, turnTo_length])
    change A.get (H.next + 2) = .cells true ((turnL led).map (.int .i64)) 12 at b2
    have htl' : (turnL led).length = 12 := turnTo_length 12
    simp at b1
    simp [t2, t3, b1, b2, hr, htl']
    exact ⟨by simp [inA], Ge.setNew g (by omega) _⟩

end Go.Proofs.Ytohohnpjilinmaa

/-
  Leaders and followers: chains end.
-/
namespace Go.Proofs.Ytohohnpjilinmaa
open Go Go.Ab

/-- Who is led is a follower of its leader. -/
def Foll (F : List (List Int)) (led : List Int) : Prop := ∀ i (h : i < led.length), led[i] = -1 ∨ (i : Int) ∈ F[led[i].toNat]?.getD []

theorem scanL_foll {n : Nat} {F : List (List Int)} {g : Nat → JS → Bool × JS} {looked : List Bool} (hn : n ≤ 12) (hg : ∀ t z, t < n → z.Ok n → (g t z).2.Ok n ∧ (g t z).2.asked.count false ≤ z.asked.count false)
    (hf : ∀ t z, t < n → z.Ok n → Foll F z.led → Foll F (g t z).2.led) :
    ∀ (l : List Int) (z : JS), (∀ x ∈ l, 0 ≤ x ∧ x < (n : Int)) → z.Ok n → Foll F z.led → Foll F (scanL g looked l z).2.led
  | [], z, _, _, h => by simpa [scanL] using h
  | x :: l, z, hl, hz, h => by
    have hx := hl x (List.mem_cons_self)
    have hl' : ∀ y ∈ l, 0 ≤ y ∧ y < (n : Int) := fun y hy => hl y (List.mem_cons_of_mem _ hy)
    have hxl : x.toNat < z.led.length := by rw [hz.led]; omega
    unfold scanL
    split
    · exact scanL_foll hn hg hf l z hl' hz h
    · split
      · exact h
      · rename_i hd
        have hd' : z.led[x.toNat] ≠ -1 := by simpa [hxl] using hd
        have hm := hz.num _ (List.getElem_mem hxl)
        have hz1 : JS.Ok n { z with asked := z.asked.set x.toNat true } := ⟨hz.led, by simpa using hz.asked, hz.num⟩
        have e : z.led[x.toNat]?.getD 0 = z.led[x.toNat] := by simp [hxl]
        have hlt : (z.led[x.toNat]?.getD 0).toNat < n := by rw [e]; omega
        obtain ⟨k1, k2⟩ := hg _ _ hlt hz1
        have k3 := hf _ _ hlt hz1 h
        dsimp only
        split
        · exact k3
        · exact scanL_foll hn hg hf l _ hl' k1 k3

theorem giveL_foll {n : Nat} {F : List (List Int)} {looked : List Bool} (hF : FollOk n F) : ∀ (k t : Nat) (z : JS), t < n → z.Ok n → Foll F z.led → Foll F (giveL F looked k t z).2.led
  | 0, t, z, _, _, h => h
  | k + 1, t, z, ht, hz, h => by
    have hrow : F[t]?.getD [] ∈ F := by
      have : t < F.length := by rw [hF.1]; exact ht
      simp [this]
    obtain ⟨h1, h2, h3⟩ := scanL_ok (g := giveL F looked k) hF.2.1 (fun t z => giveL_ok hF k t z) (looked := looked) (F[t]?.getD []) z (hF.2.2 _ hrow) hz
    have h4 := scanL_foll (g := giveL F looked k) hF.2.1 (fun t z => giveL_ok hF k t z) (fun t z => giveL_foll hF k t z) (looked := looked) (F[t]?.getD []) z (hF.2.2 _ hrow) hz h
    simp only [giveL]
    split
    · rename_i x hx
      have hxm := h3 x hx
      have hx0 := hF.2.2 _ hrow x hxm
      intro i hi
      simp only [List.getElem_set]
      split
      · rename_i hxi
        right
        have : (i : Int) = x := by omega
        rw [this]
        simpa using hxm
      · exact h4 i (by simpa using hi)
    · exact h4

theorem joinL_foll {n : Nat} {F : List (List Int)} {looked : List Bool} (hF : FollOk n F) : ∀ m, m ≤ n → Foll F (joinL F looked m)
  | 0, _ => fun i hi => by left; simp only [joinL, List.range_zero, List.foldl_nil, List.getElem_replicate]
  | m + 1, h => by
    have h1 := joinL_foll (looked := looked) hF m (by omega)
    have h2 := joinL_ok (looked := looked) hF m (by omega)
    rw [joinL_succ, joinStep]
    split
    · exact giveL_foll hF 13 m ⟨_, _⟩ (by omega) ⟨h2.1, by simp, h2.2⟩ h1
    · exact h1

/-- What follows may follow. -/
structure NextOk (T : Tab) (next : List Int) : Prop where
  len : next.length = 12
  may : ∀ y (h : y < next.length), next[y] = -1 ∨ (0 ≤ next[y] ∧ T.mayN y next[y].toNat = true)

theorem followers_ok {T : Tab} (hfew : T.trips.length ≤ 12) : FollOk T.trips.length T.followers := by
  refine ⟨by simp [Tab.followers], hfew, fun l hl x hx => ?_⟩
  simp only [Tab.followers, List.mem_map, List.mem_range] at hl
  obtain ⟨i, hi, rfl⟩ := hl
  simp only [List.mem_map, List.mem_filter, List.mem_range] at hx
  obtain ⟨j, ⟨hj, _⟩, rfl⟩ := hx
  exact ⟨Int.natCast_nonneg _, by simpa using hj⟩

theorem followers_may {T : Tab} {t : Nat} {x : Int} (h : x ∈ T.followers[t]?.getD []) : 0 ≤ x ∧ T.mayN t x.toNat = true := by
  by_cases ht : t < T.trips.length
  · have e : T.followers[t]?.getD [] = ((List.range T.trips.length).filter (T.mayN t)).map Int.ofNat := by simp [Tab.followers, ht]
    rw [e] at h
    simp only [List.mem_map, List.mem_filter, List.mem_range] at h
    obtain ⟨j, ⟨_, hj⟩, rfl⟩ := h
    exact ⟨Int.natCast_nonneg _, by simpa using hj⟩
  · have e : T.followers[t]? = none := by simp [Tab.followers]; omega
    rw [e] at h; simp at h

theorem turnTo_ok {T : Tab} {n : Nat} {led : List Int} (hn : n ≤ 12) (hl : LedOk n led) (hf : Foll T.followers led) : ∀ m, m ≤ 12 → NextOk T (turnTo led m)
  | 0, _ => ⟨by simp [turnTo], fun y h => by left; simp only [turnTo, List.range_zero, List.foldl_nil, List.getElem_replicate]⟩
  | m + 1, h => by
    have ih := turnTo_ok hn hl hf m (by omega)
    refine ⟨turnTo_length _, fun y hy => ?_⟩
    have hml : m < led.length := by rw [hl.1]; omega
    have e : led[m]?.getD 0 = led[m] := by simp [hml]
    have hstep : turnTo led (m + 1) = if led[m] = -1 then turnTo led m else (turnTo led m).set led[m].toNat m := by
      rw [turnTo_succ, turnStep, e]
    simp only [hstep] at hy ⊢
    split
    · rename_i hc
      simp only [hc, if_true] at hy
      exact ih.may y hy
    · rename_i hc
      simp only [hc, if_false, List.length_set] at hy
      rw [List.getElem_set]
      split
      · rename_i hey
        right
        refine ⟨Int.natCast_nonneg _, ?_⟩
        rcases hf m hml with h1 | h1
        · exact absurd h1 hc
        · have := followers_may h1
          rw [← hey]; simpa using this.2
      · exact ih.may y hy

/-- The minute at which a trip starts. -/
def Tab.startOf (T : Tab) (x : Int) : Int := match T.trips[x.toNat]? with
  | some y => y.start
  | none => 0

theorem mayN_start {T : Tab} (hT : Valid T) {i j : Nat} (h : T.mayN i j = true) : i < T.trips.length ∧ j < T.trips.length ∧ T.startOf i + 1 ≤ T.startOf j := by
  have hi : i < T.trips.length := by
    by_cases hi : i < T.trips.length
    · exact hi
    · simp [Tab.mayN, List.getElem?_eq_none (Nat.le_of_not_lt hi)] at h
  have hj : j < T.trips.length := by
    by_cases hj : j < T.trips.length
    · exact hj
    · simp [Tab.mayN, hi, List.getElem?_eq_none (Nat.le_of_not_lt hj)] at h
  refine ⟨hi, hj, ?_⟩
  rw [Tab.mayN_eq hi hj] at h
  simp [Tab.may, Tab.wait, Tab.ready] at h
  have hx := hT.trip (List.getElem_mem hi)
  have hy := hT.trip (List.getElem_mem hj)
  have hs := hT.size
  obtain ⟨r1, r2, r3, r4, r5⟩ := hT.road (a := T.trips[i].dst) (b := T.trips[j].src) ⟨by omega, by omega⟩ ⟨by omega, by omega⟩
  simp [Tab.startOf, hi, hj]
  omega

/-- A chain, from a trip on. -/
def chainL (next : List Int) : Nat → Int → List Int
  | 0, _ => []
  | k + 1, x => if x = -1 then [] else x :: chainL next k (next[x.toNat]?.getD (-1))

def Tab.left (T : Tab) (x : Int) : Nat := if x = -1 then 0 else (2001 - T.startOf x).toNat

theorem left_next {T : Tab} (hT : Valid T) {next : List Int} (hn : NextOk T next) {x : Int} (hx : 0 ≤ x) (hx2 : x.toNat < T.trips.length) :
    T.left (next[x.toNat]?.getD (-1)) < T.left x ∧ (next[x.toNat]?.getD (-1) = -1 ∨ (0 ≤ next[x.toNat]?.getD (-1) ∧ (next[x.toNat]?.getD (-1)).toNat < T.trips.length)) := by
  have hfew := hT.few
  have hl : x.toNat < next.length := by rw [hn.len]; omega
  have e : next[x.toNat]?.getD (-1) = next[x.toNat] := by simp [hl]
  rw [e]
  have hst : T.startOf x ≤ 2000 := by
    have := hT.trip (List.getElem_mem hx2)
    simp [Tab.startOf, hx2]; omega
  have hpos : 0 < T.left x := by
    unfold Tab.left; rw [if_neg (by omega)]; omega
  rcases hn.may x.toNat hl with h | ⟨h1, h2⟩
  · rw [h]; exact ⟨by simpa [Tab.left] using hpos, .inl rfl⟩
  · obtain ⟨m1, m2, m3⟩ := mayN_start hT h2
    have e1 : ((x.toNat : Nat) : Int) = x := by omega
    have e2 : ((next[x.toNat].toNat : Nat) : Int) = next[x.toNat] := by omega
    rw [e1, e2] at m3
    refine ⟨?_, .inr ⟨h1, m2⟩⟩
    unfold Tab.left
    rw [if_neg (by omega), if_neg (by omega)]
    omega

/-- Enough is enough. -/
theorem chainL_eq {T : Tab} (hT : Valid T) {next : List Int} (hn : NextOk T next) : ∀ (k j : Nat) (x : Int), (x = -1 ∨ (0 ≤ x ∧ x.toNat < T.trips.length)) → T.left x ≤ k → T.left x ≤ j → chainL next k x = chainL next j x
  | 0, j, x, hx, h, _ => by
    have hx1 : x = -1 := by
      rcases hx with hx | ⟨h0, h1⟩
      · exact hx
      · have := (left_next hT hn h0 h1).1; omega
    subst hx1
    cases j <;> simp [chainL]
  | k + 1, j, x, hx, h, hj => by
    by_cases hx1 : x = -1
    · subst hx1; cases j <;> simp [chainL]
    · obtain ⟨h0, h1⟩ := hx.resolve_left hx1
      obtain ⟨h2, h3⟩ := left_next hT hn h0 h1
      cases j with
      | zero => omega
      | succ j =>
        simp only [chainL, if_neg hx1]
        rw [chainL_eq hT hn k j _ h3 (by omega) (by omega)]

end Go.Proofs.Ytohohnpjilinmaa

/-
  The contract of the function that lists the blocks.
-/
namespace Go.Proofs.Ytohohnpjilinmaa
open Go Go.Ab

/-- Rows of one's own, which grow. -/
structure RowsO (A : Heap) (lo : Nat) (v : Value) (rows : List (List Int)) : Prop where
  ex : ∃ vs : List Value, OwnSl A lo v vs ∧ vs.length = rows.length ∧ ∀ k (h : k < rows.length), ∃ u, vs[k]? = some u ∧ OwnSl A lo u (rows[k].map (Value.int .i64)) ∧ ∀ m, slName u = some m → slName v ≠ some m
  short : ∀ r ∈ rows, r.length < 2 ^ 63

theorem RowsO.nil {A : Heap} {lo : Nat} {v : Value} (h : OwnSl A lo v []) : RowsO A lo v [] := ⟨⟨[], h, rfl, fun k hk => by simp at hk⟩, fun r hr => by simp at hr⟩

theorem RowsO.keep {A B : Heap} {lo : Nat} {v : Value} {rows : List (List Int)} (h : RowsO A lo v rows) (hn : A.next ≤ B.next) (hk : ∀ n, lo ≤ n → n < A.next → B.get n = A.get n) : RowsO B lo v rows := by
  obtain ⟨⟨vs, h1, h2, h3⟩, h4⟩ := h
  refine ⟨⟨vs, h1.keep hn fun n hs => hk n (h1.names hs).1 (h1.names hs).2, h2, fun k hk2 => ?_⟩, h4⟩
  obtain ⟨u, h5, h6, h7⟩ := h3 k hk2
  exact ⟨u, h5, h6.keep hn fun n hs => hk n (h6.names hs).1 (h6.names hs).2, h7⟩

theorem RowsO.rows {A : Heap} {lo : Nat} {v : Value} {rows : List (List Int)} (h : RowsO A lo v rows) (hl : rows.length < 2 ^ 63) : RowsAt A v rows := by
  obtain ⟨⟨vs, h1, h2, h3⟩, h4⟩ := h
  refine ⟨vs, by rw [← h2]; exact h1.slr, hl, fun i hi => ?_⟩
  obtain ⟨u, h5, h6, _⟩ := h3 i hi
  refine ⟨u, h5, ?_, h4 _ (List.getElem_mem hi)⟩
  have := h6.slr
  simpa using this

/-- A row more: what append asks. -/
theorem RowsO.push {A : Heap} {lo lo1 : Nat} {v x : Value} {rows : List (List Int)} {r : List Int} {y : Value} {n nx : Nat} {R : Value → Heap → Prop} (h : RowsO A lo v rows) (hx : OwnSl A lo1 x (r.map (Value.int .i64))) (hlo1 : lo ≤ lo1)
    (hnm : ∀ m, slName x = some m → slName v ≠ some m) (hr : r.length < 2 ^ 63)
    (hy : slCells A 1 y = some (1, [x])) (hlen : rows.length ≤ 2 ^ 20) (hn : A.next ≤ n) (hnx : n < nx) (hlo : lo ≤ A.next)
    (K : ∀ u B, RowsO B lo u (rows ++ [r]) → slName u = some n → B.next = nx → (∀ m, m ≠ n → slName v ≠ some m → B.get m = A.get m) → R u B) : @fapp (baseOf A 1 v) (slCells A 1 y) 1 24 A n nx ⟨R⟩ := by
  obtain ⟨⟨vs, h1, h2, h3⟩, h4⟩ := h
  refine fapp_own h1 hy hx.one (by omega) (by omega) hn hnx hlo fun u B k1 k2 k3 k4 => ?_
  refine K u B ⟨⟨vs ++ [x], k1, by simp [h2], fun k hk => ?_⟩, ?_⟩ k2 k3 k4
  · by_cases hk2 : k < rows.length
    · obtain ⟨w, h5, h6, h7⟩ := h3 k hk2
      refine ⟨w, by rw [List.getElem?_append_left (by omega)]; exact h5, ?_, fun m hm => ?_⟩
      · rw [List.getElem_append_left hk2]
        exact h6.keep (by omega) fun m hm => k4 m (by have := (h6.names hm).2; omega) (h7 m hm)
      · rw [k2]; intro e; cases e; have := (h6.names hm).2; omega
    · have : k = rows.length := by simp at hk; omega
      subst this
      refine ⟨x, by rw [List.getElem?_append_right (by omega)]; simp [h2], ?_, fun m hm => ?_⟩
      · rw [List.getElem_append_right (by omega)]
        simp only [Nat.sub_self, List.getElem_cons_zero]
        have hx2 : OwnSl A lo x (r.map (Value.int .i64)) := by
          rcases hx with hx | ⟨m, cap, c, e1, e2, e3⟩
          · exact .inl hx
          · exact .inr ⟨m, cap, c, e1, by omega, e3⟩
        exact hx2.keep (by omega) fun m hm => k4 m (by have := (hx.names hm).2; omega) (hnm m hm)
      · rw [k2]; intro e; cases e; have := (hx.names hm).2; omega
  · intro q hq
    rcases List.mem_append.1 hq with hq | hq
    · exact h4 q hq
    · simp at hq; rw [hq]; exact hr

/-- The blocks of leaders. -/
def blocksTo (led next : List Int) (m : Nat) : List (List Int) := ((List.range m).filter fun k => decide (led[k]?.getD 0 = -1)).map fun (k : Nat) => chainL next 2001 (k : Int)
def blocksL (T : Tab) (led : List Int) : List (List Int) := blocksTo led (turnL led) T.trips.length

theorem blocksTo_succ {led next : List Int} {m : Nat} : blocksTo led next (m + 1) = if led[m]?.getD 0 = -1 then blocksTo led next m ++ [chainL next 2001 m] else blocksTo led next m := by
  simp only [blocksTo, List.range_succ, List.filter_append, List.map_append]
  by_cases h : led[m]?.getD 0 = -1 <;> simp [h]
theorem blocksTo_length {led next : List Int} {m : Nat} : (blocksTo led next m).length ≤ m := by
  simp only [blocksTo, List.length_map]
  refine Nat.le_trans (List.length_filter_le _ _) (by simp)

theorem left_le {T : Tab} (hT : Valid T) {x : Int} (h : 0 ≤ x ∧ x.toNat < T.trips.length) : T.left x ≤ 2001 := by
  have := hT.trip (List.getElem_mem h.2)
  unfold Tab.left
  split
  · omega
  · have : T.startOf x = T.trips[x.toNat].start := by simp [Tab.startOf, h.2]
    omega

theorem blocks_spec {T : Tab} {H : Heap} {e s f : Value} {led : List Int} (h : TabAt H e s T) (hT : Valid T) (hl : LedOk T.trips.length led) (hf : Foll T.followers led) :
    AFun Try.prog 53 [svcV T e s f, inV led] H (fun v B => RowsAt B v (blocksL T led) ∧ Ge H B) := by
  refine AFun.mk ok53 hm (Nat.le_of_ble_eq_true rfl) ?_
  have hfew := hT.few
  have hnx : NextOk T (turnL led) := turnTo_ok hfew hl hf 12 (by omega)
  have hlen := hl.1
  have hr := rdL_self (cs := led.map (Value.int .i64)) (n := 12) (by simp [hl.1])
  simp [a53, r53, inA_toList, inA_size, hlen, hr]
  refine fcall_fun (turned_spec hfew hl) ?_
  rintro _ H1 ⟨rfl, g1⟩
  have hnl : (turnL led).length = 12 := turnTo_length 12
  have hr2 := rdL_self (cs := (turnL led).map (Value.int .i64)) (n := 12) (by simp [hnl])
  have b0 := g1.got (n := H.next) (by simp) rfl
  have b1 := g1.got (n := H.next + 1) (by simp) rfl
  have b2 := g1.got (n := H.next + 2) (by simp) rfl
  have G1 : Ge H H1 := (((Ge.new _ _).newOf _).newOf _).trans g1
  have n1 := g1.next
  simp at b0 b1 b2 n1
  have ne0 : H.next ≠ H1.next := by omega
  have ne1 : H.next + 1 ≠ H1.next := by omega
  have ne2 : H.next + 2 ≠ H1.next := by omega
  simp [inA_toList, inA_size, hnl, b0, ne0, h.trips.lenV]
  refine floop_intro (fun z => z.d = [] ∧ Ge H z.H ∧ H1.next < z.H.next ∧ z.t 3 = .pointer (some ⟨H.next + 1, 0, none⟩) ∧ z.t 6 = .pointer (some ⟨H1.next, 0, none⟩) ∧ z.t 16 = .int .i64 T.trips.length ∧
    z.H.get (H.next + 1) = .cells true (led.map (.int .i64)) 12 ∧ z.H.get H1.next = .cells true ((turnL led).map (.int .i64)) 12 ∧ slName (z.t 5) ≠ some H1.next ∧
    ∃ m : Nat, m ≤ T.trips.length ∧ z.t 17 = .int .i64 m ∧ RowsO z.H (H.next + 2) (z.t 5) (blocksTo led (turnL led) m)) (fun z => T.trips.length - (intOf (z.t 17)).toNat) ?_ ?_
  · refine ⟨rfl, Ge.setNew (G1.newOf _) (by omega) _, by simp, by simp, by simp, by simp, by simp [b1, ne1], by simp, by simp [slName, ne2], 0, by simp, by simp, RowsO.nil (.inr ⟨H.next + 2, 0, 0, by simp, by omega, by simp; omega, ?_, by simp, by simp⟩)⟩
    have : H.next + 2 ≠ H1.next := by omega
    simp [this, b2]
  clear b0 b1 b2 ne0
  rintro ⟨t, _, A⟩ ⟨rfl, g, hn, t3, t6, t16, b1, bn, hq, m, hm, t17, hR⟩
  dsimp only at g hn t3 t6 t16 b1 bn hq t17 hR
  simp [t16, t17]
  refine fcond_intro (fun hc => ?_) (fun hc => ?_)
  · have hm' : m < T.trips.length := by simpa using hc
    have hI : iarV 12 1 (.pointer (some ⟨H.next + 1, 0, none⟩)) (.int .i64 m) = some (.pointer (some ⟨H.next + 1, m, none⟩)) := by
      rw [iarV_in (by omega) (by omega)]; simp
    have hm12 : m < 12 := by omega
    have hld : led[m]?.getD 0 = led[m]'(by omega) := by simp [hlen, hm12]
    have hsucc := blocksTo_succ (led := led) (next := turnL led) (m := m)
    rw [hld] at hsucc
    simp [t3, t17, hI, b1, hlen, hm12]
    refine fcond_intro (fun hc1 => ?_) (fun hc1 => ?_)
    · simp at hc1
      rw [if_neg hc1] at hsucc
      simp [t17, add_in (x := m) (y := 1) (by omega) (by omega)]
      exact ⟨⟨g, hn, t3, t6, t16, b1, bn, hq, m + 1, by omega, by omega, by rw [hsucc]; exact hR⟩, by omega⟩
    · simp at hc1
      rw [if_pos hc1] at hsucc
      simp
      have hok0 : ((m : Int) = -1 ∨ (0 ≤ (m : Int) ∧ (m : Int).toNat < T.trips.length)) := .inr ⟨by omega, by simpa using hm'⟩
      refine floop_intro (fun z => z.d = [] ∧ Ge A z.H ∧ z.t 3 = t 3 ∧ z.t 5 = t 5 ∧ z.t 6 = t 6 ∧ z.t 16 = t 16 ∧ z.t 17 = t 17 ∧
        ∃ (x : Int) (acc : List Int), z.t 9 = .int .i64 x ∧ (x = -1 ∨ (0 ≤ x ∧ x.toNat < T.trips.length)) ∧ OwnSl z.H A.next (z.t 8) (acc.map (Value.int .i64)) ∧ acc.length + T.left x ≤ 2001 ∧ acc ++ chainL (turnL led) (T.left x) x = chainL (turnL led) 2001 m) (fun z => T.left (intOf (z.t 9))) ?_ ?_
      · refine ⟨rfl, Ge.new _ _, by simp, by simp, by simp, by simp, by simp, m, [], by simp, hok0, .inr ⟨A.next, 0, 0, by simp, by omega, by simp, by simp, by simp, by simp⟩, ?_, ?_⟩
        · simpa using left_le hT ⟨by omega, by simpa using hm'⟩
        · simp; exact chainL_eq hT hnx _ _ _ hok0 (Nat.le_refl _) (left_le hT ⟨by omega, by simpa using hm'⟩)
      rintro ⟨w, _, B⟩ ⟨rfl, gB, w3, w5, w6, w16, w17, x, acc, w9, hx, hO, hacc, hch⟩
      dsimp only at gB w3 w5 w6 w16 w17 w9 hO
      simp [w9]
      refine fcond_intro (fun hc2 => ?_) (fun hc2 => ?_)
      · simp at hc2
        obtain ⟨x0, x1⟩ := hx.resolve_left hc2
        obtain ⟨y1, y2⟩ := left_next hT hnx x0 x1
        simp [w9]
        have hlt : (acc.map (Value.int .i64)).length ≤ 2 ^ 20 := by simp; omega
        have hgn := gB.next
        refine fapp_own (hO.ge (Ge.new _ _)) (slCells_new (x := .int .i64 x) (rw := true) (c := 1) (by simp)) rfl hlt (by omega) (Nat.le_refl _) (by omega) (by simp; omega) fun u C k1 k2 k3 k4 => ?_
        have gC : Ge A C := by
          refine ⟨by omega, fun n hn => ?_⟩
          have e1 : n ≠ B.next := by omega
          rw [k4 n (by simp; omega) (fun e => by have := (hO.names e).1; omega)]
          simp [e1, gB.get n hn]
        have bnC := gC.got hn bn
        have hxl : x.toNat < 12 := by omega
        have hnv : (turnL led)[x.toNat]? = some ((turnL led)[x.toNat]?.getD (-1)) := by simp [hnl, hxl]
        have hch2 : (acc ++ [x]) ++ chainL (turnL led) (T.left ((turnL led)[x.toNat]?.getD (-1))) ((turnL led)[x.toNat]?.getD (-1)) = chainL (turnL led) 2001 m := by
          rw [← hch]
          obtain ⟨q, hq⟩ : ∃ q, T.left x = q + 1 := ⟨T.left x - 1, by omega⟩
          rw [hq]
          simp only [chainL, if_neg hc2, List.append_assoc, List.singleton_append]
          congr 2
          exact chainL_eq hT hnx _ _ _ y2 (Nat.le_refl _) (by omega)
        have hnm : ((turnL led).map (Value.int .i64))[x.toNat]? = some (.int .i64 ((turnL led)[x.toNat]?.getD (-1))) := by rw [List.getElem?_map, hnv]; rfl
        generalize hg : (turnL led)[x.toNat]?.getD (-1) = nv at *
        simp [w6, w9, t6, iar12 (n := H1.next) x0 (by omega), bnC, hnm]
        exact ⟨⟨gC, w3, w5, w16, w17, y2, acc ++ [x], by simpa using k1, by simp; omega, hch2⟩, y1⟩
      · simp at hc2
        subst hc2
        have hch0 : acc = chainL (turnL led) 2001 m := by
          rw [← hch]
          have : T.left (-1) = 0 := by simp [Tab.left]
          rw [this]; simp only [chainL, List.append_nil]
        have one8 := one_cells hO.one
        simp [one8]
        have gBn : Ge A (B.new (.cells true [w 8] 1)) := gB.newOf _
        have hR2 : RowsO (B.new (.cells true [w 8] 1)) (H.next + 2) (w 5) (blocksTo led (turnL led) m) := by
          rw [w5]; exact hR.keep gBn.next fun n _ hn => gBn.get n hn
        have hlb := blocksTo_length (led := led) (next := turnL led) (m := m)
        have hgn := gB.next
        simp [Tab.left] at hacc
        refine hR2.push (lo1 := A.next) (r := acc) (hO.ge (Ge.new _ _)) (by omega) ?_ (by omega) (slCells_new (x := w 8) (rw := true) (c := 1) (by simp)) (by omega) (by simp) (by omega) (by simp; omega) fun u C k1 k2 k3 k4 => ?_
        · intro p hp e
          obtain ⟨vs, o1, _⟩ := hR.ex
          have := (hO.names hp).1
          rw [w5] at e
          have := (o1.names e).2
          omega
        · obtain ⟨vs, o1, _⟩ := hR.ex
          have hC : ∀ n, n < A.next → slName (t 5) ≠ some n → C.get n = A.get n := fun n hn hs => by
            have e1 : n ≠ B.next := by omega
            rw [k4 n (by omega) (by rw [w5]; exact hs)]
            simp [e1, gB.get n hn]
          have s1 : slName (t 5) ≠ some (H.next + 1) := fun e => by have := (o1.names e).1; omega
          simp [w17, t17, add_in (x := m) (y := 1) (by omega) (by omega)]
          have gHC : Ge H C := by
            refine ⟨by have := g.next; omega, fun n hn => ?_⟩
            rw [hC n (by have := g.next; omega) (fun e => by have := (o1.names e).1; omega), g.get n hn]
          refine ⟨⟨gHC, by omega, by rw [w3, t3], by rw [w6, t6], by rw [w16, t16], (hC _ (by omega) s1).trans b1, (hC _ (by omega) hq).trans bn, ?_, m + 1, by omega, by omega, ?_⟩, by omega⟩
          · rw [k2]; intro e; simp at e; omega
          · rw [hsucc, ← hch0]; exact k1
  · have hm' : m = T.trips.length := by simp at hc; omega
    subst hm'
    simp
    exact ⟨hR.rows (by have := blocksTo_length (led := led) (next := turnL led) (m := T.trips.length); omega), g⟩

end Go.Proofs.Ytohohnpjilinmaa

/-
  The contract of Cut.
-/
namespace Go.Proofs.Ytohohnpjilinmaa
open Go Go.Ab

/-- The blocks that are cut. -/
def cutL (T : Tab) : List (List Int) := blocksL T (joinL T.followers (upTo T.trips.length) T.trips.length)

theorem cut_spec {e s : Value} {T : Tab} {H : Heap} (h : TabAt H e s T) : AFun Try.prog 26 [tabV T e s] H (fun r H' => Ge H H' ∧ (checkT T ≠ 0 → r = .tuple #[.slice none 0 0, .int .i64 (checkT T)]) ∧ (checkT T = 0 → ∃ f, r = .tuple #[f, .int .i64 0] ∧ RowsAt H' f (cutL T))) := by
  refine AFun.mk ok26 hm (Nat.le_of_ble_eq_true rfl) ?_
  simp [a26, r26]
  refine fcall_fun (checkTable_spec (h.ge (by simp))) ?_
  rintro _ H1 ⟨rfl, g1⟩
  have G1 : Ge H H1 := Ge.trans (by simp) g1
  have b1 := g1.got (n := H.next) (by simp) rfl
  simp at b1
  simp
  refine fcond_intro (fun hc => ?_) (fun hc => ?_)
  · simp at hc
    simp [hc, G1]
  · simp at hc
    have hT := checkT_zero.1 hc
    have he := h.empty.one
    have hs := h.trips.one
    simp [b1]
    refine fcall_fun (newService_spec (h.ge G1) hT) ?_
    rintro _ H2 ⟨f, rfl, g2, hr⟩
    have hf1 := hr.one
    have hF := followers_ok hT.few
    simp [he, hs, hf1]
    have G2 : Ge H ((H2.new (.cells true [.int .i64 0, .int .i64 0, .slice none 0 0, .slice none 0 0, .nilFunc, .slice none 0 0] 6)).set H2.next (.cells true [.int .i64 T.places, .int .i64 T.layover, e, s, .func (.func 74) #[] #[], f] 6)) := Ge.setNew ((G1.trans g2).newOf _) (G1.trans g2).next _
    have G3 : Ge H2 ((H2.new (.cells true [.int .i64 0, .int .i64 0, .slice none 0 0, .slice none 0 0, .nilFunc, .slice none 0 0] 6)).set H2.next (.cells true [.int .i64 T.places, .int .i64 T.layover, e, s, .func (.func 74) #[] #[], f] 6)) := Ge.setNew (Ge.new _ _) (Nat.le_refl _) _
    refine fcall_fun (allTrips_spec ((h.ge G2).ge (Ge.more _ 8)) hT.few) ?_
    rintro _ H3 ⟨rfl, g3⟩
    have k3 := g3.got (n := H2.next) (by simp) (by simp; rfl)
    simp [k3]
    have G4 := (G2.grow 8).trans g3
    have G5 := (G3.grow 8).trans g3
    refine fcall_fun (join_spec (h.ge G4) hF (upTo_length _) (hr.ge G5)) ?_
    rintro _ H4 ⟨rfl, g4⟩
    have k4 := g4.got (n := H2.next) (by have := g3.next; simp at this; omega) k3
    simp [k4]
    refine fcall_fun (blocks_spec (h.ge (G4.trans g4)) hT (joinL_ok hF _ (Nat.le_refl _)) (joinL_foll hF _ (Nat.le_refl _))) ?_
    rintro v H5 ⟨hv, g5⟩
    simp [hc, cutL]
    exact ⟨(G4.trans g4).trans g5, hv⟩

end Go.Proofs.Ytohohnpjilinmaa
