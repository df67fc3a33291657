/-
  Joined texts of a calculus of abstract memory, of the program's code in it, and of contracts.
-/
import Derived.Test.YtllkhaabcfnlpaaDoorJ5
import Derived.Test.YtllkhaabcfnlpaaDoorChecked
import Derived.KernelRfl
/-
  The code of functions of the package, as the calculus has it.
-/
namespace Go.Proofs.YtllkhaabcfnlpaaDoor
open Go Go.Ab

/-- layover/layoverlaw02.DutyLegal -/
def a3 : ACode :=
  (.seq
   (.region [⟨(some 2), (.box (.t 0)), none⟩, ⟨(some 4), (.mov (.c (.bool false))), none⟩])
   (.seq
    (.seq
     (.region [⟨(some 11), (.ld true 10 (.t 2)), none⟩, ⟨(some 12), (.call (.c (.func (.func 15) #[] #[])) [(.t 11)]), none⟩, ⟨(some 13), (.not (.t 12)), none⟩, ⟨(some 14), (.mov (.t 13)), none⟩, ⟨(some 15), (.mov (.t 1)), (some (14, false))⟩, ⟨(some 16), (.len (.t 15)), (some (14, false))⟩, ⟨(some 17), (.bin .gtr (.t 16) (.c (.int .i64 14))), (some (14, false))⟩, ⟨(some 18), (.pick (.t 14) (.c (.bool true)) (.t 17)), none⟩])
     (.cond (.t 18)
      (.seq
       (.region [⟨(some 19), (.call (.c (.func (.func 16) #[] #[])) []), none⟩, ⟨(some 4), (.mov (.t 19)), none⟩])
       .ret)
      .skip))
    (.seq
     (.region [⟨(some 20), (.ld true 10 (.t 2)), none⟩, ⟨(some 21), (.call (.c (.func (.func 18) #[] #[])) [(.t 20)]), none⟩, ⟨(some 22), (.call (.c (.func (.func 17) #[] #[])) [(.t 21)]), none⟩, ⟨(some 5), (.mov (.t 22)), none⟩])
     (.seq
      (.region [⟨(some 24), (.ld true 10 (.t 2)), none⟩, ⟨(some 25), (.call (.c (.func (.func 18) #[] #[])) [(.t 24)]), none⟩, ⟨(some 26), (.mov (.t 1)), none⟩, ⟨(some 27), (.call (.c (.func (.func 20) #[] #[])) [(.t 26)]), none⟩, ⟨(some 28), (.call (.c (.func (.func 19) #[] #[])) [(.t 25), (.t 27)]), none⟩, ⟨(some 23), (.mov (.t 28)), none⟩, ⟨(some 29), (.ext (.t 23) 0), none⟩, ⟨(some 30), (.ext (.t 23) 1), none⟩, ⟨(some 6), (.mov (.t 29)), none⟩, ⟨(some 7), (.mov (.t 30)), none⟩])
      (.seq
       (.region [⟨(some 32), (.ld true 10 (.t 2)), none⟩, ⟨(some 33), (.call (.c (.func (.func 18) #[] #[])) [(.t 32)]), none⟩, ⟨(some 34), (.mov (.t 1)), none⟩, ⟨(some 35), (.call (.c (.func (.func 20) #[] #[])) [(.t 34)]), none⟩, ⟨(some 36), (.call (.c (.func (.func 21) #[] #[])) [(.t 33), (.t 35)]), none⟩, ⟨(some 31), (.mov (.t 36)), none⟩, ⟨(some 37), (.ext (.t 31) 0), none⟩, ⟨(some 38), (.ext (.t 31) 1), none⟩, ⟨(some 8), (.mov (.t 37)), none⟩, ⟨(some 9), (.mov (.t 38)), none⟩])
       (.seq
        (.region [⟨(some 39), (.ld true 10 (.t 2)), none⟩, ⟨(some 40), (.call (.c (.func (.func 22) #[] #[])) [(.t 39)]), none⟩, ⟨(some 10), (.mov (.t 40)), none⟩])
        (.seq
         (.seq
          (.region [⟨(some 41), (.mov (.t 5)), none⟩, ⟨(some 42), (.mov (.t 10)), none⟩, ⟨(some 43), (.bin .neq (.t 41) (.t 42)), none⟩])
          (.cond (.t 43)
           (.seq
            (.region [⟨(some 4), (.mov (.c (.bool false))), none⟩])
            .ret)
           .skip))
         (.seq
          (.seq
           (.region [⟨(some 44), (.mov (.t 10)), none⟩, ⟨(some 45), (.bin .eql (.t 44) (.c (.int .i64 0))), none⟩, ⟨(some 46), (.mov (.t 45)), none⟩, ⟨(some 47), (.ld true 10 (.t 2)), (some (46, true))⟩, ⟨(some 48), (.mov (.t 1)), (some (46, true))⟩, ⟨(some 49), (.call (.c (.func (.func 23) #[] #[])) [(.t 47), (.t 48)]), (some (46, true))⟩, ⟨(some 50), (.not (.t 49)), (some (46, true))⟩, ⟨(some 51), (.pick (.t 46) (.t 50) (.c (.bool false))), none⟩])
           (.cond (.t 51)
            (.region [⟨(some 10), (.mov (.c (.int .i64 2))), none⟩])
            .skip))
          (.seq
           (.seq
            (.region [⟨(some 52), (.mov (.t 10)), none⟩, ⟨(some 53), (.bin .neq (.t 52) (.c (.int .i64 0))), none⟩])
            (.cond (.t 53)
             (.seq
              (.region [⟨(some 54), (.mov (.t 7)), none⟩, ⟨(some 55), (.mov (.t 10)), none⟩, ⟨(some 56), (.bin .eql (.t 54) (.t 55)), none⟩, ⟨(some 57), (.mov (.t 56)), none⟩, ⟨(some 58), (.mov (.t 9)), (some (57, true))⟩, ⟨(some 59), (.mov (.t 10)), (some (57, true))⟩, ⟨(some 60), (.bin .eql (.t 58) (.t 59)), (some (57, true))⟩, ⟨(some 61), (.pick (.t 57) (.t 60) (.c (.bool false))), none⟩, ⟨(some 62), (.mov (.t 61)), none⟩, ⟨(some 63), (.mov (.t 6)), (some (62, true))⟩, ⟨(some 64), (.not (.t 63)), (some (62, true))⟩, ⟨(some 65), (.pick (.t 62) (.t 64) (.c (.bool false))), none⟩, ⟨(some 66), (.mov (.t 65)), none⟩, ⟨(some 67), (.mov (.t 8)), (some (66, true))⟩, ⟨(some 68), (.bin .eql (.t 67) (.c (.int .i64 0))), (some (66, true))⟩, ⟨(some 69), (.pick (.t 66) (.t 68) (.c (.bool false))), none⟩, ⟨(some 70), (.mov (.t 69)), none⟩, ⟨(some 71), (.call (.c (.func (.func 16) #[] #[])) []), (some (70, true))⟩, ⟨(some 72), (.pick (.t 70) (.t 71) (.c (.bool false))), none⟩, ⟨(some 4), (.mov (.t 72)), none⟩])
              .ret)
             .skip))
           (.seq
            (.seq
             (.region [⟨(some 73), (.mov (.t 7)), none⟩, ⟨(some 74), (.bin .neq (.t 73) (.c (.int .i64 0))), none⟩, ⟨(some 75), (.mov (.t 74)), none⟩, ⟨(some 76), (.mov (.t 6)), (some (75, false))⟩, ⟨(some 77), (.ld true 10 (.t 2)), (some (75, false))⟩, ⟨(some 78), (.mov (.t 1)), (some (75, false))⟩, ⟨(some 79), (.call (.c (.func (.func 24) #[] #[])) [(.t 77), (.t 78)]), (some (75, false))⟩, ⟨(some 80), (.gen 105 ⟨(some 80), (.binOp .neq 4 (.tmp 76) (.tmp 79) 4), 4, "law.go:90", #[{ on := 3, ground := Go.Ground.data }, { on := 6, ground := Go.Ground.data }, { on := 2, ground := Go.Ground.guard }], (some (2, false))⟩), (some (75, false))⟩, ⟨(some 81), (.pick (.t 75) (.c (.bool true)) (.t 80)), none⟩])
             (.cond (.t 81)
              (.seq
               (.region [⟨(some 4), (.mov (.c (.bool false))), none⟩])
               .ret)
              .skip))
            (.seq
             (.seq
              (.region [⟨(some 82), (.mov (.t 6)), none⟩, ⟨(some 83), (.not (.t 82)), none⟩])
              (.cond (.t 83)
               (.seq
                (.region [⟨(some 84), (.mov (.t 9)), none⟩, ⟨(some 85), (.bin .eql (.t 84) (.c (.int .i64 10))), none⟩, ⟨(some 86), (.mov (.t 85)), none⟩, ⟨(some 87), (.mov (.t 8)), (some (86, true))⟩, ⟨(some 88), (.bin .eql (.t 87) (.c (.int .i64 0))), (some (86, true))⟩, ⟨(some 89), (.pick (.t 86) (.t 88) (.c (.bool false))), none⟩, ⟨(some 90), (.mov (.t 89)), none⟩, ⟨(some 91), (.call (.c (.func (.func 16) #[] #[])) []), (some (90, true))⟩, ⟨(some 92), (.pick (.t 90) (.t 91) (.c (.bool false))), none⟩, ⟨(some 4), (.mov (.t 92)), none⟩])
                .ret)
               .skip))
             (.seq
              (.region [⟨(some 93), (.mov (.t 9)), none⟩, ⟨(some 94), (.bin .eql (.t 93) (.c (.int .i64 0))), none⟩, ⟨(some 95), (.mov (.t 94)), none⟩, ⟨(some 96), (.mov (.t 8)), (some (95, true))⟩, ⟨(some 97), (.ld true 10 (.t 2)), (some (95, true))⟩, ⟨(some 98), (.mov (.t 1)), (some (95, true))⟩, ⟨(some 99), (.call (.c (.func (.func 25) #[] #[])) [(.t 97), (.t 98)]), (some (95, true))⟩, ⟨(some 100), (.bin .eql (.t 96) (.t 99)), (some (95, true))⟩, ⟨(some 101), (.pick (.t 95) (.t 100) (.c (.bool false))), none⟩, ⟨(some 102), (.mov (.t 101)), none⟩, ⟨(some 103), (.call (.c (.func (.func 16) #[] #[])) []), (some (102, true))⟩, ⟨(some 104), (.pick (.t 102) (.t 103) (.c (.bool false))), none⟩, ⟨(some 4), (.mov (.t 104)), none⟩])
              .ret))))))))))))
def r3 : List AOp := [(.mov (.t 4))]
theorem ok3 : FnOk Tryd.prog 3 Tryd.f3.ntmps a3 r3 := ⟨Tryd.f3, Tryd.func3, by kernel_rfl, by kernel_rfl, by kernel_rfl, fun asv w => by simp⟩

/-- layover/layoverlaw02.DutyBars -/
def a5 : ACode :=
  (.seq
   (.region [⟨(some 1), (.box (.t 0)), none⟩, ⟨(some 2), (.mov (.c (.bool false))), none⟩])
   (.seq
    (.seq
     (.region [⟨(some 11), (.ld true 10 (.t 1)), none⟩, ⟨(some 12), (.call (.c (.func (.func 15) #[] #[])) [(.t 11)]), none⟩, ⟨(some 13), (.not (.t 12)), none⟩, ⟨(some 14), (.mov (.t 13)), none⟩, ⟨(some 15), (.ld true 10 (.t 1)), (some (14, false))⟩, ⟨(some 16), (.call (.c (.func (.func 36) #[] #[])) [(.t 15)]), (some (14, false))⟩, ⟨(some 17), (.bin .eql (.t 16) (.c (.int .i64 0))), (some (14, false))⟩, ⟨(some 18), (.mov (.t 17)), (some (14, false))⟩, ⟨(some 19), (.ld true 10 (.t 1)), (some (18, true))⟩, ⟨(some 20), (.call (.c (.func (.func 37) #[] #[])) [(.t 19)]), (some (18, true))⟩, ⟨(some 21), (.bin .gtr (.t 20) (.c (.int .i64 6))), (some (18, true))⟩, ⟨(some 22), (.pick (.t 18) (.t 21) (.c (.bool false))), (some (14, false))⟩, ⟨(some 23), (.pick (.t 14) (.c (.bool true)) (.t 22)), none⟩])
     (.cond (.t 23)
      (.seq
       (.region [⟨(some 24), (.call (.c (.func (.func 16) #[] #[])) []), none⟩, ⟨(some 2), (.mov (.t 24)), none⟩])
       .ret)
      .skip))
    (.seq
     (.region [⟨(some 26), (.ld true 10 (.t 1)), none⟩, ⟨(some 27), (.call (.c (.func (.func 18) #[] #[])) [(.t 26)]), none⟩, ⟨(some 28), (.call (.c (.func (.func 38) #[] #[])) [(.t 27)]), none⟩, ⟨(some 25), (.mov (.t 28)), none⟩, ⟨(some 29), (.ext (.t 25) 0), none⟩, ⟨(some 30), (.ext (.t 25) 1), none⟩, ⟨(some 3), (.mov (.t 29)), none⟩, ⟨(some 4), (.mov (.t 30)), none⟩])
     (.seq
      (.seq
       (.region [⟨(some 31), (.ld true 10 (.t 1)), none⟩, ⟨(some 32), (.call (.c (.func (.func 22) #[] #[])) [(.t 31)]), none⟩, ⟨(some 5), (.mov (.t 32)), none⟩])
       (.seq
        (.region [⟨(some 33), (.mov (.t 5)), none⟩, ⟨(some 34), (.bin .neq (.t 33) (.c (.int .i64 0))), none⟩])
        (.cond (.t 34)
         (.seq
          (.region [⟨(some 35), (.mov (.t 4)), none⟩, ⟨(some 36), (.mov (.t 5)), none⟩, ⟨(some 37), (.bin .eql (.t 35) (.t 36)), none⟩, ⟨(some 38), (.mov (.t 37)), none⟩, ⟨(some 39), (.mov (.t 3)), (some (38, true))⟩, ⟨(some 40), (.len (.t 39)), (some (38, true))⟩, ⟨(some 41), (.bin .eql (.t 40) (.c (.int .i64 0))), (some (38, true))⟩, ⟨(some 42), (.pick (.t 38) (.t 41) (.c (.bool false))), none⟩, ⟨(some 43), (.mov (.t 42)), none⟩, ⟨(some 44), (.call (.c (.func (.func 16) #[] #[])) []), (some (43, true))⟩, ⟨(some 45), (.pick (.t 43) (.t 44) (.c (.bool false))), none⟩, ⟨(some 2), (.mov (.t 45)), none⟩])
          .ret)
         .skip)))
      (.seq
       (.region [⟨(some 46), (.ld true 10 (.t 1)), none⟩, ⟨(some 47), (.call (.c (.func (.func 39) #[] #[])) [(.t 46)]), none⟩, ⟨(some 6), (.mov (.t 47)), none⟩])
       (.seq
        (.region [⟨(some 7), (.mov (.c (.slice none 0 0))), none⟩])
        (.seq
         (.seq
          (.region [⟨(some 8), (.mov (.c (.int .i64 0))), none⟩])
          (.block 0
           (.loop
            (.seq
             (.seq
              (.region [⟨(some 48), (.mov (.t 8)), none⟩, ⟨(some 49), (.ld true 10 (.t 1)), none⟩, ⟨(some 50), (.call (.c (.func (.func 37) #[] #[])) [(.t 49)]), none⟩, ⟨(some 51), (.bin .lss (.t 48) (.t 50)), none⟩])
              (.cond (.t 51)
               .skip
               (.exit 0)))
             (.seq
              (.block 1
               (.seq
                (.region [⟨(some 9), (.mov (.c (.bool false))), none⟩])
                (.seq
                 (.seq
                  (.region [⟨(some 10), (.mov (.c (.int .i64 0))), none⟩])
                  (.block 2
                   (.loop
                    (.seq
                     (.seq
                      (.region [⟨(some 54), (.mov (.t 10)), none⟩, ⟨(some 55), (.mov (.t 6)), none⟩, ⟨(some 56), (.len (.t 55)), none⟩, ⟨(some 57), (.bin .lss (.t 54) (.t 56)), none⟩])
                      (.cond (.t 57)
                       .skip
                       (.exit 2)))
                     (.seq
                      (.block 3
                       (.region [⟨(some 60), (.mov (.t 9)), none⟩, ⟨(some 61), (.mov (.t 60)), none⟩, ⟨(some 62), (.mov (.t 6)), (some (61, false))⟩, ⟨(some 63), (.mov (.t 10)), (some (61, false))⟩, ⟨(some 64), (.isl 1 (.t 62) (.t 63)), (some (61, false))⟩, ⟨(some 65), (.ld false 1 (.t 64)), (some (61, false))⟩, ⟨(some 66), (.mov (.t 8)), (some (61, false))⟩, ⟨(some 67), (.call (.c (.func (.func 40) #[] #[])) [(.t 65), (.t 66)]), (some (61, false))⟩, ⟨(some 68), (.pick (.t 61) (.c (.bool true)) (.t 67)), none⟩, ⟨(some 9), (.mov (.t 68)), none⟩]))
                      (.region [⟨(some 58), (.mov (.t 10)), none⟩, ⟨(some 59), (.bin .add (.t 58) (.c (.int .i64 1))), none⟩, ⟨(some 10), (.mov (.t 59)), none⟩]))))))
                 (.seq
                  (.region [⟨(some 69), (.mov (.t 9)), none⟩, ⟨(some 70), (.not (.t 69)), none⟩])
                  (.cond (.t 70)
                   (.region [⟨(some 71), (.mov (.t 7)), none⟩, ⟨(some 72), (.mov (.t 8)), none⟩, ⟨(some 73), (.bsl 1 [(.int .i64 0)] [(0, 1, (.t 72))]), none⟩, ⟨(some 74), (.app 1 8 (.t 71) (.t 73)), none⟩, ⟨(some 7), (.mov (.t 74)), none⟩])
                   .skip)))))
              (.region [⟨(some 52), (.mov (.t 8)), none⟩, ⟨(some 53), (.bin .add (.t 52) (.c (.int .i64 1))), none⟩, ⟨(some 8), (.mov (.t 53)), none⟩]))))))
         (.seq
          (.seq
           (.region [⟨(some 75), (.mov (.t 7)), none⟩, ⟨(some 76), (.len (.t 75)), none⟩, ⟨(some 77), (.bin .eql (.t 76) (.c (.int .i64 0))), none⟩])
           (.cond (.t 77)
            (.seq
             (.region [⟨(some 78), (.mov (.t 4)), none⟩, ⟨(some 79), (.bin .eql (.t 78) (.c (.int .i64 7))), none⟩, ⟨(some 80), (.mov (.t 79)), none⟩, ⟨(some 81), (.mov (.t 3)), (some (80, true))⟩, ⟨(some 82), (.len (.t 81)), (some (80, true))⟩, ⟨(some 83), (.bin .eql (.t 82) (.c (.int .i64 0))), (some (80, true))⟩, ⟨(some 84), (.pick (.t 80) (.t 83) (.c (.bool false))), none⟩, ⟨(some 85), (.mov (.t 84)), none⟩, ⟨(some 86), (.call (.c (.func (.func 16) #[] #[])) []), (some (85, true))⟩, ⟨(some 87), (.pick (.t 85) (.t 86) (.c (.bool false))), none⟩, ⟨(some 2), (.mov (.t 87)), none⟩])
             .ret)
            .skip))
          (.seq
           (.region [⟨(some 88), (.mov (.t 4)), none⟩, ⟨(some 89), (.bin .eql (.t 88) (.c (.int .i64 0))), none⟩, ⟨(some 90), (.mov (.t 89)), none⟩, ⟨(some 91), (.mov (.t 3)), (some (90, true))⟩, ⟨(some 92), (.mov (.t 7)), (some (90, true))⟩, ⟨(some 93), (.call (.c (.func (.func 33) #[] #[])) [(.t 91), (.t 92)]), (some (90, true))⟩, ⟨(some 94), (.pick (.t 90) (.t 93) (.c (.bool false))), none⟩, ⟨(some 95), (.mov (.t 94)), none⟩, ⟨(some 96), (.call (.c (.func (.func 16) #[] #[])) []), (some (95, true))⟩, ⟨(some 97), (.pick (.t 95) (.t 96) (.c (.bool false))), none⟩, ⟨(some 2), (.mov (.t 97)), none⟩])
           .ret)))))))))
def r5 : List AOp := [(.mov (.t 2))]
theorem ok5 : FnOk Tryd.prog 5 Tryd.f5.ntmps a5 r5 := ⟨Tryd.f5, Tryd.func5, by kernel_rfl, by kernel_rfl, by kernel_rfl, fun asv w => by simp⟩

/-- layover/layoverlaw02.DutyBounds -/
def a6 : ACode :=
  (.seq
   (.region [⟨(some 2), (.box (.t 0)), none⟩, ⟨(some 4), (.mov (.c (.bool false))), none⟩])
   (.seq
    (.seq
     (.region [⟨(some 12), (.ld true 10 (.t 2)), none⟩, ⟨(some 13), (.call (.c (.func (.func 15) #[] #[])) [(.t 12)]), none⟩, ⟨(some 14), (.not (.t 13)), none⟩, ⟨(some 15), (.mov (.t 14)), none⟩, ⟨(some 16), (.mov (.t 1)), (some (15, false))⟩, ⟨(some 17), (.len (.t 16)), (some (15, false))⟩, ⟨(some 18), (.bin .gtr (.t 17) (.c (.int .i64 14))), (some (15, false))⟩, ⟨(some 19), (.pick (.t 15) (.c (.bool true)) (.t 18)), none⟩, ⟨(some 20), (.mov (.t 19)), none⟩, ⟨(some 21), (.ld true 10 (.t 2)), (some (20, false))⟩, ⟨(some 22), (.call (.c (.func (.func 36) #[] #[])) [(.t 21)]), (some (20, false))⟩, ⟨(some 23), (.bin .eql (.t 22) (.c (.int .i64 0))), (some (20, false))⟩, ⟨(some 24), (.mov (.t 23)), (some (20, false))⟩, ⟨(some 25), (.ld true 10 (.t 2)), (some (24, true))⟩, ⟨(some 26), (.call (.c (.func (.func 37) #[] #[])) [(.t 25)]), (some (24, true))⟩, ⟨(some 27), (.bin .gtr (.t 26) (.c (.int .i64 7))), (some (24, true))⟩, ⟨(some 28), (.pick (.t 24) (.t 27) (.c (.bool false))), (some (20, false))⟩, ⟨(some 29), (.pick (.t 20) (.c (.bool true)) (.t 28)), none⟩])
     (.cond (.t 29)
      (.seq
       (.region [⟨(some 30), (.call (.c (.func (.func 16) #[] #[])) []), none⟩, ⟨(some 4), (.mov (.t 30)), none⟩])
       .ret)
      .skip))
    (.seq
     (.region [⟨(some 32), (.ld true 10 (.t 2)), none⟩, ⟨(some 33), (.call (.c (.func (.func 18) #[] #[])) [(.t 32)]), none⟩, ⟨(some 34), (.mov (.t 1)), none⟩, ⟨(some 35), (.call (.c (.func (.func 20) #[] #[])) [(.t 34)]), none⟩, ⟨(some 36), (.call (.c (.func (.func 41) #[] #[])) [(.t 33), (.t 35)]), none⟩, ⟨(some 31), (.mov (.t 36)), none⟩, ⟨(some 37), (.ext (.t 31) 0), none⟩, ⟨(some 38), (.ext (.t 31) 1), none⟩, ⟨(some 5), (.mov (.t 37)), none⟩, ⟨(some 6), (.mov (.t 38)), none⟩])
     (.seq
      (.region [⟨(some 39), (.ld true 10 (.t 2)), none⟩, ⟨(some 40), (.call (.c (.func (.func 22) #[] #[])) [(.t 39)]), none⟩, ⟨(some 7), (.mov (.t 40)), none⟩])
      (.seq
       (.seq
        (.region [⟨(some 41), (.mov (.t 7)), none⟩, ⟨(some 42), (.bin .eql (.t 41) (.c (.int .i64 0))), none⟩, ⟨(some 43), (.mov (.t 42)), none⟩, ⟨(some 44), (.ld true 10 (.t 2)), (some (43, true))⟩, ⟨(some 45), (.mov (.t 1)), (some (43, true))⟩, ⟨(some 46), (.call (.c (.func (.func 42) #[] #[])) [(.t 44), (.t 45)]), (some (43, true))⟩, ⟨(some 47), (.not (.t 46)), (some (43, true))⟩, ⟨(some 48), (.pick (.t 43) (.t 47) (.c (.bool false))), none⟩])
        (.cond (.t 48)
         (.region [⟨(some 7), (.mov (.c (.int .i64 2))), none⟩])
         .skip))
       (.seq
        (.region [⟨(some 8), (.mov (.c (.int .i64 0))), none⟩])
        (.seq
         (.seq
          (.region [⟨(some 49), (.mov (.t 7)), none⟩, ⟨(some 50), (.bin .eql (.t 49) (.c (.int .i64 0))), none⟩])
          (.cond (.t 50)
           (.seq
            (.region [⟨(some 51), (.ld true 10 (.t 2)), none⟩, ⟨(some 52), (.call (.c (.func (.func 39) #[] #[])) [(.t 51)]), none⟩, ⟨(some 9), (.mov (.t 52)), none⟩])
            (.seq
             (.seq
              (.region [⟨(some 10), (.mov (.c (.int .i64 0))), none⟩])
              (.block 0
               (.loop
                (.seq
                 (.seq
                  (.region [⟨(some 53), (.mov (.t 10)), none⟩, ⟨(some 54), (.mov (.t 9)), none⟩, ⟨(some 55), (.len (.t 54)), none⟩, ⟨(some 56), (.bin .lss (.t 53) (.t 55)), none⟩])
                  (.cond (.t 56)
                   .skip
                   (.exit 0)))
                 (.seq
                  (.block 1
                   (.seq
                    (.region [⟨(some 59), (.mov (.t 1)), none⟩, ⟨(some 60), (.mov (.t 9)), none⟩, ⟨(some 61), (.mov (.t 10)), none⟩, ⟨(some 62), (.isl 1 (.t 60) (.t 61)), none⟩, ⟨(some 63), (.ld false 1 (.t 62)), none⟩, ⟨(some 64), (.call (.c (.func (.func 43) #[] #[])) [(.t 59), (.t 63)]), none⟩, ⟨(some 65), (.bin .gtr (.t 64) (.c (.int .i64 1000))), none⟩])
                    (.cond (.t 65)
                     (.region [⟨(some 7), (.mov (.c (.int .i64 9))), none⟩])
                     .skip)))
                  (.region [⟨(some 57), (.mov (.t 10)), none⟩, ⟨(some 58), (.bin .add (.t 57) (.c (.int .i64 1))), none⟩, ⟨(some 10), (.mov (.t 58)), none⟩]))))))
             (.seq
              (.region [⟨(some 11), (.mov (.c (.int .i64 0))), none⟩])
              (.block 2
               (.loop
                (.seq
                 (.seq
                  (.region [⟨(some 66), (.mov (.t 11)), none⟩, ⟨(some 67), (.mov (.t 1)), none⟩, ⟨(some 68), (.len (.t 67)), none⟩, ⟨(some 69), (.bin .lss (.t 66) (.t 68)), none⟩])
                  (.cond (.t 69)
                   .skip
                   (.exit 2)))
                 (.seq
                  (.block 3
                   (.region [⟨(some 72), (.mov (.t 8)), none⟩, ⟨(some 73), (.mov (.t 1)), none⟩, ⟨(some 74), (.mov (.t 11)), none⟩, ⟨(some 75), (.isl 1 (.t 73) (.t 74)), none⟩, ⟨(some 76), (.ld false 1 (.t 75)), none⟩, ⟨(some 77), (.bin .add (.t 72) (.t 76)), none⟩, ⟨(some 8), (.mov (.t 77)), none⟩]))
                  (.region [⟨(some 70), (.mov (.t 11)), none⟩, ⟨(some 71), (.bin .add (.t 70) (.c (.int .i64 1))), none⟩, ⟨(some 11), (.mov (.t 71)), none⟩]))))))))
           .skip))
         (.seq
          (.seq
           (.region [⟨(some 78), (.mov (.t 7)), none⟩, ⟨(some 79), (.bin .neq (.t 78) (.c (.int .i64 0))), none⟩])
           (.cond (.t 79)
            (.seq
             (.region [⟨(some 80), (.mov (.t 6)), none⟩, ⟨(some 81), (.mov (.t 7)), none⟩, ⟨(some 82), (.bin .eql (.t 80) (.t 81)), none⟩, ⟨(some 83), (.mov (.t 82)), none⟩, ⟨(some 84), (.mov (.t 5)), (some (83, true))⟩, ⟨(some 85), (.bin .eql (.t 84) (.c (.int .i64 0))), (some (83, true))⟩, ⟨(some 86), (.pick (.t 83) (.t 85) (.c (.bool false))), none⟩, ⟨(some 87), (.mov (.t 86)), none⟩, ⟨(some 88), (.call (.c (.func (.func 16) #[] #[])) []), (some (87, true))⟩, ⟨(some 89), (.pick (.t 87) (.t 88) (.c (.bool false))), none⟩, ⟨(some 4), (.mov (.t 89)), none⟩])
             .ret)
            .skip))
          (.seq
           (.region [⟨(some 90), (.mov (.t 6)), none⟩, ⟨(some 91), (.bin .eql (.t 90) (.c (.int .i64 0))), none⟩, ⟨(some 92), (.mov (.t 91)), none⟩, ⟨(some 93), (.mov (.t 5)), (some (92, true))⟩, ⟨(some 94), (.mov (.t 8)), (some (92, true))⟩, ⟨(some 95), (.bin .add (.t 94) (.c (.int .i64 999))), (some (92, true))⟩, ⟨(some 96), (.bin .quo (.t 95) (.c (.int .i64 1000))), (some (92, true))⟩, ⟨(some 97), (.bin .eql (.t 93) (.t 96)), (some (92, true))⟩, ⟨(some 98), (.pick (.t 92) (.t 97) (.c (.bool false))), none⟩, ⟨(some 99), (.mov (.t 98)), none⟩, ⟨(some 100), (.call (.c (.func (.func 16) #[] #[])) []), (some (99, true))⟩, ⟨(some 101), (.pick (.t 99) (.t 100) (.c (.bool false))), none⟩, ⟨(some 4), (.mov (.t 101)), none⟩])
           .ret)))))))))
def r6 : List AOp := [(.mov (.t 4))]
theorem ok6 : FnOk Tryd.prog 6 Tryd.f6.ntmps a6 r6 := ⟨Tryd.f6, Tryd.func6, by kernel_rfl, by kernel_rfl, by kernel_rfl, fun asv w => by simp⟩

/-- layover/layoverlaw02.DutyNames -/
def a7 : ACode :=
  (.seq
   (.region [⟨(some 0), (.mov (.c (.bool false))), none⟩])
   (.seq
    (.region [⟨(some 26), (.call (.c (.func (.func 44) #[] #[])) []), none⟩, ⟨(some 27), (.bsl 2 [(.int .i64 0), (.int .i64 0)] [(0, 1, (.c (.int .i64 0))), (1, 1, (.c (.int .i64 2)))]), none⟩, ⟨(some 28), (.call (.c (.func (.func 21) #[] #[])) [(.t 26), (.t 27)]), none⟩, ⟨(some 25), (.mov (.t 28)), none⟩, ⟨(some 29), (.ext (.t 25) 0), none⟩, ⟨(some 30), (.ext (.t 25) 1), none⟩, ⟨(some 1), (.mov (.t 29)), none⟩, ⟨(some 2), (.mov (.t 30)), none⟩])
    (.seq
     (.region [⟨(some 32), (.call (.c (.func (.func 44) #[] #[])) []), none⟩, ⟨(some 33), (.bsl 2 [(.int .i64 0), (.int .i64 0)] [(0, 1, (.c (.int .i64 3))), (1, 1, (.c (.int .i64 4)))]), none⟩, ⟨(some 34), (.call (.c (.func (.func 21) #[] #[])) [(.t 32), (.t 33)]), none⟩, ⟨(some 31), (.mov (.t 34)), none⟩, ⟨(some 35), (.ext (.t 31) 0), none⟩, ⟨(some 36), (.ext (.t 31) 1), none⟩, ⟨(some 3), (.mov (.t 35)), none⟩, ⟨(some 4), (.mov (.t 36)), none⟩])
     (.seq
      (.region [⟨(some 38), (.call (.c (.func (.func 44) #[] #[])) []), none⟩, ⟨(some 39), (.bsl 2 [(.int .i64 0), (.int .i64 0)] [(0, 1, (.c (.int .i64 0))), (1, 1, (.c (.int .i64 2)))]), none⟩, ⟨(some 40), (.bsl 4 [(.int .i64 0), (.int .i64 0), (.int .i64 0), (.int .i64 0)] [(0, 1, (.c (.int .i64 300))), (1, 1, (.c (.int .i64 425))), (2, 1, (.c (.int .i64 540))), (3, 1, (.c (.int .i64 660)))]), none⟩, ⟨(some 41), (.bsl 3 [(.int .i64 0), (.int .i64 0), (.int .i64 0)] [(0, 1, (.c (.int .i64 400))), (1, 1, (.c (.int .i64 505))), (2, 1, (.c (.int .i64 610)))]), none⟩, ⟨(some 42), (.bsl 2 [(.slice none 0 0), (.slice none 0 0)] [(0, 1, (.t 40)), (1, 1, (.t 41))]), none⟩, ⟨(some 43), (.call (.c (.func (.func 27) #[] #[])) [(.t 38), (.t 39), (.t 42)]), none⟩, ⟨(some 37), (.mov (.t 43)), none⟩, ⟨(some 44), (.ext (.t 37) 0), none⟩, ⟨(some 45), (.ext (.t 37) 1), none⟩, ⟨(some 5), (.new [(.int .i64 0), (.int .i64 0), (.slice none 0 0), (.bool false)]), none⟩, ⟨none, (.st 4 (.t 5) (.t 44)), none⟩, ⟨(some 6), (.mov (.t 45)), none⟩])
      (.seq
       (.region [⟨(some 47), (.call (.c (.func (.func 44) #[] #[])) []), none⟩, ⟨(some 48), (.call (.c (.func (.func 45) #[] #[])) [(.t 47)]), none⟩, ⟨(some 46), (.mov (.t 48)), none⟩, ⟨(some 49), (.ext (.t 46) 0), none⟩, ⟨(some 50), (.ext (.t 46) 1), none⟩, ⟨(some 51), (.ext (.t 46) 2), none⟩, ⟨(some 7), (.mov (.t 49)), none⟩, ⟨(some 8), (.mov (.t 50)), none⟩, ⟨(some 9), (.mov (.t 51)), none⟩])
       (.seq
        (.region [⟨(some 52), (.call (.c (.func (.func 44) #[] #[])) []), none⟩, ⟨(some 10), (.new [(.int .i64 0), (.int .i64 0), (.int .i64 0), (.int .i64 0), (.int .i64 0), (.int .i64 0), (.int .i64 0), (.int .i64 0), (.slice none 0 0), (.slice none 0 0)]), none⟩, ⟨none, (.st 10 (.t 10) (.t 52)), none⟩])
        (.seq
         (.region [⟨(some 53), (.fa 0 (.t 10)), none⟩, ⟨(some 54), (.fa 0 (.t 53)), none⟩, ⟨none, (.st 1 (.t 54) (.c (.int .i64 125))), none⟩])
         (.seq
          (.region [⟨(some 56), (.ld true 10 (.t 10)), none⟩, ⟨(some 57), (.call (.c (.func (.func 38) #[] #[])) [(.t 56)]), none⟩, ⟨(some 55), (.mov (.t 57)), none⟩, ⟨(some 58), (.ext (.t 55) 0), none⟩, ⟨(some 59), (.ext (.t 55) 1), none⟩, ⟨(some 11), (.mov (.t 58)), none⟩, ⟨(some 12), (.mov (.t 59)), none⟩])
          (.seq
           (.seq
            (.draw 95 [⟨⟨(some 60), (.mov (.t 2)), none⟩, 0, false, []⟩, ⟨⟨(some 61), (.bin .neq (.t 60) (.c (.int .i64 0))), none⟩, 1, false, []⟩, ⟨⟨(some 62), (.mov (.t 61)), none⟩, 2, false, []⟩, ⟨⟨(some 63), (.mov (.t 1)), (some (62, false))⟩, 3, false, []⟩, ⟨⟨(some 64), (.bin .neq (.t 63) (.c (.int .i64 390))), (some (62, false))⟩, 4, false, []⟩, ⟨⟨(some 65), (.pick (.t 62) (.c (.bool true)) (.t 64)), none⟩, 5, false, []⟩, ⟨⟨(some 66), (.mov (.t 65)), none⟩, 6, false, []⟩, ⟨⟨(some 67), (.mov (.t 4)), (some (66, false))⟩, 7, false, []⟩, ⟨⟨(some 68), (.bin .neq (.t 67) (.c (.int .i64 0))), (some (66, false))⟩, 8, false, []⟩, ⟨⟨(some 69), (.pick (.t 66) (.c (.bool true)) (.t 68)), none⟩, 9, false, []⟩, ⟨⟨(some 70), (.mov (.t 69)), none⟩, 10, false, []⟩, ⟨⟨(some 71), (.mov (.t 3)), (some (70, false))⟩, 11, false, []⟩, ⟨⟨(some 72), (.bin .neq (.t 71) (.c (.int .i64 300))), (some (70, false))⟩, 12, false, []⟩, ⟨⟨(some 73), (.pick (.t 70) (.c (.bool true)) (.t 72)), none⟩, 13, false, []⟩, ⟨⟨(some 74), (.mov (.t 73)), none⟩, 14, false, []⟩, ⟨⟨(some 75), (.mov (.t 6)), (some (74, false))⟩, 15, false, []⟩, ⟨⟨(some 76), (.bin .neq (.t 75) (.c (.int .i64 0))), (some (74, false))⟩, 16, false, []⟩, ⟨⟨(some 77), (.pick (.t 74) (.c (.bool true)) (.t 76)), none⟩, 17, false, []⟩, ⟨⟨(some 78), (.mov (.t 77)), none⟩, 18, false, []⟩, ⟨⟨(some 79), (.fa 0 (.t 5)), (some (78, false))⟩, 19, false, []⟩, ⟨⟨(some 80), (.ld false 1 (.t 79)), (some (78, false))⟩, 20, false, []⟩, ⟨⟨(some 81), (.bin .neq (.t 80) (.c (.int .i64 245))), (some (78, false))⟩, 21, false, []⟩, ⟨⟨(some 82), (.pick (.t 78) (.c (.bool true)) (.t 81)), none⟩, 22, false, []⟩, ⟨⟨(some 83), (.mov (.t 82)), none⟩, 23, false, []⟩, ⟨⟨(some 84), (.fa 1 (.t 5)), (some (83, false))⟩, 24, false, []⟩, ⟨⟨(some 85), (.ld false 1 (.t 84)), (some (83, false))⟩, 25, false, []⟩, ⟨⟨(some 86), (.bin .neq (.t 85) (.c (.int .i64 380))), (some (83, false))⟩, 26, false, []⟩, ⟨⟨(some 87), (.pick (.t 83) (.c (.bool true)) (.t 86)), none⟩, 27, false, []⟩, ⟨⟨(some 88), (.mov (.t 87)), none⟩, 28, false, []⟩, ⟨⟨(some 89), (.fa 2 (.t 5)), (some (88, false))⟩, 29, false, []⟩, ⟨⟨(some 90), (.ld false 1 (.t 89)), (some (88, false))⟩, 30, false, []⟩, ⟨⟨(some 91), (.bsl 1 [(.int .i64 0)] [(0, 1, (.c (.int .i64 115)))]), (some (88, false))⟩, 31, false, []⟩, ⟨⟨(some 92), (.call (.c (.func (.func 33) #[] #[])) [(.t 90), (.t 91)]), (some (88, false))⟩, 32, true, []⟩, ⟨⟨(some 93), (.not (.t 92)), (some (88, false))⟩, 33, false, []⟩, ⟨⟨(some 94), (.pick (.t 88) (.c (.bool true)) (.t 93)), none⟩, 34, false, []⟩, ⟨⟨(some 95), (.mov (.t 94)), none⟩, 35, false, []⟩, ⟨⟨(some 96), (.fa 3 (.t 5)), (some (95, false))⟩, 36, false, []⟩, ⟨⟨(some 97), (.ld false 1 (.t 96)), (some (95, false))⟩, 37, false, []⟩, ⟨⟨(some 98), (.not (.t 97)), (some (95, false))⟩, 38, false, []⟩, ⟨⟨(some 99), (.pick (.t 95) (.c (.bool true)) (.t 98)), none⟩, 39, false, []⟩, ⟨⟨(some 100), (.mov (.t 99)), none⟩, 40, false, []⟩, ⟨⟨(some 101), (.mov (.t 9)), (some (100, false))⟩, 41, false, []⟩, ⟨⟨(some 102), (.bin .neq (.t 101) (.c (.int .i64 0))), (some (100, false))⟩, 42, false, []⟩, ⟨⟨(some 103), (.pick (.t 100) (.c (.bool true)) (.t 102)), none⟩, 43, false, []⟩, ⟨⟨(some 104), (.mov (.t 103)), none⟩, 44, false, []⟩, ⟨⟨(some 105), (.mov (.t 7)), (some (104, false))⟩, 45, false, []⟩, ⟨⟨(some 106), (.len (.t 105)), (some (104, false))⟩, 46, false, []⟩, ⟨⟨(some 107), (.bin .neq (.t 106) (.c (.int .i64 3))), (some (104, false))⟩, 47, false, []⟩, ⟨⟨(some 108), (.pick (.t 104) (.c (.bool true)) (.t 107)), none⟩, 48, false, []⟩, ⟨⟨(some 109), (.mov (.t 108)), none⟩, 49, false, []⟩, ⟨⟨(some 110), (.mov (.t 7)), (some (109, false))⟩, 50, false, []⟩, ⟨⟨(some 111), (.isl 1 (.t 110) (.c (.int .i64 0))), (some (109, false))⟩, 51, false, []⟩, ⟨⟨(some 112), (.ld false 1 (.t 111)), (some (109, false))⟩, 52, false, []⟩, ⟨⟨(some 113), (.bsl 2 [(.int .i64 0), (.int .i64 0)] [(0, 1, (.c (.int .i64 0))), (1, 1, (.c (.int .i64 2)))]), (some (109, false))⟩, 53, false, []⟩, ⟨⟨(some 114), (.call (.c (.func (.func 33) #[] #[])) [(.t 112), (.t 113)]), (some (109, false))⟩, 54, true, []⟩, ⟨⟨(some 115), (.not (.t 114)), (some (109, false))⟩, 55, false, []⟩, ⟨⟨(some 116), (.pick (.t 109) (.c (.bool true)) (.t 115)), none⟩, 56, false, []⟩, ⟨⟨(some 117), (.mov (.t 116)), none⟩, 57, false, []⟩, ⟨⟨(some 118), (.mov (.t 7)), (some (117, false))⟩, 58, false, []⟩, ⟨⟨(some 119), (.isl 1 (.t 118) (.c (.int .i64 1))), (some (117, false))⟩, 59, false, []⟩, ⟨⟨(some 120), (.ld false 1 (.t 119)), (some (117, false))⟩, 60, false, []⟩, ⟨⟨(some 121), (.bsl 1 [(.int .i64 0)] [(0, 1, (.c (.int .i64 1)))]), (some (117, false))⟩, 61, false, []⟩, ⟨⟨(some 122), (.call (.c (.func (.func 33) #[] #[])) [(.t 120), (.t 121)]), (some (117, false))⟩, 62, true, []⟩, ⟨⟨(some 123), (.not (.t 122)), (some (117, false))⟩, 63, false, []⟩, ⟨⟨(some 124), (.pick (.t 117) (.c (.bool true)) (.t 123)), none⟩, 64, false, []⟩, ⟨⟨(some 125), (.mov (.t 124)), none⟩, 65, false, []⟩, ⟨⟨(some 126), (.mov (.t 7)), (some (125, false))⟩, 66, false, []⟩, ⟨⟨(some 127), (.isl 1 (.t 126) (.c (.int .i64 2))), (some (125, false))⟩, 67, false, []⟩, ⟨⟨(some 128), (.ld false 1 (.t 127)), (some (125, false))⟩, 68, false, []⟩, ⟨⟨(some 129), (.bsl 2 [(.int .i64 0), (.int .i64 0)] [(0, 1, (.c (.int .i64 3))), (1, 1, (.c (.int .i64 4)))]), (some (125, false))⟩, 69, false, []⟩, ⟨⟨(some 130), (.call (.c (.func (.func 33) #[] #[])) [(.t 128), (.t 129)]), (some (125, false))⟩, 70, true, []⟩, ⟨⟨(some 131), (.not (.t 130)), (some (125, false))⟩, 71, false, []⟩, ⟨⟨(some 132), (.pick (.t 125) (.c (.bool true)) (.t 131)), none⟩, 72, false, []⟩, ⟨⟨(some 133), (.mov (.t 132)), none⟩, 73, false, []⟩, ⟨⟨(some 134), (.mov (.t 12)), (some (133, false))⟩, 74, false, []⟩, ⟨⟨(some 135), (.bin .neq (.t 134) (.c (.int .i64 0))), (some (133, false))⟩, 75, false, []⟩, ⟨⟨(some 136), (.pick (.t 133) (.c (.bool true)) (.t 135)), none⟩, 76, false, []⟩, ⟨⟨(some 137), (.mov (.t 136)), none⟩, 77, false, []⟩, ⟨⟨(some 138), (.mov (.t 11)), (some (137, false))⟩, 78, false, []⟩, ⟨⟨(some 139), (.bsl 3 [(.int .i64 0), (.int .i64 0), (.int .i64 0)] [(0, 1, (.c (.int .i64 0))), (1, 1, (.c (.int .i64 1))), (2, 1, (.c (.int .i64 2)))]), (some (137, false))⟩, 79, false, []⟩, ⟨⟨(some 140), (.call (.c (.func (.func 33) #[] #[])) [(.t 138), (.t 139)]), (some (137, false))⟩, 80, true, []⟩, ⟨⟨(some 141), (.not (.t 140)), (some (137, false))⟩, 81, false, []⟩, ⟨⟨(some 142), (.pick (.t 137) (.c (.bool true)) (.t 141)), none⟩, 82, false, []⟩, ⟨⟨(some 143), (.mov (.t 142)), none⟩, 83, false, []⟩, ⟨⟨(some 145), (.mov (.t 7)), (some (143, false))⟩, 85, false, []⟩, ⟨⟨(some 144), (.call (.c (.func (.func 44) #[] #[])) []), (some (143, false))⟩, 84, true, []⟩, ⟨⟨(some 146), (.call (.c (.func (.func 46) #[] #[])) [(.t 144), (.t 145)]), (some (143, false))⟩, 86, true, []⟩, ⟨⟨(some 147), (.not (.t 146)), (some (143, false))⟩, 87, false, []⟩, ⟨⟨(some 148), (.pick (.t 143) (.c (.bool true)) (.t 147)), none⟩, 88, false, []⟩, ⟨⟨(some 149), (.mov (.t 148)), none⟩, 89, false, []⟩, ⟨⟨(some 151), (.mov (.t 7)), (some (149, false))⟩, 91, false, []⟩, ⟨⟨(some 152), (.sl 1 (.t 151) (some (.c (.int .i64 1))) none), (some (149, false))⟩, 92, false, []⟩, ⟨⟨(some 150), (.call (.c (.func (.func 44) #[] #[])) []), (some (149, false))⟩, 90, true, []⟩, ⟨⟨(some 153), (.call (.c (.func (.func 46) #[] #[])) [(.t 150), (.t 152)]), (some (149, false))⟩, 93, true, []⟩, ⟨⟨(some 154), (.pick (.t 149) (.c (.bool true)) (.t 153)), none⟩, 94, false, []⟩])
            (.cond (.t 154)
             (.seq
              (.region [⟨(some 0), (.mov (.c (.bool false))), none⟩])
              .ret)
             .skip))
           (.seq
            (.region [⟨(some 156), (.call (.c (.func (.func 44) #[] #[])) []), none⟩, ⟨(some 157), (.bsl 2 [(.int .i64 0), (.int .i64 0)] [(0, 1, (.c (.int .i64 2))), (1, 1, (.c (.int .i64 0)))]), none⟩, ⟨(some 158), (.call (.c (.func (.func 19) #[] #[])) [(.t 156), (.t 157)]), none⟩, ⟨(some 155), (.mov (.t 158)), none⟩, ⟨(some 159), (.ext (.t 155) 0), none⟩, ⟨(some 160), (.ext (.t 155) 1), none⟩, ⟨(some 2), (.mov (.t 160)), none⟩])
            (.seq
             (.region [⟨(some 162), (.call (.c (.func (.func 44) #[] #[])) []), none⟩, ⟨(some 163), (.call (.c (.func (.func 19) #[] #[])) [(.t 162), (.c (.slice none 0 0))]), none⟩, ⟨(some 161), (.mov (.t 163)), none⟩, ⟨(some 164), (.ext (.t 161) 0), none⟩, ⟨(some 165), (.ext (.t 161) 1), none⟩, ⟨(some 4), (.mov (.t 165)), none⟩])
             (.seq
              (.region [⟨(some 167), (.call (.c (.func (.func 44) #[] #[])) []), none⟩, ⟨(some 168), (.bsl 2 [(.int .i64 0), (.int .i64 0)] [(0, 1, (.c (.int .i64 0))), (1, 1, (.c (.int .i64 1)))]), none⟩, ⟨(some 169), (.call (.c (.func (.func 21) #[] #[])) [(.t 167), (.t 168)]), none⟩, ⟨(some 166), (.mov (.t 169)), none⟩, ⟨(some 170), (.ext (.t 166) 0), none⟩, ⟨(some 171), (.ext (.t 166) 1), none⟩, ⟨(some 6), (.mov (.t 171)), none⟩])
              (.seq
               (.region [⟨(some 173), (.call (.c (.func (.func 44) #[] #[])) []), none⟩, ⟨(some 174), (.bsl 2 [(.int .i64 0), (.int .i64 0)] [(0, 1, (.c (.int .i64 0))), (1, 1, (.c (.int .i64 2)))]), none⟩, ⟨(some 175), (.bsl 4 [(.int .i64 0), (.int .i64 0), (.int .i64 0), (.int .i64 0)] [(0, 1, (.c (.int .i64 300))), (1, 1, (.c (.int .i64 425))), (2, 1, (.c (.int .i64 540))), (3, 1, (.c (.int .i64 660)))]), none⟩, ⟨(some 176), (.bsl 3 [(.int .i64 0), (.int .i64 0), (.int .i64 0)] [(0, 1, (.c (.int .i64 400))), (1, 1, (.c (.int .i64 505))), (2, 1, (.c (.int .i64 621)))]), none⟩, ⟨(some 177), (.bsl 2 [(.slice none 0 0), (.slice none 0 0)] [(0, 1, (.t 175)), (1, 1, (.t 176))]), none⟩, ⟨(some 178), (.call (.c (.func (.func 27) #[] #[])) [(.t 173), (.t 174), (.t 177)]), none⟩, ⟨(some 172), (.mov (.t 178)), none⟩, ⟨(some 179), (.ext (.t 172) 0), none⟩, ⟨(some 180), (.ext (.t 172) 1), none⟩, ⟨(some 9), (.mov (.t 180)), none⟩])
               (.seq
                (.region [⟨(some 182), (.ld true 10 (.t 10)), none⟩, ⟨(some 183), (.call (.c (.func (.func 45) #[] #[])) [(.t 182)]), none⟩, ⟨(some 181), (.mov (.t 183)), none⟩, ⟨(some 184), (.ext (.t 181) 0), none⟩, ⟨(some 185), (.ext (.t 181) 1), none⟩, ⟨(some 186), (.ext (.t 181) 2), none⟩, ⟨(some 12), (.mov (.t 186)), none⟩])
                (.seq
                 (.region [⟨(some 188), (.call (.c (.func (.func 44) #[] #[])) []), none⟩, ⟨(some 189), (.call (.c (.func (.func 38) #[] #[])) [(.t 188)]), none⟩, ⟨(some 187), (.mov (.t 189)), none⟩, ⟨(some 190), (.ext (.t 187) 0), none⟩, ⟨(some 191), (.ext (.t 187) 1), none⟩, ⟨(some 13), (.mov (.t 190)), none⟩, ⟨(some 14), (.mov (.t 191)), none⟩])
                 (.seq
                  (.region [⟨(some 193), (.call (.c (.func (.func 44) #[] #[])) []), none⟩, ⟨(some 194), (.bsl 5 [(.int .i64 0), (.int .i64 0), (.int .i64 0), (.int .i64 0), (.int .i64 0)] [(0, 1, (.c (.int .i64 1000))), (1, 1, (.c (.int .i64 0))), (2, 1, (.c (.int .i64 500))), (3, 1, (.c (.int .i64 0))), (4, 1, (.c (.int .i64 0)))]), none⟩, ⟨(some 195), (.call (.c (.func (.func 41) #[] #[])) [(.t 193), (.t 194)]), none⟩, ⟨(some 192), (.mov (.t 195)), none⟩, ⟨(some 196), (.ext (.t 192) 0), none⟩, ⟨(some 197), (.ext (.t 192) 1), none⟩, ⟨(some 15), (.mov (.t 196)), none⟩, ⟨(some 16), (.mov (.t 197)), none⟩])
                  (.seq
                   (.region [⟨(some 199), (.call (.c (.func (.func 44) #[] #[])) []), none⟩, ⟨(some 200), (.bsl 1 [(.int .i64 0)] [(0, 1, (.c (.int .i64 1000)))]), none⟩, ⟨(some 201), (.call (.c (.func (.func 41) #[] #[])) [(.t 199), (.t 200)]), none⟩, ⟨(some 198), (.mov (.t 201)), none⟩, ⟨(some 202), (.ext (.t 198) 0), none⟩, ⟨(some 203), (.ext (.t 198) 1), none⟩, ⟨(some 17), (.mov (.t 202)), none⟩, ⟨(some 18), (.mov (.t 203)), none⟩])
                   (.seq
                    (.region [⟨(some 204), (.call (.c (.func (.func 44) #[] #[])) []), none⟩, ⟨(some 19), (.new [(.int .i64 0), (.int .i64 0), (.int .i64 0), (.int .i64 0), (.int .i64 0), (.int .i64 0), (.int .i64 0), (.int .i64 0), (.slice none 0 0), (.slice none 0 0)]), none⟩, ⟨none, (.st 10 (.t 19) (.t 204)), none⟩])
                    (.seq
                     (.region [⟨(some 205), (.fa 0 (.t 19)), none⟩, ⟨(some 206), (.fa 3 (.t 205)), none⟩, ⟨none, (.st 1 (.t 206) (.c (.int .i64 0))), none⟩])
                     (.seq
                      (.region [⟨(some 207), (.call (.c (.func (.func 44) #[] #[])) []), none⟩, ⟨(some 20), (.new [(.int .i64 0), (.int .i64 0), (.int .i64 0), (.int .i64 0), (.int .i64 0), (.int .i64 0), (.int .i64 0), (.int .i64 0), (.slice none 0 0), (.slice none 0 0)]), none⟩, ⟨none, (.st 10 (.t 20) (.t 207)), none⟩])
                      (.seq
                       (.region [⟨(some 208), (.mks 1 24 [(.slice none 0 0)] (.c (.int .i64 7)) (.c (.int .i64 7))), none⟩, ⟨(some 209), (.fa 8 (.t 20)), none⟩, ⟨none, (.st 1 (.t 209) (.t 208)), none⟩])
                       (.seq
                        (.region [⟨(some 210), (.call (.c (.func (.func 44) #[] #[])) []), none⟩, ⟨(some 21), (.new [(.int .i64 0), (.int .i64 0), (.int .i64 0), (.int .i64 0), (.int .i64 0), (.int .i64 0), (.int .i64 0), (.int .i64 0), (.slice none 0 0), (.slice none 0 0)]), none⟩, ⟨none, (.st 10 (.t 21) (.t 210)), none⟩])
                        (.seq
                         (.region [⟨(some 211), (.fa 8 (.t 21)), none⟩, ⟨none, (.st 1 (.t 211) (.c (.slice none 0 0))), none⟩])
                         (.seq
                          (.region [⟨(some 213), (.ld true 10 (.t 21)), none⟩, ⟨(some 214), (.call (.c (.func (.func 45) #[] #[])) [(.t 213)]), none⟩, ⟨(some 212), (.mov (.t 214)), none⟩, ⟨(some 215), (.ext (.t 212) 0), none⟩, ⟨(some 216), (.ext (.t 212) 1), none⟩, ⟨(some 217), (.ext (.t 212) 2), none⟩, ⟨(some 22), (.mov (.t 215)), none⟩, ⟨(some 23), (.mov (.t 216)), none⟩, ⟨(some 24), (.mov (.t 217)), none⟩])
                          (.seq
                           (.region [⟨(some 218), (.mov (.t 2)), none⟩, ⟨(some 219), (.bin .eql (.t 218) (.c (.int .i64 2))), none⟩, ⟨(some 220), (.mov (.t 219)), none⟩, ⟨(some 221), (.mov (.t 4)), (some (220, true))⟩, ⟨(some 222), (.bin .eql (.t 221) (.c (.int .i64 2))), (some (220, true))⟩, ⟨(some 223), (.pick (.t 220) (.t 222) (.c (.bool false))), none⟩, ⟨(some 224), (.mov (.t 223)), none⟩, ⟨(some 225), (.mov (.t 6)), (some (224, true))⟩, ⟨(some 226), (.bin .eql (.t 225) (.c (.int .i64 10))), (some (224, true))⟩, ⟨(some 227), (.pick (.t 224) (.t 226) (.c (.bool false))), none⟩, ⟨(some 228), (.mov (.t 227)), none⟩, ⟨(some 229), (.mov (.t 9)), (some (228, true))⟩, ⟨(some 230), (.bin .eql (.t 229) (.c (.int .i64 2))), (some (228, true))⟩, ⟨(some 231), (.pick (.t 228) (.t 230) (.c (.bool false))), none⟩, ⟨(some 232), (.mov (.t 231)), none⟩, ⟨(some 233), (.mov (.t 12)), (some (232, true))⟩, ⟨(some 234), (.bin .eql (.t 233) (.c (.int .i64 9))), (some (232, true))⟩, ⟨(some 235), (.pick (.t 232) (.t 234) (.c (.bool false))), none⟩, ⟨(some 236), (.mov (.t 235)), none⟩, ⟨(some 237), (.mov (.t 14)), (some (236, true))⟩, ⟨(some 238), (.bin .eql (.t 237) (.c (.int .i64 7))), (some (236, true))⟩, ⟨(some 239), (.pick (.t 236) (.t 238) (.c (.bool false))), none⟩, ⟨(some 240), (.mov (.t 239)), none⟩, ⟨(some 241), (.mov (.t 16)), (some (240, true))⟩, ⟨(some 242), (.bin .eql (.t 241) (.c (.int .i64 9))), (some (240, true))⟩, ⟨(some 243), (.pick (.t 240) (.t 242) (.c (.bool false))), none⟩, ⟨(some 244), (.mov (.t 243)), none⟩, ⟨(some 245), (.mov (.t 18)), (some (244, true))⟩, ⟨(some 246), (.bin .eql (.t 245) (.c (.int .i64 2))), (some (244, true))⟩, ⟨(some 247), (.pick (.t 244) (.t 246) (.c (.bool false))), none⟩, ⟨(some 248), (.mov (.t 247)), none⟩, ⟨(some 249), (.ld true 10 (.t 19)), (some (248, true))⟩, ⟨(some 250), (.call (.c (.func (.func 17) #[] #[])) [(.t 249)]), (some (248, true))⟩, ⟨(some 251), (.bin .eql (.t 250) (.c (.int .i64 1))), (some (248, true))⟩, ⟨(some 252), (.pick (.t 248) (.t 251) (.c (.bool false))), none⟩, ⟨(some 253), (.mov (.t 252)), none⟩, ⟨(some 254), (.bld [(.int .i64 0), (.int .i64 0), (.int .i64 0), (.int .i64 0), (.int .i64 0), (.int .i64 0), (.int .i64 0), (.int .i64 0), (.slice none 0 0), (.slice none 0 0)] []), (some (253, true))⟩, ⟨(some 255), (.call (.c (.func (.func 17) #[] #[])) [(.t 254)]), (some (253, true))⟩, ⟨(some 256), (.bin .eql (.t 255) (.c (.int .i64 1))), (some (253, true))⟩, ⟨(some 257), (.pick (.t 253) (.t 256) (.c (.bool false))), none⟩, ⟨(some 258), (.mov (.t 257)), none⟩, ⟨(some 259), (.ld true 10 (.t 20)), (some (258, true))⟩, ⟨(some 260), (.call (.c (.func (.func 17) #[] #[])) [(.t 259)]), (some (258, true))⟩, ⟨(some 261), (.bin .eql (.t 260) (.c (.int .i64 3))), (some (258, true))⟩, ⟨(some 262), (.pick (.t 258) (.t 261) (.c (.bool false))), none⟩, ⟨(some 263), (.mov (.t 262)), none⟩, ⟨(some 264), (.mov (.t 24)), (some (263, true))⟩, ⟨(some 265), (.bin .eql (.t 264) (.c (.int .i64 0))), (some (263, true))⟩, ⟨(some 266), (.pick (.t 263) (.t 265) (.c (.bool false))), none⟩, ⟨(some 267), (.mov (.t 266)), none⟩, ⟨(some 268), (.mov (.t 22)), (some (267, true))⟩, ⟨(some 269), (.len (.t 268)), (some (267, true))⟩, ⟨(some 270), (.bin .eql (.t 269) (.c (.int .i64 0))), (some (267, true))⟩, ⟨(some 271), (.pick (.t 267) (.t 270) (.c (.bool false))), none⟩, ⟨(some 272), (.mov (.t 271)), none⟩, ⟨(some 273), (.mov (.t 23)), (some (272, true))⟩, ⟨(some 274), (.bin .eql (.t 273) (.c (.int .i64 0))), (some (272, true))⟩, ⟨(some 275), (.pick (.t 272) (.t 274) (.c (.bool false))), none⟩, ⟨(some 276), (.mov (.t 275)), none⟩, ⟨(some 277), (.call (.c (.func (.func 16) #[] #[])) []), (some (276, true))⟩, ⟨(some 278), (.pick (.t 276) (.t 277) (.c (.bool false))), none⟩, ⟨(some 0), (.mov (.t 278)), none⟩])
                           .ret)))))))))))))))))))))))))
def r7 : List AOp := [(.mov (.t 0))]
theorem ok7 : FnOk Tryd.prog 7 Tryd.f7.ntmps a7 r7 := ⟨Tryd.f7, Tryd.func7, by kernel_rfl, by kernel_rfl, by kernel_rfl, fun asv w => by simp⟩

/-- layover/layoverlaw02.Thin -/
def a15 : ACode :=
  (.seq
   (.region [⟨(some 1), (.box (.t 0)), none⟩, ⟨(some 2), (.mov (.c (.bool false))), none⟩])
   (.seq
    (.seq
     (.region [⟨(some 3), (.mov (.c (.int .i64 0))), none⟩])
     (.block 0
      (.loop
       (.seq
        (.seq
         (.region [⟨(some 4), (.mov (.t 3)), none⟩, ⟨(some 5), (.fa 8 (.t 1)), none⟩, ⟨(some 6), (.ld false 1 (.t 5)), none⟩, ⟨(some 7), (.len (.t 6)), none⟩, ⟨(some 8), (.bin .lss (.t 4) (.t 7)), none⟩])
         (.cond (.t 8)
          .skip
          (.exit 0)))
        (.seq
         (.block 1
          (.seq
           (.region [⟨(some 11), (.mov (.t 3)), none⟩, ⟨(some 12), (.bin .gtr (.t 11) (.c (.int .i64 10))), none⟩, ⟨(some 13), (.mov (.t 12)), none⟩, ⟨(some 14), (.fa 8 (.t 1)), (some (13, false))⟩, ⟨(some 15), (.ld false 1 (.t 14)), (some (13, false))⟩, ⟨(some 16), (.mov (.t 3)), (some (13, false))⟩, ⟨(some 17), (.isl 1 (.t 15) (.t 16)), (some (13, false))⟩, ⟨(some 18), (.ld false 1 (.t 17)), (some (13, false))⟩, ⟨(some 19), (.len (.t 18)), (some (13, false))⟩, ⟨(some 20), (.bin .gtr (.t 19) (.c (.int .i64 14))), (some (13, false))⟩, ⟨(some 21), (.pick (.t 13) (.c (.bool true)) (.t 20)), none⟩])
           (.cond (.t 21)
            (.seq
             (.region [⟨(some 2), (.mov (.c (.bool false))), none⟩])
             .ret)
            .skip)))
         (.region [⟨(some 9), (.mov (.t 3)), none⟩, ⟨(some 10), (.bin .add (.t 9) (.c (.int .i64 1))), none⟩, ⟨(some 3), (.mov (.t 10)), none⟩]))))))
    (.seq
     (.region [⟨(some 22), (.fa 8 (.t 1)), none⟩, ⟨(some 23), (.ld false 1 (.t 22)), none⟩, ⟨(some 24), (.len (.t 23)), none⟩, ⟨(some 25), (.bin .leq (.t 24) (.c (.int .i64 10))), none⟩, ⟨(some 26), (.mov (.t 25)), none⟩, ⟨(some 27), (.fa 9 (.t 1)), (some (26, true))⟩, ⟨(some 28), (.ld false 1 (.t 27)), (some (26, true))⟩, ⟨(some 29), (.len (.t 28)), (some (26, true))⟩, ⟨(some 30), (.bin .leq (.t 29) (.c (.int .i64 8))), (some (26, true))⟩, ⟨(some 31), (.pick (.t 26) (.t 30) (.c (.bool false))), none⟩, ⟨(some 32), (.mov (.t 31)), none⟩, ⟨(some 33), (.fa 9 (.t 1)), (some (32, true))⟩, ⟨(some 34), (.ld false 1 (.t 33)), (some (32, true))⟩, ⟨(some 35), (.call (.c (.func (.func 26) #[] #[])) [(.t 34)]), (some (32, true))⟩, ⟨(some 36), (.pick (.t 32) (.t 35) (.c (.bool false))), none⟩, ⟨(some 2), (.mov (.t 36)), none⟩])
     .ret)))
def r15 : List AOp := [(.mov (.t 2))]
theorem ok15 : FnOk Tryd.prog 15 Tryd.f15.ntmps a15 r15 := ⟨Tryd.f15, Tryd.func15, by kernel_rfl, by kernel_rfl, by kernel_rfl, fun asv w => by simp⟩

/-- layover/layoverlaw02.wakes -/
def a16 : ACode :=
  (.seq
   (.region [⟨(some 0), (.mov (.c (.bool false))), none⟩])
   (.seq
    (.region [⟨(some 11), (.call (.c (.func (.func 44) #[] #[])) []), none⟩, ⟨(some 12), (.bsl 2 [(.int .i64 0), (.int .i64 0)] [(0, 1, (.c (.int .i64 0))), (1, 1, (.c (.int .i64 2)))]), none⟩, ⟨(some 13), (.call (.c (.func (.func 19) #[] #[])) [(.t 11), (.t 12)]), none⟩, ⟨(some 10), (.mov (.t 13)), none⟩, ⟨(some 14), (.ext (.t 10) 0), none⟩, ⟨(some 15), (.ext (.t 10) 1), none⟩, ⟨(some 1), (.mov (.t 14)), none⟩, ⟨(some 2), (.mov (.t 15)), none⟩])
    (.seq
     (.region [⟨(some 17), (.call (.c (.func (.func 44) #[] #[])) []), none⟩, ⟨(some 18), (.bsl 2 [(.int .i64 0), (.int .i64 0)] [(0, 1, (.c (.int .i64 0))), (1, 1, (.c (.int .i64 1)))]), none⟩, ⟨(some 19), (.call (.c (.func (.func 19) #[] #[])) [(.t 17), (.t 18)]), none⟩, ⟨(some 16), (.mov (.t 19)), none⟩, ⟨(some 20), (.ext (.t 16) 0), none⟩, ⟨(some 21), (.ext (.t 16) 1), none⟩, ⟨(some 3), (.mov (.t 20)), none⟩, ⟨(some 4), (.mov (.t 21)), none⟩])
     (.seq
      (.region [⟨(some 23), (.call (.c (.func (.func 44) #[] #[])) []), none⟩, ⟨(some 24), (.call (.c (.func (.func 45) #[] #[])) [(.t 23)]), none⟩, ⟨(some 22), (.mov (.t 24)), none⟩, ⟨(some 25), (.ext (.t 22) 0), none⟩, ⟨(some 26), (.ext (.t 22) 1), none⟩, ⟨(some 27), (.ext (.t 22) 2), none⟩, ⟨(some 5), (.mov (.t 25)), none⟩, ⟨(some 6), (.mov (.t 26)), none⟩, ⟨(some 7), (.mov (.t 27)), none⟩])
      (.seq
       (.region [⟨(some 29), (.call (.c (.func (.func 44) #[] #[])) []), none⟩, ⟨(some 30), (.bsl 5 [(.int .i64 0), (.int .i64 0), (.int .i64 0), (.int .i64 0), (.int .i64 0)] [(0, 1, (.c (.int .i64 1000))), (1, 1, (.c (.int .i64 1000))), (2, 1, (.c (.int .i64 0))), (3, 1, (.c (.int .i64 1000))), (4, 1, (.c (.int .i64 0)))]), none⟩, ⟨(some 31), (.call (.c (.func (.func 41) #[] #[])) [(.t 29), (.t 30)]), none⟩, ⟨(some 28), (.mov (.t 31)), none⟩, ⟨(some 32), (.ext (.t 28) 0), none⟩, ⟨(some 33), (.ext (.t 28) 1), none⟩, ⟨(some 8), (.mov (.t 32)), none⟩, ⟨(some 9), (.mov (.t 33)), none⟩])
       (.seq
        (.region [⟨(some 34), (.mov (.t 2)), none⟩, ⟨(some 35), (.bin .eql (.t 34) (.c (.int .i64 0))), none⟩, ⟨(some 36), (.mov (.t 35)), none⟩, ⟨(some 37), (.mov (.t 1)), (some (36, true))⟩, ⟨(some 38), (.pick (.t 36) (.t 37) (.c (.bool false))), none⟩, ⟨(some 39), (.mov (.t 38)), none⟩, ⟨(some 40), (.mov (.t 4)), (some (39, true))⟩, ⟨(some 41), (.bin .eql (.t 40) (.c (.int .i64 0))), (some (39, true))⟩, ⟨(some 42), (.pick (.t 39) (.t 41) (.c (.bool false))), none⟩, ⟨(some 43), (.mov (.t 42)), none⟩, ⟨(some 44), (.mov (.t 3)), (some (43, true))⟩, ⟨(some 45), (.not (.t 44)), (some (43, true))⟩, ⟨(some 46), (.pick (.t 43) (.t 45) (.c (.bool false))), none⟩, ⟨(some 47), (.mov (.t 46)), none⟩, ⟨(some 48), (.mov (.t 7)), (some (47, true))⟩, ⟨(some 49), (.bin .eql (.t 48) (.c (.int .i64 0))), (some (47, true))⟩, ⟨(some 50), (.pick (.t 47) (.t 49) (.c (.bool false))), none⟩, ⟨(some 51), (.mov (.t 50)), none⟩, ⟨(some 52), (.mov (.t 5)), (some (51, true))⟩, ⟨(some 53), (.len (.t 52)), (some (51, true))⟩, ⟨(some 54), (.bin .eql (.t 53) (.c (.int .i64 3))), (some (51, true))⟩, ⟨(some 55), (.pick (.t 51) (.t 54) (.c (.bool false))), none⟩, ⟨(some 56), (.mov (.t 55)), none⟩, ⟨(some 57), (.mov (.t 6)), (some (56, true))⟩, ⟨(some 58), (.bin .eql (.t 57) (.c (.int .i64 990))), (some (56, true))⟩, ⟨(some 59), (.pick (.t 56) (.t 58) (.c (.bool false))), none⟩, ⟨(some 60), (.mov (.t 59)), none⟩, ⟨(some 61), (.mov (.t 9)), (some (60, true))⟩, ⟨(some 62), (.bin .eql (.t 61) (.c (.int .i64 0))), (some (60, true))⟩, ⟨(some 63), (.pick (.t 60) (.t 62) (.c (.bool false))), none⟩, ⟨(some 64), (.mov (.t 63)), none⟩, ⟨(some 65), (.mov (.t 8)), (some (64, true))⟩, ⟨(some 66), (.bin .eql (.t 65) (.c (.int .i64 3))), (some (64, true))⟩, ⟨(some 67), (.pick (.t 64) (.t 66) (.c (.bool false))), none⟩, ⟨(some 0), (.mov (.t 67)), none⟩])
        .ret))))))
def r16 : List AOp := [(.mov (.t 0))]
theorem ok16 : FnOk Tryd.prog 16 Tryd.f16.ntmps a16 r16 := ⟨Tryd.f16, Tryd.func16, by kernel_rfl, by kernel_rfl, by kernel_rfl, fun asv w => by simp⟩

/-- layover/duty.CheckDay -/
def a17 : ACode :=
  (.seq
   (.region [⟨(some 1), (.box (.t 0)), none⟩, ⟨(some 2), (.mov (.c (.int .i64 0))), none⟩])
   (.seq
    (.block 0
     (.seq
      (.seq
       (.region [⟨(some 4), (.fa 8 (.t 1)), none⟩, ⟨(some 5), (.ld false 1 (.t 4)), none⟩, ⟨(some 6), (.len (.t 5)), none⟩, ⟨(some 7), (.bin .gtr (.t 6) (.c (.int .i64 6))), none⟩, ⟨(some 3), (.mov (.t 7)), none⟩])
       (.cond (.t 3)
        .skip
        (.seq
         (.region [⟨(some 8), (.fa 9 (.t 1)), none⟩, ⟨(some 9), (.ld false 1 (.t 8)), none⟩, ⟨(some 10), (.len (.t 9)), none⟩, ⟨(some 11), (.bin .gtr (.t 10) (.c (.int .i64 5))), none⟩, ⟨(some 3), (.mov (.t 11)), none⟩])
         (.cond (.t 3)
          .skip
          (.region [⟨(some 12), (.ld true 10 (.t 1)), none⟩, ⟨(some 13), (.call (.c (.func (.func 55) #[] #[])) [(.t 12)]), none⟩, ⟨(some 14), (.bin .gtr (.t 13) (.c (.int .i64 10))), none⟩, ⟨(some 3), (.mov (.t 14)), none⟩])))))
      (.cond (.t 3)
       (.seq
        (.region [⟨(some 2), (.mov (.c (.int .i64 3))), none⟩])
        .ret)
       (.seq
        (.seq
         (.region [⟨(some 16), (.fa 0 (.t 1)), none⟩, ⟨(some 17), (.ld true 8 (.t 16)), none⟩, ⟨(some 18), (.call (.c (.func (.func 56) #[] #[])) [(.t 17)]), none⟩, ⟨(some 19), (.not (.t 18)), none⟩, ⟨(some 15), (.mov (.t 19)), none⟩])
         (.cond (.t 15)
          .skip
          (.seq
           (.region [⟨(some 20), (.ld true 10 (.t 1)), none⟩, ⟨(some 21), (.call (.c (.func (.func 57) #[] #[])) [(.t 20)]), none⟩, ⟨(some 22), (.not (.t 21)), none⟩, ⟨(some 15), (.mov (.t 22)), none⟩])
           (.cond (.t 15)
            .skip
            (.region [⟨(some 23), (.fa 8 (.t 1)), none⟩, ⟨(some 24), (.ld false 1 (.t 23)), none⟩, ⟨(some 25), (.ld true 10 (.t 1)), none⟩, ⟨(some 26), (.fn (.func 59) [(.t 25)] []), none⟩, ⟨(some 27), (.call (.c (.func (.func 58) #[] #[])) [(.t 24), (.t 26)]), none⟩, ⟨(some 28), (.not (.t 27)), none⟩, ⟨(some 15), (.mov (.t 28)), none⟩])))))
        (.cond (.t 15)
         (.seq
          (.region [⟨(some 2), (.mov (.c (.int .i64 1))), none⟩])
          .ret)
         .skip)))))
    (.seq
     (.region [⟨(some 2), (.mov (.c (.int .i64 0))), none⟩])
     .ret)))
def r17 : List AOp := [(.mov (.t 2))]
theorem ok17 : FnOk Tryd.prog 17 Tryd.f17.ntmps a17 r17 := ⟨Tryd.f17, Tryd.func17, by kernel_rfl, by kernel_rfl, by kernel_rfl, fun asv w => by simp⟩

/-- layover/layoverlaw02.Day -/
def a18 : ACode :=
  (.seq
   (.region [⟨(some 1), (.box (.t 0)), none⟩, ⟨(some 2), (.new [(.int .i64 0), (.int .i64 0), (.int .i64 0), (.int .i64 0), (.int .i64 0), (.int .i64 0), (.int .i64 0), (.int .i64 0), (.slice none 0 0), (.slice none 0 0)]), none⟩])
   (.seq
    (.region [⟨(some 9), (.fa 0 (.t 1)), none⟩, ⟨(some 10), (.ld true 8 (.t 9)), none⟩, ⟨(some 3), (.new [(.int .i64 0), (.int .i64 0), (.int .i64 0), (.int .i64 0), (.int .i64 0), (.int .i64 0), (.int .i64 0), (.int .i64 0)]), none⟩, ⟨none, (.st 8 (.t 3) (.t 10)), none⟩])
    (.seq
     (.draw 23 [⟨⟨(some 11), (.fa 0 (.t 3)), none⟩, 0, false, []⟩, ⟨⟨(some 12), (.ld false 1 (.t 11)), none⟩, 1, false, []⟩, ⟨⟨(some 13), (.fa 1 (.t 3)), none⟩, 2, false, []⟩, ⟨⟨(some 14), (.ld false 1 (.t 13)), none⟩, 3, false, []⟩, ⟨⟨(some 15), (.fa 2 (.t 3)), none⟩, 4, false, []⟩, ⟨⟨(some 16), (.ld false 1 (.t 15)), none⟩, 5, false, []⟩, ⟨⟨(some 17), (.fa 3 (.t 3)), none⟩, 6, false, []⟩, ⟨⟨(some 18), (.ld false 1 (.t 17)), none⟩, 7, false, []⟩, ⟨⟨(some 19), (.fa 4 (.t 3)), none⟩, 8, false, []⟩, ⟨⟨(some 20), (.ld false 1 (.t 19)), none⟩, 9, false, []⟩, ⟨⟨(some 21), (.fa 5 (.t 3)), none⟩, 10, false, []⟩, ⟨⟨(some 22), (.ld false 1 (.t 21)), none⟩, 11, false, []⟩, ⟨⟨(some 23), (.fa 6 (.t 3)), none⟩, 12, false, []⟩, ⟨⟨(some 24), (.ld false 1 (.t 23)), none⟩, 13, false, []⟩, ⟨⟨(some 25), (.fa 7 (.t 3)), none⟩, 14, false, []⟩, ⟨⟨(some 26), (.ld false 1 (.t 25)), none⟩, 15, false, []⟩, ⟨⟨(some 27), (.bld [(.int .i64 0), (.int .i64 0), (.int .i64 0), (.int .i64 0), (.int .i64 0), (.int .i64 0), (.int .i64 0), (.int .i64 0)] [(0, 1, (.t 12)), (1, 1, (.t 14)), (2, 1, (.t 16)), (3, 1, (.t 18)), (4, 1, (.t 20)), (5, 1, (.t 22)), (6, 1, (.t 24)), (7, 1, (.t 26))]), none⟩, 16, false, []⟩, ⟨⟨(some 28), (.fa 9 (.t 1)), none⟩, 17, false, []⟩, ⟨⟨(some 29), (.ld false 1 (.t 28)), none⟩, 18, false, []⟩, ⟨⟨(some 4), (.new [(.int .i64 0), (.int .i64 0), (.int .i64 0), (.int .i64 0), (.int .i64 0), (.int .i64 0), (.int .i64 0), (.int .i64 0), (.slice none 0 0), (.slice none 0 0)]), none⟩, 21, false, []⟩, ⟨⟨(some 30), (.call (.c (.func (.func 28) #[] #[])) [(.t 29)]), none⟩, 19, true, [15, 13, 11, 9, 7, 5, 3, 1]⟩, ⟨⟨(some 31), (.bld [(.int .i64 0), (.int .i64 0), (.int .i64 0), (.int .i64 0), (.int .i64 0), (.int .i64 0), (.int .i64 0), (.int .i64 0), (.slice none 0 0), (.slice none 0 0)] [(0, 8, (.t 27)), (9, 1, (.t 30))]), none⟩, 20, false, []⟩, ⟨⟨none, (.st 10 (.t 4) (.t 31)), none⟩, 22, true, []⟩])
     (.seq
      (.seq
       (.region [⟨(some 5), (.mov (.c (.int .i64 0))), none⟩])
       (.block 0
        (.loop
         (.seq
          (.seq
           (.region [⟨(some 32), (.mov (.t 5)), none⟩, ⟨(some 33), (.fa 8 (.t 1)), none⟩, ⟨(some 34), (.ld false 1 (.t 33)), none⟩, ⟨(some 35), (.len (.t 34)), none⟩, ⟨(some 36), (.bin .lss (.t 32) (.t 35)), none⟩])
           (.cond (.t 36)
            .skip
            (.exit 0)))
          (.seq
           (.block 1
            (.seq
             (.region [⟨(some 6), (.mov (.c (.slice none 0 0))), none⟩])
             (.seq
              (.seq
               (.region [⟨(some 7), (.mov (.c (.int .i64 0))), none⟩])
               (.block 2
                (.loop
                 (.seq
                  (.seq
                   (.region [⟨(some 39), (.mov (.t 7)), none⟩, ⟨(some 40), (.fa 8 (.t 1)), none⟩, ⟨(some 41), (.ld false 1 (.t 40)), none⟩, ⟨(some 42), (.mov (.t 5)), none⟩, ⟨(some 43), (.isl 1 (.t 41) (.t 42)), none⟩, ⟨(some 44), (.ld false 1 (.t 43)), none⟩, ⟨(some 45), (.len (.t 44)), none⟩, ⟨(some 46), (.bin .lss (.t 39) (.t 45)), none⟩])
                   (.cond (.t 46)
                    .skip
                    (.exit 2)))
                  (.seq
                   (.block 3
                    (.seq
                     (.region [⟨(some 49), (.fa 8 (.t 1)), none⟩, ⟨(some 50), (.ld false 1 (.t 49)), none⟩, ⟨(some 51), (.mov (.t 5)), none⟩, ⟨(some 52), (.isl 1 (.t 50) (.t 51)), none⟩, ⟨(some 53), (.ld false 1 (.t 52)), none⟩, ⟨(some 54), (.mov (.t 7)), none⟩, ⟨(some 55), (.isl 3 (.t 53) (.t 54)), none⟩, ⟨(some 56), (.ld true 3 (.t 55)), none⟩, ⟨(some 8), (.new [(.int .i64 0), (.int .i64 0), (.int .i64 0)]), none⟩, ⟨none, (.st 3 (.t 8) (.t 56)), none⟩])
                     (.region [⟨(some 57), (.mov (.t 6)), none⟩, ⟨(some 58), (.fa 0 (.t 8)), none⟩, ⟨(some 59), (.ld false 1 (.t 58)), none⟩, ⟨(some 60), (.fa 1 (.t 8)), none⟩, ⟨(some 61), (.fa 0 (.t 60)), none⟩, ⟨(some 62), (.ld false 1 (.t 61)), none⟩, ⟨(some 63), (.fa 1 (.t 8)), none⟩, ⟨(some 64), (.fa 1 (.t 63)), none⟩, ⟨(some 65), (.ld false 1 (.t 64)), none⟩, ⟨(some 66), (.bld [(.int .i64 0), (.int .i64 0)] [(0, 1, (.t 62)), (1, 1, (.t 65))]), none⟩, ⟨(some 67), (.bld [(.int .i64 0), (.int .i64 0), (.int .i64 0)] [(0, 1, (.t 59)), (1, 2, (.t 66))]), none⟩, ⟨(some 68), (.bsl 1 [(.int .i64 0), (.int .i64 0), (.int .i64 0)] [(0, 3, (.t 67))]), none⟩, ⟨(some 69), (.app 3 24 (.t 57) (.t 68)), none⟩, ⟨(some 6), (.mov (.t 69)), none⟩])))
                   (.region [⟨(some 47), (.mov (.t 7)), none⟩, ⟨(some 48), (.bin .add (.t 47) (.c (.int .i64 1))), none⟩, ⟨(some 7), (.mov (.t 48)), none⟩]))))))
              (.region [⟨(some 70), (.fa 8 (.t 4)), none⟩, ⟨(some 71), (.ld false 1 (.t 70)), none⟩, ⟨(some 72), (.mov (.t 6)), none⟩, ⟨(some 73), (.bsl 1 [(.slice none 0 0)] [(0, 1, (.t 72))]), none⟩, ⟨(some 74), (.app 1 24 (.t 71) (.t 73)), none⟩, ⟨(some 75), (.fa 8 (.t 4)), none⟩, ⟨none, (.st 1 (.t 75) (.t 74)), none⟩]))))
           (.region [⟨(some 37), (.mov (.t 5)), none⟩, ⟨(some 38), (.bin .add (.t 37) (.c (.int .i64 1))), none⟩, ⟨(some 5), (.mov (.t 38)), none⟩]))))))
      (.seq
       (.region [⟨(some 76), (.ld true 10 (.t 4)), none⟩, ⟨none, (.st 10 (.t 2) (.t 76)), none⟩])
       .ret)))))
def r18 : List AOp := [(.ld true 10 (.t 2))]
theorem ok18 : FnOk Tryd.prog 18 Tryd.f18.ntmps a18 r18 := ⟨Tryd.f18, Tryd.func18, by kernel_rfl, by kernel_rfl, by kernel_rfl, fun asv w => by simp⟩

/-- layover/duty.Legal -/
def a19 : ACode :=
  (.seq
   (.region [⟨(some 2), (.box (.t 0)), none⟩, ⟨(some 4), (.mov (.c (.bool false))), none⟩, ⟨(some 5), (.mov (.c (.int .i64 0))), none⟩])
   (.seq
    (.region [⟨(some 10), (.ld true 10 (.t 2)), none⟩, ⟨(some 11), (.mov (.t 1)), none⟩, ⟨(some 12), (.call (.c (.func (.func 60) #[] #[])) [(.t 10), (.t 11)]), none⟩, ⟨(some 9), (.mov (.t 12)), none⟩, ⟨(some 13), (.ext (.t 9) 0), none⟩, ⟨(some 14), (.ext (.t 9) 1), none⟩, ⟨(some 15), (.ext (.t 9) 2), none⟩, ⟨(some 6), (.new [(.int .i64 0), (.int .i64 0), (.int .i64 0), (.int .i64 0), (.int .i64 0), (.int .i64 0), (.int .i64 0), (.int .i64 0), (.slice none 0 0), (.slice none 0 0), (.slice none 0 0), (.slice none 0 0), (.slice none 0 0)]), none⟩, ⟨none, (.st 13 (.t 6) (.t 13)), none⟩, ⟨(some 7), (.mov (.t 14)), none⟩, ⟨(some 8), (.mov (.t 15)), none⟩])
    (.seq
     (.seq
      (.region [⟨(some 16), (.mov (.t 8)), none⟩, ⟨(some 17), (.bin .neq (.t 16) (.c (.int .i64 0))), none⟩])
      (.cond (.t 17)
       (.seq
        (.region [⟨(some 18), (.mov (.t 8)), none⟩, ⟨(some 4), (.mov (.c (.bool false))), none⟩, ⟨(some 5), (.mov (.t 18)), none⟩])
        .ret)
       .skip))
     (.seq
      (.region [⟨(some 19), (.ld true 13 (.t 6)), none⟩, ⟨(some 20), (.mov (.t 7)), none⟩, ⟨(some 21), (.call (.c (.func (.func 61) #[] #[])) [(.t 19), (.t 20)]), none⟩, ⟨(some 4), (.mov (.t 21)), none⟩, ⟨(some 5), (.mov (.c (.int .i64 0))), none⟩])
      .ret))))
def r19 : List AOp := [(.mov (.t 4)), (.mov (.t 5))]
theorem ok19 : FnOk Tryd.prog 19 Tryd.f19.ntmps a19 r19 := ⟨Tryd.f19, Tryd.func19, by kernel_rfl, by kernel_rfl, by kernel_rfl, fun asv w => by simp⟩

/-- layover/layoverlaw02.list -/
def a20 : ACode :=
  (.seq
   (.region [⟨(some 2), (.mov (.c (.slice none 0 0))), none⟩])
   (.seq
    (.region [⟨(some 3), (.bsl 0 [] []), none⟩, ⟨(some 4), (.mov (.t 0)), none⟩, ⟨(some 5), (.app 1 8 (.t 3) (.t 4)), none⟩, ⟨(some 2), (.mov (.t 5)), none⟩])
    .ret))
def r20 : List AOp := [(.mov (.t 2))]
theorem ok20 : FnOk Tryd.prog 20 Tryd.f20.ntmps a20 r20 := ⟨Tryd.f20, Tryd.func20, by kernel_rfl, by kernel_rfl, by kernel_rfl, fun asv w => by simp⟩

/-- layover/duty.Pay -/
def a21 : ACode :=
  (.seq
   (.region [⟨(some 2), (.box (.t 0)), none⟩, ⟨(some 4), (.mov (.c (.int .i64 0))), none⟩, ⟨(some 5), (.mov (.c (.int .i64 0))), none⟩])
   (.seq
    (.region [⟨(some 10), (.ld true 10 (.t 2)), none⟩, ⟨(some 11), (.mov (.t 1)), none⟩, ⟨(some 12), (.call (.c (.func (.func 60) #[] #[])) [(.t 10), (.t 11)]), none⟩, ⟨(some 9), (.mov (.t 12)), none⟩, ⟨(some 13), (.ext (.t 9) 0), none⟩, ⟨(some 14), (.ext (.t 9) 1), none⟩, ⟨(some 15), (.ext (.t 9) 2), none⟩, ⟨(some 6), (.new [(.int .i64 0), (.int .i64 0), (.int .i64 0), (.int .i64 0), (.int .i64 0), (.int .i64 0), (.int .i64 0), (.int .i64 0), (.slice none 0 0), (.slice none 0 0), (.slice none 0 0), (.slice none 0 0), (.slice none 0 0)]), none⟩, ⟨none, (.st 13 (.t 6) (.t 13)), none⟩, ⟨(some 7), (.mov (.t 14)), none⟩, ⟨(some 8), (.mov (.t 15)), none⟩])
    (.seq
     (.block 0
      (.seq
       (.region [⟨(some 17), (.mov (.t 8)), none⟩, ⟨(some 18), (.bin .neq (.t 17) (.c (.int .i64 0))), none⟩, ⟨(some 16), (.mov (.t 18)), none⟩])
       (.cond (.t 16)
        (.seq
         (.region [⟨(some 19), (.mov (.t 8)), none⟩, ⟨(some 4), (.mov (.c (.int .i64 0))), none⟩, ⟨(some 5), (.mov (.t 19)), none⟩])
         .ret)
        (.seq
         (.region [⟨(some 21), (.ld true 13 (.t 6)), none⟩, ⟨(some 22), (.mov (.t 7)), none⟩, ⟨(some 23), (.call (.c (.func (.func 61) #[] #[])) [(.t 21), (.t 22)]), none⟩, ⟨(some 24), (.not (.t 23)), none⟩, ⟨(some 20), (.mov (.t 24)), none⟩])
         (.cond (.t 20)
          (.seq
           (.region [⟨(some 4), (.mov (.c (.int .i64 0))), none⟩, ⟨(some 5), (.mov (.c (.int .i64 10))), none⟩])
           .ret)
          .skip)))))
     (.seq
      (.region [⟨(some 25), (.ld true 13 (.t 6)), none⟩, ⟨(some 26), (.mov (.t 7)), none⟩, ⟨(some 27), (.call (.c (.func (.func 62) #[] #[])) [(.t 25), (.t 26)]), none⟩, ⟨(some 4), (.mov (.t 27)), none⟩, ⟨(some 5), (.mov (.c (.int .i64 0))), none⟩])
      .ret))))
def r21 : List AOp := [(.mov (.t 4)), (.mov (.t 5))]
theorem ok21 : FnOk Tryd.prog 21 Tryd.f21.ntmps a21 r21 := ⟨Tryd.f21, Tryd.func21, by kernel_rfl, by kernel_rfl, by kernel_rfl, fun asv w => by simp⟩

/-- layover/layoverlaw02.fault -/
def a22 : ACode :=
  (.seq
   (.region [⟨(some 1), (.box (.t 0)), none⟩, ⟨(some 2), (.mov (.c (.int .i64 0))), none⟩])
   (.seq
    (.region [⟨(some 3), (.ld true 10 (.t 1)), none⟩, ⟨(some 4), (.call (.c (.func (.func 36) #[] #[])) [(.t 3)]), none⟩, ⟨(some 2), (.mov (.t 4)), none⟩])
    .ret))
def r22 : List AOp := [(.mov (.t 2))]
theorem ok22 : FnOk Tryd.prog 22 Tryd.f22.ntmps a22 r22 := ⟨Tryd.f22, Tryd.func22, by kernel_rfl, by kernel_rfl, by kernel_rfl, fun asv w => by simp⟩

/-- layover/layoverref02.IsDuty -/
def a23 : ACode :=
  (.seq
   (.region [⟨(some 2), (.box (.t 0)), none⟩, ⟨(some 4), (.mov (.c (.bool false))), none⟩])
   (.seq
    (.seq
     (.region [⟨(some 5), (.mov (.c (.int .i64 0))), none⟩])
     (.block 0
      (.loop
       (.seq
        (.seq
         (.region [⟨(some 6), (.mov (.t 5)), none⟩, ⟨(some 7), (.mov (.t 1)), none⟩, ⟨(some 8), (.len (.t 7)), none⟩, ⟨(some 9), (.bin .lss (.t 6) (.t 8)), none⟩])
         (.cond (.t 9)
          .skip
          (.exit 0)))
        (.seq
         (.block 1
          (.seq
           (.draw 25 [⟨⟨(some 12), (.mov (.t 1)), none⟩, 0, false, []⟩, ⟨⟨(some 13), (.mov (.t 5)), none⟩, 1, false, []⟩, ⟨⟨(some 14), (.isl 1 (.t 12) (.t 13)), none⟩, 2, false, []⟩, ⟨⟨(some 15), (.ld false 1 (.t 14)), none⟩, 3, false, []⟩, ⟨⟨(some 16), (.ld true 10 (.t 2)), none⟩, 4, false, []⟩, ⟨⟨(some 17), (.call (.c (.func (.func 37) #[] #[])) [(.t 16)]), none⟩, 5, true, [3]⟩, ⟨⟨(some 18), (.bin .sub (.t 17) (.c (.int .i64 1))), none⟩, 6, false, []⟩, ⟨⟨(some 19), (.call (.c (.func (.func 63) #[] #[])) [(.t 15), (.c (.int .i64 0)), (.t 18)]), none⟩, 7, true, []⟩, ⟨⟨(some 20), (.not (.t 19)), none⟩, 8, false, []⟩, ⟨⟨(some 21), (.mov (.t 20)), none⟩, 9, false, []⟩, ⟨⟨(some 22), (.mov (.t 5)), (some (21, false))⟩, 10, false, []⟩, ⟨⟨(some 23), (.bin .gtr (.t 22) (.c (.int .i64 0))), (some (21, false))⟩, 11, false, []⟩, ⟨⟨(some 24), (.mov (.t 23)), (some (21, false))⟩, 12, false, []⟩, ⟨⟨(some 25), (.mov (.t 1)), (some (24, true))⟩, 13, false, []⟩, ⟨⟨(some 26), (.mov (.t 5)), (some (24, true))⟩, 14, false, []⟩, ⟨⟨(some 27), (.isl 1 (.t 25) (.t 26)), (some (24, true))⟩, 15, false, []⟩, ⟨⟨(some 28), (.ld false 1 (.t 27)), (some (24, true))⟩, 16, false, []⟩, ⟨⟨(some 29), (.mov (.t 1)), (some (24, true))⟩, 17, false, []⟩, ⟨⟨(some 30), (.mov (.t 5)), (some (24, true))⟩, 18, false, []⟩, ⟨⟨(some 31), (.bin .sub (.t 30) (.c (.int .i64 1))), (some (24, true))⟩, 19, false, []⟩, ⟨⟨(some 32), (.isl 1 (.t 29) (.t 31)), (some (24, true))⟩, 20, false, []⟩, ⟨⟨(some 33), (.ld false 1 (.t 32)), (some (24, true))⟩, 21, false, []⟩, ⟨⟨(some 34), (.bin .leq (.t 28) (.t 33)), (some (24, true))⟩, 22, false, []⟩, ⟨⟨(some 35), (.pick (.t 24) (.t 34) (.c (.bool false))), (some (21, false))⟩, 23, false, []⟩, ⟨⟨(some 36), (.pick (.t 21) (.c (.bool true)) (.t 35)), none⟩, 24, false, []⟩])
           (.cond (.t 36)
            (.seq
             (.region [⟨(some 4), (.mov (.c (.bool false))), none⟩])
             .ret)
            .skip)))
         (.region [⟨(some 10), (.mov (.t 5)), none⟩, ⟨(some 11), (.bin .add (.t 10) (.c (.int .i64 1))), none⟩, ⟨(some 5), (.mov (.t 11)), none⟩]))))))
    (.seq
     (.region [⟨(some 37), (.mov (.t 1)), none⟩, ⟨(some 38), (.len (.t 37)), none⟩, ⟨(some 39), (.bin .gtr (.t 38) (.c (.int .i64 0))), none⟩, ⟨(some 4), (.mov (.t 39)), none⟩])
     .ret)))
def r23 : List AOp := [(.mov (.t 4))]
theorem ok23 : FnOk Tryd.prog 23 Tryd.f23.ntmps a23 r23 := ⟨Tryd.f23, Tryd.func23, by kernel_rfl, by kernel_rfl, by kernel_rfl, fun asv w => by simp⟩

/-- layover/layoverref02.Legal -/
def a24 : ACode :=
  (.seq
   (.region [⟨(some 2), (.box (.t 0)), none⟩, ⟨(some 4), (.mov (.c (.bool false))), none⟩])
   (.seq
    (.draw 10 [⟨⟨(some 5), (.ld true 10 (.t 2)), none⟩, 0, false, []⟩, ⟨⟨(some 6), (.ld true 10 (.t 2)), none⟩, 1, false, []⟩, ⟨⟨(some 7), (.mov (.t 1)), none⟩, 2, false, []⟩, ⟨⟨(some 9), (.ld true 10 (.t 2)), none⟩, 4, false, []⟩, ⟨⟨(some 11), (.ld true 10 (.t 2)), none⟩, 6, false, []⟩, ⟨⟨(some 8), (.call (.c (.func (.func 30) #[] #[])) [(.t 6), (.t 7)]), none⟩, 3, true, [6, 4, 0]⟩, ⟨⟨(some 10), (.call (.c (.func (.func 64) #[] #[])) [(.t 9)]), none⟩, 5, true, [6, 0]⟩, ⟨⟨(some 12), (.call (.c (.func (.func 65) #[] #[])) [(.t 11)]), none⟩, 7, true, [0]⟩, ⟨⟨(some 13), (.call (.c (.func (.func 35) #[] #[])) [(.t 5), (.t 8), (.t 10), (.t 12)]), none⟩, 8, true, []⟩, ⟨⟨(some 4), (.mov (.t 13)), none⟩, 9, false, []⟩])
    .ret))
def r24 : List AOp := [(.mov (.t 4))]
theorem ok24 : FnOk Tryd.prog 24 Tryd.f24.ntmps a24 r24 := ⟨Tryd.f24, Tryd.func24, by kernel_rfl, by kernel_rfl, by kernel_rfl, fun asv w => by simp⟩

/-- layover/layoverref02.Pay -/
def a25 : ACode :=
  (.seq
   (.region [⟨(some 2), (.box (.t 0)), none⟩, ⟨(some 4), (.mov (.c (.int .i64 0))), none⟩])
   (.seq
    (.draw 14 [⟨⟨(some 5), (.fa 0 (.t 2)), none⟩, 0, false, []⟩, ⟨⟨(some 6), (.fa 6 (.t 5)), none⟩, 1, false, []⟩, ⟨⟨(some 7), (.ld false 1 (.t 6)), none⟩, 2, false, []⟩, ⟨⟨(some 8), (.ld true 10 (.t 2)), none⟩, 3, false, []⟩, ⟨⟨(some 9), (.ld true 10 (.t 2)), none⟩, 4, false, []⟩, ⟨⟨(some 10), (.mov (.t 1)), none⟩, 5, false, []⟩, ⟨⟨(some 12), (.ld true 10 (.t 2)), none⟩, 7, false, []⟩, ⟨⟨(some 14), (.ld true 10 (.t 2)), none⟩, 9, false, []⟩, ⟨⟨(some 11), (.call (.c (.func (.func 30) #[] #[])) [(.t 9), (.t 10)]), none⟩, 6, true, [9, 7, 3, 2]⟩, ⟨⟨(some 13), (.call (.c (.func (.func 64) #[] #[])) [(.t 12)]), none⟩, 8, true, [9, 3, 2]⟩, ⟨⟨(some 15), (.call (.c (.func (.func 65) #[] #[])) [(.t 14)]), none⟩, 10, true, [3, 2]⟩, ⟨⟨(some 16), (.call (.c (.func (.func 32) #[] #[])) [(.t 8), (.t 11), (.t 13), (.t 15)]), none⟩, 11, true, [2]⟩, ⟨⟨(some 17), (.gen 18 ⟨(some 17), (.call ⟨.builtin .max, #[(.tmp 7), (.tmp 16)], #[3, 3]⟩), 3, "ref.go:205", #[{ on := 2, ground := Go.Ground.data }, { on := 11, ground := Go.Ground.data }], none⟩), none⟩, 12, false, []⟩, ⟨⟨(some 4), (.mov (.t 17)), none⟩, 13, false, []⟩])
    .ret))
def r25 : List AOp := [(.mov (.t 4))]
theorem ok25 : FnOk Tryd.prog 25 Tryd.f25.ntmps a25 r25 := ⟨Tryd.f25, Tryd.func25, by kernel_rfl, by kernel_rfl, by kernel_rfl, fun asv w => by simp⟩

/-- layover/layoverlaw02.short -/
def a26 : ACode :=
  (.seq
   (.region [⟨(some 2), (.mov (.c (.bool false))), none⟩])
   (.seq
    (.seq
     (.region [⟨(some 3), (.mov (.c (.int .i64 0))), none⟩])
     (.block 0
      (.loop
       (.seq
        (.seq
         (.region [⟨(some 4), (.mov (.t 3)), none⟩, ⟨(some 5), (.mov (.t 0)), none⟩, ⟨(some 6), (.len (.t 5)), none⟩, ⟨(some 7), (.bin .lss (.t 4) (.t 6)), none⟩])
         (.cond (.t 7)
          .skip
          (.exit 0)))
        (.seq
         (.block 1
          (.seq
           (.region [⟨(some 10), (.mov (.t 3)), none⟩, ⟨(some 11), (.bin .gtr (.t 10) (.c (.int .i64 12))), none⟩, ⟨(some 12), (.mov (.t 11)), none⟩, ⟨(some 13), (.mov (.t 0)), (some (12, false))⟩, ⟨(some 14), (.mov (.t 3)), (some (12, false))⟩, ⟨(some 15), (.isl 1 (.t 13) (.t 14)), (some (12, false))⟩, ⟨(some 16), (.ld false 1 (.t 15)), (some (12, false))⟩, ⟨(some 17), (.len (.t 16)), (some (12, false))⟩, ⟨(some 18), (.bin .gtr (.t 17) (.c (.int .i64 14))), (some (12, false))⟩, ⟨(some 19), (.pick (.t 12) (.c (.bool true)) (.t 18)), none⟩])
           (.cond (.t 19)
            (.seq
             (.region [⟨(some 2), (.mov (.c (.bool false))), none⟩])
             .ret)
            .skip)))
         (.region [⟨(some 8), (.mov (.t 3)), none⟩, ⟨(some 9), (.bin .add (.t 8) (.c (.int .i64 1))), none⟩, ⟨(some 3), (.mov (.t 9)), none⟩]))))))
    (.seq
     (.region [⟨(some 20), (.mov (.t 0)), none⟩, ⟨(some 21), (.len (.t 20)), none⟩, ⟨(some 22), (.bin .leq (.t 21) (.c (.int .i64 12))), none⟩, ⟨(some 2), (.mov (.t 22)), none⟩])
     .ret)))
def r26 : List AOp := [(.mov (.t 2))]
theorem ok26 : FnOk Tryd.prog 26 Tryd.f26.ntmps a26 r26 := ⟨Tryd.f26, Tryd.func26, by kernel_rfl, by kernel_rfl, by kernel_rfl, fun asv w => by simp⟩

/-- layover/duty.Do -/
def a27 : ACode :=
  (.seq
   (.region [⟨(some 3), (.box (.t 0)), none⟩, ⟨(some 6), (.new [(.int .i64 0), (.int .i64 0), (.slice none 0 0), (.bool false)]), none⟩, ⟨(some 7), (.mov (.c (.int .i64 0))), none⟩])
   (.seq
    (.region [⟨(some 12), (.ld true 10 (.t 3)), none⟩, ⟨(some 13), (.mov (.t 1)), none⟩, ⟨(some 14), (.call (.c (.func (.func 60) #[] #[])) [(.t 12), (.t 13)]), none⟩, ⟨(some 11), (.mov (.t 14)), none⟩, ⟨(some 15), (.ext (.t 11) 0), none⟩, ⟨(some 16), (.ext (.t 11) 1), none⟩, ⟨(some 17), (.ext (.t 11) 2), none⟩, ⟨(some 8), (.new [(.int .i64 0), (.int .i64 0), (.int .i64 0), (.int .i64 0), (.int .i64 0), (.int .i64 0), (.int .i64 0), (.int .i64 0), (.slice none 0 0), (.slice none 0 0), (.slice none 0 0), (.slice none 0 0), (.slice none 0 0)]), none⟩, ⟨none, (.st 13 (.t 8) (.t 15)), none⟩, ⟨(some 9), (.mov (.t 16)), none⟩, ⟨(some 10), (.mov (.t 17)), none⟩])
    (.seq
     (.block 0
      (.seq
       (.region [⟨(some 19), (.mov (.t 10)), none⟩, ⟨(some 20), (.bin .neq (.t 19) (.c (.int .i64 0))), none⟩, ⟨(some 18), (.mov (.t 20)), none⟩])
       (.cond (.t 18)
        (.seq
         (.region [⟨(some 21), (.bld [(.int .i64 0), (.int .i64 0), (.slice none 0 0), (.bool false)] []), none⟩, ⟨(some 22), (.mov (.t 10)), none⟩, ⟨none, (.st 4 (.t 6) (.t 21)), none⟩, ⟨(some 7), (.mov (.t 22)), none⟩])
         .ret)
        (.seq
         (.region [⟨(some 24), (.fa 0 (.t 8)), none⟩, ⟨(some 25), (.ld true 10 (.t 24)), none⟩, ⟨(some 26), (.mov (.t 2)), none⟩, ⟨(some 27), (.call (.c (.func (.func 66) #[] #[])) [(.t 25), (.t 26)]), none⟩, ⟨(some 28), (.not (.t 27)), none⟩, ⟨(some 23), (.mov (.t 28)), none⟩])
         (.cond (.t 23)
          (.seq
           (.region [⟨(some 29), (.bld [(.int .i64 0), (.int .i64 0), (.slice none 0 0), (.bool false)] []), none⟩, ⟨none, (.st 4 (.t 6) (.t 29)), none⟩, ⟨(some 7), (.mov (.c (.int .i64 2))), none⟩])
           .ret)
          .skip)))))
     (.seq
      (.region [⟨(some 30), (.ld true 13 (.t 8)), none⟩, ⟨(some 31), (.mov (.t 2)), none⟩, ⟨(some 32), (.call (.c (.func (.func 67) #[] #[])) [(.t 30), (.t 31)]), none⟩, ⟨(some 33), (.mov (.t 9)), none⟩, ⟨(some 34), (.call (.c (.func (.func 68) #[] #[])) [(.t 32), (.t 33)]), none⟩, ⟨none, (.st 4 (.t 6) (.t 34)), none⟩, ⟨(some 7), (.mov (.c (.int .i64 0))), none⟩])
      .ret))))
def r27 : List AOp := [(.ld true 4 (.t 6)), (.mov (.t 7))]
theorem ok27 : FnOk Tryd.prog 27 Tryd.f27.ntmps a27 r27 := ⟨Tryd.f27, Tryd.func27, by kernel_rfl, by kernel_rfl, by kernel_rfl, fun asv w => by simp⟩

/-- layover/layoverlaw02.rows -/
def a28 : ACode :=
  (.seq
   (.region [⟨(some 2), (.mov (.c (.slice none 0 0))), none⟩])
   (.seq
    (.region [⟨(some 3), (.mov (.c (.slice none 0 0))), none⟩])
    (.seq
     (.seq
      (.region [⟨(some 4), (.mov (.c (.int .i64 0))), none⟩])
      (.block 0
       (.loop
        (.seq
         (.seq
          (.region [⟨(some 5), (.mov (.t 4)), none⟩, ⟨(some 6), (.mov (.t 0)), none⟩, ⟨(some 7), (.len (.t 6)), none⟩, ⟨(some 8), (.bin .lss (.t 5) (.t 7)), none⟩])
          (.cond (.t 8)
           .skip
           (.exit 0)))
         (.seq
          (.block 1
           (.region [⟨(some 11), (.mov (.t 3)), none⟩, ⟨(some 12), (.mov (.t 0)), none⟩, ⟨(some 13), (.mov (.t 4)), none⟩, ⟨(some 14), (.isl 1 (.t 12) (.t 13)), none⟩, ⟨(some 15), (.ld false 1 (.t 14)), none⟩, ⟨(some 16), (.call (.c (.func (.func 20) #[] #[])) [(.t 15)]), none⟩, ⟨(some 17), (.bsl 1 [(.slice none 0 0)] [(0, 1, (.t 16))]), none⟩, ⟨(some 18), (.app 1 24 (.t 11) (.t 17)), none⟩, ⟨(some 3), (.mov (.t 18)), none⟩]))
          (.region [⟨(some 9), (.mov (.t 4)), none⟩, ⟨(some 10), (.bin .add (.t 9) (.c (.int .i64 1))), none⟩, ⟨(some 4), (.mov (.t 10)), none⟩]))))))
     (.seq
      (.region [⟨(some 19), (.mov (.t 3)), none⟩, ⟨(some 2), (.mov (.t 19)), none⟩])
      .ret))))
def r28 : List AOp := [(.mov (.t 2))]
theorem ok28 : FnOk Tryd.prog 28 Tryd.f28.ntmps a28 r28 := ⟨Tryd.f28, Tryd.func28, by kernel_rfl, by kernel_rfl, by kernel_rfl, fun asv w => by simp⟩

/-- layover/layoverref02.Pieces -/
def a30 : ACode :=
  (.seq
   (.region [⟨(some 2), (.box (.t 0)), none⟩, ⟨(some 4), (.mov (.c (.slice none 0 0))), none⟩])
   (.seq
    (.region [⟨(some 5), (.mov (.c (.slice none 0 0))), none⟩])
    (.seq
     (.seq
      (.region [⟨(some 6), (.mov (.c (.int .i64 0))), none⟩])
      (.block 0
       (.loop
        (.seq
         (.seq
          (.region [⟨(some 12), (.mov (.t 6)), none⟩, ⟨(some 13), (.mov (.t 1)), none⟩, ⟨(some 14), (.len (.t 13)), none⟩, ⟨(some 15), (.bin .lss (.t 12) (.t 14)), none⟩])
          (.cond (.t 15)
           .skip
           (.exit 0)))
         (.seq
          (.block 1
           (.seq
            (.draw 11 [⟨⟨(some 19), (.ld true 10 (.t 2)), none⟩, 0, false, []⟩, ⟨⟨(some 20), (.mov (.t 1)), none⟩, 1, false, []⟩, ⟨⟨(some 21), (.mov (.t 6)), none⟩, 2, false, []⟩, ⟨⟨(some 22), (.isl 1 (.t 20) (.t 21)), none⟩, 3, false, []⟩, ⟨⟨(some 23), (.ld false 1 (.t 22)), none⟩, 4, false, []⟩, ⟨⟨(some 24), (.call (.c (.func (.func 54) #[] #[])) [(.t 19), (.t 23)]), none⟩, 5, true, []⟩, ⟨⟨(some 18), (.mov (.t 24)), none⟩, 6, false, []⟩, ⟨⟨(some 25), (.ext (.t 18) 0), none⟩, 7, false, []⟩, ⟨⟨(some 26), (.ext (.t 18) 1), none⟩, 8, false, []⟩, ⟨⟨(some 7), (.mov (.t 25)), none⟩, 9, false, []⟩, ⟨⟨(some 8), (.mov (.t 26)), none⟩, 10, false, []⟩])
            (.seq
             (.region [⟨(some 27), (.mov (.t 5)), none⟩, ⟨(some 28), (.len (.t 27)), none⟩, ⟨(some 29), (.bin .sub (.t 28) (.c (.int .i64 1))), none⟩, ⟨(some 9), (.mov (.t 29)), none⟩])
             (.seq
              (.seq
               (.draw 24 [⟨⟨(some 30), (.mov (.t 6)), none⟩, 0, false, []⟩, ⟨⟨(some 31), (.bin .gtr (.t 30) (.c (.int .i64 0))), none⟩, 1, false, []⟩, ⟨⟨(some 32), (.mov (.t 31)), none⟩, 2, false, []⟩, ⟨⟨(some 33), (.mov (.t 1)), (some (32, true))⟩, 3, false, []⟩, ⟨⟨(some 34), (.mov (.t 6)), (some (32, true))⟩, 4, false, []⟩, ⟨⟨(some 35), (.bin .sub (.t 34) (.c (.int .i64 1))), (some (32, true))⟩, 5, false, []⟩, ⟨⟨(some 36), (.isl 1 (.t 33) (.t 35)), (some (32, true))⟩, 6, false, []⟩, ⟨⟨(some 37), (.ld false 1 (.t 36)), (some (32, true))⟩, 7, false, []⟩, ⟨⟨(some 38), (.mov (.t 1)), (some (32, true))⟩, 8, false, []⟩, ⟨⟨(some 39), (.mov (.t 6)), (some (32, true))⟩, 9, false, []⟩, ⟨⟨(some 40), (.isl 1 (.t 38) (.t 39)), (some (32, true))⟩, 10, false, []⟩, ⟨⟨(some 41), (.ld false 1 (.t 40)), (some (32, true))⟩, 11, false, []⟩, ⟨⟨(some 42), (.bin .sub (.t 41) (.c (.int .i64 1))), (some (32, true))⟩, 12, false, []⟩, ⟨⟨(some 43), (.bin .eql (.t 37) (.t 42)), (some (32, true))⟩, 13, false, []⟩, ⟨⟨(some 44), (.pick (.t 32) (.t 43) (.c (.bool false))), none⟩, 14, false, []⟩, ⟨⟨(some 45), (.mov (.t 44)), none⟩, 15, false, []⟩, ⟨⟨(some 46), (.mov (.t 5)), (some (45, true))⟩, 16, false, []⟩, ⟨⟨(some 47), (.mov (.t 9)), (some (45, true))⟩, 17, false, []⟩, ⟨⟨(some 48), (.isl 4 (.t 46) (.t 47)), (some (45, true))⟩, 18, false, []⟩, ⟨⟨(some 49), (.fa 0 (.t 48)), (some (45, true))⟩, 19, false, []⟩, ⟨⟨(some 50), (.ld false 1 (.t 49)), (some (45, true))⟩, 20, false, []⟩, ⟨⟨(some 51), (.mov (.t 7)), (some (45, true))⟩, 21, false, []⟩, ⟨⟨(some 52), (.bin .eql (.t 50) (.t 51)), (some (45, true))⟩, 22, false, []⟩, ⟨⟨(some 53), (.pick (.t 45) (.t 52) (.c (.bool false))), none⟩, 23, false, []⟩])
               (.cond (.t 53)
                (.seq
                 (.region [⟨(some 54), (.mov (.t 5)), none⟩, ⟨(some 55), (.mov (.t 9)), none⟩, ⟨(some 56), (.mov (.t 8)), none⟩, ⟨(some 57), (.bin .add (.t 56) (.c (.int .i64 1))), none⟩, ⟨(some 58), (.isl 4 (.t 54) (.t 55)), none⟩, ⟨(some 59), (.fa 2 (.t 58)), none⟩, ⟨none, (.st 1 (.t 59) (.t 57)), none⟩])
                 (.exit 1))
                .skip))
              (.region [⟨(some 60), (.mov (.t 5)), none⟩, ⟨(some 61), (.mov (.t 7)), none⟩, ⟨(some 62), (.mov (.t 8)), none⟩, ⟨(some 63), (.mov (.t 8)), none⟩, ⟨(some 64), (.bin .add (.t 63) (.c (.int .i64 1))), none⟩, ⟨(some 65), (.mov (.t 1)), none⟩, ⟨(some 66), (.mov (.t 6)), none⟩, ⟨(some 67), (.isl 1 (.t 65) (.t 66)), none⟩, ⟨(some 68), (.ld false 1 (.t 67)), none⟩, ⟨(some 69), (.bld [(.int .i64 0), (.int .i64 0), (.int .i64 0), (.int .i64 0)] [(0, 1, (.t 61)), (1, 1, (.t 62)), (2, 1, (.t 64)), (3, 1, (.t 68))]), none⟩, ⟨(some 70), (.bsl 1 [(.int .i64 0), (.int .i64 0), (.int .i64 0), (.int .i64 0)] [(0, 4, (.t 69))]), none⟩, ⟨(some 71), (.app 4 32 (.t 60) (.t 70)), none⟩, ⟨(some 5), (.mov (.t 71)), none⟩])))))
          (.region [⟨(some 16), (.mov (.t 6)), none⟩, ⟨(some 17), (.bin .add (.t 16) (.c (.int .i64 1))), none⟩, ⟨(some 6), (.mov (.t 17)), none⟩]))))))
     (.seq
      (.seq
       (.region [⟨(some 10), (.mov (.c (.int .i64 0))), none⟩])
       (.block 2
        (.loop
         (.seq
          (.seq
           (.region [⟨(some 72), (.mov (.t 10)), none⟩, ⟨(some 73), (.mov (.t 5)), none⟩, ⟨(some 74), (.len (.t 73)), none⟩, ⟨(some 75), (.bin .lss (.t 72) (.t 74)), none⟩])
           (.cond (.t 75)
            .skip
            (.exit 2)))
          (.seq
           (.block 3
            (.seq
             (.region [⟨(some 78), (.mov (.t 10)), none⟩, ⟨(some 11), (.mov (.t 78)), none⟩])
             (.block 4
              (.loop
               (.seq
                (.seq
                 (.draw 15 [⟨⟨(some 79), (.mov (.t 11)), none⟩, 0, false, []⟩, ⟨⟨(some 80), (.bin .gtr (.t 79) (.c (.int .i64 0))), none⟩, 1, false, []⟩, ⟨⟨(some 81), (.mov (.t 80)), none⟩, 2, false, []⟩, ⟨⟨(some 82), (.ld true 10 (.t 2)), (some (81, true))⟩, 3, false, []⟩, ⟨⟨(some 83), (.mov (.t 5)), (some (81, true))⟩, 4, false, []⟩, ⟨⟨(some 84), (.mov (.t 11)), (some (81, true))⟩, 5, false, []⟩, ⟨⟨(some 85), (.isl 4 (.t 83) (.t 84)), (some (81, true))⟩, 6, false, []⟩, ⟨⟨(some 86), (.ld true 4 (.t 85)), (some (81, true))⟩, 7, false, []⟩, ⟨⟨(some 87), (.mov (.t 5)), (some (81, true))⟩, 8, false, []⟩, ⟨⟨(some 88), (.mov (.t 11)), (some (81, true))⟩, 9, false, []⟩, ⟨⟨(some 89), (.bin .sub (.t 88) (.c (.int .i64 1))), (some (81, true))⟩, 10, false, []⟩, ⟨⟨(some 90), (.isl 4 (.t 87) (.t 89)), (some (81, true))⟩, 11, false, []⟩, ⟨⟨(some 91), (.ld true 4 (.t 90)), (some (81, true))⟩, 12, false, []⟩, ⟨⟨(some 92), (.call (.c (.func (.func 70) #[] #[])) [(.t 82), (.t 86), (.t 91)]), (some (81, true))⟩, 13, true, []⟩, ⟨⟨(some 93), (.pick (.t 81) (.t 92) (.c (.bool false))), none⟩, 14, false, []⟩])
                 (.cond (.t 93)
                  .skip
                  (.exit 4)))
                (.seq
                 (.block 5
                  (.draw 18 [⟨⟨(some 96), (.mov (.t 5)), none⟩, 0, false, []⟩, ⟨⟨(some 97), (.mov (.t 11)), none⟩, 1, false, []⟩, ⟨⟨(some 98), (.mov (.t 5)), none⟩, 2, false, []⟩, ⟨⟨(some 99), (.mov (.t 11)), none⟩, 3, false, []⟩, ⟨⟨(some 100), (.bin .sub (.t 99) (.c (.int .i64 1))), none⟩, 4, false, []⟩, ⟨⟨(some 101), (.mov (.t 5)), none⟩, 5, false, []⟩, ⟨⟨(some 102), (.mov (.t 11)), none⟩, 6, false, []⟩, ⟨⟨(some 103), (.bin .sub (.t 102) (.c (.int .i64 1))), none⟩, 7, false, []⟩, ⟨⟨(some 104), (.isl 4 (.t 101) (.t 103)), none⟩, 8, false, []⟩, ⟨⟨(some 105), (.ld true 4 (.t 104)), none⟩, 9, false, []⟩, ⟨⟨(some 106), (.mov (.t 5)), none⟩, 10, false, []⟩, ⟨⟨(some 107), (.mov (.t 11)), none⟩, 11, false, []⟩, ⟨⟨(some 108), (.isl 4 (.t 106) (.t 107)), none⟩, 12, false, []⟩, ⟨⟨(some 109), (.ld true 4 (.t 108)), none⟩, 13, false, []⟩, ⟨⟨(some 110), (.isl 4 (.t 96) (.t 97)), none⟩, 14, false, []⟩, ⟨⟨none, (.st 4 (.t 110) (.t 105)), none⟩, 15, true, []⟩, ⟨⟨(some 111), (.isl 4 (.t 98) (.t 100)), none⟩, 16, false, []⟩, ⟨⟨none, (.st 4 (.t 111) (.t 109)), none⟩, 17, true, []⟩]))
                 (.region [⟨(some 94), (.mov (.t 11)), none⟩, ⟨(some 95), (.bin .sub (.t 94) (.c (.int .i64 1))), none⟩, ⟨(some 11), (.mov (.t 95)), none⟩])))))))
           (.region [⟨(some 76), (.mov (.t 10)), none⟩, ⟨(some 77), (.bin .add (.t 76) (.c (.int .i64 1))), none⟩, ⟨(some 10), (.mov (.t 77)), none⟩]))))))
      (.seq
       (.region [⟨(some 112), (.mov (.t 5)), none⟩, ⟨(some 4), (.mov (.t 112)), none⟩])
       .ret)))))
def r30 : List AOp := [(.mov (.t 4))]
theorem ok30 : FnOk Tryd.prog 30 Tryd.f30.ntmps a30 r30 := ⟨Tryd.f30, Tryd.func30, by kernel_rfl, by kernel_rfl, by kernel_rfl, fun asv w => by simp⟩

/-- layover/layoverref02.Drive -/
def a31 : ACode :=
  (.seq
   (.region [⟨(some 6), (.mov (.c (.int .i64 0))), none⟩])
   (.seq
    (.region [⟨(some 7), (.mov (.c (.int .i64 0))), none⟩])
    (.seq
     (.seq
      (.region [⟨(some 8), (.mov (.c (.int .i64 0))), none⟩])
      (.block 0
       (.loop
        (.seq
         (.seq
          (.region [⟨(some 9), (.mov (.t 8)), none⟩, ⟨(some 10), (.mov (.t 0)), none⟩, ⟨(some 11), (.len (.t 10)), none⟩, ⟨(some 12), (.bin .lss (.t 9) (.t 11)), none⟩])
          (.cond (.t 12)
           .skip
           (.exit 0)))
         (.seq
          (.block 1
           (.draw 34 [⟨⟨(some 15), (.mov (.t 7)), none⟩, 0, false, []⟩, ⟨⟨(some 16), (.mov (.t 2)), none⟩, 1, false, []⟩, ⟨⟨(some 17), (.mov (.t 0)), none⟩, 2, false, []⟩, ⟨⟨(some 18), (.mov (.t 8)), none⟩, 3, false, []⟩, ⟨⟨(some 19), (.isl 4 (.t 17) (.t 18)), none⟩, 4, false, []⟩, ⟨⟨(some 20), (.fa 0 (.t 19)), none⟩, 5, false, []⟩, ⟨⟨(some 21), (.ld false 1 (.t 20)), none⟩, 6, false, []⟩, ⟨⟨(some 22), (.isl 1 (.t 16) (.t 21)), none⟩, 7, false, []⟩, ⟨⟨(some 23), (.ld false 1 (.t 22)), none⟩, 8, false, []⟩, ⟨⟨(some 24), (.mov (.t 0)), none⟩, 9, false, []⟩, ⟨⟨(some 25), (.mov (.t 8)), none⟩, 10, false, []⟩, ⟨⟨(some 26), (.isl 4 (.t 24) (.t 25)), none⟩, 11, false, []⟩, ⟨⟨(some 27), (.fa 2 (.t 26)), none⟩, 12, false, []⟩, ⟨⟨(some 28), (.ld false 1 (.t 27)), none⟩, 13, false, []⟩, ⟨⟨(some 29), (.isl 1 (.t 23) (.t 28)), none⟩, 14, false, []⟩, ⟨⟨(some 30), (.ld false 1 (.t 29)), none⟩, 15, false, []⟩, ⟨⟨(some 31), (.mov (.t 1)), none⟩, 16, false, []⟩, ⟨⟨(some 32), (.mov (.t 0)), none⟩, 17, false, []⟩, ⟨⟨(some 33), (.mov (.t 8)), none⟩, 18, false, []⟩, ⟨⟨(some 34), (.isl 4 (.t 32) (.t 33)), none⟩, 19, false, []⟩, ⟨⟨(some 35), (.fa 0 (.t 34)), none⟩, 20, false, []⟩, ⟨⟨(some 36), (.ld false 1 (.t 35)), none⟩, 21, false, []⟩, ⟨⟨(some 37), (.isl 1 (.t 31) (.t 36)), none⟩, 22, false, []⟩, ⟨⟨(some 38), (.ld false 1 (.t 37)), none⟩, 23, false, []⟩, ⟨⟨(some 39), (.mov (.t 0)), none⟩, 24, false, []⟩, ⟨⟨(some 40), (.mov (.t 8)), none⟩, 25, false, []⟩, ⟨⟨(some 41), (.isl 4 (.t 39) (.t 40)), none⟩, 26, false, []⟩, ⟨⟨(some 42), (.fa 1 (.t 41)), none⟩, 27, false, []⟩, ⟨⟨(some 43), (.ld false 1 (.t 42)), none⟩, 28, false, []⟩, ⟨⟨(some 44), (.isl 1 (.t 38) (.t 43)), none⟩, 29, false, []⟩, ⟨⟨(some 45), (.ld false 1 (.t 44)), none⟩, 30, false, []⟩, ⟨⟨(some 46), (.bin .sub (.t 30) (.t 45)), none⟩, 31, false, []⟩, ⟨⟨(some 47), (.bin .add (.t 15) (.t 46)), none⟩, 32, false, []⟩, ⟨⟨(some 7), (.mov (.t 47)), none⟩, 33, false, []⟩]))
          (.region [⟨(some 13), (.mov (.t 8)), none⟩, ⟨(some 14), (.bin .add (.t 13) (.c (.int .i64 1))), none⟩, ⟨(some 8), (.mov (.t 14)), none⟩]))))))
     (.seq
      (.region [⟨(some 48), (.mov (.t 7)), none⟩, ⟨(some 6), (.mov (.t 48)), none⟩])
      .ret))))
def r31 : List AOp := [(.mov (.t 6))]
theorem ok31 : FnOk Tryd.prog 31 Tryd.f31.ntmps a31 r31 := ⟨Tryd.f31, Tryd.func31, by kernel_rfl, by kernel_rfl, by kernel_rfl, fun asv w => by simp⟩

/-- layover/layoverref02.Spread -/
def a32 : ACode :=
  (.seq
   (.region [⟨(some 4), (.box (.t 0)), none⟩, ⟨(some 8), (.mov (.c (.int .i64 0))), none⟩])
   (.seq
    (.region [⟨(some 10), (.mov (.t 1)), none⟩, ⟨(some 11), (.len (.t 10)), none⟩, ⟨(some 12), (.bin .sub (.t 11) (.c (.int .i64 1))), none⟩, ⟨(some 9), (.mov (.t 12)), none⟩])
    (.seq
     (.draw 38 [⟨⟨(some 13), (.mov (.t 3)), none⟩, 0, false, []⟩, ⟨⟨(some 14), (.mov (.t 1)), none⟩, 1, false, []⟩, ⟨⟨(some 15), (.mov (.t 9)), none⟩, 2, false, []⟩, ⟨⟨(some 16), (.isl 4 (.t 14) (.t 15)), none⟩, 3, false, []⟩, ⟨⟨(some 17), (.fa 0 (.t 16)), none⟩, 4, false, []⟩, ⟨⟨(some 18), (.ld false 1 (.t 17)), none⟩, 5, false, []⟩, ⟨⟨(some 19), (.isl 1 (.t 13) (.t 18)), none⟩, 6, false, []⟩, ⟨⟨(some 20), (.ld false 1 (.t 19)), none⟩, 7, false, []⟩, ⟨⟨(some 21), (.mov (.t 1)), none⟩, 8, false, []⟩, ⟨⟨(some 22), (.mov (.t 9)), none⟩, 9, false, []⟩, ⟨⟨(some 23), (.isl 4 (.t 21) (.t 22)), none⟩, 10, false, []⟩, ⟨⟨(some 24), (.fa 2 (.t 23)), none⟩, 11, false, []⟩, ⟨⟨(some 25), (.ld false 1 (.t 24)), none⟩, 12, false, []⟩, ⟨⟨(some 26), (.isl 1 (.t 20) (.t 25)), none⟩, 13, false, []⟩, ⟨⟨(some 27), (.ld false 1 (.t 26)), none⟩, 14, false, []⟩, ⟨⟨(some 28), (.fa 0 (.t 4)), none⟩, 15, false, []⟩, ⟨⟨(some 29), (.fa 5 (.t 28)), none⟩, 16, false, []⟩, ⟨⟨(some 30), (.ld false 1 (.t 29)), none⟩, 17, false, []⟩, ⟨⟨(some 31), (.bin .add (.t 27) (.t 30)), none⟩, 18, false, []⟩, ⟨⟨(some 32), (.mov (.t 2)), none⟩, 19, false, []⟩, ⟨⟨(some 33), (.mov (.t 1)), none⟩, 20, false, []⟩, ⟨⟨(some 34), (.isl 4 (.t 33) (.c (.int .i64 0))), none⟩, 21, false, []⟩, ⟨⟨(some 35), (.fa 0 (.t 34)), none⟩, 22, false, []⟩, ⟨⟨(some 36), (.ld false 1 (.t 35)), none⟩, 23, false, []⟩, ⟨⟨(some 37), (.isl 1 (.t 32) (.t 36)), none⟩, 24, false, []⟩, ⟨⟨(some 38), (.ld false 1 (.t 37)), none⟩, 25, false, []⟩, ⟨⟨(some 39), (.mov (.t 1)), none⟩, 26, false, []⟩, ⟨⟨(some 40), (.isl 4 (.t 39) (.c (.int .i64 0))), none⟩, 27, false, []⟩, ⟨⟨(some 41), (.fa 1 (.t 40)), none⟩, 28, false, []⟩, ⟨⟨(some 42), (.ld false 1 (.t 41)), none⟩, 29, false, []⟩, ⟨⟨(some 43), (.isl 1 (.t 38) (.t 42)), none⟩, 30, false, []⟩, ⟨⟨(some 44), (.ld false 1 (.t 43)), none⟩, 31, false, []⟩, ⟨⟨(some 45), (.bin .sub (.t 31) (.t 44)), none⟩, 32, false, []⟩, ⟨⟨(some 46), (.fa 0 (.t 4)), none⟩, 33, false, []⟩, ⟨⟨(some 47), (.fa 4 (.t 46)), none⟩, 34, false, []⟩, ⟨⟨(some 48), (.ld false 1 (.t 47)), none⟩, 35, false, []⟩, ⟨⟨(some 49), (.bin .add (.t 45) (.t 48)), none⟩, 36, false, []⟩, ⟨⟨(some 8), (.mov (.t 49)), none⟩, 37, false, []⟩])
     .ret)))
def r32 : List AOp := [(.mov (.t 8))]
theorem ok32 : FnOk Tryd.prog 32 Tryd.f32.ntmps a32 r32 := ⟨Tryd.f32, Tryd.func32, by kernel_rfl, by kernel_rfl, by kernel_rfl, fun asv w => by simp⟩

/-- layover/layoverlaw02.ints -/
def a33 : ACode :=
  (.seq
   (.region [⟨(some 4), (.mov (.c (.bool false))), none⟩])
   (.seq
    (.seq
     (.region [⟨(some 6), (.mov (.t 0)), none⟩, ⟨(some 7), (.len (.t 6)), none⟩, ⟨(some 8), (.mov (.t 1)), none⟩, ⟨(some 9), (.len (.t 8)), none⟩, ⟨(some 10), (.bin .neq (.t 7) (.t 9)), none⟩])
     (.cond (.t 10)
      (.seq
       (.region [⟨(some 4), (.mov (.c (.bool false))), none⟩])
       .ret)
      .skip))
    (.seq
     (.seq
      (.region [⟨(some 5), (.mov (.c (.int .i64 0))), none⟩])
      (.block 0
       (.loop
        (.seq
         (.seq
          (.region [⟨(some 11), (.mov (.t 5)), none⟩, ⟨(some 12), (.mov (.t 0)), none⟩, ⟨(some 13), (.len (.t 12)), none⟩, ⟨(some 14), (.bin .lss (.t 11) (.t 13)), none⟩])
          (.cond (.t 14)
           .skip
           (.exit 0)))
         (.seq
          (.block 1
           (.seq
            (.draw 9 [⟨⟨(some 17), (.mov (.t 0)), none⟩, 0, false, []⟩, ⟨⟨(some 18), (.mov (.t 5)), none⟩, 1, false, []⟩, ⟨⟨(some 19), (.isl 1 (.t 17) (.t 18)), none⟩, 2, false, []⟩, ⟨⟨(some 20), (.ld false 1 (.t 19)), none⟩, 3, false, []⟩, ⟨⟨(some 21), (.mov (.t 1)), none⟩, 4, false, []⟩, ⟨⟨(some 22), (.mov (.t 5)), none⟩, 5, false, []⟩, ⟨⟨(some 23), (.isl 1 (.t 21) (.t 22)), none⟩, 6, false, []⟩, ⟨⟨(some 24), (.ld false 1 (.t 23)), none⟩, 7, false, []⟩, ⟨⟨(some 25), (.bin .neq (.t 20) (.t 24)), none⟩, 8, false, []⟩])
            (.cond (.t 25)
             (.seq
              (.region [⟨(some 4), (.mov (.c (.bool false))), none⟩])
              .ret)
             .skip)))
          (.region [⟨(some 15), (.mov (.t 5)), none⟩, ⟨(some 16), (.bin .add (.t 15) (.c (.int .i64 1))), none⟩, ⟨(some 5), (.mov (.t 16)), none⟩]))))))
     (.seq
      (.region [⟨(some 4), (.mov (.c (.bool true))), none⟩])
      .ret))))
def r33 : List AOp := [(.mov (.t 4))]
theorem ok33 : FnOk Tryd.prog 33 Tryd.f33.ntmps a33 r33 := ⟨Tryd.f33, Tryd.func33, by kernel_rfl, by kernel_rfl, by kernel_rfl, fun asv w => by simp⟩

/-- layover/layoverref02.Breaks -/
def a34 : ACode :=
  (.seq
   (.region [⟨(some 6), (.mov (.c (.slice none 0 0))), none⟩])
   (.seq
    (.region [⟨(some 7), (.mov (.c (.slice none 0 0))), none⟩])
    (.seq
     (.seq
      (.region [⟨(some 8), (.mov (.c (.int .i64 1))), none⟩])
      (.block 0
       (.loop
        (.seq
         (.seq
          (.region [⟨(some 9), (.mov (.t 8)), none⟩, ⟨(some 10), (.mov (.t 0)), none⟩, ⟨(some 11), (.len (.t 10)), none⟩, ⟨(some 12), (.bin .lss (.t 9) (.t 11)), none⟩])
          (.cond (.t 12)
           .skip
           (.exit 0)))
         (.seq
          (.block 1
           (.draw 37 [⟨⟨(some 15), (.mov (.t 7)), none⟩, 0, false, []⟩, ⟨⟨(some 16), (.mov (.t 1)), none⟩, 1, false, []⟩, ⟨⟨(some 17), (.mov (.t 0)), none⟩, 2, false, []⟩, ⟨⟨(some 18), (.mov (.t 8)), none⟩, 3, false, []⟩, ⟨⟨(some 19), (.isl 4 (.t 17) (.t 18)), none⟩, 4, false, []⟩, ⟨⟨(some 20), (.fa 0 (.t 19)), none⟩, 5, false, []⟩, ⟨⟨(some 21), (.ld false 1 (.t 20)), none⟩, 6, false, []⟩, ⟨⟨(some 22), (.isl 1 (.t 16) (.t 21)), none⟩, 7, false, []⟩, ⟨⟨(some 23), (.ld false 1 (.t 22)), none⟩, 8, false, []⟩, ⟨⟨(some 24), (.mov (.t 0)), none⟩, 9, false, []⟩, ⟨⟨(some 25), (.mov (.t 8)), none⟩, 10, false, []⟩, ⟨⟨(some 26), (.isl 4 (.t 24) (.t 25)), none⟩, 11, false, []⟩, ⟨⟨(some 27), (.fa 1 (.t 26)), none⟩, 12, false, []⟩, ⟨⟨(some 28), (.ld false 1 (.t 27)), none⟩, 13, false, []⟩, ⟨⟨(some 29), (.isl 1 (.t 23) (.t 28)), none⟩, 14, false, []⟩, ⟨⟨(some 30), (.ld false 1 (.t 29)), none⟩, 15, false, []⟩, ⟨⟨(some 31), (.mov (.t 2)), none⟩, 16, false, []⟩, ⟨⟨(some 32), (.mov (.t 0)), none⟩, 17, false, []⟩, ⟨⟨(some 33), (.mov (.t 8)), none⟩, 18, false, []⟩, ⟨⟨(some 34), (.bin .sub (.t 33) (.c (.int .i64 1))), none⟩, 19, false, []⟩, ⟨⟨(some 35), (.isl 4 (.t 32) (.t 34)), none⟩, 20, false, []⟩, ⟨⟨(some 36), (.fa 0 (.t 35)), none⟩, 21, false, []⟩, ⟨⟨(some 37), (.ld false 1 (.t 36)), none⟩, 22, false, []⟩, ⟨⟨(some 38), (.isl 1 (.t 31) (.t 37)), none⟩, 23, false, []⟩, ⟨⟨(some 39), (.ld false 1 (.t 38)), none⟩, 24, false, []⟩, ⟨⟨(some 40), (.mov (.t 0)), none⟩, 25, false, []⟩, ⟨⟨(some 41), (.mov (.t 8)), none⟩, 26, false, []⟩, ⟨⟨(some 42), (.bin .sub (.t 41) (.c (.int .i64 1))), none⟩, 27, false, []⟩, ⟨⟨(some 43), (.isl 4 (.t 40) (.t 42)), none⟩, 28, false, []⟩, ⟨⟨(some 44), (.fa 2 (.t 43)), none⟩, 29, false, []⟩, ⟨⟨(some 45), (.ld false 1 (.t 44)), none⟩, 30, false, []⟩, ⟨⟨(some 46), (.isl 1 (.t 39) (.t 45)), none⟩, 31, false, []⟩, ⟨⟨(some 47), (.ld false 1 (.t 46)), none⟩, 32, false, []⟩, ⟨⟨(some 48), (.bin .sub (.t 30) (.t 47)), none⟩, 33, false, []⟩, ⟨⟨(some 49), (.bsl 1 [(.int .i64 0)] [(0, 1, (.t 48))]), none⟩, 34, false, []⟩, ⟨⟨(some 50), (.app 1 8 (.t 15) (.t 49)), none⟩, 35, true, []⟩, ⟨⟨(some 7), (.mov (.t 50)), none⟩, 36, false, []⟩]))
          (.region [⟨(some 13), (.mov (.t 8)), none⟩, ⟨(some 14), (.bin .add (.t 13) (.c (.int .i64 1))), none⟩, ⟨(some 8), (.mov (.t 14)), none⟩]))))))
     (.seq
      (.region [⟨(some 51), (.mov (.t 7)), none⟩, ⟨(some 6), (.mov (.t 51)), none⟩])
      .ret))))
def r34 : List AOp := [(.mov (.t 6))]
theorem ok34 : FnOk Tryd.prog 34 Tryd.f34.ntmps a34 r34 := ⟨Tryd.f34, Tryd.func34, by kernel_rfl, by kernel_rfl, by kernel_rfl, fun asv w => by simp⟩

/-- layover/layoverref02.Obeys -/
def a35 : ACode :=
  (.seq
   (.region [⟨(some 4), (.box (.t 0)), none⟩, ⟨(some 8), (.mov (.c (.bool false))), none⟩])
   (.seq
    (.seq
     (.draw 27 [⟨⟨(some 13), (.mov (.t 1)), none⟩, 0, false, []⟩, ⟨⟨(some 14), (.len (.t 13)), none⟩, 1, false, []⟩, ⟨⟨(some 15), (.fa 0 (.t 4)), none⟩, 2, false, []⟩, ⟨⟨(some 16), (.fa 7 (.t 15)), none⟩, 3, false, []⟩, ⟨⟨(some 17), (.ld false 1 (.t 16)), none⟩, 4, false, []⟩, ⟨⟨(some 18), (.bin .gtr (.t 14) (.t 17)), none⟩, 5, false, []⟩, ⟨⟨(some 19), (.mov (.t 18)), none⟩, 6, false, []⟩, ⟨⟨(some 20), (.mov (.t 1)), (some (19, false))⟩, 7, false, []⟩, ⟨⟨(some 21), (.mov (.t 2)), (some (19, false))⟩, 8, false, []⟩, ⟨⟨(some 22), (.mov (.t 3)), (some (19, false))⟩, 9, false, []⟩, ⟨⟨(some 24), (.fa 0 (.t 4)), (some (19, false))⟩, 11, false, []⟩, ⟨⟨(some 25), (.fa 1 (.t 24)), (some (19, false))⟩, 12, false, []⟩, ⟨⟨(some 26), (.ld false 1 (.t 25)), (some (19, false))⟩, 13, false, []⟩, ⟨⟨(some 23), (.call (.c (.func (.func 31) #[] #[])) [(.t 20), (.t 21), (.t 22)]), (some (19, false))⟩, 10, true, [13]⟩, ⟨⟨(some 27), (.bin .gtr (.t 23) (.t 26)), (some (19, false))⟩, 14, false, []⟩, ⟨⟨(some 28), (.pick (.t 19) (.c (.bool true)) (.t 27)), none⟩, 15, false, []⟩, ⟨⟨(some 29), (.mov (.t 28)), none⟩, 16, false, []⟩, ⟨⟨(some 30), (.ld true 10 (.t 4)), (some (29, false))⟩, 17, false, []⟩, ⟨⟨(some 31), (.mov (.t 1)), (some (29, false))⟩, 18, false, []⟩, ⟨⟨(some 32), (.mov (.t 2)), (some (29, false))⟩, 19, false, []⟩, ⟨⟨(some 33), (.mov (.t 3)), (some (29, false))⟩, 20, false, []⟩, ⟨⟨(some 35), (.fa 0 (.t 4)), (some (29, false))⟩, 22, false, []⟩, ⟨⟨(some 36), (.fa 2 (.t 35)), (some (29, false))⟩, 23, false, []⟩, ⟨⟨(some 37), (.ld false 1 (.t 36)), (some (29, false))⟩, 24, false, []⟩, ⟨⟨(some 34), (.call (.c (.func (.func 32) #[] #[])) [(.t 30), (.t 31), (.t 32), (.t 33)]), (some (29, false))⟩, 21, true, [24]⟩, ⟨⟨(some 38), (.bin .gtr (.t 34) (.t 37)), (some (29, false))⟩, 25, false, []⟩, ⟨⟨(some 39), (.pick (.t 29) (.c (.bool true)) (.t 38)), none⟩, 26, false, []⟩])
     (.cond (.t 39)
      (.seq
       (.region [⟨(some 8), (.mov (.c (.bool false))), none⟩])
       .ret)
      .skip))
    (.seq
     (.region [⟨(some 40), (.mov (.t 1)), none⟩, ⟨(some 41), (.mov (.t 2)), none⟩, ⟨(some 42), (.mov (.t 3)), none⟩, ⟨(some 43), (.call (.c (.func (.func 34) #[] #[])) [(.t 40), (.t 41), (.t 42)]), none⟩, ⟨(some 9), (.mov (.t 43)), none⟩])
     (.seq
      (.seq
       (.region [⟨(some 10), (.mov (.c (.int .i64 0))), none⟩])
       (.block 0
        (.loop
         (.seq
          (.seq
           (.region [⟨(some 44), (.mov (.t 10)), none⟩, ⟨(some 45), (.mov (.t 1)), none⟩, ⟨(some 46), (.len (.t 45)), none⟩, ⟨(some 47), (.bin .lss (.t 44) (.t 46)), none⟩])
           (.cond (.t 47)
            .skip
            (.exit 0)))
          (.seq
           (.block 1
            (.seq
             (.seq
              (.draw 35 [⟨⟨(some 50), (.mov (.t 3)), none⟩, 0, false, []⟩, ⟨⟨(some 51), (.mov (.t 1)), none⟩, 1, false, []⟩, ⟨⟨(some 52), (.mov (.t 10)), none⟩, 2, false, []⟩, ⟨⟨(some 53), (.isl 4 (.t 51) (.t 52)), none⟩, 3, false, []⟩, ⟨⟨(some 54), (.fa 0 (.t 53)), none⟩, 4, false, []⟩, ⟨⟨(some 55), (.ld false 1 (.t 54)), none⟩, 5, false, []⟩, ⟨⟨(some 56), (.isl 1 (.t 50) (.t 55)), none⟩, 6, false, []⟩, ⟨⟨(some 57), (.ld false 1 (.t 56)), none⟩, 7, false, []⟩, ⟨⟨(some 58), (.mov (.t 1)), none⟩, 8, false, []⟩, ⟨⟨(some 59), (.mov (.t 10)), none⟩, 9, false, []⟩, ⟨⟨(some 60), (.isl 4 (.t 58) (.t 59)), none⟩, 10, false, []⟩, ⟨⟨(some 61), (.fa 2 (.t 60)), none⟩, 11, false, []⟩, ⟨⟨(some 62), (.ld false 1 (.t 61)), none⟩, 12, false, []⟩, ⟨⟨(some 63), (.isl 1 (.t 57) (.t 62)), none⟩, 13, false, []⟩, ⟨⟨(some 64), (.ld false 1 (.t 63)), none⟩, 14, false, []⟩, ⟨⟨(some 65), (.mov (.t 2)), none⟩, 15, false, []⟩, ⟨⟨(some 66), (.mov (.t 1)), none⟩, 16, false, []⟩, ⟨⟨(some 67), (.mov (.t 10)), none⟩, 17, false, []⟩, ⟨⟨(some 68), (.isl 4 (.t 66) (.t 67)), none⟩, 18, false, []⟩, ⟨⟨(some 69), (.fa 0 (.t 68)), none⟩, 19, false, []⟩, ⟨⟨(some 70), (.ld false 1 (.t 69)), none⟩, 20, false, []⟩, ⟨⟨(some 71), (.isl 1 (.t 65) (.t 70)), none⟩, 21, false, []⟩, ⟨⟨(some 72), (.ld false 1 (.t 71)), none⟩, 22, false, []⟩, ⟨⟨(some 73), (.mov (.t 1)), none⟩, 23, false, []⟩, ⟨⟨(some 74), (.mov (.t 10)), none⟩, 24, false, []⟩, ⟨⟨(some 75), (.isl 4 (.t 73) (.t 74)), none⟩, 25, false, []⟩, ⟨⟨(some 76), (.fa 1 (.t 75)), none⟩, 26, false, []⟩, ⟨⟨(some 77), (.ld false 1 (.t 76)), none⟩, 27, false, []⟩, ⟨⟨(some 78), (.isl 1 (.t 72) (.t 77)), none⟩, 28, false, []⟩, ⟨⟨(some 79), (.ld false 1 (.t 78)), none⟩, 29, false, []⟩, ⟨⟨(some 80), (.bin .sub (.t 64) (.t 79)), none⟩, 30, false, []⟩, ⟨⟨(some 81), (.fa 0 (.t 4)), none⟩, 31, false, []⟩, ⟨⟨(some 82), (.fa 0 (.t 81)), none⟩, 32, false, []⟩, ⟨⟨(some 83), (.ld false 1 (.t 82)), none⟩, 33, false, []⟩, ⟨⟨(some 84), (.bin .gtr (.t 80) (.t 83)), none⟩, 34, false, []⟩])
              (.cond (.t 84)
               (.seq
                (.region [⟨(some 8), (.mov (.c (.bool false))), none⟩])
                .ret)
               .skip))
             (.seq
              (.region [⟨(some 85), (.mov (.t 10)), none⟩, ⟨(some 86), (.bin .gtr (.t 85) (.c (.int .i64 0))), none⟩])
              (.cond (.t 86)
               (.seq
                (.draw 38 [⟨⟨(some 87), (.fa 8 (.t 4)), none⟩, 0, false, []⟩, ⟨⟨(some 88), (.ld false 1 (.t 87)), none⟩, 1, false, []⟩, ⟨⟨(some 89), (.mov (.t 1)), none⟩, 2, false, []⟩, ⟨⟨(some 90), (.mov (.t 10)), none⟩, 3, false, []⟩, ⟨⟨(some 91), (.bin .sub (.t 90) (.c (.int .i64 1))), none⟩, 4, false, []⟩, ⟨⟨(some 92), (.isl 4 (.t 89) (.t 91)), none⟩, 5, false, []⟩, ⟨⟨(some 93), (.fa 0 (.t 92)), none⟩, 6, false, []⟩, ⟨⟨(some 94), (.ld false 1 (.t 93)), none⟩, 7, false, []⟩, ⟨⟨(some 95), (.isl 1 (.t 88) (.t 94)), none⟩, 8, false, []⟩, ⟨⟨(some 96), (.ld false 1 (.t 95)), none⟩, 9, false, []⟩, ⟨⟨(some 97), (.mov (.t 1)), none⟩, 10, false, []⟩, ⟨⟨(some 98), (.mov (.t 10)), none⟩, 11, false, []⟩, ⟨⟨(some 99), (.bin .sub (.t 98) (.c (.int .i64 1))), none⟩, 12, false, []⟩, ⟨⟨(some 100), (.isl 4 (.t 97) (.t 99)), none⟩, 13, false, []⟩, ⟨⟨(some 101), (.fa 2 (.t 100)), none⟩, 14, false, []⟩, ⟨⟨(some 102), (.ld false 1 (.t 101)), none⟩, 15, false, []⟩, ⟨⟨(some 103), (.isl 3 (.t 96) (.t 102)), none⟩, 16, false, []⟩, ⟨⟨(some 104), (.fa 0 (.t 103)), none⟩, 17, false, []⟩, ⟨⟨(some 105), (.ld false 1 (.t 104)), none⟩, 18, false, []⟩, ⟨⟨(some 106), (.fa 8 (.t 4)), none⟩, 19, false, []⟩, ⟨⟨(some 107), (.ld false 1 (.t 106)), none⟩, 20, false, []⟩, ⟨⟨(some 108), (.mov (.t 1)), none⟩, 21, false, []⟩, ⟨⟨(some 109), (.mov (.t 10)), none⟩, 22, false, []⟩, ⟨⟨(some 110), (.isl 4 (.t 108) (.t 109)), none⟩, 23, false, []⟩, ⟨⟨(some 111), (.fa 0 (.t 110)), none⟩, 24, false, []⟩, ⟨⟨(some 112), (.ld false 1 (.t 111)), none⟩, 25, false, []⟩, ⟨⟨(some 113), (.isl 1 (.t 107) (.t 112)), none⟩, 26, false, []⟩, ⟨⟨(some 114), (.ld false 1 (.t 113)), none⟩, 27, false, []⟩, ⟨⟨(some 115), (.mov (.t 1)), none⟩, 28, false, []⟩, ⟨⟨(some 116), (.mov (.t 10)), none⟩, 29, false, []⟩, ⟨⟨(some 117), (.isl 4 (.t 115) (.t 116)), none⟩, 30, false, []⟩, ⟨⟨(some 118), (.fa 1 (.t 117)), none⟩, 31, false, []⟩, ⟨⟨(some 119), (.ld false 1 (.t 118)), none⟩, 32, false, []⟩, ⟨⟨(some 120), (.isl 3 (.t 114) (.t 119)), none⟩, 33, false, []⟩, ⟨⟨(some 121), (.fa 0 (.t 120)), none⟩, 34, false, []⟩, ⟨⟨(some 122), (.ld false 1 (.t 121)), none⟩, 35, false, []⟩, ⟨⟨(some 11), (.mov (.t 105)), none⟩, 36, false, []⟩, ⟨⟨(some 12), (.mov (.t 122)), none⟩, 37, false, []⟩])
                (.seq
                 (.draw 18 [⟨⟨(some 123), (.mov (.t 9)), none⟩, 0, false, []⟩, ⟨⟨(some 124), (.mov (.t 10)), none⟩, 1, false, []⟩, ⟨⟨(some 125), (.bin .sub (.t 124) (.c (.int .i64 1))), none⟩, 2, false, []⟩, ⟨⟨(some 126), (.isl 1 (.t 123) (.t 125)), none⟩, 3, false, []⟩, ⟨⟨(some 127), (.ld false 1 (.t 126)), none⟩, 4, false, []⟩, ⟨⟨(some 128), (.fa 0 (.t 4)), none⟩, 5, false, []⟩, ⟨⟨(some 129), (.fa 3 (.t 128)), none⟩, 6, false, []⟩, ⟨⟨(some 130), (.ld false 1 (.t 129)), none⟩, 7, false, []⟩, ⟨⟨(some 131), (.fa 9 (.t 4)), none⟩, 8, false, []⟩, ⟨⟨(some 132), (.ld false 1 (.t 131)), none⟩, 9, false, []⟩, ⟨⟨(some 133), (.mov (.t 11)), none⟩, 10, false, []⟩, ⟨⟨(some 134), (.isl 1 (.t 132) (.t 133)), none⟩, 11, false, []⟩, ⟨⟨(some 135), (.ld false 1 (.t 134)), none⟩, 12, false, []⟩, ⟨⟨(some 136), (.mov (.t 12)), none⟩, 13, false, []⟩, ⟨⟨(some 137), (.isl 1 (.t 135) (.t 136)), none⟩, 14, false, []⟩, ⟨⟨(some 138), (.ld false 1 (.t 137)), none⟩, 15, false, []⟩, ⟨⟨(some 139), (.bin .add (.t 130) (.t 138)), none⟩, 16, false, []⟩, ⟨⟨(some 140), (.bin .lss (.t 127) (.t 139)), none⟩, 17, false, []⟩])
                 (.cond (.t 140)
                  (.seq
                   (.region [⟨(some 8), (.mov (.c (.bool false))), none⟩])
                   .ret)
                  .skip)))
               .skip))))
           (.region [⟨(some 48), (.mov (.t 10)), none⟩, ⟨(some 49), (.bin .add (.t 48) (.c (.int .i64 1))), none⟩, ⟨(some 10), (.mov (.t 49)), none⟩]))))))
      (.seq
       (.region [⟨(some 8), (.mov (.c (.bool true))), none⟩])
       .ret)))))
def r35 : List AOp := [(.mov (.t 8))]
theorem ok35 : FnOk Tryd.prog 35 Tryd.f35.ntmps a35 r35 := ⟨Tryd.f35, Tryd.func35, by kernel_rfl, by kernel_rfl, by kernel_rfl, fun asv w => by simp⟩

/-- layover/layoverref02.Fault -/
def a36 : ACode :=
  (.seq
   (.region [⟨(some 1), (.box (.t 0)), none⟩, ⟨(some 2), (.mov (.c (.int .i64 0))), none⟩])
   (.seq
    (.seq
     (.region [⟨(some 11), (.fa 8 (.t 1)), none⟩, ⟨(some 12), (.ld false 1 (.t 11)), none⟩, ⟨(some 13), (.len (.t 12)), none⟩, ⟨(some 14), (.bin .gtr (.t 13) (.c (.int .i64 6))), none⟩, ⟨(some 15), (.mov (.t 14)), none⟩, ⟨(some 16), (.fa 9 (.t 1)), (some (15, false))⟩, ⟨(some 17), (.ld false 1 (.t 16)), (some (15, false))⟩, ⟨(some 18), (.len (.t 17)), (some (15, false))⟩, ⟨(some 19), (.bin .gtr (.t 18) (.c (.int .i64 5))), (some (15, false))⟩, ⟨(some 20), (.pick (.t 15) (.c (.bool true)) (.t 19)), none⟩, ⟨(some 21), (.mov (.t 20)), none⟩, ⟨(some 22), (.ld true 10 (.t 1)), (some (21, false))⟩, ⟨(some 23), (.call (.c (.func (.func 37) #[] #[])) [(.t 22)]), (some (21, false))⟩, ⟨(some 24), (.bin .gtr (.t 23) (.c (.int .i64 10))), (some (21, false))⟩, ⟨(some 25), (.pick (.t 21) (.c (.bool true)) (.t 24)), none⟩])
     (.cond (.t 25)
      (.seq
       (.region [⟨(some 2), (.mov (.c (.int .i64 3))), none⟩])
       .ret)
      .skip))
    (.seq
     (.region [⟨(some 26), (.fa 0 (.t 1)), none⟩, ⟨(some 27), (.ld true 8 (.t 26)), none⟩, ⟨(some 3), (.new [(.int .i64 0), (.int .i64 0), (.int .i64 0), (.int .i64 0), (.int .i64 0), (.int .i64 0), (.int .i64 0), (.int .i64 0)]), none⟩, ⟨none, (.st 8 (.t 3) (.t 27)), none⟩])
     (.seq
      (.region [⟨(some 28), (.fa 0 (.t 3)), none⟩, ⟨(some 29), (.ld false 1 (.t 28)), none⟩, ⟨(some 30), (.fa 1 (.t 3)), none⟩, ⟨(some 31), (.ld false 1 (.t 30)), none⟩, ⟨(some 32), (.fa 2 (.t 3)), none⟩, ⟨(some 33), (.ld false 1 (.t 32)), none⟩, ⟨(some 34), (.fa 3 (.t 3)), none⟩, ⟨(some 35), (.ld false 1 (.t 34)), none⟩, ⟨(some 36), (.fa 4 (.t 3)), none⟩, ⟨(some 37), (.ld false 1 (.t 36)), none⟩, ⟨(some 38), (.fa 5 (.t 3)), none⟩, ⟨(some 39), (.ld false 1 (.t 38)), none⟩, ⟨(some 40), (.fa 6 (.t 3)), none⟩, ⟨(some 41), (.ld false 1 (.t 40)), none⟩, ⟨(some 42), (.bsl 7 [(.int .i64 0), (.int .i64 0), (.int .i64 0), (.int .i64 0), (.int .i64 0), (.int .i64 0), (.int .i64 0)] [(0, 1, (.t 29)), (1, 1, (.t 31)), (2, 1, (.t 33)), (3, 1, (.t 35)), (4, 1, (.t 37)), (5, 1, (.t 39)), (6, 1, (.t 41))]), none⟩, ⟨(some 4), (.mov (.t 42)), none⟩])
      (.seq
       (.seq
        (.region [⟨(some 5), (.mov (.c (.int .i64 0))), none⟩])
        (.block 0
         (.loop
          (.seq
           (.seq
            (.region [⟨(some 43), (.mov (.t 5)), none⟩, ⟨(some 44), (.mov (.t 4)), none⟩, ⟨(some 45), (.len (.t 44)), none⟩, ⟨(some 46), (.bin .lss (.t 43) (.t 45)), none⟩])
            (.cond (.t 46)
             .skip
             (.exit 0)))
           (.seq
            (.block 1
             (.seq
              (.region [⟨(some 49), (.mov (.t 4)), none⟩, ⟨(some 50), (.mov (.t 5)), none⟩, ⟨(some 51), (.isl 1 (.t 49) (.t 50)), none⟩, ⟨(some 52), (.ld false 1 (.t 51)), none⟩, ⟨(some 53), (.call (.c (.func (.func 63) #[] #[])) [(.t 52), (.c (.int .i64 0)), (.c (.int .i64 3000))]), none⟩, ⟨(some 54), (.not (.t 53)), none⟩])
              (.cond (.t 54)
               (.seq
                (.region [⟨(some 2), (.mov (.c (.int .i64 1))), none⟩])
                .ret)
               .skip)))
            (.region [⟨(some 47), (.mov (.t 5)), none⟩, ⟨(some 48), (.bin .add (.t 47) (.c (.int .i64 1))), none⟩, ⟨(some 5), (.mov (.t 48)), none⟩]))))))
       (.seq
        (.seq
         (.region [⟨(some 55), (.fa 3 (.t 3)), none⟩, ⟨(some 56), (.ld false 1 (.t 55)), none⟩, ⟨(some 57), (.bin .eql (.t 56) (.c (.int .i64 0))), none⟩, ⟨(some 58), (.mov (.t 57)), none⟩, ⟨(some 59), (.fa 7 (.t 3)), (some (58, false))⟩, ⟨(some 60), (.ld false 1 (.t 59)), (some (58, false))⟩, ⟨(some 61), (.call (.c (.func (.func 63) #[] #[])) [(.t 60), (.c (.int .i64 1)), (.c (.int .i64 3))]), (some (58, false))⟩, ⟨(some 62), (.not (.t 61)), (some (58, false))⟩, ⟨(some 63), (.pick (.t 58) (.c (.bool true)) (.t 62)), none⟩, ⟨(some 64), (.mov (.t 63)), none⟩, ⟨(some 65), (.fa 9 (.t 1)), (some (64, false))⟩, ⟨(some 66), (.ld false 1 (.t 65)), (some (64, false))⟩, ⟨(some 67), (.len (.t 66)), (some (64, false))⟩, ⟨(some 68), (.bin .eql (.t 67) (.c (.int .i64 0))), (some (64, false))⟩, ⟨(some 69), (.pick (.t 64) (.c (.bool true)) (.t 68)), none⟩])
         (.cond (.t 69)
          (.seq
           (.region [⟨(some 2), (.mov (.c (.int .i64 1))), none⟩])
           .ret)
          .skip))
        (.seq
         (.seq
          (.region [⟨(some 6), (.mov (.c (.int .i64 0))), none⟩])
          (.block 2
           (.loop
            (.seq
             (.seq
              (.region [⟨(some 70), (.mov (.t 6)), none⟩, ⟨(some 71), (.fa 9 (.t 1)), none⟩, ⟨(some 72), (.ld false 1 (.t 71)), none⟩, ⟨(some 73), (.len (.t 72)), none⟩, ⟨(some 74), (.bin .lss (.t 70) (.t 73)), none⟩])
              (.cond (.t 74)
               .skip
               (.exit 2)))
             (.seq
              (.block 3
               (.seq
                (.seq
                 (.draw 21 [⟨⟨(some 77), (.fa 9 (.t 1)), none⟩, 0, false, []⟩, ⟨⟨(some 78), (.ld false 1 (.t 77)), none⟩, 1, false, []⟩, ⟨⟨(some 79), (.mov (.t 6)), none⟩, 2, false, []⟩, ⟨⟨(some 80), (.isl 1 (.t 78) (.t 79)), none⟩, 3, false, []⟩, ⟨⟨(some 81), (.ld false 1 (.t 80)), none⟩, 4, false, []⟩, ⟨⟨(some 82), (.len (.t 81)), none⟩, 5, false, []⟩, ⟨⟨(some 83), (.fa 9 (.t 1)), none⟩, 6, false, []⟩, ⟨⟨(some 84), (.ld false 1 (.t 83)), none⟩, 7, false, []⟩, ⟨⟨(some 85), (.len (.t 84)), none⟩, 8, false, []⟩, ⟨⟨(some 86), (.bin .neq (.t 82) (.t 85)), none⟩, 9, false, []⟩, ⟨⟨(some 87), (.mov (.t 86)), none⟩, 10, false, []⟩, ⟨⟨(some 88), (.fa 9 (.t 1)), (some (87, false))⟩, 11, false, []⟩, ⟨⟨(some 89), (.ld false 1 (.t 88)), (some (87, false))⟩, 12, false, []⟩, ⟨⟨(some 90), (.mov (.t 6)), (some (87, false))⟩, 13, false, []⟩, ⟨⟨(some 91), (.isl 1 (.t 89) (.t 90)), (some (87, false))⟩, 14, false, []⟩, ⟨⟨(some 92), (.ld false 1 (.t 91)), (some (87, false))⟩, 15, false, []⟩, ⟨⟨(some 93), (.mov (.t 6)), (some (87, false))⟩, 16, false, []⟩, ⟨⟨(some 94), (.isl 1 (.t 92) (.t 93)), (some (87, false))⟩, 17, false, []⟩, ⟨⟨(some 95), (.ld false 1 (.t 94)), (some (87, false))⟩, 18, false, []⟩, ⟨⟨(some 96), (.bin .neq (.t 95) (.c (.int .i64 0))), (some (87, false))⟩, 19, false, []⟩, ⟨⟨(some 97), (.pick (.t 87) (.c (.bool true)) (.t 96)), none⟩, 20, false, []⟩])
                 (.cond (.t 97)
                  (.seq
                   (.region [⟨(some 2), (.mov (.c (.int .i64 1))), none⟩])
                   .ret)
                  .skip))
                (.seq
                 (.region [⟨(some 7), (.mov (.c (.int .i64 0))), none⟩])
                 (.block 4
                  (.loop
                   (.seq
                    (.seq
                     (.region [⟨(some 98), (.mov (.t 7)), none⟩, ⟨(some 99), (.fa 9 (.t 1)), none⟩, ⟨(some 100), (.ld false 1 (.t 99)), none⟩, ⟨(some 101), (.len (.t 100)), none⟩, ⟨(some 102), (.bin .lss (.t 98) (.t 101)), none⟩])
                     (.cond (.t 102)
                      .skip
                      (.exit 4)))
                    (.seq
                     (.block 5
                      (.seq
                       (.region [⟨(some 105), (.fa 9 (.t 1)), none⟩, ⟨(some 106), (.ld false 1 (.t 105)), none⟩, ⟨(some 107), (.mov (.t 6)), none⟩, ⟨(some 108), (.isl 1 (.t 106) (.t 107)), none⟩, ⟨(some 109), (.ld false 1 (.t 108)), none⟩, ⟨(some 110), (.mov (.t 7)), none⟩, ⟨(some 111), (.isl 1 (.t 109) (.t 110)), none⟩, ⟨(some 112), (.ld false 1 (.t 111)), none⟩, ⟨(some 113), (.call (.c (.func (.func 63) #[] #[])) [(.t 112), (.c (.int .i64 0)), (.c (.int .i64 3000))]), none⟩, ⟨(some 114), (.not (.t 113)), none⟩])
                       (.cond (.t 114)
                        (.seq
                         (.region [⟨(some 2), (.mov (.c (.int .i64 1))), none⟩])
                         .ret)
                        .skip)))
                     (.region [⟨(some 103), (.mov (.t 7)), none⟩, ⟨(some 104), (.bin .add (.t 103) (.c (.int .i64 1))), none⟩, ⟨(some 7), (.mov (.t 104)), none⟩]))))))))
              (.region [⟨(some 75), (.mov (.t 6)), none⟩, ⟨(some 76), (.bin .add (.t 75) (.c (.int .i64 1))), none⟩, ⟨(some 6), (.mov (.t 76)), none⟩]))))))
         (.seq
          (.seq
           (.region [⟨(some 8), (.mov (.c (.int .i64 0))), none⟩])
           (.block 6
            (.loop
             (.seq
              (.seq
               (.region [⟨(some 115), (.mov (.t 8)), none⟩, ⟨(some 116), (.fa 8 (.t 1)), none⟩, ⟨(some 117), (.ld false 1 (.t 116)), none⟩, ⟨(some 118), (.len (.t 117)), none⟩, ⟨(some 119), (.bin .lss (.t 115) (.t 118)), none⟩])
               (.cond (.t 119)
                .skip
                (.exit 6)))
              (.seq
               (.block 7
                (.seq
                 (.region [⟨(some 122), (.fa 8 (.t 1)), none⟩, ⟨(some 123), (.ld false 1 (.t 122)), none⟩, ⟨(some 124), (.mov (.t 8)), none⟩, ⟨(some 125), (.isl 1 (.t 123) (.t 124)), none⟩, ⟨(some 126), (.ld false 1 (.t 125)), none⟩, ⟨(some 9), (.mov (.t 126)), none⟩])
                 (.seq
                  (.seq
                   (.region [⟨(some 127), (.mov (.t 9)), none⟩, ⟨(some 128), (.len (.t 127)), none⟩, ⟨(some 129), (.bin .lss (.t 128) (.c (.int .i64 2))), none⟩])
                   (.cond (.t 129)
                    (.seq
                     (.region [⟨(some 2), (.mov (.c (.int .i64 1))), none⟩])
                     .ret)
                    .skip))
                  (.seq
                   (.region [⟨(some 10), (.mov (.c (.int .i64 0))), none⟩])
                   (.block 8
                    (.loop
                     (.seq
                      (.seq
                       (.region [⟨(some 130), (.mov (.t 10)), none⟩, ⟨(some 131), (.mov (.t 9)), none⟩, ⟨(some 132), (.len (.t 131)), none⟩, ⟨(some 133), (.bin .lss (.t 130) (.t 132)), none⟩])
                       (.cond (.t 133)
                        .skip
                        (.exit 8)))
                      (.seq
                       (.block 9
                        (.seq
                         (.seq
                          (.draw 36 [⟨⟨(some 136), (.mov (.t 9)), none⟩, 0, false, []⟩, ⟨⟨(some 137), (.mov (.t 10)), none⟩, 1, false, []⟩, ⟨⟨(some 138), (.isl 3 (.t 136) (.t 137)), none⟩, 2, false, []⟩, ⟨⟨(some 139), (.fa 0 (.t 138)), none⟩, 3, false, []⟩, ⟨⟨(some 140), (.ld false 1 (.t 139)), none⟩, 4, false, []⟩, ⟨⟨(some 141), (.fa 9 (.t 1)), none⟩, 5, false, []⟩, ⟨⟨(some 142), (.ld false 1 (.t 141)), none⟩, 6, false, []⟩, ⟨⟨(some 143), (.len (.t 142)), none⟩, 7, false, []⟩, ⟨⟨(some 144), (.bin .sub (.t 143) (.c (.int .i64 1))), none⟩, 8, false, []⟩, ⟨⟨(some 145), (.call (.c (.func (.func 63) #[] #[])) [(.t 140), (.c (.int .i64 0)), (.t 144)]), none⟩, 9, true, []⟩, ⟨⟨(some 146), (.not (.t 145)), none⟩, 10, false, []⟩, ⟨⟨(some 147), (.mov (.t 146)), none⟩, 11, false, []⟩, ⟨⟨(some 148), (.mov (.t 9)), (some (147, false))⟩, 12, false, []⟩, ⟨⟨(some 149), (.mov (.t 10)), (some (147, false))⟩, 13, false, []⟩, ⟨⟨(some 150), (.isl 3 (.t 148) (.t 149)), (some (147, false))⟩, 14, false, []⟩, ⟨⟨(some 151), (.fa 1 (.t 150)), (some (147, false))⟩, 15, false, []⟩, ⟨⟨(some 152), (.fa 0 (.t 151)), (some (147, false))⟩, 16, false, []⟩, ⟨⟨(some 153), (.ld false 1 (.t 152)), (some (147, false))⟩, 17, false, []⟩, ⟨⟨(some 154), (.mov (.t 9)), (some (147, false))⟩, 18, false, []⟩, ⟨⟨(some 155), (.mov (.t 10)), (some (147, false))⟩, 19, false, []⟩, ⟨⟨(some 156), (.isl 3 (.t 154) (.t 155)), (some (147, false))⟩, 20, false, []⟩, ⟨⟨(some 157), (.fa 1 (.t 156)), (some (147, false))⟩, 21, false, []⟩, ⟨⟨(some 158), (.fa 1 (.t 157)), (some (147, false))⟩, 22, false, []⟩, ⟨⟨(some 159), (.ld false 1 (.t 158)), (some (147, false))⟩, 23, false, []⟩, ⟨⟨(some 160), (.call (.c (.func (.func 63) #[] #[])) [(.t 153), (.c (.int .i64 0)), (.t 159)]), (some (147, false))⟩, 24, true, []⟩, ⟨⟨(some 161), (.not (.t 160)), (some (147, false))⟩, 25, false, []⟩, ⟨⟨(some 162), (.pick (.t 147) (.c (.bool true)) (.t 161)), none⟩, 26, false, []⟩, ⟨⟨(some 163), (.mov (.t 162)), none⟩, 27, false, []⟩, ⟨⟨(some 164), (.mov (.t 9)), (some (163, false))⟩, 28, false, []⟩, ⟨⟨(some 165), (.mov (.t 10)), (some (163, false))⟩, 29, false, []⟩, ⟨⟨(some 166), (.isl 3 (.t 164) (.t 165)), (some (163, false))⟩, 30, false, []⟩, ⟨⟨(some 167), (.fa 1 (.t 166)), (some (163, false))⟩, 31, false, []⟩, ⟨⟨(some 168), (.fa 1 (.t 167)), (some (163, false))⟩, 32, false, []⟩, ⟨⟨(some 169), (.ld false 1 (.t 168)), (some (163, false))⟩, 33, false, []⟩, ⟨⟨(some 170), (.bin .gtr (.t 169) (.c (.int .i64 3000))), (some (163, false))⟩, 34, false, []⟩, ⟨⟨(some 171), (.pick (.t 163) (.c (.bool true)) (.t 170)), none⟩, 35, false, []⟩])
                          (.cond (.t 171)
                           (.seq
                            (.region [⟨(some 2), (.mov (.c (.int .i64 1))), none⟩])
                            .ret)
                           .skip))
                         (.seq
                          (.draw 34 [⟨⟨(some 172), (.mov (.t 10)), none⟩, 0, false, []⟩, ⟨⟨(some 173), (.bin .gtr (.t 172) (.c (.int .i64 0))), none⟩, 1, false, []⟩, ⟨⟨(some 174), (.mov (.t 173)), none⟩, 2, false, []⟩, ⟨⟨(some 175), (.mov (.t 9)), (some (174, true))⟩, 3, false, []⟩, ⟨⟨(some 176), (.mov (.t 10)), (some (174, true))⟩, 4, false, []⟩, ⟨⟨(some 177), (.isl 3 (.t 175) (.t 176)), (some (174, true))⟩, 5, false, []⟩, ⟨⟨(some 178), (.fa 1 (.t 177)), (some (174, true))⟩, 6, false, []⟩, ⟨⟨(some 179), (.fa 0 (.t 178)), (some (174, true))⟩, 7, false, []⟩, ⟨⟨(some 180), (.ld false 1 (.t 179)), (some (174, true))⟩, 8, false, []⟩, ⟨⟨(some 181), (.mov (.t 9)), (some (174, true))⟩, 9, false, []⟩, ⟨⟨(some 182), (.mov (.t 10)), (some (174, true))⟩, 10, false, []⟩, ⟨⟨(some 183), (.bin .sub (.t 182) (.c (.int .i64 1))), (some (174, true))⟩, 11, false, []⟩, ⟨⟨(some 184), (.isl 3 (.t 181) (.t 183)), (some (174, true))⟩, 12, false, []⟩, ⟨⟨(some 185), (.fa 1 (.t 184)), (some (174, true))⟩, 13, false, []⟩, ⟨⟨(some 186), (.fa 0 (.t 185)), (some (174, true))⟩, 14, false, []⟩, ⟨⟨(some 187), (.ld false 1 (.t 186)), (some (174, true))⟩, 15, false, []⟩, ⟨⟨(some 188), (.bin .lss (.t 180) (.t 187)), (some (174, true))⟩, 16, false, []⟩, ⟨⟨(some 189), (.mov (.t 188)), (some (174, true))⟩, 17, false, []⟩, ⟨⟨(some 190), (.mov (.t 9)), (some (189, false))⟩, 18, false, []⟩, ⟨⟨(some 191), (.mov (.t 10)), (some (189, false))⟩, 19, false, []⟩, ⟨⟨(some 192), (.isl 3 (.t 190) (.t 191)), (some (189, false))⟩, 20, false, []⟩, ⟨⟨(some 193), (.fa 1 (.t 192)), (some (189, false))⟩, 21, false, []⟩, ⟨⟨(some 194), (.fa 1 (.t 193)), (some (189, false))⟩, 22, false, []⟩, ⟨⟨(some 195), (.ld false 1 (.t 194)), (some (189, false))⟩, 23, false, []⟩, ⟨⟨(some 196), (.mov (.t 9)), (some (189, false))⟩, 24, false, []⟩, ⟨⟨(some 197), (.mov (.t 10)), (some (189, false))⟩, 25, false, []⟩, ⟨⟨(some 198), (.bin .sub (.t 197) (.c (.int .i64 1))), (some (189, false))⟩, 26, false, []⟩, ⟨⟨(some 199), (.isl 3 (.t 196) (.t 198)), (some (189, false))⟩, 27, false, []⟩, ⟨⟨(some 200), (.fa 1 (.t 199)), (some (189, false))⟩, 28, false, []⟩, ⟨⟨(some 201), (.fa 1 (.t 200)), (some (189, false))⟩, 29, false, []⟩, ⟨⟨(some 202), (.ld false 1 (.t 201)), (some (189, false))⟩, 30, false, []⟩, ⟨⟨(some 203), (.bin .lss (.t 195) (.t 202)), (some (189, false))⟩, 31, false, []⟩, ⟨⟨(some 204), (.pick (.t 189) (.c (.bool true)) (.t 203)), (some (174, true))⟩, 32, false, []⟩, ⟨⟨(some 205), (.pick (.t 174) (.t 204) (.c (.bool false))), none⟩, 33, false, []⟩])
                          (.cond (.t 205)
                           (.seq
                            (.region [⟨(some 2), (.mov (.c (.int .i64 1))), none⟩])
                            .ret)
                           .skip))))
                       (.region [⟨(some 134), (.mov (.t 10)), none⟩, ⟨(some 135), (.bin .add (.t 134) (.c (.int .i64 1))), none⟩, ⟨(some 10), (.mov (.t 135)), none⟩])))))))))
               (.region [⟨(some 120), (.mov (.t 8)), none⟩, ⟨(some 121), (.bin .add (.t 120) (.c (.int .i64 1))), none⟩, ⟨(some 8), (.mov (.t 121)), none⟩]))))))
          (.seq
           (.region [⟨(some 2), (.mov (.c (.int .i64 0))), none⟩])
           .ret)))))))))
def r36 : List AOp := [(.mov (.t 2))]
theorem ok36 : FnOk Tryd.prog 36 Tryd.f36.ntmps a36 r36 := ⟨Tryd.f36, Tryd.func36, by kernel_rfl, by kernel_rfl, by kernel_rfl, fun asv w => by simp⟩

/-- layover/layoverref02.Segments -/
def a37 : ACode :=
  (.seq
   (.region [⟨(some 1), (.box (.t 0)), none⟩, ⟨(some 2), (.mov (.c (.int .i64 0))), none⟩])
   (.seq
    (.region [⟨(some 3), (.mov (.c (.int .i64 0))), none⟩])
    (.seq
     (.seq
      (.region [⟨(some 4), (.mov (.c (.int .i64 0))), none⟩])
      (.block 0
       (.loop
        (.seq
         (.seq
          (.region [⟨(some 5), (.mov (.t 4)), none⟩, ⟨(some 6), (.fa 8 (.t 1)), none⟩, ⟨(some 7), (.ld false 1 (.t 6)), none⟩, ⟨(some 8), (.len (.t 7)), none⟩, ⟨(some 9), (.bin .lss (.t 5) (.t 8)), none⟩])
          (.cond (.t 9)
           .skip
           (.exit 0)))
         (.seq
          (.block 1
           (.region [⟨(some 12), (.mov (.t 3)), none⟩, ⟨(some 13), (.fa 8 (.t 1)), none⟩, ⟨(some 14), (.ld false 1 (.t 13)), none⟩, ⟨(some 15), (.mov (.t 4)), none⟩, ⟨(some 16), (.isl 1 (.t 14) (.t 15)), none⟩, ⟨(some 17), (.ld false 1 (.t 16)), none⟩, ⟨(some 18), (.len (.t 17)), none⟩, ⟨(some 19), (.bin .sub (.t 18) (.c (.int .i64 1))), none⟩, ⟨(some 20), (.gen 23 ⟨(some 20), (.call ⟨.builtin .max, #[(.const (.int .i64 0)), (.tmp 19)], #[3, 3]⟩), 3, "ref.go:30", #[{ on := 7, ground := Go.Ground.data }], none⟩), none⟩, ⟨(some 21), (.bin .add (.t 12) (.t 20)), none⟩, ⟨(some 3), (.mov (.t 21)), none⟩]))
          (.region [⟨(some 10), (.mov (.t 4)), none⟩, ⟨(some 11), (.bin .add (.t 10) (.c (.int .i64 1))), none⟩, ⟨(some 4), (.mov (.t 11)), none⟩]))))))
     (.seq
      (.region [⟨(some 22), (.mov (.t 3)), none⟩, ⟨(some 2), (.mov (.t 22)), none⟩])
      .ret))))
def r37 : List AOp := [(.mov (.t 2))]
theorem ok37 : FnOk Tryd.prog 37 Tryd.f37.ntmps a37 r37 := ⟨Tryd.f37, Tryd.func37, by kernel_rfl, by kernel_rfl, by kernel_rfl, fun asv w => by simp⟩

/-- layover/duty.Barred -/
def a38 : ACode :=
  (.seq
   (.region [⟨(some 1), (.box (.t 0)), none⟩, ⟨(some 2), (.mov (.c (.slice none 0 0))), none⟩, ⟨(some 3), (.mov (.c (.int .i64 0))), none⟩])
   (.seq
    (.seq
     (.region [⟨(some 6), (.ld true 10 (.t 1)), none⟩, ⟨(some 7), (.call (.c (.func (.func 17) #[] #[])) [(.t 6)]), none⟩, ⟨(some 4), (.mov (.t 7)), none⟩])
     (.seq
      (.region [⟨(some 8), (.mov (.t 4)), none⟩, ⟨(some 9), (.bin .neq (.t 8) (.c (.int .i64 0))), none⟩])
      (.cond (.t 9)
       (.seq
        (.region [⟨(some 10), (.mov (.t 4)), none⟩, ⟨(some 2), (.mov (.c (.slice none 0 0))), none⟩, ⟨(some 3), (.mov (.t 10)), none⟩])
        .ret)
       .skip)))
    (.seq
     (.region [⟨(some 11), (.ld true 10 (.t 1)), none⟩, ⟨(some 12), (.call (.c (.func (.func 71) #[] #[])) [(.t 11)]), none⟩, ⟨(some 13), (.call (.c (.func (.func 72) #[] #[])) [(.t 12)]), none⟩, ⟨(some 5), (.mov (.t 13)), none⟩])
     (.seq
      (.seq
       (.region [⟨(some 14), (.mov (.t 5)), none⟩, ⟨(some 15), (.bin .eql (.t 14) (.c (.int .u64 0))), none⟩])
       (.cond (.t 15)
        (.seq
         (.region [⟨(some 2), (.mov (.c (.slice none 0 0))), none⟩, ⟨(some 3), (.mov (.c (.int .i64 7))), none⟩])
         .ret)
        .skip))
      (.seq
       (.region [⟨(some 16), (.mov (.t 5)), none⟩, ⟨(some 17), (.call (.c (.func (.func 73) #[] #[])) [(.t 16)]), none⟩, ⟨(some 2), (.mov (.t 17)), none⟩, ⟨(some 3), (.mov (.c (.int .i64 0))), none⟩])
       .ret)))))
def r38 : List AOp := [(.mov (.t 2)), (.mov (.t 3))]
theorem ok38 : FnOk Tryd.prog 38 Tryd.f38.ntmps a38 r38 := ⟨Tryd.f38, Tryd.func38, by kernel_rfl, by kernel_rfl, by kernel_rfl, fun asv w => by simp⟩

/-- layover/layoverref02.LegalDuties -/
def a39 : ACode :=
  (.seq
   (.region [⟨(some 1), (.box (.t 0)), none⟩, ⟨(some 2), (.mov (.c (.slice none 0 0))), none⟩])
   (.seq
    (.region [⟨(some 3), (.mov (.c (.slice none 0 0))), none⟩])
    (.seq
     (.region [⟨(some 6), (.ld true 10 (.t 1)), none⟩, ⟨(some 7), (.call (.c (.func (.func 74) #[] #[])) [(.t 6)]), none⟩, ⟨(some 4), (.mov (.t 7)), none⟩])
     (.seq
      (.seq
       (.region [⟨(some 5), (.mov (.c (.int .i64 0))), none⟩])
       (.block 0
        (.loop
         (.seq
          (.seq
           (.region [⟨(some 8), (.mov (.t 5)), none⟩, ⟨(some 9), (.mov (.t 4)), none⟩, ⟨(some 10), (.len (.t 9)), none⟩, ⟨(some 11), (.bin .lss (.t 8) (.t 10)), none⟩])
           (.cond (.t 11)
            .skip
            (.exit 0)))
          (.seq
           (.block 1
            (.seq
             (.draw 6 [⟨⟨(some 14), (.ld true 10 (.t 1)), none⟩, 0, false, []⟩, ⟨⟨(some 15), (.mov (.t 4)), none⟩, 1, false, []⟩, ⟨⟨(some 16), (.mov (.t 5)), none⟩, 2, false, []⟩, ⟨⟨(some 17), (.isl 1 (.t 15) (.t 16)), none⟩, 3, false, []⟩, ⟨⟨(some 18), (.ld false 1 (.t 17)), none⟩, 4, false, []⟩, ⟨⟨(some 19), (.call (.c (.func (.func 24) #[] #[])) [(.t 14), (.t 18)]), none⟩, 5, true, []⟩])
             (.cond (.t 19)
              (.region [⟨(some 20), (.mov (.t 3)), none⟩, ⟨(some 21), (.mov (.t 4)), none⟩, ⟨(some 22), (.mov (.t 5)), none⟩, ⟨(some 23), (.isl 1 (.t 21) (.t 22)), none⟩, ⟨(some 24), (.ld false 1 (.t 23)), none⟩, ⟨(some 25), (.bsl 1 [(.slice none 0 0)] [(0, 1, (.t 24))]), none⟩, ⟨(some 26), (.app 1 24 (.t 20) (.t 25)), none⟩, ⟨(some 3), (.mov (.t 26)), none⟩])
              .skip)))
           (.region [⟨(some 12), (.mov (.t 5)), none⟩, ⟨(some 13), (.bin .add (.t 12) (.c (.int .i64 1))), none⟩, ⟨(some 5), (.mov (.t 13)), none⟩]))))))
      (.seq
       (.region [⟨(some 27), (.mov (.t 3)), none⟩, ⟨(some 2), (.mov (.t 27)), none⟩])
       .ret)))))
def r39 : List AOp := [(.mov (.t 2))]
theorem ok39 : FnOk Tryd.prog 39 Tryd.f39.ntmps a39 r39 := ⟨Tryd.f39, Tryd.func39, by kernel_rfl, by kernel_rfl, by kernel_rfl, fun asv w => by simp⟩

/-- layover/layoverref02.Has -/
def a40 : ACode :=
  (.seq
   (.region [⟨(some 4), (.mov (.c (.bool false))), none⟩])
   (.seq
    (.seq
     (.region [⟨(some 5), (.mov (.c (.int .i64 0))), none⟩])
     (.block 0
      (.loop
       (.seq
        (.seq
         (.region [⟨(some 6), (.mov (.t 5)), none⟩, ⟨(some 7), (.mov (.t 0)), none⟩, ⟨(some 8), (.len (.t 7)), none⟩, ⟨(some 9), (.bin .lss (.t 6) (.t 8)), none⟩])
         (.cond (.t 9)
          .skip
          (.exit 0)))
        (.seq
         (.block 1
          (.seq
           (.region [⟨(some 12), (.mov (.t 0)), none⟩, ⟨(some 13), (.mov (.t 5)), none⟩, ⟨(some 14), (.isl 1 (.t 12) (.t 13)), none⟩, ⟨(some 15), (.ld false 1 (.t 14)), none⟩, ⟨(some 16), (.mov (.t 1)), none⟩, ⟨(some 17), (.bin .eql (.t 15) (.t 16)), none⟩])
           (.cond (.t 17)
            (.seq
             (.region [⟨(some 4), (.mov (.c (.bool true))), none⟩])
             .ret)
            .skip)))
         (.region [⟨(some 10), (.mov (.t 5)), none⟩, ⟨(some 11), (.bin .add (.t 10) (.c (.int .i64 1))), none⟩, ⟨(some 5), (.mov (.t 11)), none⟩]))))))
    (.seq
     (.region [⟨(some 4), (.mov (.c (.bool false))), none⟩])
     .ret)))
def r40 : List AOp := [(.mov (.t 4))]
theorem ok40 : FnOk Tryd.prog 40 Tryd.f40.ntmps a40 r40 := ⟨Tryd.f40, Tryd.func40, by kernel_rfl, by kernel_rfl, by kernel_rfl, fun asv w => by simp⟩

/-- layover/duty.Bound -/
def a41 : ACode :=
  (.seq
   (.region [⟨(some 2), (.box (.t 0)), none⟩, ⟨(some 4), (.mov (.c (.int .i64 0))), none⟩, ⟨(some 5), (.mov (.c (.int .i64 0))), none⟩])
   (.seq
    (.seq
     (.region [⟨(some 8), (.ld true 10 (.t 2)), none⟩, ⟨(some 9), (.call (.c (.func (.func 17) #[] #[])) [(.t 8)]), none⟩, ⟨(some 6), (.mov (.t 9)), none⟩])
     (.seq
      (.region [⟨(some 10), (.mov (.t 6)), none⟩, ⟨(some 11), (.bin .neq (.t 10) (.c (.int .i64 0))), none⟩])
      (.cond (.t 11)
       (.seq
        (.region [⟨(some 12), (.mov (.t 6)), none⟩, ⟨(some 4), (.mov (.c (.int .i64 0))), none⟩, ⟨(some 5), (.mov (.t 12)), none⟩])
        .ret)
       .skip)))
    (.seq
     (.region [⟨(some 13), (.ld true 10 (.t 2)), none⟩, ⟨(some 14), (.call (.c (.func (.func 71) #[] #[])) [(.t 13)]), none⟩, ⟨(some 7), (.new [(.int .i64 0), (.int .i64 0), (.int .i64 0), (.int .i64 0), (.int .i64 0), (.int .i64 0), (.int .i64 0), (.int .i64 0), (.slice none 0 0), (.slice none 0 0), (.slice none 0 0), (.slice none 0 0), (.slice none 0 0)]), none⟩, ⟨none, (.st 13 (.t 7) (.t 14)), none⟩])
     (.seq
      (.block 0
       (.seq
        (.seq
         (.region [⟨(some 16), (.mov (.t 1)), none⟩, ⟨(some 17), (.len (.t 16)), none⟩, ⟨(some 18), (.fa 10 (.t 7)), none⟩, ⟨(some 19), (.ld false 1 (.t 18)), none⟩, ⟨(some 20), (.len (.t 19)), none⟩, ⟨(some 21), (.bin .neq (.t 17) (.t 20)), none⟩, ⟨(some 15), (.mov (.t 21)), none⟩])
         (.cond (.t 15)
          .skip
          (.region [⟨(some 22), (.mov (.t 1)), none⟩, ⟨(some 23), (.call (.c (.func (.func 75) #[] #[])) [(.t 22), (.c (.func (.func 76) #[] #[]))]), none⟩, ⟨(some 24), (.not (.t 23)), none⟩, ⟨(some 15), (.mov (.t 24)), none⟩])))
        (.cond (.t 15)
         (.seq
          (.region [⟨(some 4), (.mov (.c (.int .i64 0))), none⟩, ⟨(some 5), (.mov (.c (.int .i64 2))), none⟩])
          .ret)
         (.seq
          (.region [⟨(some 26), (.ld true 13 (.t 7)), none⟩, ⟨(some 27), (.mov (.t 1)), none⟩, ⟨(some 28), (.call (.c (.func (.func 77) #[] #[])) [(.t 26), (.t 27)]), none⟩, ⟨(some 29), (.not (.t 28)), none⟩, ⟨(some 25), (.mov (.t 29)), none⟩])
          (.cond (.t 25)
           (.seq
            (.region [⟨(some 4), (.mov (.c (.int .i64 0))), none⟩, ⟨(some 5), (.mov (.c (.int .i64 9))), none⟩])
            .ret)
           .skip)))))
      (.seq
       (.region [⟨(some 30), (.mov (.t 1)), none⟩, ⟨(some 31), (.call (.c (.func (.func 78) #[] #[])) [(.t 30)]), none⟩, ⟨(some 4), (.mov (.t 31)), none⟩, ⟨(some 5), (.mov (.c (.int .i64 0))), none⟩])
       .ret)))))
def r41 : List AOp := [(.mov (.t 4)), (.mov (.t 5))]
theorem ok41 : FnOk Tryd.prog 41 Tryd.f41.ntmps a41 r41 := ⟨Tryd.f41, Tryd.func41, by kernel_rfl, by kernel_rfl, by kernel_rfl, fun asv w => by simp⟩

/-- layover/layoverref02.RightWeights -/
def a42 : ACode :=
  (.seq
   (.region [⟨(some 2), (.box (.t 0)), none⟩, ⟨(some 4), (.mov (.c (.bool false))), none⟩])
   (.seq
    (.seq
     (.region [⟨(some 5), (.mov (.c (.int .i64 0))), none⟩])
     (.block 0
      (.loop
       (.seq
        (.seq
         (.region [⟨(some 6), (.mov (.t 5)), none⟩, ⟨(some 7), (.mov (.t 1)), none⟩, ⟨(some 8), (.len (.t 7)), none⟩, ⟨(some 9), (.bin .lss (.t 6) (.t 8)), none⟩])
         (.cond (.t 9)
          .skip
          (.exit 0)))
        (.seq
         (.block 1
          (.seq
           (.region [⟨(some 12), (.mov (.t 1)), none⟩, ⟨(some 13), (.mov (.t 5)), none⟩, ⟨(some 14), (.isl 1 (.t 12) (.t 13)), none⟩, ⟨(some 15), (.ld false 1 (.t 14)), none⟩, ⟨(some 16), (.call (.c (.func (.func 63) #[] #[])) [(.t 15), (.c (.int .i64 0)), (.c (.int .i64 1000000))]), none⟩, ⟨(some 17), (.not (.t 16)), none⟩])
           (.cond (.t 17)
            (.seq
             (.region [⟨(some 4), (.mov (.c (.bool false))), none⟩])
             .ret)
            .skip)))
         (.region [⟨(some 10), (.mov (.t 5)), none⟩, ⟨(some 11), (.bin .add (.t 10) (.c (.int .i64 1))), none⟩, ⟨(some 5), (.mov (.t 11)), none⟩]))))))
    (.seq
     (.region [⟨(some 18), (.mov (.t 1)), none⟩, ⟨(some 19), (.len (.t 18)), none⟩, ⟨(some 20), (.ld true 10 (.t 2)), none⟩, ⟨(some 21), (.call (.c (.func (.func 37) #[] #[])) [(.t 20)]), none⟩, ⟨(some 22), (.bin .eql (.t 19) (.t 21)), none⟩, ⟨(some 4), (.mov (.t 22)), none⟩])
     .ret)))
def r42 : List AOp := [(.mov (.t 4))]
theorem ok42 : FnOk Tryd.prog 42 Tryd.f42.ntmps a42 r42 := ⟨Tryd.f42, Tryd.func42, by kernel_rfl, by kernel_rfl, by kernel_rfl, fun asv w => by simp⟩

/-- layover/layoverref02.Weight -/
def a43 : ACode :=
  (.seq
   (.region [⟨(some 4), (.mov (.c (.int .i64 0))), none⟩])
   (.seq
    (.region [⟨(some 5), (.mov (.c (.int .i64 0))), none⟩])
    (.seq
     (.seq
      (.region [⟨(some 6), (.mov (.c (.int .i64 0))), none⟩])
      (.block 0
       (.loop
        (.seq
         (.seq
          (.region [⟨(some 7), (.mov (.t 6)), none⟩, ⟨(some 8), (.mov (.t 1)), none⟩, ⟨(some 9), (.len (.t 8)), none⟩, ⟨(some 10), (.bin .lss (.t 7) (.t 9)), none⟩])
          (.cond (.t 10)
           .skip
           (.exit 0)))
         (.seq
          (.block 1
           (.region [⟨(some 13), (.mov (.t 5)), none⟩, ⟨(some 14), (.mov (.t 0)), none⟩, ⟨(some 15), (.mov (.t 1)), none⟩, ⟨(some 16), (.mov (.t 6)), none⟩, ⟨(some 17), (.isl 1 (.t 15) (.t 16)), none⟩, ⟨(some 18), (.ld false 1 (.t 17)), none⟩, ⟨(some 19), (.isl 1 (.t 14) (.t 18)), none⟩, ⟨(some 20), (.ld false 1 (.t 19)), none⟩, ⟨(some 21), (.bin .add (.t 13) (.t 20)), none⟩, ⟨(some 5), (.mov (.t 21)), none⟩]))
          (.region [⟨(some 11), (.mov (.t 6)), none⟩, ⟨(some 12), (.bin .add (.t 11) (.c (.int .i64 1))), none⟩, ⟨(some 6), (.mov (.t 12)), none⟩]))))))
     (.seq
      (.region [⟨(some 22), (.mov (.t 5)), none⟩, ⟨(some 4), (.mov (.t 22)), none⟩])
      .ret))))
def r43 : List AOp := [(.mov (.t 4))]
theorem ok43 : FnOk Tryd.prog 43 Tryd.f43.ntmps a43 r43 := ⟨Tryd.f43, Tryd.func43, by kernel_rfl, by kernel_rfl, by kernel_rfl, fun asv w => by simp⟩

/-- layover/layoverlaw02.monday -/
def a44 : ACode :=
  (.seq
   (.region [⟨(some 0), (.new [(.int .i64 0), (.int .i64 0), (.int .i64 0), (.int .i64 0), (.int .i64 0), (.int .i64 0), (.int .i64 0), (.int .i64 0), (.slice none 0 0), (.slice none 0 0)]), none⟩])
   (.seq
    (.region [⟨(some 1), (.bld [(.int .i64 0), (.int .i64 0), (.int .i64 0), (.int .i64 0), (.int .i64 0), (.int .i64 0), (.int .i64 0), (.int .i64 0)] [(0, 1, (.c (.int .i64 240))), (1, 1, (.c (.int .i64 420))), (2, 1, (.c (.int .i64 600))), (3, 1, (.c (.int .i64 30))), (4, 1, (.c (.int .i64 10))), (5, 1, (.c (.int .i64 10))), (6, 1, (.c (.int .i64 300))), (7, 1, (.c (.int .i64 2)))]), none⟩, ⟨(some 2), (.bsl 2 [(.int .i64 0), (.int .i64 0)] [(0, 1, (.c (.int .i64 0))), (1, 1, (.c (.int .i64 5)))]), none⟩, ⟨(some 3), (.bsl 2 [(.int .i64 0), (.int .i64 0)] [(0, 1, (.c (.int .i64 5))), (1, 1, (.c (.int .i64 0)))]), none⟩, ⟨(some 4), (.bsl 2 [(.slice none 0 0), (.slice none 0 0)] [(0, 1, (.t 2)), (1, 1, (.t 3))]), none⟩, ⟨(some 5), (.call (.c (.func (.func 79) #[] #[])) [(.c (.int .i64 300)), (.c (.int .i64 300)), (.c (.int .i64 0))]), none⟩, ⟨(some 6), (.call (.c (.func (.func 79) #[] #[])) [(.c (.int .i64 420)), (.c (.int .i64 430)), (.c (.int .i64 1))]), none⟩, ⟨(some 7), (.call (.c (.func (.func 79) #[] #[])) [(.c (.int .i64 530)), (.c (.int .i64 550)), (.c (.int .i64 0))]), none⟩, ⟨(some 8), (.call (.c (.func (.func 79) #[] #[])) [(.c (.int .i64 650)), (.c (.int .i64 670)), (.c (.int .i64 0))]), none⟩, ⟨(some 9), (.bsl 4 [(.int .i64 0), (.int .i64 0), (.int .i64 0), (.int .i64 0), (.int .i64 0), (.int .i64 0), (.int .i64 0), (.int .i64 0), (.int .i64 0), (.int .i64 0), (.int .i64 0), (.int .i64 0)] [(0, 3, (.t 5)), (3, 3, (.t 6)), (6, 3, (.t 7)), (9, 3, (.t 8))]), none⟩, ⟨(some 10), (.call (.c (.func (.func 79) #[] #[])) [(.c (.int .i64 400)), (.c (.int .i64 400)), (.c (.int .i64 0))]), none⟩, ⟨(some 11), (.call (.c (.func (.func 79) #[] #[])) [(.c (.int .i64 500)), (.c (.int .i64 510)), (.c (.int .i64 1))]), none⟩, ⟨(some 12), (.call (.c (.func (.func 79) #[] #[])) [(.c (.int .i64 600)), (.c (.int .i64 620)), (.c (.int .i64 0))]), none⟩, ⟨(some 13), (.bsl 3 [(.int .i64 0), (.int .i64 0), (.int .i64 0), (.int .i64 0), (.int .i64 0), (.int .i64 0), (.int .i64 0), (.int .i64 0), (.int .i64 0)] [(0, 3, (.t 10)), (3, 3, (.t 11)), (6, 3, (.t 12))]), none⟩, ⟨(some 14), (.bsl 2 [(.slice none 0 0), (.slice none 0 0)] [(0, 1, (.t 9)), (1, 1, (.t 13))]), none⟩, ⟨(some 15), (.bld [(.int .i64 0), (.int .i64 0), (.int .i64 0), (.int .i64 0), (.int .i64 0), (.int .i64 0), (.int .i64 0), (.int .i64 0), (.slice none 0 0), (.slice none 0 0)] [(0, 8, (.t 1)), (9, 1, (.t 4)), (8, 1, (.t 14))]), none⟩, ⟨none, (.st 10 (.t 0) (.t 15)), none⟩])
    .ret))
def r44 : List AOp := [(.ld true 10 (.t 0))]
theorem ok44 : FnOk Tryd.prog 44 Tryd.f44.ntmps a44 r44 := ⟨Tryd.f44, Tryd.func44, by kernel_rfl, by kernel_rfl, by kernel_rfl, fun asv w => by simp⟩

/-- layover/duty.Best -/
def a45 : ACode :=
  (.seq
   (.region [⟨(some 1), (.box (.t 0)), none⟩, ⟨(some 2), (.mov (.c (.slice none 0 0))), none⟩, ⟨(some 3), (.mov (.c (.int .i64 0))), none⟩, ⟨(some 4), (.mov (.c (.int .i64 0))), none⟩])
   (.seq
    (.seq
     (.region [⟨(some 7), (.ld true 10 (.t 1)), none⟩, ⟨(some 8), (.call (.c (.func (.func 17) #[] #[])) [(.t 7)]), none⟩, ⟨(some 5), (.mov (.t 8)), none⟩])
     (.seq
      (.region [⟨(some 9), (.mov (.t 5)), none⟩, ⟨(some 10), (.bin .neq (.t 9) (.c (.int .i64 0))), none⟩])
      (.cond (.t 10)
       (.seq
        (.region [⟨(some 11), (.mov (.t 5)), none⟩, ⟨(some 2), (.mov (.c (.slice none 0 0))), none⟩, ⟨(some 3), (.mov (.c (.int .i64 0))), none⟩, ⟨(some 4), (.mov (.t 11)), none⟩])
        .ret)
       .skip)))
    (.seq
     (.region [⟨(some 13), (.ld true 10 (.t 1)), none⟩, ⟨(some 14), (.call (.c (.func (.func 71) #[] #[])) [(.t 13)]), none⟩, ⟨(some 15), (.call (.c (.func (.func 80) #[] #[])) [(.t 14)]), none⟩, ⟨(some 12), (.mov (.t 15)), none⟩, ⟨(some 16), (.ext (.t 12) 0), none⟩, ⟨(some 17), (.ext (.t 12) 1), none⟩, ⟨(some 18), (.ext (.t 12) 2), none⟩, ⟨(some 2), (.mov (.t 16)), none⟩, ⟨(some 3), (.mov (.t 17)), none⟩, ⟨(some 6), (.mov (.t 18)), none⟩])
     (.seq
      (.seq
       (.region [⟨(some 19), (.mov (.t 6)), none⟩, ⟨(some 20), (.not (.t 19)), none⟩])
       (.cond (.t 20)
        (.seq
         (.region [⟨(some 2), (.mov (.c (.slice none 0 0))), none⟩, ⟨(some 3), (.mov (.c (.int .i64 0))), none⟩, ⟨(some 4), (.mov (.c (.int .i64 9))), none⟩])
         .ret)
        .skip))
      (.seq
       (.region [⟨(some 21), (.mov (.t 2)), none⟩, ⟨(some 22), (.mov (.t 3)), none⟩, ⟨(some 2), (.mov (.t 21)), none⟩, ⟨(some 3), (.mov (.t 22)), none⟩, ⟨(some 4), (.mov (.c (.int .i64 0))), none⟩])
       .ret)))))
def r45 : List AOp := [(.mov (.t 2)), (.mov (.t 3)), (.mov (.t 4))]
theorem ok45 : FnOk Tryd.prog 45 Tryd.f45.ntmps a45 r45 := ⟨Tryd.f45, Tryd.func45, by kernel_rfl, by kernel_rfl, by kernel_rfl, fun asv w => by simp⟩

/-- layover/duty.ProvePlan -/
def a46 : ACode :=
  (.seq
   (.region [⟨(some 2), (.box (.t 0)), none⟩, ⟨(some 4), (.mov (.c (.bool false))), none⟩])
   (.seq
    (.region [⟨(some 5), (.ld true 10 (.t 2)), none⟩, ⟨(some 6), (.call (.c (.func (.func 17) #[] #[])) [(.t 5)]), none⟩, ⟨(some 7), (.bin .eql (.t 6) (.c (.int .i64 0))), none⟩, ⟨(some 8), (.mov (.t 7)), none⟩, ⟨(some 9), (.ld true 10 (.t 2)), (some (8, true))⟩, ⟨(some 10), (.call (.c (.func (.func 71) #[] #[])) [(.t 9)]), (some (8, true))⟩, ⟨(some 11), (.mov (.t 1)), (some (8, true))⟩, ⟨(some 12), (.call (.c (.func (.func 81) #[] #[])) [(.t 10), (.t 11)]), (some (8, true))⟩, ⟨(some 13), (.pick (.t 8) (.t 12) (.c (.bool false))), none⟩, ⟨(some 4), (.mov (.t 13)), none⟩])
    .ret))
def r46 : List AOp := [(.mov (.t 4))]
theorem ok46 : FnOk Tryd.prog 46 Tryd.f46.ntmps a46 r46 := ⟨Tryd.f46, Tryd.func46, by kernel_rfl, by kernel_rfl, by kernel_rfl, fun asv w => by simp⟩

/-- layover/layoverref02.Spot -/
def a54 : ACode :=
  (.seq
   (.region [⟨(some 2), (.box (.t 0)), none⟩, ⟨(some 4), (.mov (.c (.int .i64 0))), none⟩, ⟨(some 5), (.mov (.c (.int .i64 0))), none⟩])
   (.seq
    (.region [⟨(some 6), (.mov (.c (.int .i64 0))), none⟩])
    (.seq
     (.block 0
      (.loop
       (.seq
        (.seq
         (.region [⟨(some 7), (.mov (.t 1)), none⟩, ⟨(some 8), (.fa 8 (.t 2)), none⟩, ⟨(some 9), (.ld false 1 (.t 8)), none⟩, ⟨(some 10), (.mov (.t 6)), none⟩, ⟨(some 11), (.isl 1 (.t 9) (.t 10)), none⟩, ⟨(some 12), (.ld false 1 (.t 11)), none⟩, ⟨(some 13), (.len (.t 12)), none⟩, ⟨(some 14), (.bin .sub (.t 13) (.c (.int .i64 1))), none⟩, ⟨(some 15), (.bin .geq (.t 7) (.t 14)), none⟩])
         (.cond (.t 15)
          .skip
          (.exit 0)))
        (.block 1
         (.seq
          (.region [⟨(some 16), (.mov (.t 1)), none⟩, ⟨(some 17), (.fa 8 (.t 2)), none⟩, ⟨(some 18), (.ld false 1 (.t 17)), none⟩, ⟨(some 19), (.mov (.t 6)), none⟩, ⟨(some 20), (.isl 1 (.t 18) (.t 19)), none⟩, ⟨(some 21), (.ld false 1 (.t 20)), none⟩, ⟨(some 22), (.len (.t 21)), none⟩, ⟨(some 23), (.bin .sub (.t 22) (.c (.int .i64 1))), none⟩, ⟨(some 24), (.bin .sub (.t 16) (.t 23)), none⟩, ⟨(some 1), (.mov (.t 24)), none⟩])
          (.region [⟨(some 25), (.mov (.t 6)), none⟩, ⟨(some 26), (.bin .add (.t 25) (.c (.int .i64 1))), none⟩, ⟨(some 6), (.mov (.t 26)), none⟩]))))))
     (.seq
      (.region [⟨(some 27), (.mov (.t 6)), none⟩, ⟨(some 28), (.mov (.t 1)), none⟩, ⟨(some 4), (.mov (.t 27)), none⟩, ⟨(some 5), (.mov (.t 28)), none⟩])
      .ret))))
def r54 : List AOp := [(.mov (.t 4)), (.mov (.t 5))]
theorem ok54 : FnOk Tryd.prog 54 Tryd.f54.ntmps a54 r54 := ⟨Tryd.f54, Tryd.func54, by kernel_rfl, by kernel_rfl, by kernel_rfl, fun asv w => by simp⟩

/-- (layover/duty.Day).countSegments -/
def a55 : ACode :=
  (.seq
   (.region [⟨(some 1), (.box (.t 0)), none⟩, ⟨(some 2), (.mov (.c (.int .i64 0))), none⟩])
   (.seq
    (.region [⟨(some 3), (.mov (.c (.int .i64 0))), none⟩])
    (.seq
     (.seq
      (.region [⟨(some 6), (.fa 8 (.t 1)), none⟩, ⟨(some 7), (.ld false 1 (.t 6)), none⟩, ⟨(some 8), (.len (.t 7)), none⟩, ⟨(some 9), (.mov (.c (.int .i64 0))), none⟩])
      (.block 0
       (.loop
        (.seq
         (.region [⟨(some 10), (.bin .lss (.t 9) (.t 8)), none⟩])
         (.seq
          (.cond (.t 10)
           .skip
           (.exit 0))
          (.seq
           (.block 1
            (.seq
             (.region [⟨(some 11), (.isl 1 (.t 7) (.t 9)), none⟩, ⟨(some 12), (.ld false 1 (.t 11)), none⟩, ⟨(some 5), (.mov (.t 12)), none⟩])
             (.region [⟨(some 13), (.mov (.t 3)), none⟩, ⟨(some 14), (.mov (.t 5)), none⟩, ⟨(some 15), (.len (.t 14)), none⟩, ⟨(some 16), (.bin .sub (.t 15) (.c (.int .i64 1))), none⟩, ⟨(some 17), (.gen 21 ⟨(some 17), (.call ⟨.builtin .max, #[(.tmp 16), (.const (.int .i64 0))], #[3, 3]⟩), 3, "check.go:55", #[{ on := 3, ground := Go.Ground.data }], none⟩), none⟩, ⟨(some 18), (.bin .add (.t 13) (.t 17)), none⟩, ⟨(some 3), (.mov (.t 18)), none⟩])))
           (.region [⟨(some 19), (.bin .add (.t 9) (.c (.int .i64 1))), none⟩, ⟨(some 9), (.mov (.t 19)), none⟩])))))))
     (.seq
      (.region [⟨(some 20), (.mov (.t 3)), none⟩, ⟨(some 2), (.mov (.t 20)), none⟩])
      .ret))))
def r55 : List AOp := [(.mov (.t 2))]
theorem ok55 : FnOk Tryd.prog 55 Tryd.f55.ntmps a55 r55 := ⟨Tryd.f55, Tryd.func55, by kernel_rfl, by kernel_rfl, by kernel_rfl, fun asv w => by simp⟩

/-- (layover/duty.Law).isValid -/
def a56 : ACode :=
  (.seq
   (.region [⟨(some 1), (.box (.t 0)), none⟩, ⟨(some 2), (.mov (.c (.bool false))), none⟩])
   (.seq
    (.region [⟨(some 4), (.fa 0 (.t 1)), none⟩, ⟨(some 5), (.ld false 1 (.t 4)), none⟩, ⟨(some 6), (.fa 1 (.t 1)), none⟩, ⟨(some 7), (.ld false 1 (.t 6)), none⟩, ⟨(some 8), (.fa 2 (.t 1)), none⟩, ⟨(some 9), (.ld false 1 (.t 8)), none⟩, ⟨(some 10), (.fa 3 (.t 1)), none⟩, ⟨(some 11), (.ld false 1 (.t 10)), none⟩, ⟨(some 12), (.fa 4 (.t 1)), none⟩, ⟨(some 13), (.ld false 1 (.t 12)), none⟩, ⟨(some 14), (.fa 5 (.t 1)), none⟩, ⟨(some 15), (.ld false 1 (.t 14)), none⟩, ⟨(some 16), (.fa 6 (.t 1)), none⟩, ⟨(some 17), (.ld false 1 (.t 16)), none⟩, ⟨(some 18), (.bsl 7 [(.int .i64 0), (.int .i64 0), (.int .i64 0), (.int .i64 0), (.int .i64 0), (.int .i64 0), (.int .i64 0)] [(0, 1, (.t 5)), (1, 1, (.t 7)), (2, 1, (.t 9)), (3, 1, (.t 11)), (4, 1, (.t 13)), (5, 1, (.t 15)), (6, 1, (.t 17))]), none⟩, ⟨(some 3), (.mov (.t 18)), none⟩])
    (.seq
     (.region [⟨(some 19), (.mov (.t 3)), none⟩, ⟨(some 20), (.call (.c (.func (.func 75) #[] #[])) [(.t 19), (.c (.func (.func 85) #[] #[]))]), none⟩, ⟨(some 21), (.mov (.t 20)), none⟩, ⟨(some 22), (.fa 3 (.t 1)), (some (21, true))⟩, ⟨(some 23), (.ld false 1 (.t 22)), (some (21, true))⟩, ⟨(some 24), (.bin .gtr (.t 23) (.c (.int .i64 0))), (some (21, true))⟩, ⟨(some 25), (.pick (.t 21) (.t 24) (.c (.bool false))), none⟩, ⟨(some 26), (.mov (.t 25)), none⟩, ⟨(some 27), (.fa 7 (.t 1)), (some (26, true))⟩, ⟨(some 28), (.ld false 1 (.t 27)), (some (26, true))⟩, ⟨(some 29), (.call (.c (.func (.func 86) #[] #[])) [(.t 28), (.c (.int .i64 1)), (.c (.int .i64 3))]), (some (26, true))⟩, ⟨(some 30), (.pick (.t 26) (.t 29) (.c (.bool false))), none⟩, ⟨(some 2), (.mov (.t 30)), none⟩])
     .ret)))
def r56 : List AOp := [(.mov (.t 2))]
theorem ok56 : FnOk Tryd.prog 56 Tryd.f56.ntmps a56 r56 := ⟨Tryd.f56, Tryd.func56, by kernel_rfl, by kernel_rfl, by kernel_rfl, fun asv w => by simp⟩

/-- (layover/duty.Day).hasValidWalk -/
def a57 : ACode :=
  (.seq
   (.region [⟨(some 1), (.box (.t 0)), none⟩, ⟨(some 2), (.mov (.c (.bool false))), none⟩])
   (.seq
    (.seq
     (.region [⟨(some 5), (.fa 9 (.t 1)), none⟩, ⟨(some 6), (.ld false 1 (.t 5)), none⟩, ⟨(some 7), (.len (.t 6)), none⟩, ⟨(some 8), (.mov (.c (.int .i64 0))), none⟩])
     (.block 0
      (.loop
       (.seq
        (.region [⟨(some 9), (.bin .lss (.t 8) (.t 7)), none⟩])
        (.seq
         (.cond (.t 9)
          .skip
          (.exit 0))
         (.seq
          (.block 1
           (.seq
            (.region [⟨(some 10), (.mov (.t 8)), none⟩, ⟨(some 11), (.isl 1 (.t 6) (.t 8)), none⟩, ⟨(some 12), (.ld false 1 (.t 11)), none⟩, ⟨(some 3), (.mov (.t 10)), none⟩, ⟨(some 4), (.mov (.t 12)), none⟩])
            (.seq
             (.region [⟨(some 13), (.mov (.t 4)), none⟩, ⟨(some 14), (.len (.t 13)), none⟩, ⟨(some 15), (.fa 9 (.t 1)), none⟩, ⟨(some 16), (.ld false 1 (.t 15)), none⟩, ⟨(some 17), (.len (.t 16)), none⟩, ⟨(some 18), (.bin .neq (.t 14) (.t 17)), none⟩, ⟨(some 19), (.mov (.t 18)), none⟩, ⟨(some 20), (.mov (.t 4)), (some (19, false))⟩, ⟨(some 21), (.mov (.t 3)), (some (19, false))⟩, ⟨(some 22), (.isl 1 (.t 20) (.t 21)), (some (19, false))⟩, ⟨(some 23), (.ld false 1 (.t 22)), (some (19, false))⟩, ⟨(some 24), (.bin .neq (.t 23) (.c (.int .i64 0))), (some (19, false))⟩, ⟨(some 25), (.pick (.t 19) (.c (.bool true)) (.t 24)), none⟩, ⟨(some 26), (.mov (.t 25)), none⟩, ⟨(some 27), (.mov (.t 4)), (some (26, false))⟩, ⟨(some 28), (.call (.c (.func (.func 75) #[] #[])) [(.t 27), (.c (.func (.func 85) #[] #[]))]), (some (26, false))⟩, ⟨(some 29), (.not (.t 28)), (some (26, false))⟩, ⟨(some 30), (.pick (.t 26) (.c (.bool true)) (.t 29)), none⟩])
             (.cond (.t 30)
              (.seq
               (.region [⟨(some 2), (.mov (.c (.bool false))), none⟩])
               .ret)
              .skip))))
          (.region [⟨(some 31), (.bin .add (.t 8) (.c (.int .i64 1))), none⟩, ⟨(some 8), (.mov (.t 31)), none⟩])))))))
    (.seq
     (.region [⟨(some 32), (.fa 9 (.t 1)), none⟩, ⟨(some 33), (.ld false 1 (.t 32)), none⟩, ⟨(some 34), (.len (.t 33)), none⟩, ⟨(some 35), (.bin .gtr (.t 34) (.c (.int .i64 0))), none⟩, ⟨(some 2), (.mov (.t 35)), none⟩])
     .ret)))
def r57 : List AOp := [(.mov (.t 2))]
theorem ok57 : FnOk Tryd.prog 57 Tryd.f57.ntmps a57 r57 := ⟨Tryd.f57, Tryd.func57, by kernel_rfl, by kernel_rfl, by kernel_rfl, fun asv w => by simp⟩

/-- layover/duty.every[[]layover/duty.Relief] -/
def a58 : ACode :=
  (.seq
   (.region [⟨(some 4), (.mov (.c (.bool false))), none⟩])
   (.seq
    (.seq
     (.region [⟨(some 7), (.mov (.t 0)), none⟩, ⟨(some 8), (.len (.t 7)), none⟩, ⟨(some 9), (.mov (.c (.int .i64 0))), none⟩])
     (.block 0
      (.loop
       (.seq
        (.region [⟨(some 10), (.bin .lss (.t 9) (.t 8)), none⟩])
        (.seq
         (.cond (.t 10)
          .skip
          (.exit 0))
         (.seq
          (.block 1
           (.seq
            (.region [⟨(some 11), (.isl 1 (.t 7) (.t 9)), none⟩, ⟨(some 12), (.ld false 1 (.t 11)), none⟩, ⟨(some 6), (.mov (.t 12)), none⟩])
            (.seq
             (.region [⟨(some 13), (.mov (.t 1)), none⟩, ⟨(some 14), (.mov (.t 6)), none⟩, ⟨(some 15), (.call (.t 13) [(.t 14)]), none⟩, ⟨(some 16), (.not (.t 15)), none⟩])
             (.cond (.t 16)
              (.seq
               (.region [⟨(some 4), (.mov (.c (.bool false))), none⟩])
               .ret)
              .skip))))
          (.region [⟨(some 17), (.bin .add (.t 9) (.c (.int .i64 1))), none⟩, ⟨(some 9), (.mov (.t 17)), none⟩])))))))
    (.seq
     (.region [⟨(some 4), (.mov (.c (.bool true))), none⟩])
     .ret)))
def r58 : List AOp := [(.mov (.t 4))]
theorem ok58 : FnOk Tryd.prog 58 Tryd.f58.ntmps a58 r58 := ⟨Tryd.f58, Tryd.func58, by kernel_rfl, by kernel_rfl, by kernel_rfl, fun asv w => by simp⟩

/-- (layover/duty.Day).isValidBlock -/
def a59 : ACode :=
  (.seq
   (.region [⟨(some 2), (.box (.t 0)), none⟩, ⟨(some 4), (.mov (.c (.bool false))), none⟩])
   (.seq
    (.region [⟨(some 6), (.bld [(.int .i64 0), (.int .i64 0)] []), none⟩, ⟨(some 5), (.new [(.int .i64 0), (.int .i64 0)]), none⟩, ⟨none, (.st 2 (.t 5) (.t 6)), none⟩])
    (.seq
     (.region [⟨(some 7), (.mov (.t 1)), none⟩, ⟨(some 8), (.len (.t 7)), none⟩, ⟨(some 9), (.bin .geq (.t 8) (.c (.int .i64 2))), none⟩, ⟨(some 10), (.mov (.t 9)), none⟩, ⟨(some 11), (.mov (.t 1)), (some (10, true))⟩, ⟨(some 12), (.fn (.func 88) [] [(.t 5), (.t 2)]), (some (10, true))⟩, ⟨(some 13), (.call (.c (.func (.func 87) #[] #[])) [(.t 11), (.t 12)]), (some (10, true))⟩, ⟨(some 14), (.pick (.t 10) (.t 13) (.c (.bool false))), none⟩, ⟨(some 4), (.mov (.t 14)), none⟩])
     .ret)))
def r59 : List AOp := [(.mov (.t 4))]
theorem ok59 : FnOk Tryd.prog 59 Tryd.f59.ntmps a59 r59 := ⟨Tryd.f59, Tryd.func59, by kernel_rfl, by kernel_rfl, by kernel_rfl, fun asv w => by simp⟩

/-- layover/duty.newPlannedDuty -/
def a60 : ACode :=
  (.seq
   (.region [⟨(some 2), (.box (.t 0)), none⟩, ⟨(some 4), (.new [(.int .i64 0), (.int .i64 0), (.int .i64 0), (.int .i64 0), (.int .i64 0), (.int .i64 0), (.int .i64 0), (.int .i64 0), (.slice none 0 0), (.slice none 0 0), (.slice none 0 0), (.slice none 0 0), (.slice none 0 0)]), none⟩, ⟨(some 5), (.mov (.c (.int .u64 0))), none⟩, ⟨(some 6), (.mov (.c (.int .i64 0))), none⟩])
   (.seq
    (.seq
     (.region [⟨(some 11), (.ld true 10 (.t 2)), none⟩, ⟨(some 12), (.call (.c (.func (.func 17) #[] #[])) [(.t 11)]), none⟩, ⟨(some 7), (.mov (.t 12)), none⟩])
     (.seq
      (.region [⟨(some 13), (.mov (.t 7)), none⟩, ⟨(some 14), (.bin .neq (.t 13) (.c (.int .i64 0))), none⟩])
      (.cond (.t 14)
       (.seq
        (.region [⟨(some 15), (.bld [(.int .i64 0), (.int .i64 0), (.int .i64 0), (.int .i64 0), (.int .i64 0), (.int .i64 0), (.int .i64 0), (.int .i64 0), (.slice none 0 0), (.slice none 0 0), (.slice none 0 0), (.slice none 0 0), (.slice none 0 0)] []), none⟩, ⟨(some 16), (.mov (.t 7)), none⟩, ⟨none, (.st 13 (.t 4) (.t 15)), none⟩, ⟨(some 5), (.mov (.c (.int .u64 0))), none⟩, ⟨(some 6), (.mov (.t 16)), none⟩])
        .ret)
       .skip)))
    (.seq
     (.region [⟨(some 17), (.ld true 10 (.t 2)), none⟩, ⟨(some 18), (.call (.c (.func (.func 71) #[] #[])) [(.t 17)]), none⟩, ⟨(some 8), (.new [(.int .i64 0), (.int .i64 0), (.int .i64 0), (.int .i64 0), (.int .i64 0), (.int .i64 0), (.int .i64 0), (.int .i64 0), (.slice none 0 0), (.slice none 0 0), (.slice none 0 0), (.slice none 0 0), (.slice none 0 0)]), none⟩, ⟨none, (.st 13 (.t 8) (.t 18)), none⟩])
     (.seq
      (.region [⟨(some 20), (.ld true 13 (.t 8)), none⟩, ⟨(some 21), (.mov (.t 1)), none⟩, ⟨(some 22), (.call (.c (.func (.func 90) #[] #[])) [(.t 20), (.t 21)]), none⟩, ⟨(some 19), (.mov (.t 22)), none⟩, ⟨(some 23), (.ext (.t 19) 0), none⟩, ⟨(some 24), (.ext (.t 19) 1), none⟩, ⟨(some 9), (.mov (.t 23)), none⟩, ⟨(some 10), (.mov (.t 24)), none⟩])
      (.seq
       (.seq
        (.region [⟨(some 25), (.mov (.t 10)), none⟩, ⟨(some 26), (.not (.t 25)), none⟩])
        (.cond (.t 26)
         (.seq
          (.region [⟨(some 27), (.bld [(.int .i64 0), (.int .i64 0), (.int .i64 0), (.int .i64 0), (.int .i64 0), (.int .i64 0), (.int .i64 0), (.int .i64 0), (.slice none 0 0), (.slice none 0 0), (.slice none 0 0), (.slice none 0 0), (.slice none 0 0)] []), none⟩, ⟨none, (.st 13 (.t 4) (.t 27)), none⟩, ⟨(some 5), (.mov (.c (.int .u64 0))), none⟩, ⟨(some 6), (.mov (.c (.int .i64 2))), none⟩])
          .ret)
         .skip))
       (.seq
        (.region [⟨(some 28), (.ld true 13 (.t 8)), none⟩, ⟨(some 29), (.mov (.t 9)), none⟩, ⟨none, (.st 13 (.t 4) (.t 28)), none⟩, ⟨(some 5), (.mov (.t 29)), none⟩, ⟨(some 6), (.mov (.c (.int .i64 0))), none⟩])
        .ret))))))
def r60 : List AOp := [(.ld true 13 (.t 4)), (.mov (.t 5)), (.mov (.t 6))]
theorem ok60 : FnOk Tryd.prog 60 Tryd.f60.ntmps a60 r60 := ⟨Tryd.f60, Tryd.func60, by kernel_rfl, by kernel_rfl, by kernel_rfl, fun asv w => by simp⟩

/-- (layover/duty.planned).isLegal -/
def a61 : ACode :=
  (.seq
   (.region [⟨(some 2), (.box (.t 0)), none⟩, ⟨(some 4), (.mov (.c (.bool false))), none⟩])
   (.seq
    (.region [⟨(some 5), (.ld true 13 (.t 2)), none⟩, ⟨(some 6), (.mov (.t 1)), none⟩, ⟨(some 7), (.call (.c (.func (.func 68) #[] #[])) [(.t 5), (.t 6)]), none⟩, ⟨(some 8), (.fld false 3 1 (.t 7)), none⟩, ⟨(some 4), (.mov (.t 8)), none⟩])
    .ret))
def r61 : List AOp := [(.mov (.t 4))]
theorem ok61 : FnOk Tryd.prog 61 Tryd.f61.ntmps a61 r61 := ⟨Tryd.f61, Tryd.func61, by kernel_rfl, by kernel_rfl, by kernel_rfl, fun asv w => by simp⟩

/-- (layover/duty.planned).pay -/
def a62 : ACode :=
  (.seq
   (.region [⟨(some 2), (.box (.t 0)), none⟩, ⟨(some 4), (.mov (.c (.int .i64 0))), none⟩])
   (.seq
    (.draw 11 [⟨⟨(some 5), (.ld true 13 (.t 2)), none⟩, 0, false, []⟩, ⟨⟨(some 6), (.mov (.t 1)), none⟩, 1, false, []⟩, ⟨⟨(some 9), (.fa 0 (.t 2)), none⟩, 4, false, []⟩, ⟨⟨(some 10), (.fa 0 (.t 9)), none⟩, 5, false, []⟩, ⟨⟨(some 11), (.fa 6 (.t 10)), none⟩, 6, false, []⟩, ⟨⟨(some 12), (.ld false 1 (.t 11)), none⟩, 7, false, []⟩, ⟨⟨(some 7), (.call (.c (.func (.func 68) #[] #[])) [(.t 5), (.t 6)]), none⟩, 2, true, [7]⟩, ⟨⟨(some 8), (.fld false 1 1 (.t 7)), none⟩, 3, false, []⟩, ⟨⟨(some 13), (.bsl 2 [(.int .i64 0), (.int .i64 0)] [(0, 1, (.t 8)), (1, 1, (.t 12))]), none⟩, 8, false, []⟩, ⟨⟨(some 14), (.call (.c (.func (.func 91) #[] #[])) [(.t 13)]), none⟩, 9, true, []⟩, ⟨⟨(some 4), (.mov (.t 14)), none⟩, 10, false, []⟩])
    .ret))
def r62 : List AOp := [(.mov (.t 4))]
theorem ok62 : FnOk Tryd.prog 62 Tryd.f62.ntmps a62 r62 := ⟨Tryd.f62, Tryd.func62, by kernel_rfl, by kernel_rfl, by kernel_rfl, fun asv w => by simp⟩

/-- layover/layoverref02.In -/
def a63 : ACode :=
  (.seq
   (.region [⟨(some 6), (.mov (.c (.bool false))), none⟩])
   (.seq
    (.region [⟨(some 7), (.mov (.t 0)), none⟩, ⟨(some 8), (.mov (.t 1)), none⟩, ⟨(some 9), (.bin .geq (.t 7) (.t 8)), none⟩, ⟨(some 10), (.mov (.t 9)), none⟩, ⟨(some 11), (.mov (.t 0)), (some (10, true))⟩, ⟨(some 12), (.mov (.t 2)), (some (10, true))⟩, ⟨(some 13), (.bin .leq (.t 11) (.t 12)), (some (10, true))⟩, ⟨(some 14), (.pick (.t 10) (.t 13) (.c (.bool false))), none⟩, ⟨(some 6), (.mov (.t 14)), none⟩])
    .ret))
def r63 : List AOp := [(.mov (.t 6))]
theorem ok63 : FnOk Tryd.prog 63 Tryd.f63.ntmps a63 r63 := ⟨Tryd.f63, Tryd.func63, by kernel_rfl, by kernel_rfl, by kernel_rfl, fun asv w => by simp⟩

/-- layover/layoverref02.Lows -/
def a64 : ACode :=
  (.seq
   (.region [⟨(some 1), (.box (.t 0)), none⟩, ⟨(some 2), (.mov (.c (.slice none 0 0))), none⟩])
   (.seq
    (.region [⟨(some 3), (.mov (.c (.slice none 0 0))), none⟩])
    (.seq
     (.seq
      (.region [⟨(some 4), (.mov (.c (.int .i64 0))), none⟩])
      (.block 0
       (.loop
        (.seq
         (.seq
          (.region [⟨(some 7), (.mov (.t 4)), none⟩, ⟨(some 8), (.fa 8 (.t 1)), none⟩, ⟨(some 9), (.ld false 1 (.t 8)), none⟩, ⟨(some 10), (.len (.t 9)), none⟩, ⟨(some 11), (.bin .lss (.t 7) (.t 10)), none⟩])
          (.cond (.t 11)
           .skip
           (.exit 0)))
         (.seq
          (.block 1
           (.seq
            (.region [⟨(some 5), (.mov (.c (.slice none 0 0))), none⟩])
            (.seq
             (.seq
              (.region [⟨(some 6), (.mov (.c (.int .i64 0))), none⟩])
              (.block 2
               (.loop
                (.seq
                 (.seq
                  (.region [⟨(some 14), (.mov (.t 6)), none⟩, ⟨(some 15), (.fa 8 (.t 1)), none⟩, ⟨(some 16), (.ld false 1 (.t 15)), none⟩, ⟨(some 17), (.mov (.t 4)), none⟩, ⟨(some 18), (.isl 1 (.t 16) (.t 17)), none⟩, ⟨(some 19), (.ld false 1 (.t 18)), none⟩, ⟨(some 20), (.len (.t 19)), none⟩, ⟨(some 21), (.bin .lss (.t 14) (.t 20)), none⟩])
                  (.cond (.t 21)
                   .skip
                   (.exit 2)))
                 (.seq
                  (.block 3
                   (.region [⟨(some 24), (.mov (.t 5)), none⟩, ⟨(some 25), (.ld true 10 (.t 1)), none⟩, ⟨(some 26), (.mov (.t 4)), none⟩, ⟨(some 27), (.mov (.t 6)), none⟩, ⟨(some 28), (.call (.c (.func (.func 69) #[] #[])) [(.t 25), (.t 26), (.t 27)]), none⟩, ⟨(some 29), (.bsl 1 [(.int .i64 0)] [(0, 1, (.t 28))]), none⟩, ⟨(some 30), (.app 1 8 (.t 24) (.t 29)), none⟩, ⟨(some 5), (.mov (.t 30)), none⟩]))
                  (.region [⟨(some 22), (.mov (.t 6)), none⟩, ⟨(some 23), (.bin .add (.t 22) (.c (.int .i64 1))), none⟩, ⟨(some 6), (.mov (.t 23)), none⟩]))))))
             (.region [⟨(some 31), (.mov (.t 3)), none⟩, ⟨(some 32), (.mov (.t 5)), none⟩, ⟨(some 33), (.bsl 1 [(.slice none 0 0)] [(0, 1, (.t 32))]), none⟩, ⟨(some 34), (.app 1 24 (.t 31) (.t 33)), none⟩, ⟨(some 3), (.mov (.t 34)), none⟩]))))
          (.region [⟨(some 12), (.mov (.t 4)), none⟩, ⟨(some 13), (.bin .add (.t 12) (.c (.int .i64 1))), none⟩, ⟨(some 4), (.mov (.t 13)), none⟩]))))))
     (.seq
      (.region [⟨(some 35), (.mov (.t 3)), none⟩, ⟨(some 2), (.mov (.t 35)), none⟩])
      .ret))))
def r64 : List AOp := [(.mov (.t 2))]
theorem ok64 : FnOk Tryd.prog 64 Tryd.f64.ntmps a64 r64 := ⟨Tryd.f64, Tryd.func64, by kernel_rfl, by kernel_rfl, by kernel_rfl, fun asv w => by simp⟩

/-- layover/layoverref02.Highs -/
def a65 : ACode :=
  (.seq
   (.region [⟨(some 1), (.box (.t 0)), none⟩, ⟨(some 2), (.mov (.c (.slice none 0 0))), none⟩])
   (.seq
    (.region [⟨(some 3), (.mov (.c (.slice none 0 0))), none⟩])
    (.seq
     (.seq
      (.region [⟨(some 4), (.mov (.c (.int .i64 0))), none⟩])
      (.block 0
       (.loop
        (.seq
         (.seq
          (.region [⟨(some 7), (.mov (.t 4)), none⟩, ⟨(some 8), (.fa 8 (.t 1)), none⟩, ⟨(some 9), (.ld false 1 (.t 8)), none⟩, ⟨(some 10), (.len (.t 9)), none⟩, ⟨(some 11), (.bin .lss (.t 7) (.t 10)), none⟩])
          (.cond (.t 11)
           .skip
           (.exit 0)))
         (.seq
          (.block 1
           (.seq
            (.region [⟨(some 5), (.mov (.c (.slice none 0 0))), none⟩])
            (.seq
             (.seq
              (.region [⟨(some 6), (.mov (.c (.int .i64 0))), none⟩])
              (.block 2
               (.loop
                (.seq
                 (.seq
                  (.region [⟨(some 14), (.mov (.t 6)), none⟩, ⟨(some 15), (.fa 8 (.t 1)), none⟩, ⟨(some 16), (.ld false 1 (.t 15)), none⟩, ⟨(some 17), (.mov (.t 4)), none⟩, ⟨(some 18), (.isl 1 (.t 16) (.t 17)), none⟩, ⟨(some 19), (.ld false 1 (.t 18)), none⟩, ⟨(some 20), (.len (.t 19)), none⟩, ⟨(some 21), (.bin .lss (.t 14) (.t 20)), none⟩])
                  (.cond (.t 21)
                   .skip
                   (.exit 2)))
                 (.seq
                  (.block 3
                   (.region [⟨(some 24), (.mov (.t 5)), none⟩, ⟨(some 25), (.fa 8 (.t 1)), none⟩, ⟨(some 26), (.ld false 1 (.t 25)), none⟩, ⟨(some 27), (.mov (.t 4)), none⟩, ⟨(some 28), (.isl 1 (.t 26) (.t 27)), none⟩, ⟨(some 29), (.ld false 1 (.t 28)), none⟩, ⟨(some 30), (.mov (.t 6)), none⟩, ⟨(some 31), (.isl 3 (.t 29) (.t 30)), none⟩, ⟨(some 32), (.fa 1 (.t 31)), none⟩, ⟨(some 33), (.fa 1 (.t 32)), none⟩, ⟨(some 34), (.ld false 1 (.t 33)), none⟩, ⟨(some 35), (.bsl 1 [(.int .i64 0)] [(0, 1, (.t 34))]), none⟩, ⟨(some 36), (.app 1 8 (.t 24) (.t 35)), none⟩, ⟨(some 5), (.mov (.t 36)), none⟩]))
                  (.region [⟨(some 22), (.mov (.t 6)), none⟩, ⟨(some 23), (.bin .add (.t 22) (.c (.int .i64 1))), none⟩, ⟨(some 6), (.mov (.t 23)), none⟩]))))))
             (.region [⟨(some 37), (.mov (.t 3)), none⟩, ⟨(some 38), (.mov (.t 5)), none⟩, ⟨(some 39), (.bsl 1 [(.slice none 0 0)] [(0, 1, (.t 38))]), none⟩, ⟨(some 40), (.app 1 24 (.t 37) (.t 39)), none⟩, ⟨(some 3), (.mov (.t 40)), none⟩]))))
          (.region [⟨(some 12), (.mov (.t 4)), none⟩, ⟨(some 13), (.bin .add (.t 12) (.c (.int .i64 1))), none⟩, ⟨(some 4), (.mov (.t 13)), none⟩]))))))
     (.seq
      (.region [⟨(some 41), (.mov (.t 3)), none⟩, ⟨(some 2), (.mov (.t 41)), none⟩])
      .ret))))
def r65 : List AOp := [(.mov (.t 2))]
theorem ok65 : FnOk Tryd.prog 65 Tryd.f65.ntmps a65 r65 := ⟨Tryd.f65, Tryd.func65, by kernel_rfl, by kernel_rfl, by kernel_rfl, fun asv w => by simp⟩

/-- (layover/duty.Day).isTruth -/
def a66 : ACode :=
  (.seq
   (.region [⟨(some 2), (.box (.t 0)), none⟩, ⟨(some 4), (.mov (.c (.bool false))), none⟩])
   (.seq
    (.seq
     (.region [⟨(some 7), (.mov (.t 1)), none⟩, ⟨(some 8), (.len (.t 7)), none⟩, ⟨(some 9), (.fa 8 (.t 2)), none⟩, ⟨(some 10), (.ld false 1 (.t 9)), none⟩, ⟨(some 11), (.len (.t 10)), none⟩, ⟨(some 12), (.bin .neq (.t 8) (.t 11)), none⟩])
     (.cond (.t 12)
      (.seq
       (.region [⟨(some 4), (.mov (.c (.bool false))), none⟩])
       .ret)
      .skip))
    (.seq
     (.seq
      (.region [⟨(some 13), (.fa 8 (.t 2)), none⟩, ⟨(some 14), (.ld false 1 (.t 13)), none⟩, ⟨(some 15), (.len (.t 14)), none⟩, ⟨(some 16), (.mov (.c (.int .i64 0))), none⟩])
      (.block 0
       (.loop
        (.seq
         (.region [⟨(some 17), (.bin .lss (.t 16) (.t 15)), none⟩])
         (.seq
          (.cond (.t 17)
           .skip
           (.exit 0))
          (.seq
           (.block 1
            (.seq
             (.region [⟨(some 18), (.mov (.t 16)), none⟩, ⟨(some 19), (.isl 1 (.t 14) (.t 16)), none⟩, ⟨(some 20), (.ld false 1 (.t 19)), none⟩, ⟨(some 5), (.mov (.t 18)), none⟩, ⟨(some 6), (.mov (.t 20)), none⟩])
             (.seq
              (.region [⟨(some 21), (.mov (.t 6)), none⟩, ⟨(some 22), (.mov (.t 1)), none⟩, ⟨(some 23), (.mov (.t 5)), none⟩, ⟨(some 24), (.isl 1 (.t 22) (.t 23)), none⟩, ⟨(some 25), (.ld false 1 (.t 24)), none⟩, ⟨(some 26), (.call (.c (.func (.func 92) #[] #[])) [(.t 21), (.t 25)]), none⟩, ⟨(some 27), (.not (.t 26)), none⟩])
              (.cond (.t 27)
               (.seq
                (.region [⟨(some 4), (.mov (.c (.bool false))), none⟩])
                .ret)
               .skip))))
           (.region [⟨(some 28), (.bin .add (.t 16) (.c (.int .i64 1))), none⟩, ⟨(some 16), (.mov (.t 28)), none⟩])))))))
     (.seq
      (.region [⟨(some 4), (.mov (.c (.bool true))), none⟩])
      .ret))))
def r66 : List AOp := [(.mov (.t 4))]
theorem ok66 : FnOk Tryd.prog 66 Tryd.f66.ntmps a66 r66 := ⟨Tryd.f66, Tryd.func66, by kernel_rfl, by kernel_rfl, by kernel_rfl, fun asv w => by simp⟩

/-- (layover/duty.planned).in -/
def a67 : ACode :=
  (.seq
   (.region [⟨(some 2), (.box (.t 0)), none⟩, ⟨(some 4), (.new [(.int .i64 0), (.int .i64 0), (.int .i64 0), (.int .i64 0), (.int .i64 0), (.int .i64 0), (.int .i64 0), (.int .i64 0), (.slice none 0 0), (.slice none 0 0), (.slice none 0 0), (.slice none 0 0), (.slice none 0 0)]), none⟩])
   (.seq
    (.region [⟨(some 10), (.fa 11 (.t 2)), none⟩, ⟨none, (.st 1 (.t 10) (.c (.slice none 0 0))), none⟩])
    (.seq
     (.seq
      (.region [⟨(some 11), (.mov (.t 1)), none⟩, ⟨(some 12), (.len (.t 11)), none⟩, ⟨(some 13), (.mov (.c (.int .i64 0))), none⟩])
      (.block 0
       (.loop
        (.seq
         (.region [⟨(some 14), (.bin .lss (.t 13) (.t 12)), none⟩])
         (.seq
          (.cond (.t 14)
           .skip
           (.exit 0))
          (.seq
           (.block 1
            (.seq
             (.region [⟨(some 15), (.isl 1 (.t 11) (.t 13)), none⟩, ⟨(some 16), (.ld false 1 (.t 15)), none⟩, ⟨(some 6), (.mov (.t 16)), none⟩])
             (.seq
              (.region [⟨(some 7), (.mov (.c (.slice none 0 0))), none⟩])
              (.seq
               (.seq
                (.region [⟨(some 17), (.mov (.t 6)), none⟩, ⟨(some 18), (.len (.t 17)), none⟩, ⟨(some 19), (.mov (.c (.int .i64 0))), none⟩])
                (.block 2
                 (.loop
                  (.seq
                   (.region [⟨(some 20), (.bin .lss (.t 19) (.t 18)), none⟩])
                   (.seq
                    (.cond (.t 20)
                     .skip
                     (.exit 2))
                    (.seq
                     (.block 3
                      (.seq
                       (.region [⟨(some 21), (.isl 1 (.t 17) (.t 19)), none⟩, ⟨(some 22), (.ld false 1 (.t 21)), none⟩, ⟨(some 9), (.mov (.t 22)), none⟩])
                       (.region [⟨(some 23), (.mov (.t 7)), none⟩, ⟨(some 24), (.mov (.t 9)), none⟩, ⟨(some 25), (.mov (.t 9)), none⟩, ⟨(some 26), (.bld [(.int .i64 0), (.int .i64 0)] [(0, 1, (.t 24)), (1, 1, (.t 25))]), none⟩, ⟨(some 27), (.bsl 1 [(.int .i64 0), (.int .i64 0)] [(0, 2, (.t 26))]), none⟩, ⟨(some 28), (.app 2 16 (.t 23) (.t 27)), none⟩, ⟨(some 7), (.mov (.t 28)), none⟩])))
                     (.region [⟨(some 29), (.bin .add (.t 19) (.c (.int .i64 1))), none⟩, ⟨(some 19), (.mov (.t 29)), none⟩])))))))
               (.region [⟨(some 30), (.fa 11 (.t 2)), none⟩, ⟨(some 31), (.ld false 1 (.t 30)), none⟩, ⟨(some 32), (.mov (.t 7)), none⟩, ⟨(some 33), (.bsl 1 [(.slice none 0 0)] [(0, 1, (.t 32))]), none⟩, ⟨(some 34), (.app 1 24 (.t 31) (.t 33)), none⟩, ⟨(some 35), (.fa 11 (.t 2)), none⟩, ⟨none, (.st 1 (.t 35) (.t 34)), none⟩])))))
           (.region [⟨(some 36), (.bin .add (.t 13) (.c (.int .i64 1))), none⟩, ⟨(some 13), (.mov (.t 36)), none⟩])))))))
     (.seq
      (.region [⟨(some 37), (.ld true 13 (.t 2)), none⟩, ⟨none, (.st 13 (.t 4) (.t 37)), none⟩])
      .ret))))
def r67 : List AOp := [(.ld true 13 (.t 4))]
theorem ok67 : FnOk Tryd.prog 67 Tryd.f67.ntmps a67 r67 := ⟨Tryd.f67, Tryd.func67, by kernel_rfl, by kernel_rfl, by kernel_rfl, fun asv w => by simp⟩

/-- (layover/duty.planned).work -/
def a68 : ACode :=
  (.seq
   (.region [⟨(some 2), (.box (.t 0)), none⟩, ⟨(some 4), (.new [(.int .i64 0), (.int .i64 0), (.slice none 0 0), (.bool false)]), none⟩])
   (.seq
    (.region [⟨(some 6), (.ld true 13 (.t 2)), none⟩, ⟨(some 7), (.mov (.t 1)), none⟩, ⟨(some 8), (.call (.c (.func (.func 93) #[] #[])) [(.t 6), (.t 7)]), none⟩, ⟨(some 5), (.new [(.int .i64 0), (.int .i64 0), (.slice none 0 0), (.bool false), (.slice none 0 0), (.slice none 0 0)]), none⟩, ⟨none, (.st 6 (.t 5) (.t 8)), none⟩])
    (.seq
     (.region [⟨(some 9), (.fa 12 (.t 2)), none⟩, ⟨(some 10), (.ld false 1 (.t 9)), none⟩, ⟨(some 11), (.fn (.func 95) [] [(.t 2), (.t 5)]), none⟩, ⟨(some 12), (.call (.c (.func (.func 94) #[] #[])) [(.t 10), (.t 11)]), none⟩, ⟨(some 13), (.fa 0 (.t 5)), none⟩, ⟨(some 14), (.fa 3 (.t 13)), none⟩, ⟨none, (.st 1 (.t 14) (.t 12)), none⟩])
     (.seq
      (.region [⟨(some 15), (.fa 0 (.t 5)), none⟩, ⟨(some 16), (.ld true 4 (.t 15)), none⟩, ⟨none, (.st 4 (.t 4) (.t 16)), none⟩])
      .ret))))
def r68 : List AOp := [(.ld true 4 (.t 4))]
theorem ok68 : FnOk Tryd.prog 68 Tryd.f68.ntmps a68 r68 := ⟨Tryd.f68, Tryd.func68, by kernel_rfl, by kernel_rfl, by kernel_rfl, fun asv w => by simp⟩

/-- layover/layoverref02.Lo -/
def a69 : ACode :=
  (.seq
   (.region [⟨(some 3), (.box (.t 0)), none⟩, ⟨(some 6), (.mov (.c (.int .i64 0))), none⟩])
   (.seq
    (.region [⟨(some 7), (.fa 8 (.t 3)), none⟩, ⟨(some 8), (.ld false 1 (.t 7)), none⟩, ⟨(some 9), (.mov (.t 1)), none⟩, ⟨(some 10), (.isl 1 (.t 8) (.t 9)), none⟩, ⟨(some 11), (.ld false 1 (.t 10)), none⟩, ⟨(some 12), (.mov (.t 2)), none⟩, ⟨(some 13), (.isl 3 (.t 11) (.t 12)), none⟩, ⟨(some 14), (.fa 1 (.t 13)), none⟩, ⟨(some 15), (.fa 0 (.t 14)), none⟩, ⟨(some 16), (.ld false 1 (.t 15)), none⟩, ⟨(some 6), (.mov (.t 16)), none⟩])
    .ret))
def r69 : List AOp := [(.mov (.t 6))]
theorem ok69 : FnOk Tryd.prog 69 Tryd.f69.ntmps a69 r69 := ⟨Tryd.f69, Tryd.func69, by kernel_rfl, by kernel_rfl, by kernel_rfl, fun asv w => by simp⟩

/-- layover/layoverref02.Before -/
def a70 : ACode :=
  (.seq
   (.region [⟨(some 3), (.box (.t 0)), none⟩, ⟨(some 4), (.box (.t 1)), none⟩, ⟨(some 5), (.box (.t 2)), none⟩, ⟨(some 6), (.mov (.c (.bool false))), none⟩])
   (.seq
    (.seq
     (.draw 14 [⟨⟨(some 9), (.ld true 10 (.t 3)), none⟩, 0, false, []⟩, ⟨⟨(some 10), (.fa 0 (.t 4)), none⟩, 1, false, []⟩, ⟨⟨(some 11), (.ld false 1 (.t 10)), none⟩, 2, false, []⟩, ⟨⟨(some 12), (.fa 1 (.t 4)), none⟩, 3, false, []⟩, ⟨⟨(some 13), (.ld false 1 (.t 12)), none⟩, 4, false, []⟩, ⟨⟨(some 15), (.ld true 10 (.t 3)), none⟩, 6, false, []⟩, ⟨⟨(some 16), (.fa 0 (.t 5)), none⟩, 7, false, []⟩, ⟨⟨(some 17), (.ld false 1 (.t 16)), none⟩, 8, false, []⟩, ⟨⟨(some 18), (.fa 1 (.t 5)), none⟩, 9, false, []⟩, ⟨⟨(some 19), (.ld false 1 (.t 18)), none⟩, 10, false, []⟩, ⟨⟨(some 14), (.call (.c (.func (.func 69) #[] #[])) [(.t 9), (.t 11), (.t 13)]), none⟩, 5, true, [10, 8, 6]⟩, ⟨⟨(some 20), (.call (.c (.func (.func 69) #[] #[])) [(.t 15), (.t 17), (.t 19)]), none⟩, 11, true, []⟩, ⟨⟨(some 7), (.mov (.t 14)), none⟩, 12, false, []⟩, ⟨⟨(some 8), (.mov (.t 20)), none⟩, 13, false, []⟩])
     (.seq
      (.region [⟨(some 21), (.mov (.t 7)), none⟩, ⟨(some 22), (.mov (.t 8)), none⟩, ⟨(some 23), (.bin .neq (.t 21) (.t 22)), none⟩])
      (.cond (.t 23)
       (.seq
        (.region [⟨(some 24), (.mov (.t 7)), none⟩, ⟨(some 25), (.mov (.t 8)), none⟩, ⟨(some 26), (.bin .lss (.t 24) (.t 25)), none⟩, ⟨(some 6), (.mov (.t 26)), none⟩])
        .ret)
       .skip)))
    (.seq
     (.region [⟨(some 27), (.fa 3 (.t 4)), none⟩, ⟨(some 28), (.ld false 1 (.t 27)), none⟩, ⟨(some 29), (.fa 3 (.t 5)), none⟩, ⟨(some 30), (.ld false 1 (.t 29)), none⟩, ⟨(some 31), (.bin .lss (.t 28) (.t 30)), none⟩, ⟨(some 6), (.mov (.t 31)), none⟩])
     .ret)))
def r70 : List AOp := [(.mov (.t 6))]
theorem ok70 : FnOk Tryd.prog 70 Tryd.f70.ntmps a70 r70 := ⟨Tryd.f70, Tryd.func70, by kernel_rfl, by kernel_rfl, by kernel_rfl, fun asv w => by simp⟩

/-- layover/duty.newPlanned -/
def a71 : ACode :=
  (.seq
   (.region [⟨(some 1), (.box (.t 0)), none⟩, ⟨(some 2), (.new [(.int .i64 0), (.int .i64 0), (.int .i64 0), (.int .i64 0), (.int .i64 0), (.int .i64 0), (.int .i64 0), (.int .i64 0), (.slice none 0 0), (.slice none 0 0), (.slice none 0 0), (.slice none 0 0), (.slice none 0 0)]), none⟩])
   (.seq
    (.draw 5 [⟨⟨(some 10), (.ld true 10 (.t 1)), none⟩, 0, false, []⟩, ⟨⟨(some 3), (.new [(.int .i64 0), (.int .i64 0), (.int .i64 0), (.int .i64 0), (.int .i64 0), (.int .i64 0), (.int .i64 0), (.int .i64 0), (.slice none 0 0), (.slice none 0 0), (.slice none 0 0), (.slice none 0 0), (.slice none 0 0)]), none⟩, 3, false, []⟩, ⟨⟨(some 11), (.call (.c (.func (.func 96) #[] #[])) []), none⟩, 1, true, [0]⟩, ⟨⟨(some 12), (.bld [(.int .i64 0), (.int .i64 0), (.int .i64 0), (.int .i64 0), (.int .i64 0), (.int .i64 0), (.int .i64 0), (.int .i64 0), (.slice none 0 0), (.slice none 0 0), (.slice none 0 0), (.slice none 0 0), (.slice none 0 0)] [(0, 10, (.t 10)), (12, 1, (.t 11))]), none⟩, 2, false, []⟩, ⟨⟨none, (.st 13 (.t 3) (.t 12)), none⟩, 4, true, []⟩])
    (.seq
     (.seq
      (.region [⟨(some 13), (.fa 8 (.t 1)), none⟩, ⟨(some 14), (.ld false 1 (.t 13)), none⟩, ⟨(some 15), (.len (.t 14)), none⟩, ⟨(some 16), (.mov (.c (.int .i64 0))), none⟩])
      (.block 0
       (.loop
        (.seq
         (.region [⟨(some 17), (.bin .lss (.t 16) (.t 15)), none⟩])
         (.seq
          (.cond (.t 17)
           .skip
           (.exit 0))
          (.seq
           (.block 1
            (.seq
             (.region [⟨(some 18), (.mov (.t 16)), none⟩, ⟨(some 19), (.isl 1 (.t 14) (.t 16)), none⟩, ⟨(some 20), (.ld false 1 (.t 19)), none⟩, ⟨(some 4), (.mov (.t 18)), none⟩, ⟨(some 5), (.mov (.t 20)), none⟩])
             (.seq
              (.region [⟨(some 6), (.mov (.c (.slice none 0 0))), none⟩])
              (.seq
               (.seq
                (.region [⟨(some 21), (.mov (.t 5)), none⟩, ⟨(some 22), (.len (.t 21)), none⟩, ⟨(some 23), (.mov (.c (.int .i64 0))), none⟩])
                (.block 2
                 (.loop
                  (.seq
                   (.region [⟨(some 24), (.bin .lss (.t 23) (.t 22)), none⟩])
                   (.seq
                    (.cond (.t 24)
                     .skip
                     (.exit 2))
                    (.seq
                     (.block 3
                      (.seq
                       (.region [⟨(some 25), (.mov (.t 23)), none⟩, ⟨(some 26), (.isl 3 (.t 21) (.t 23)), none⟩, ⟨(some 27), (.ld true 3 (.t 26)), none⟩, ⟨(some 8), (.new [(.int .i64 0), (.int .i64 0), (.int .i64 0)]), none⟩, ⟨(some 7), (.mov (.t 25)), none⟩, ⟨none, (.st 3 (.t 8) (.t 27)), none⟩])
                       (.seq
                        (.region [⟨(some 28), (.mov (.t 6)), none⟩, ⟨(some 29), (.fa 1 (.t 8)), none⟩, ⟨(some 30), (.fa 0 (.t 29)), none⟩, ⟨(some 31), (.ld false 1 (.t 30)), none⟩, ⟨(some 32), (.fa 1 (.t 8)), none⟩, ⟨(some 33), (.fa 1 (.t 32)), none⟩, ⟨(some 34), (.ld false 1 (.t 33)), none⟩, ⟨(some 35), (.bld [(.int .i64 0), (.int .i64 0)] [(0, 1, (.t 31)), (1, 1, (.t 34))]), none⟩, ⟨(some 36), (.bsl 1 [(.int .i64 0), (.int .i64 0)] [(0, 2, (.t 35))]), none⟩, ⟨(some 37), (.app 2 16 (.t 28) (.t 36)), none⟩, ⟨(some 6), (.mov (.t 37)), none⟩])
                        (.seq
                         (.region [⟨(some 38), (.mov (.t 7)), none⟩, ⟨(some 39), (.bin .gtr (.t 38) (.c (.int .i64 0))), none⟩])
                         (.cond (.t 39)
                          (.seq
                           (.region [⟨(some 40), (.fa 10 (.t 3)), none⟩, ⟨(some 41), (.ld false 1 (.t 40)), none⟩, ⟨(some 42), (.len (.t 41)), none⟩, ⟨(some 43), (.call (.c (.func (.func 97) #[] #[])) [(.t 42)]), none⟩, ⟨(some 44), (.mov (.t 4)), none⟩, ⟨(some 45), (.mov (.t 7)), none⟩, ⟨(some 46), (.bin .sub (.t 45) (.c (.int .i64 1))), none⟩, ⟨(some 47), (.bld [(.int .i64 0), (.int .i64 0)] [(0, 1, (.t 44)), (1, 1, (.t 46))]), none⟩, ⟨(some 48), (.mov (.t 4)), none⟩, ⟨(some 49), (.mov (.t 7)), none⟩, ⟨(some 50), (.bld [(.int .i64 0), (.int .i64 0)] [(0, 1, (.t 48)), (1, 1, (.t 49))]), none⟩, ⟨(some 51), (.bld [(.int .u64 0), (.int .i64 0), (.int .i64 0), (.int .i64 0), (.int .i64 0)] [(0, 1, (.t 43)), (1, 2, (.t 47)), (3, 2, (.t 50))]), none⟩, ⟨(some 9), (.new [(.int .u64 0), (.int .i64 0), (.int .i64 0), (.int .i64 0), (.int .i64 0)]), none⟩, ⟨none, (.st 5 (.t 9) (.t 51)), none⟩])
                           (.region [⟨(some 52), (.fa 10 (.t 3)), none⟩, ⟨(some 53), (.ld false 1 (.t 52)), none⟩, ⟨(some 54), (.ld true 5 (.t 9)), none⟩, ⟨(some 55), (.bsl 1 [(.int .u64 0), (.int .i64 0), (.int .i64 0), (.int .i64 0), (.int .i64 0)] [(0, 5, (.t 54))]), none⟩, ⟨(some 56), (.app 5 40 (.t 53) (.t 55)), none⟩, ⟨(some 57), (.fa 10 (.t 3)), none⟩, ⟨none, (.st 1 (.t 57) (.t 56)), none⟩]))
                          .skip)))))
                     (.region [⟨(some 58), (.bin .add (.t 23) (.c (.int .i64 1))), none⟩, ⟨(some 23), (.mov (.t 58)), none⟩])))))))
               (.region [⟨(some 59), (.fa 11 (.t 3)), none⟩, ⟨(some 60), (.ld false 1 (.t 59)), none⟩, ⟨(some 61), (.mov (.t 6)), none⟩, ⟨(some 62), (.bsl 1 [(.slice none 0 0)] [(0, 1, (.t 61))]), none⟩, ⟨(some 63), (.app 1 24 (.t 60) (.t 62)), none⟩, ⟨(some 64), (.fa 11 (.t 3)), none⟩, ⟨none, (.st 1 (.t 64) (.t 63)), none⟩])))))
           (.region [⟨(some 65), (.bin .add (.t 16) (.c (.int .i64 1))), none⟩, ⟨(some 16), (.mov (.t 65)), none⟩])))))))
     (.seq
      (.region [⟨(some 66), (.ld true 13 (.t 3)), none⟩, ⟨none, (.st 13 (.t 2) (.t 66)), none⟩])
      .ret))))
def r71 : List AOp := [(.ld true 13 (.t 2))]
theorem ok71 : FnOk Tryd.prog 71 Tryd.f71.ntmps a71 r71 := ⟨Tryd.f71, Tryd.func71, by kernel_rfl, by kernel_rfl, by kernel_rfl, fun asv w => by simp⟩

/-- (layover/duty.planned).barred -/
def a72 : ACode :=
  (.seq
   (.region [⟨(some 1), (.box (.t 0)), none⟩, ⟨(some 2), (.mov (.c (.int .u64 0))), none⟩])
   (.seq
    (.region [⟨(some 6), (.ld true 13 (.t 1)), none⟩, ⟨(some 7), (.call (.c (.func (.func 98) #[] #[])) [(.t 6)]), none⟩, ⟨(some 3), (.mov (.t 7)), none⟩])
    (.seq
     (.seq
      (.region [⟨(some 8), (.ld true 13 (.t 1)), none⟩, ⟨(some 9), (.call (.c (.func (.func 99) #[] #[])) [(.t 8)]), none⟩, ⟨(some 10), (.len (.t 9)), none⟩, ⟨(some 11), (.mov (.c (.int .i64 0))), none⟩])
      (.block 0
       (.loop
        (.seq
         (.region [⟨(some 12), (.bin .lss (.t 11) (.t 10)), none⟩])
         (.seq
          (.cond (.t 12)
           .skip
           (.exit 0))
          (.seq
           (.block 1
            (.seq
             (.region [⟨(some 13), (.isl 1 (.t 9) (.t 11)), none⟩, ⟨(some 14), (.ld false 1 (.t 13)), none⟩, ⟨(some 5), (.mov (.t 14)), none⟩])
             (.region [⟨(some 15), (.mov (.t 3)), none⟩, ⟨(some 16), (.mov (.t 5)), none⟩, ⟨(some 17), (.gen 20 ⟨(some 17), (.binOp .andNot 102 (.tmp 15) (.tmp 16) 102), 102, "plan.go:95", #[{ on := 0, ground := Go.Ground.data }, { on := 1, ground := Go.Ground.data }], none⟩), none⟩, ⟨(some 3), (.mov (.t 17)), none⟩])))
           (.region [⟨(some 18), (.bin .add (.t 11) (.c (.int .i64 1))), none⟩, ⟨(some 11), (.mov (.t 18)), none⟩])))))))
     (.seq
      (.region [⟨(some 19), (.mov (.t 3)), none⟩, ⟨(some 2), (.mov (.t 19)), none⟩])
      .ret))))
def r72 : List AOp := [(.mov (.t 2))]
theorem ok72 : FnOk Tryd.prog 72 Tryd.f72.ntmps a72 r72 := ⟨Tryd.f72, Tryd.func72, by kernel_rfl, by kernel_rfl, by kernel_rfl, fun asv w => by simp⟩

/-- (layover/duty.set).list -/
def a73 : ACode :=
  (.seq
   (.region [⟨(some 2), (.mov (.c (.slice none 0 0))), none⟩])
   (.seq
    (.region [⟨(some 5), (.bsl 0 [] []), none⟩, ⟨(some 3), (.mov (.t 5)), none⟩])
    (.seq
     (.seq
      (.region [⟨(some 6), (.mov (.t 0)), none⟩, ⟨(some 4), (.mov (.t 6)), none⟩])
      (.block 0
       (.loop
        (.seq
         (.seq
          (.region [⟨(some 7), (.mov (.t 4)), none⟩, ⟨(some 8), (.bin .neq (.t 7) (.c (.int .u64 0))), none⟩])
          (.cond (.t 8)
           .skip
           (.exit 0)))
         (.seq
          (.block 1
           (.region [⟨(some 13), (.mov (.t 3)), none⟩, ⟨(some 14), (.mov (.t 4)), none⟩, ⟨(some 15), (.call (.c (.func (.func 101) #[] #[])) [(.t 14)]), none⟩, ⟨(some 16), (.bsl 1 [(.int .i64 0)] [(0, 1, (.t 15))]), none⟩, ⟨(some 17), (.app 1 8 (.t 13) (.t 16)), none⟩, ⟨(some 3), (.mov (.t 17)), none⟩]))
          (.region [⟨(some 9), (.mov (.t 4)), none⟩, ⟨(some 10), (.mov (.t 4)), none⟩, ⟨(some 11), (.call (.c (.func (.func 100) #[] #[])) [(.t 10)]), none⟩, ⟨(some 12), (.gen 19 ⟨(some 12), (.binOp .andNot 102 (.tmp 9) (.tmp 11) 102), 102, "piece.go:21", #[{ on := 0, ground := Go.Ground.data }, { on := 2, ground := Go.Ground.data }], none⟩), none⟩, ⟨(some 4), (.mov (.t 12)), none⟩]))))))
     (.seq
      (.region [⟨(some 18), (.mov (.t 3)), none⟩, ⟨(some 2), (.mov (.t 18)), none⟩])
      .ret))))
def r73 : List AOp := [(.mov (.t 2))]
theorem ok73 : FnOk Tryd.prog 73 Tryd.f73.ntmps a73 r73 := ⟨Tryd.f73, Tryd.func73, by kernel_rfl, by kernel_rfl, by kernel_rfl, fun asv w => by simp⟩

/-- layover/layoverref02.Duties -/
def a74 : ACode :=
  (.seq
   (.region [⟨(some 1), (.box (.t 0)), none⟩, ⟨(some 2), (.mov (.c (.slice none 0 0))), none⟩])
   (.seq
    (.region [⟨(some 3), (.mov (.c (.slice none 0 0))), none⟩])
    (.seq
     (.region [⟨(some 8), (.ld true 10 (.t 1)), none⟩, ⟨(some 9), (.call (.c (.func (.func 37) #[] #[])) [(.t 8)]), none⟩, ⟨(some 4), (.mov (.t 9)), none⟩])
     (.seq
      (.seq
       (.region [⟨(some 5), (.mov (.c (.int .i64 1))), none⟩])
       (.block 0
        (.loop
         (.seq
          (.seq
           (.region [⟨(some 10), (.mov (.t 5)), none⟩, ⟨(some 11), (.mov (.t 4)), none⟩, ⟨(some 12), (.cvi .u64 (.t 11)), none⟩, ⟨(some 13), (.gen 37 ⟨(some 13), (.binOp .shl 3 (.const (.int .i64 1)) (.tmp 12) 76), 3, "ref.go:230", #[{ on := 2, ground := Go.Ground.data }], none⟩), none⟩, ⟨(some 14), (.bin .lss (.t 10) (.t 13)), none⟩])
           (.cond (.t 14)
            .skip
            (.exit 0)))
          (.seq
           (.block 1
            (.seq
             (.region [⟨(some 6), (.mov (.c (.slice none 0 0))), none⟩])
             (.seq
              (.seq
               (.region [⟨(some 7), (.mov (.c (.int .i64 0))), none⟩])
               (.block 2
                (.loop
                 (.seq
                  (.seq
                   (.region [⟨(some 17), (.mov (.t 7)), none⟩, ⟨(some 18), (.mov (.t 4)), none⟩, ⟨(some 19), (.bin .lss (.t 17) (.t 18)), none⟩])
                   (.cond (.t 19)
                    .skip
                    (.exit 2)))
                  (.seq
                   (.block 3
                    (.seq
                     (.region [⟨(some 22), (.mov (.t 5)), none⟩, ⟨(some 23), (.mov (.t 7)), none⟩, ⟨(some 24), (.cvi .u64 (.t 23)), none⟩, ⟨(some 25), (.gen 37 ⟨(some 25), (.binOp .shr 3 (.tmp 22) (.tmp 24) 76), 3, "ref.go:233", #[{ on := 0, ground := Go.Ground.data }, { on := 2, ground := Go.Ground.data }], none⟩), none⟩, ⟨(some 26), (.bin .rem (.t 25) (.c (.int .i64 2))), none⟩, ⟨(some 27), (.bin .eql (.t 26) (.c (.int .i64 1))), none⟩])
                     (.cond (.t 27)
                      (.region [⟨(some 28), (.mov (.t 6)), none⟩, ⟨(some 29), (.mov (.t 7)), none⟩, ⟨(some 30), (.bsl 1 [(.int .i64 0)] [(0, 1, (.t 29))]), none⟩, ⟨(some 31), (.app 1 8 (.t 28) (.t 30)), none⟩, ⟨(some 6), (.mov (.t 31)), none⟩])
                      .skip)))
                   (.region [⟨(some 20), (.mov (.t 7)), none⟩, ⟨(some 21), (.bin .add (.t 20) (.c (.int .i64 1))), none⟩, ⟨(some 7), (.mov (.t 21)), none⟩]))))))
              (.region [⟨(some 32), (.mov (.t 3)), none⟩, ⟨(some 33), (.mov (.t 6)), none⟩, ⟨(some 34), (.bsl 1 [(.slice none 0 0)] [(0, 1, (.t 33))]), none⟩, ⟨(some 35), (.app 1 24 (.t 32) (.t 34)), none⟩, ⟨(some 3), (.mov (.t 35)), none⟩]))))
           (.region [⟨(some 15), (.mov (.t 5)), none⟩, ⟨(some 16), (.bin .add (.t 15) (.c (.int .i64 1))), none⟩, ⟨(some 5), (.mov (.t 16)), none⟩]))))))
      (.seq
       (.region [⟨(some 36), (.mov (.t 3)), none⟩, ⟨(some 2), (.mov (.t 36)), none⟩])
       .ret)))))
def r74 : List AOp := [(.mov (.t 2))]
theorem ok74 : FnOk Tryd.prog 74 Tryd.f74.ntmps a74 r74 := ⟨Tryd.f74, Tryd.func74, by kernel_rfl, by kernel_rfl, by kernel_rfl, fun asv w => by simp⟩

/-- layover/duty.every[int] -/
def a75 : ACode :=
  (.seq
   (.region [⟨(some 4), (.mov (.c (.bool false))), none⟩])
   (.seq
    (.seq
     (.region [⟨(some 7), (.mov (.t 0)), none⟩, ⟨(some 8), (.len (.t 7)), none⟩, ⟨(some 9), (.mov (.c (.int .i64 0))), none⟩])
     (.block 0
      (.loop
       (.seq
        (.region [⟨(some 10), (.bin .lss (.t 9) (.t 8)), none⟩])
        (.seq
         (.cond (.t 10)
          .skip
          (.exit 0))
         (.seq
          (.block 1
           (.seq
            (.region [⟨(some 11), (.isl 1 (.t 7) (.t 9)), none⟩, ⟨(some 12), (.ld false 1 (.t 11)), none⟩, ⟨(some 6), (.mov (.t 12)), none⟩])
            (.seq
             (.region [⟨(some 13), (.mov (.t 1)), none⟩, ⟨(some 14), (.mov (.t 6)), none⟩, ⟨(some 15), (.call (.t 13) [(.t 14)]), none⟩, ⟨(some 16), (.not (.t 15)), none⟩])
             (.cond (.t 16)
              (.seq
               (.region [⟨(some 4), (.mov (.c (.bool false))), none⟩])
               .ret)
              .skip))))
          (.region [⟨(some 17), (.bin .add (.t 9) (.c (.int .i64 1))), none⟩, ⟨(some 9), (.mov (.t 17)), none⟩])))))))
    (.seq
     (.region [⟨(some 4), (.mov (.c (.bool true))), none⟩])
     .ret)))
def r75 : List AOp := [(.mov (.t 4))]
theorem ok75 : FnOk Tryd.prog 75 Tryd.f75.ntmps a75 r75 := ⟨Tryd.f75, Tryd.func75, by kernel_rfl, by kernel_rfl, by kernel_rfl, fun asv w => by simp⟩

/-- layover/duty.isValidWeight -/
def a76 : ACode :=
  (.seq
   (.region [⟨(some 2), (.mov (.c (.bool false))), none⟩])
   (.seq
    (.region [⟨(some 3), (.mov (.t 0)), none⟩, ⟨(some 4), (.call (.c (.func (.func 86) #[] #[])) [(.t 3), (.c (.int .i64 0)), (.c (.int .i64 1000000))]), none⟩, ⟨(some 2), (.mov (.t 4)), none⟩])
    .ret))
def r76 : List AOp := [(.mov (.t 2))]
theorem ok76 : FnOk Tryd.prog 76 Tryd.f76.ntmps a76 r76 := ⟨Tryd.f76, Tryd.func76, by kernel_rfl, by kernel_rfl, by kernel_rfl, fun asv w => by simp⟩

/-- (layover/duty.planned).isFair -/
def a77 : ACode :=
  (.seq
   (.region [⟨(some 2), (.box (.t 0)), none⟩, ⟨(some 3), (.box (.t 1)), none⟩, ⟨(some 4), (.mov (.c (.bool false))), none⟩])
   (.seq
    (.region [⟨(some 5), (.ld true 13 (.t 2)), none⟩, ⟨(some 6), (.call (.c (.func (.func 99) #[] #[])) [(.t 5)]), none⟩, ⟨(some 7), (.fn (.func 103) [] [(.t 3)]), none⟩, ⟨(some 8), (.call (.c (.func (.func 102) #[] #[])) [(.t 6), (.t 7)]), none⟩, ⟨(some 4), (.mov (.t 8)), none⟩])
    .ret))
def r77 : List AOp := [(.mov (.t 4))]
theorem ok77 : FnOk Tryd.prog 77 Tryd.f77.ntmps a77 r77 := ⟨Tryd.f77, Tryd.func77, by kernel_rfl, by kernel_rfl, by kernel_rfl, fun asv w => by simp⟩

/-- layover/duty.bound -/
def a78 : ACode :=
  (.seq
   (.region [⟨(some 2), (.mov (.c (.int .i64 0))), none⟩])
   (.seq
    (.region [⟨(some 3), (.mov (.c (.int .i64 0))), none⟩])
    (.seq
     (.seq
      (.region [⟨(some 6), (.mov (.t 0)), none⟩, ⟨(some 7), (.len (.t 6)), none⟩, ⟨(some 8), (.mov (.c (.int .i64 0))), none⟩])
      (.block 0
       (.loop
        (.seq
         (.region [⟨(some 9), (.bin .lss (.t 8) (.t 7)), none⟩])
         (.seq
          (.cond (.t 9)
           .skip
           (.exit 0))
          (.seq
           (.block 1
            (.seq
             (.region [⟨(some 10), (.isl 1 (.t 6) (.t 8)), none⟩, ⟨(some 11), (.ld false 1 (.t 10)), none⟩, ⟨(some 5), (.mov (.t 11)), none⟩])
             (.region [⟨(some 12), (.mov (.t 3)), none⟩, ⟨(some 13), (.mov (.t 5)), none⟩, ⟨(some 14), (.bin .add (.t 12) (.t 13)), none⟩, ⟨(some 3), (.mov (.t 14)), none⟩])))
           (.region [⟨(some 15), (.bin .add (.t 8) (.c (.int .i64 1))), none⟩, ⟨(some 8), (.mov (.t 15)), none⟩])))))))
     (.seq
      (.region [⟨(some 16), (.mov (.t 3)), none⟩, ⟨(some 17), (.bin .add (.t 16) (.c (.int .i64 1000))), none⟩, ⟨(some 18), (.bin .sub (.t 17) (.c (.int .i64 1))), none⟩, ⟨(some 19), (.bin .quo (.t 18) (.c (.int .i64 1000))), none⟩, ⟨(some 2), (.mov (.t 19)), none⟩])
      .ret))))
def r78 : List AOp := [(.mov (.t 2))]
theorem ok78 : FnOk Tryd.prog 78 Tryd.f78.ntmps a78 r78 := ⟨Tryd.f78, Tryd.func78, by kernel_rfl, by kernel_rfl, by kernel_rfl, fun asv w => by simp⟩

/-- layover/layoverlaw02.at -/
def a79 : ACode :=
  (.seq
   (.region [⟨(some 6), (.new [(.int .i64 0), (.int .i64 0), (.int .i64 0)]), none⟩])
   (.seq
    (.region [⟨(some 7), (.mov (.t 2)), none⟩, ⟨(some 8), (.mov (.t 0)), none⟩, ⟨(some 9), (.mov (.t 1)), none⟩, ⟨(some 10), (.bld [(.int .i64 0), (.int .i64 0)] [(0, 1, (.t 8)), (1, 1, (.t 9))]), none⟩, ⟨(some 11), (.bld [(.int .i64 0), (.int .i64 0), (.int .i64 0)] [(0, 1, (.t 7)), (1, 2, (.t 10))]), none⟩, ⟨none, (.st 3 (.t 6) (.t 11)), none⟩])
    .ret))
def r79 : List AOp := [(.ld true 3 (.t 6))]
theorem ok79 : FnOk Tryd.prog 79 Tryd.f79.ntmps a79 r79 := ⟨Tryd.f79, Tryd.func79, by kernel_rfl, by kernel_rfl, by kernel_rfl, fun asv w => by simp⟩

/-- (layover/duty.planned).best -/
def a80 : ACode :=
  (.seq
   (.region [⟨(some 1), (.box (.t 0)), none⟩, ⟨(some 2), (.mov (.c (.slice none 0 0))), none⟩, ⟨(some 3), (.mov (.c (.int .i64 0))), none⟩, ⟨(some 4), (.mov (.c (.bool false))), none⟩])
   (.seq
    (.region [⟨(some 12), .mkm, none⟩, ⟨(some 5), (.new [(.map none)]), none⟩, ⟨none, (.st 1 (.t 5) (.t 12)), none⟩])
    (.seq
     (.region [⟨(some 13), .mkm, none⟩, ⟨(some 6), (.new [(.map none)]), none⟩, ⟨none, (.st 1 (.t 6) (.t 13)), none⟩])
     (.seq
      (.seq
       (.region [⟨(some 14), (.ld true 13 (.t 1)), none⟩, ⟨(some 15), (.call (.c (.func (.func 99) #[] #[])) [(.t 14)]), none⟩, ⟨(some 16), (.len (.t 15)), none⟩, ⟨(some 17), (.mov (.c (.int .i64 0))), none⟩])
       (.block 0
        (.loop
         (.seq
          (.region [⟨(some 18), (.bin .lss (.t 17) (.t 16)), none⟩])
          (.seq
           (.cond (.t 18)
            .skip
            (.exit 0))
           (.seq
            (.block 1
             (.seq
              (.region [⟨(some 19), (.isl 1 (.t 15) (.t 17)), none⟩, ⟨(some 20), (.ld false 1 (.t 19)), none⟩, ⟨(some 8), (.mov (.t 20)), none⟩])
              (.seq
               (.draw 6 [⟨⟨(some 21), (.ld false 1 (.t 5)), none⟩, 0, false, []⟩, ⟨⟨(some 22), (.mov (.t 8)), none⟩, 1, false, []⟩, ⟨⟨(some 23), (.ld true 13 (.t 1)), none⟩, 2, false, []⟩, ⟨⟨(some 24), (.mov (.t 8)), none⟩, 3, false, []⟩, ⟨⟨(some 25), (.call (.c (.func (.func 62) #[] #[])) [(.t 23), (.t 24)]), none⟩, 4, true, [0]⟩, ⟨⟨none, (.mup 102 (.t 21) (.t 22) (.t 25)), none⟩, 5, true, []⟩])
               (.draw 11 [⟨⟨(some 26), (.ld false 1 (.t 6)), none⟩, 0, false, []⟩, ⟨⟨(some 27), (.mov (.t 8)), none⟩, 1, false, []⟩, ⟨⟨(some 29), (.ld false 1 (.t 6)), none⟩, 3, false, []⟩, ⟨⟨(some 30), (.mov (.t 8)), none⟩, 4, false, []⟩, ⟨⟨(some 33), (.mov (.t 8)), none⟩, 7, false, []⟩, ⟨⟨(some 34), (.bsl 1 [(.int .u64 0)] [(0, 1, (.t 33))]), none⟩, 8, false, []⟩, ⟨⟨(some 28), (.call (.c (.func (.func 100) #[] #[])) [(.t 27)]), none⟩, 2, true, [3, 0]⟩, ⟨⟨(some 31), (.call (.c (.func (.func 100) #[] #[])) [(.t 30)]), none⟩, 5, true, [3, 0]⟩, ⟨⟨(some 32), (.lk1 102 (.slice none 0 0) (.t 29) (.t 31)), none⟩, 6, false, []⟩, ⟨⟨(some 35), (.app 1 8 (.t 32) (.t 34)), none⟩, 9, true, [0]⟩, ⟨⟨none, (.mup 102 (.t 26) (.t 28) (.t 35)), none⟩, 10, true, []⟩]))))
            (.region [⟨(some 36), (.bin .add (.t 17) (.c (.int .i64 1))), none⟩, ⟨(some 17), (.mov (.t 36)), none⟩])))))))
      (.seq
       (.region [⟨(some 37), .mkm, none⟩, ⟨(some 38), (.bld [(.int .u64 0), (.int .i64 0), (.int .i64 0), (.bool false)] [(3, 1, (.c (.bool true)))]), none⟩, ⟨none, (.mup 102 (.t 37) (.c (.int .u64 0)) (.t 38)), none⟩, ⟨(some 39), (.mov (.t 37)), none⟩, ⟨(some 9), (.new [(.map none)]), none⟩, ⟨none, (.st 1 (.t 9) (.t 39)), none⟩])
       (.seq
        (.region [⟨(some 10), (.new [.nilFunc]), none⟩])
        (.seq
         (.region [⟨(some 40), (.fn (.func 104) [] [(.t 9), (.t 6), (.t 10), (.t 5)]), none⟩, ⟨none, (.st 1 (.t 10) (.t 40)), none⟩])
         (.seq
          (.draw 6 [⟨⟨(some 41), (.ld false 1 (.t 10)), none⟩, 0, false, []⟩, ⟨⟨(some 42), (.ld true 13 (.t 1)), none⟩, 1, false, []⟩, ⟨⟨(some 11), (.new [(.int .u64 0), (.int .i64 0), (.int .i64 0), (.bool false)]), none⟩, 4, false, []⟩, ⟨⟨(some 43), (.call (.c (.func (.func 98) #[] #[])) [(.t 42)]), none⟩, 2, true, [0]⟩, ⟨⟨(some 44), (.call (.t 41) [(.t 43)]), none⟩, 3, true, []⟩, ⟨⟨none, (.st 4 (.t 11) (.t 44)), none⟩, 5, true, []⟩])
          (.seq
           (.draw 11 [⟨⟨(some 45), (.ld true 13 (.t 1)), none⟩, 0, false, []⟩, ⟨⟨(some 47), (.ld false 1 (.t 9)), none⟩, 2, false, []⟩, ⟨⟨(some 49), (.fa 2 (.t 11)), none⟩, 4, false, []⟩, ⟨⟨(some 50), (.ld false 1 (.t 49)), none⟩, 5, false, []⟩, ⟨⟨(some 51), (.fa 3 (.t 11)), none⟩, 6, false, []⟩, ⟨⟨(some 52), (.ld false 1 (.t 51)), none⟩, 7, false, []⟩, ⟨⟨(some 46), (.call (.c (.func (.func 98) #[] #[])) [(.t 45)]), none⟩, 1, true, [7, 5, 2]⟩, ⟨⟨(some 48), (.call (.c (.func (.func 106) #[] #[])) [(.t 46), (.t 47)]), none⟩, 3, true, [7, 5]⟩, ⟨⟨(some 2), (.mov (.t 48)), none⟩, 8, false, []⟩, ⟨⟨(some 3), (.mov (.t 50)), none⟩, 9, false, []⟩, ⟨⟨(some 4), (.mov (.t 52)), none⟩, 10, false, []⟩])
           .ret)))))))))
def r80 : List AOp := [(.mov (.t 2)), (.mov (.t 3)), (.mov (.t 4))]
theorem ok80 : FnOk Tryd.prog 80 Tryd.f80.ntmps a80 r80 := ⟨Tryd.f80, Tryd.func80, by kernel_rfl, by kernel_rfl, by kernel_rfl, fun asv w => by simp⟩

/-- (layover/duty.planned).isPlan -/
def a81 : ACode :=
  (.seq
   (.region [⟨(some 2), (.box (.t 0)), none⟩, ⟨(some 4), (.mov (.c (.bool false))), none⟩])
   (.seq
    (.region [⟨(some 7), (.ld true 13 (.t 2)), none⟩, ⟨(some 8), (.call (.c (.func (.func 98) #[] #[])) [(.t 7)]), none⟩, ⟨(some 5), (.new [(.int .u64 0)]), none⟩, ⟨none, (.st 1 (.t 5) (.t 8)), none⟩])
    (.seq
     (.region [⟨(some 9), (.mov (.t 1)), none⟩, ⟨(some 10), (.fn (.func 108) [] [(.t 2), (.t 5)]), none⟩, ⟨(some 11), (.call (.c (.func (.func 107) #[] #[])) [(.t 9), (.t 10)]), none⟩, ⟨(some 6), (.mov (.t 11)), none⟩])
     (.seq
      (.region [⟨(some 12), (.mov (.t 6)), none⟩, ⟨(some 13), (.mov (.t 12)), none⟩, ⟨(some 14), (.ld false 1 (.t 5)), (some (13, true))⟩, ⟨(some 15), (.bin .eql (.t 14) (.c (.int .u64 0))), (some (13, true))⟩, ⟨(some 16), (.pick (.t 13) (.t 15) (.c (.bool false))), none⟩, ⟨(some 4), (.mov (.t 16)), none⟩])
      .ret))))
def r81 : List AOp := [(.mov (.t 4))]
theorem ok81 : FnOk Tryd.prog 81 Tryd.f81.ntmps a81 r81 := ⟨Tryd.f81, Tryd.func81, by kernel_rfl, by kernel_rfl, by kernel_rfl, fun asv w => by simp⟩

/-- layover/duty.isValidTime -/
def a85 : ACode :=
  (.seq
   (.region [⟨(some 2), (.mov (.c (.bool false))), none⟩])
   (.seq
    (.region [⟨(some 3), (.mov (.t 0)), none⟩, ⟨(some 4), (.call (.c (.func (.func 86) #[] #[])) [(.t 3), (.c (.int .i64 0)), (.c (.int .i64 3000))]), none⟩, ⟨(some 2), (.mov (.t 4)), none⟩])
    .ret))
def r85 : List AOp := [(.mov (.t 2))]
theorem ok85 : FnOk Tryd.prog 85 Tryd.f85.ntmps a85 r85 := ⟨Tryd.f85, Tryd.func85, by kernel_rfl, by kernel_rfl, by kernel_rfl, fun asv w => by simp⟩

/-- layover/duty.within -/
def a86 : ACode :=
  (.seq
   (.region [⟨(some 6), (.mov (.c (.bool false))), none⟩])
   (.seq
    (.region [⟨(some 7), (.mov (.t 1)), none⟩, ⟨(some 8), (.mov (.t 0)), none⟩, ⟨(some 9), (.bin .leq (.t 7) (.t 8)), none⟩, ⟨(some 10), (.mov (.t 9)), none⟩, ⟨(some 11), (.mov (.t 0)), (some (10, true))⟩, ⟨(some 12), (.mov (.t 2)), (some (10, true))⟩, ⟨(some 13), (.bin .leq (.t 11) (.t 12)), (some (10, true))⟩, ⟨(some 14), (.pick (.t 10) (.t 13) (.c (.bool false))), none⟩, ⟨(some 6), (.mov (.t 14)), none⟩])
    .ret))
def r86 : List AOp := [(.mov (.t 6))]
theorem ok86 : FnOk Tryd.prog 86 Tryd.f86.ntmps a86 r86 := ⟨Tryd.f86, Tryd.func86, by kernel_rfl, by kernel_rfl, by kernel_rfl, fun asv w => by simp⟩

/-- layover/duty.every[layover/duty.Relief] -/
def a87 : ACode :=
  (.seq
   (.region [⟨(some 4), (.mov (.c (.bool false))), none⟩])
   (.seq
    (.seq
     (.region [⟨(some 7), (.mov (.t 0)), none⟩, ⟨(some 8), (.len (.t 7)), none⟩, ⟨(some 9), (.mov (.c (.int .i64 0))), none⟩])
     (.block 0
      (.loop
       (.seq
        (.region [⟨(some 10), (.bin .lss (.t 9) (.t 8)), none⟩])
        (.seq
         (.cond (.t 10)
          .skip
          (.exit 0))
         (.seq
          (.block 1
           (.seq
            (.region [⟨(some 11), (.isl 3 (.t 7) (.t 9)), none⟩, ⟨(some 12), (.ld true 3 (.t 11)), none⟩, ⟨(some 6), (.new [(.int .i64 0), (.int .i64 0), (.int .i64 0)]), none⟩, ⟨none, (.st 3 (.t 6) (.t 12)), none⟩])
            (.seq
             (.region [⟨(some 13), (.mov (.t 1)), none⟩, ⟨(some 14), (.ld true 3 (.t 6)), none⟩, ⟨(some 15), (.call (.t 13) [(.t 14)]), none⟩, ⟨(some 16), (.not (.t 15)), none⟩])
             (.cond (.t 16)
              (.seq
               (.region [⟨(some 4), (.mov (.c (.bool false))), none⟩])
               .ret)
              .skip))))
          (.region [⟨(some 17), (.bin .add (.t 9) (.c (.int .i64 1))), none⟩, ⟨(some 9), (.mov (.t 17)), none⟩])))))))
    (.seq
     (.region [⟨(some 4), (.mov (.c (.bool true))), none⟩])
     .ret)))
def r87 : List AOp := [(.mov (.t 4))]
theorem ok87 : FnOk Tryd.prog 87 Tryd.f87.ntmps a87 r87 := ⟨Tryd.f87, Tryd.func87, by kernel_rfl, by kernel_rfl, by kernel_rfl, fun asv w => by simp⟩

/-- (layover/duty.Day).isValidBlock$1 -/
def a88 : ACode :=
  (.seq
   (.region [⟨(some 3), (.box (.t 0)), none⟩, ⟨(some 4), (.mov (.c (.bool false))), none⟩])
   (.seq
    (.region [⟨(some 6), (.fa 0 (.t 1)), none⟩, ⟨(some 7), (.ld false 1 (.t 6)), none⟩, ⟨(some 8), (.fa 1 (.t 3)), none⟩, ⟨(some 9), (.fa 0 (.t 8)), none⟩, ⟨(some 10), (.ld false 1 (.t 9)), none⟩, ⟨(some 11), (.bin .leq (.t 7) (.t 10)), none⟩, ⟨(some 12), (.mov (.t 11)), none⟩, ⟨(some 13), (.fa 1 (.t 1)), (some (12, true))⟩, ⟨(some 14), (.ld false 1 (.t 13)), (some (12, true))⟩, ⟨(some 15), (.fa 1 (.t 3)), (some (12, true))⟩, ⟨(some 16), (.fa 1 (.t 15)), (some (12, true))⟩, ⟨(some 17), (.ld false 1 (.t 16)), (some (12, true))⟩, ⟨(some 18), (.bin .leq (.t 14) (.t 17)), (some (12, true))⟩, ⟨(some 19), (.pick (.t 12) (.t 18) (.c (.bool false))), none⟩, ⟨(some 5), (.mov (.t 19)), none⟩])
    (.seq
     (.region [⟨(some 20), (.fa 1 (.t 3)), none⟩, ⟨(some 21), (.ld true 2 (.t 20)), none⟩, ⟨none, (.st 2 (.t 1) (.t 21)), none⟩])
     (.seq
      (.region [⟨(some 22), (.mov (.t 5)), none⟩, ⟨(some 23), (.mov (.t 22)), none⟩, ⟨(some 24), (.ld true 10 (.t 2)), (some (23, true))⟩, ⟨(some 25), (.ld true 3 (.t 3)), (some (23, true))⟩, ⟨(some 26), (.call (.c (.func (.func 89) #[] #[])) [(.t 24), (.t 25)]), (some (23, true))⟩, ⟨(some 27), (.pick (.t 23) (.t 26) (.c (.bool false))), none⟩, ⟨(some 4), (.mov (.t 27)), none⟩])
      .ret))))
def r88 : List AOp := [(.mov (.t 4))]
theorem ok88 : FnOk Tryd.prog 88 Tryd.f88.ntmps a88 r88 := ⟨Tryd.f88, Tryd.func88, by kernel_rfl, by kernel_rfl, by kernel_rfl, fun asv w => by simp⟩

/-- (layover/duty.Day).isValidRelief -/
def a89 : ACode :=
  (.seq
   (.region [⟨(some 2), (.box (.t 0)), none⟩, ⟨(some 3), (.box (.t 1)), none⟩, ⟨(some 4), (.mov (.c (.bool false))), none⟩])
   (.seq
    (.region [⟨(some 5), (.fa 0 (.t 3)), none⟩, ⟨(some 6), (.ld false 1 (.t 5)), none⟩, ⟨(some 7), (.fa 9 (.t 2)), none⟩, ⟨(some 8), (.ld false 1 (.t 7)), none⟩, ⟨(some 9), (.len (.t 8)), none⟩, ⟨(some 10), (.bin .sub (.t 9) (.c (.int .i64 1))), none⟩, ⟨(some 11), (.call (.c (.func (.func 86) #[] #[])) [(.t 6), (.c (.int .i64 0)), (.t 10)]), none⟩, ⟨(some 12), (.mov (.t 11)), none⟩, ⟨(some 13), (.fa 1 (.t 3)), (some (12, true))⟩, ⟨(some 14), (.fa 1 (.t 13)), (some (12, true))⟩, ⟨(some 15), (.ld false 1 (.t 14)), (some (12, true))⟩, ⟨(some 16), (.call (.c (.func (.func 86) #[] #[])) [(.t 15), (.c (.int .i64 0)), (.c (.int .i64 3000))]), (some (12, true))⟩, ⟨(some 17), (.pick (.t 12) (.t 16) (.c (.bool false))), none⟩, ⟨(some 18), (.mov (.t 17)), none⟩, ⟨(some 19), (.fa 1 (.t 3)), (some (18, true))⟩, ⟨(some 20), (.fa 0 (.t 19)), (some (18, true))⟩, ⟨(some 21), (.ld false 1 (.t 20)), (some (18, true))⟩, ⟨(some 22), (.fa 1 (.t 3)), (some (18, true))⟩, ⟨(some 23), (.fa 1 (.t 22)), (some (18, true))⟩, ⟨(some 24), (.ld false 1 (.t 23)), (some (18, true))⟩, ⟨(some 25), (.call (.c (.func (.func 86) #[] #[])) [(.t 21), (.c (.int .i64 0)), (.t 24)]), (some (18, true))⟩, ⟨(some 26), (.pick (.t 18) (.t 25) (.c (.bool false))), none⟩, ⟨(some 4), (.mov (.t 26)), none⟩])
    .ret))
def r89 : List AOp := [(.mov (.t 4))]
theorem ok89 : FnOk Tryd.prog 89 Tryd.f89.ntmps a89 r89 := ⟨Tryd.f89, Tryd.func89, by kernel_rfl, by kernel_rfl, by kernel_rfl, fun asv w => by simp⟩

/-- (layover/duty.planned).segmentsOf -/
def a90 : ACode :=
  (.seq
   (.region [⟨(some 2), (.box (.t 0)), none⟩, ⟨(some 4), (.mov (.c (.int .u64 0))), none⟩, ⟨(some 5), (.mov (.c (.bool false))), none⟩])
   (.seq
    (.region [⟨(some 6), (.new [(.int .u64 0)]), none⟩, ⟨(some 7), (.new [(.int .i64 0)]), none⟩, ⟨none, (.st 1 (.t 6) (.c (.int .u64 0))), none⟩, ⟨none, (.st 1 (.t 7) (.c (.int .i64 (-1)))), none⟩])
    (.seq
     (.region [⟨(some 9), (.mov (.t 1)), none⟩, ⟨(some 10), (.fn (.func 109) [] [(.t 7), (.t 2), (.t 6)]), none⟩, ⟨(some 11), (.call (.c (.func (.func 75) #[] #[])) [(.t 9), (.t 10)]), none⟩, ⟨(some 8), (.mov (.t 11)), none⟩])
     (.seq
      (.draw 8 [⟨⟨(some 12), (.ld false 1 (.t 6)), none⟩, 0, false, []⟩, ⟨⟨(some 13), (.mov (.t 8)), none⟩, 1, false, []⟩, ⟨⟨(some 14), (.mov (.t 13)), none⟩, 2, false, []⟩, ⟨⟨(some 15), (.ld false 1 (.t 6)), (some (14, true))⟩, 3, false, []⟩, ⟨⟨(some 16), (.bin .neq (.t 15) (.c (.int .u64 0))), (some (14, true))⟩, 4, false, []⟩, ⟨⟨(some 17), (.pick (.t 14) (.t 16) (.c (.bool false))), none⟩, 5, false, []⟩, ⟨⟨(some 4), (.mov (.t 12)), none⟩, 6, false, []⟩, ⟨⟨(some 5), (.mov (.t 17)), none⟩, 7, false, []⟩])
      .ret))))
def r90 : List AOp := [(.mov (.t 4)), (.mov (.t 5))]
theorem ok90 : FnOk Tryd.prog 90 Tryd.f90.ntmps a90 r90 := ⟨Tryd.f90, Tryd.func90, by kernel_rfl, by kernel_rfl, by kernel_rfl, fun asv w => by simp⟩

/-- layover/duty.greatest -/
def a91 : ACode :=
  (.seq
   (.region [⟨(some 2), (.mov (.c (.int .i64 0))), none⟩])
   (.seq
    (.region [⟨(some 3), (.mov (.c (.int .i64 0))), none⟩])
    (.seq
     (.seq
      (.region [⟨(some 6), (.mov (.t 0)), none⟩, ⟨(some 7), (.len (.t 6)), none⟩, ⟨(some 8), (.mov (.c (.int .i64 0))), none⟩])
      (.block 0
       (.loop
        (.seq
         (.region [⟨(some 9), (.bin .lss (.t 8) (.t 7)), none⟩])
         (.seq
          (.cond (.t 9)
           .skip
           (.exit 0))
          (.seq
           (.block 1
            (.seq
             (.region [⟨(some 10), (.isl 1 (.t 6) (.t 8)), none⟩, ⟨(some 11), (.ld false 1 (.t 10)), none⟩, ⟨(some 5), (.mov (.t 11)), none⟩])
             (.region [⟨(some 12), (.mov (.t 3)), none⟩, ⟨(some 13), (.mov (.t 5)), none⟩, ⟨(some 14), (.gen 17 ⟨(some 14), (.call ⟨.builtin .max, #[(.tmp 12), (.tmp 13)], #[3, 3]⟩), 3, "law.go:81", #[{ on := 0, ground := Go.Ground.data }, { on := 1, ground := Go.Ground.data }], none⟩), none⟩, ⟨(some 3), (.mov (.t 14)), none⟩])))
           (.region [⟨(some 15), (.bin .add (.t 8) (.c (.int .i64 1))), none⟩, ⟨(some 8), (.mov (.t 15)), none⟩])))))))
     (.seq
      (.region [⟨(some 16), (.mov (.t 3)), none⟩, ⟨(some 2), (.mov (.t 16)), none⟩])
      .ret))))
def r91 : List AOp := [(.mov (.t 2))]
theorem ok91 : FnOk Tryd.prog 91 Tryd.f91.ntmps a91 r91 := ⟨Tryd.f91, Tryd.func91, by kernel_rfl, by kernel_rfl, by kernel_rfl, fun asv w => by simp⟩

/-- layover/duty.isTruthOf -/
def a92 : ACode :=
  (.seq
   (.region [⟨(some 4), (.mov (.c (.bool false))), none⟩])
   (.seq
    (.seq
     (.region [⟨(some 8), (.mov (.t 1)), none⟩, ⟨(some 9), (.len (.t 8)), none⟩, ⟨(some 10), (.mov (.t 0)), none⟩, ⟨(some 11), (.len (.t 10)), none⟩, ⟨(some 12), (.bin .neq (.t 9) (.t 11)), none⟩])
     (.cond (.t 12)
      (.seq
       (.region [⟨(some 4), (.mov (.c (.bool false))), none⟩])
       .ret)
      .skip))
    (.seq
     (.region [⟨(some 5), (.mov (.c (.int .i64 0))), none⟩])
     (.seq
      (.seq
       (.region [⟨(some 13), (.mov (.t 0)), none⟩, ⟨(some 14), (.len (.t 13)), none⟩, ⟨(some 15), (.mov (.c (.int .i64 0))), none⟩])
       (.block 0
        (.loop
         (.seq
          (.region [⟨(some 16), (.bin .lss (.t 15) (.t 14)), none⟩])
          (.seq
           (.cond (.t 16)
            .skip
            (.exit 0))
           (.seq
            (.block 1
             (.seq
              (.region [⟨(some 17), (.mov (.t 15)), none⟩, ⟨(some 18), (.isl 3 (.t 13) (.t 15)), none⟩, ⟨(some 19), (.ld true 3 (.t 18)), none⟩, ⟨(some 7), (.new [(.int .i64 0), (.int .i64 0), (.int .i64 0)]), none⟩, ⟨(some 6), (.mov (.t 17)), none⟩, ⟨none, (.st 3 (.t 7) (.t 19)), none⟩])
              (.seq
               (.seq
                (.draw 14 [⟨⟨(some 20), (.mov (.t 1)), none⟩, 0, false, []⟩, ⟨⟨(some 21), (.mov (.t 6)), none⟩, 1, false, []⟩, ⟨⟨(some 22), (.isl 1 (.t 20) (.t 21)), none⟩, 2, false, []⟩, ⟨⟨(some 23), (.ld false 1 (.t 22)), none⟩, 3, false, []⟩, ⟨⟨(some 24), (.mov (.t 5)), none⟩, 4, false, []⟩, ⟨⟨(some 25), (.fa 1 (.t 7)), none⟩, 5, false, []⟩, ⟨⟨(some 26), (.fa 0 (.t 25)), none⟩, 6, false, []⟩, ⟨⟨(some 27), (.ld false 1 (.t 26)), none⟩, 7, false, []⟩, ⟨⟨(some 28), (.gen 39 ⟨(some 28), (.call ⟨.builtin .max, #[(.tmp 24), (.tmp 27)], #[3, 3]⟩), 3, "check.go:80", #[{ on := 4, ground := Go.Ground.data }, { on := 7, ground := Go.Ground.data }], none⟩), none⟩, 8, false, []⟩, ⟨⟨(some 29), (.fa 1 (.t 7)), none⟩, 9, false, []⟩, ⟨⟨(some 30), (.fa 1 (.t 29)), none⟩, 10, false, []⟩, ⟨⟨(some 31), (.ld false 1 (.t 30)), none⟩, 11, false, []⟩, ⟨⟨(some 32), (.call (.c (.func (.func 86) #[] #[])) [(.t 23), (.t 28), (.t 31)]), none⟩, 12, true, []⟩, ⟨⟨(some 33), (.not (.t 32)), none⟩, 13, false, []⟩])
                (.cond (.t 33)
                 (.seq
                  (.region [⟨(some 4), (.mov (.c (.bool false))), none⟩])
                  .ret)
                 .skip))
               (.region [⟨(some 34), (.mov (.t 1)), none⟩, ⟨(some 35), (.mov (.t 6)), none⟩, ⟨(some 36), (.isl 1 (.t 34) (.t 35)), none⟩, ⟨(some 37), (.ld false 1 (.t 36)), none⟩, ⟨(some 5), (.mov (.t 37)), none⟩]))))
            (.region [⟨(some 38), (.bin .add (.t 15) (.c (.int .i64 1))), none⟩, ⟨(some 15), (.mov (.t 38)), none⟩])))))))
      (.seq
       (.region [⟨(some 4), (.mov (.c (.bool true))), none⟩])
       .ret)))))
def r92 : List AOp := [(.mov (.t 4))]
theorem ok92 : FnOk Tryd.prog 92 Tryd.f92.ntmps a92 r92 := ⟨Tryd.f92, Tryd.func92, by kernel_rfl, by kernel_rfl, by kernel_rfl, fun asv w => by simp⟩

/-- (layover/duty.planned).shift -/
noncomputable def c93x0 : Code := (rfN Tryd.f93.body 0).1
noncomputable def c93y0 : Code := (rfN Tryd.f93.body 0).2
noncomputable def a93x0 : ACode :=
  (.region [⟨(some 8), (.new [(.int .u64 0), (.int .i64 0), (.int .i64 0), (.int .i64 0), (.int .i64 0)]), none⟩, ⟨none, (.st 5 (.t 8) (.t 14)), none⟩])
theorem ok93x0 : ccode Tryd.prog 88 (cdraw Tryd.prog 88) c93x0 = some a93x0 := by kernel_rfl
def a93y0 : ACode :=
  (.block 1
   (.seq
    (.seq
     (.region [⟨(some 15), (.ld true 5 (.t 7)), none⟩, ⟨(some 16), (.bld [(.int .u64 0), (.int .i64 0), (.int .i64 0), (.int .i64 0), (.int .i64 0)] []), none⟩, ⟨(some 17), (.gen 88 ⟨(some 17), (.binOp .eql 149 (.tmp 15) (.tmp 16) 149), 4, "law.go:47", #[{ on := 0, ground := Go.Ground.data }, { on := 1, ground := Go.Ground.data }], none⟩), none⟩])
     (.cond (.t 17)
      (.region [⟨(some 18), (.ld true 5 (.t 8)), none⟩, ⟨none, (.st 5 (.t 6) (.t 18)), none⟩])
      (.seq
       (.draw 10 [⟨⟨(some 19), (.ld true 13 (.t 2)), none⟩, 0, false, []⟩, ⟨⟨(some 20), (.fa 1 (.t 8)), none⟩, 1, false, []⟩, ⟨⟨(some 21), (.ld true 2 (.t 20)), none⟩, 2, false, []⟩, ⟨⟨(some 23), (.ld true 13 (.t 2)), none⟩, 4, false, []⟩, ⟨⟨(some 24), (.fa 3 (.t 7)), none⟩, 5, false, []⟩, ⟨⟨(some 25), (.ld true 2 (.t 24)), none⟩, 6, false, []⟩, ⟨⟨(some 22), (.call (.c (.func (.func 111) #[] #[])) [(.t 19), (.t 21), (.c (.int .i64 0))]), none⟩, 3, true, [6, 4]⟩, ⟨⟨(some 26), (.call (.c (.func (.func 111) #[] #[])) [(.t 23), (.t 25), (.c (.int .i64 1))]), none⟩, 7, true, []⟩, ⟨⟨(some 27), (.bin .sub (.t 22) (.t 26)), none⟩, 8, false, []⟩, ⟨⟨(some 9), (.mov (.t 27)), none⟩, 9, false, []⟩])
       (.seq
        (.region [⟨(some 28), (.fa 0 (.t 5)), none⟩, ⟨(some 29), (.fa 2 (.t 28)), none⟩, ⟨(some 30), (.ld false 1 (.t 29)), none⟩, ⟨(some 31), (.mov (.t 9)), none⟩, ⟨(some 32), (.bsl 1 [(.int .i64 0)] [(0, 1, (.t 31))]), none⟩, ⟨(some 33), (.app 1 8 (.t 30) (.t 32)), none⟩, ⟨(some 34), (.fa 0 (.t 5)), none⟩, ⟨(some 35), (.fa 2 (.t 34)), none⟩, ⟨none, (.st 1 (.t 35) (.t 33)), none⟩])
        (.draw 14 [⟨⟨(some 36), (.fa 5 (.t 5)), none⟩, 0, false, []⟩, ⟨⟨(some 37), (.ld false 1 (.t 36)), none⟩, 1, false, []⟩, ⟨⟨(some 38), (.mov (.t 9)), none⟩, 2, false, []⟩, ⟨⟨(some 39), (.ld true 13 (.t 2)), none⟩, 3, false, []⟩, ⟨⟨(some 40), (.fa 3 (.t 7)), none⟩, 4, false, []⟩, ⟨⟨(some 41), (.ld true 2 (.t 40)), none⟩, 5, false, []⟩, ⟨⟨(some 42), (.fa 1 (.t 8)), none⟩, 6, false, []⟩, ⟨⟨(some 43), (.ld true 2 (.t 42)), none⟩, 7, false, []⟩, ⟨⟨(some 44), (.call (.c (.func (.func 112) #[] #[])) [(.t 39), (.t 41), (.t 43)]), none⟩, 8, true, [1]⟩, ⟨⟨(some 45), (.bin .sub (.t 38) (.t 44)), none⟩, 9, false, []⟩, ⟨⟨(some 46), (.bsl 1 [(.int .i64 0)] [(0, 1, (.t 45))]), none⟩, 10, false, []⟩, ⟨⟨(some 47), (.app 1 8 (.t 37) (.t 46)), none⟩, 11, true, []⟩, ⟨⟨(some 48), (.fa 5 (.t 5)), none⟩, 12, false, []⟩, ⟨⟨none, (.st 1 (.t 48) (.t 47)), none⟩, 13, true, []⟩])))))
    (.seq
     (.region [⟨(some 49), (.ld true 13 (.t 2)), none⟩, ⟨(some 50), (.fa 1 (.t 8)), none⟩, ⟨(some 51), (.ld true 2 (.t 50)), none⟩, ⟨(some 52), (.fa 3 (.t 8)), none⟩, ⟨(some 53), (.ld true 2 (.t 52)), none⟩, ⟨(some 54), (.call (.c (.func (.func 113) #[] #[])) [(.t 49), (.t 51), (.t 53)]), none⟩, ⟨(some 10), (.mov (.t 54)), none⟩])
     (.seq
      (.region [⟨(some 55), (.fa 0 (.t 5)), none⟩, ⟨(some 56), (.fa 0 (.t 55)), none⟩, ⟨(some 57), (.ld false 1 (.t 56)), none⟩, ⟨(some 58), (.mov (.t 10)), none⟩, ⟨(some 59), (.bin .add (.t 57) (.t 58)), none⟩, ⟨(some 60), (.fa 0 (.t 5)), none⟩, ⟨(some 61), (.fa 0 (.t 60)), none⟩, ⟨none, (.st 1 (.t 61) (.t 59)), none⟩])
      (.seq
       (.region [⟨(some 62), (.fa 4 (.t 5)), none⟩, ⟨(some 63), (.ld false 1 (.t 62)), none⟩, ⟨(some 64), (.mov (.t 10)), none⟩, ⟨(some 65), (.bsl 1 [(.int .i64 0)] [(0, 1, (.t 64))]), none⟩, ⟨(some 66), (.app 1 8 (.t 63) (.t 65)), none⟩, ⟨(some 67), (.fa 4 (.t 5)), none⟩, ⟨none, (.st 1 (.t 67) (.t 66)), none⟩])
       (.region [⟨(some 68), (.ld true 5 (.t 8)), none⟩, ⟨none, (.st 5 (.t 7) (.t 68)), none⟩]))))))
theorem ok93y0 : ccode Tryd.prog 88 (cdraw Tryd.prog 88) c93y0 = some a93y0 := by kernel_rfl
noncomputable def a93 : ACode :=
  (.seq
   (.region [⟨(some 2), (.box (.t 0)), none⟩, ⟨(some 4), (.new [(.int .i64 0), (.int .i64 0), (.slice none 0 0), (.bool false), (.slice none 0 0), (.slice none 0 0)]), none⟩])
   (.seq
    (.region [⟨(some 5), (.new [(.int .i64 0), (.int .i64 0), (.slice none 0 0), (.bool false), (.slice none 0 0), (.slice none 0 0)]), none⟩])
    (.seq
     (.region [⟨(some 6), (.new [(.int .u64 0), (.int .i64 0), (.int .i64 0), (.int .i64 0), (.int .i64 0)]), none⟩, ⟨(some 7), (.new [(.int .u64 0), (.int .i64 0), (.int .i64 0), (.int .i64 0), (.int .i64 0)]), none⟩])
     (.seq
      (.seq
       (.region [⟨(some 11), (.ld true 13 (.t 2)), none⟩, ⟨(some 12), (.mov (.t 1)), none⟩, ⟨(some 13), (.call (.c (.func (.func 110) #[] #[])) [(.t 11), (.t 12)]), none⟩])
       (.block 0
        (.rangeF (.t 13) #[14] c93x0 c93y0 a93x0 a93y0)))
      (.seq
       (.draw 19 [⟨⟨(some 69), (.fa 0 (.t 2)), none⟩, 0, false, []⟩, ⟨⟨(some 70), (.fa 0 (.t 69)), none⟩, 1, false, []⟩, ⟨⟨(some 71), (.fa 4 (.t 70)), none⟩, 2, false, []⟩, ⟨⟨(some 72), (.ld false 1 (.t 71)), none⟩, 3, false, []⟩, ⟨⟨(some 73), (.ld true 13 (.t 2)), none⟩, 4, false, []⟩, ⟨⟨(some 74), (.fa 1 (.t 6)), none⟩, 5, false, []⟩, ⟨⟨(some 75), (.ld true 2 (.t 74)), none⟩, 6, false, []⟩, ⟨⟨(some 76), (.fa 3 (.t 7)), none⟩, 7, false, []⟩, ⟨⟨(some 77), (.ld true 2 (.t 76)), none⟩, 8, false, []⟩, ⟨⟨(some 80), (.fa 0 (.t 2)), none⟩, 11, false, []⟩, ⟨⟨(some 81), (.fa 0 (.t 80)), none⟩, 12, false, []⟩, ⟨⟨(some 82), (.fa 5 (.t 81)), none⟩, 13, false, []⟩, ⟨⟨(some 83), (.ld false 1 (.t 82)), none⟩, 14, false, []⟩, ⟨⟨(some 78), (.call (.c (.func (.func 113) #[] #[])) [(.t 73), (.t 75), (.t 77)]), none⟩, 9, true, [14, 3]⟩, ⟨⟨(some 79), (.bin .add (.t 72) (.t 78)), none⟩, 10, false, []⟩, ⟨⟨(some 84), (.bin .add (.t 79) (.t 83)), none⟩, 15, false, []⟩, ⟨⟨(some 85), (.fa 0 (.t 5)), none⟩, 16, false, []⟩, ⟨⟨(some 86), (.fa 1 (.t 85)), none⟩, 17, false, []⟩, ⟨⟨none, (.st 1 (.t 86) (.t 84)), none⟩, 18, true, []⟩])
       (.seq
        (.region [⟨(some 87), (.ld true 6 (.t 5)), none⟩, ⟨none, (.st 6 (.t 4) (.t 87)), none⟩])
        .ret))))))
def r93 : List AOp := [(.ld true 6 (.t 4))]
theorem ok93 : FnOk Tryd.prog 93 Tryd.f93.ntmps a93 r93 := ⟨Tryd.f93, Tryd.func93, by kernel_rfl, by kernel_rfl, by kernel_rfl, fun asv w => by simp⟩

/-- layover/duty.every[layover/duty.question] -/
def a94 : ACode :=
  (.seq
   (.region [⟨(some 4), (.mov (.c (.bool false))), none⟩])
   (.seq
    (.seq
     (.region [⟨(some 7), (.mov (.t 0)), none⟩, ⟨(some 8), (.len (.t 7)), none⟩, ⟨(some 9), (.mov (.c (.int .i64 0))), none⟩])
     (.block 0
      (.loop
       (.seq
        (.region [⟨(some 10), (.bin .lss (.t 9) (.t 8)), none⟩])
        (.seq
         (.cond (.t 10)
          .skip
          (.exit 0))
         (.seq
          (.block 1
           (.seq
            (.region [⟨(some 11), (.isl 1 (.t 7) (.t 9)), none⟩, ⟨(some 12), (.ld true 1 (.t 11)), none⟩, ⟨(some 6), (.new [.nilFunc]), none⟩, ⟨none, (.st 1 (.t 6) (.t 12)), none⟩])
            (.seq
             (.region [⟨(some 13), (.mov (.t 1)), none⟩, ⟨(some 14), (.ld true 1 (.t 6)), none⟩, ⟨(some 15), (.call (.t 13) [(.t 14)]), none⟩, ⟨(some 16), (.not (.t 15)), none⟩])
             (.cond (.t 16)
              (.seq
               (.region [⟨(some 4), (.mov (.c (.bool false))), none⟩])
               .ret)
              .skip))))
          (.region [⟨(some 17), (.bin .add (.t 9) (.c (.int .i64 1))), none⟩, ⟨(some 9), (.mov (.t 17)), none⟩])))))))
    (.seq
     (.region [⟨(some 4), (.mov (.c (.bool true))), none⟩])
     .ret)))
def r94 : List AOp := [(.mov (.t 4))]
theorem ok94 : FnOk Tryd.prog 94 Tryd.f94.ntmps a94 r94 := ⟨Tryd.f94, Tryd.func94, by kernel_rfl, by kernel_rfl, by kernel_rfl, fun asv w => by simp⟩

/-- (layover/duty.planned).work$1 -/
def a95 : ACode :=
  (.seq
   (.region [⟨(some 3), (.box (.t 0)), none⟩, ⟨(some 4), (.mov (.c (.bool false))), none⟩])
   (.seq
    (.region [⟨(some 5), (.fa 0 (.t 3)), none⟩, ⟨(some 6), (.ld false 1 (.t 5)), none⟩, ⟨(some 7), (.fa 0 (.t 1)), none⟩, ⟨(some 8), (.fa 0 (.t 7)), none⟩, ⟨(some 9), (.ld true 8 (.t 8)), none⟩, ⟨(some 10), (.ld true 6 (.t 2)), none⟩, ⟨(some 11), (.call (.t 6) [(.t 9), (.t 10)]), none⟩, ⟨(some 4), (.mov (.t 11)), none⟩])
    .ret))
def r95 : List AOp := [(.mov (.t 4))]
theorem ok95 : FnOk Tryd.prog 95 Tryd.f95.ntmps a95 r95 := ⟨Tryd.f95, Tryd.func95, by kernel_rfl, by kernel_rfl, by kernel_rfl, fun asv w => by simp⟩

/-- layover/duty.questionsOfLaw -/
def a96 : ACode :=
  (.seq
   (.region [⟨(some 0), (.mov (.c (.slice none 0 0))), none⟩])
   (.seq
    (.region [⟨(some 1), (.bld [.nilFunc] [(0, 1, (.c (.func (.func 114) #[] #[])))]), none⟩, ⟨(some 2), (.bld [.nilFunc] [(0, 1, (.c (.func (.func 115) #[] #[])))]), none⟩, ⟨(some 3), (.bld [.nilFunc] [(0, 1, (.c (.func (.func 116) #[] #[])))]), none⟩, ⟨(some 4), (.bld [.nilFunc] [(0, 1, (.c (.func (.func 117) #[] #[])))]), none⟩, ⟨(some 5), (.bld [.nilFunc] [(0, 1, (.c (.func (.func 118) #[] #[])))]), none⟩, ⟨(some 6), (.bsl 5 [.nilFunc, .nilFunc, .nilFunc, .nilFunc, .nilFunc] [(0, 1, (.t 1)), (1, 1, (.t 2)), (2, 1, (.t 3)), (3, 1, (.t 4)), (4, 1, (.t 5))]), none⟩, ⟨(some 0), (.mov (.t 6)), none⟩])
    .ret))
def r96 : List AOp := [(.mov (.t 0))]
theorem ok96 : FnOk Tryd.prog 96 Tryd.f96.ntmps a96 r96 := ⟨Tryd.f96, Tryd.func96, by kernel_rfl, by kernel_rfl, by kernel_rfl, fun asv w => by simp⟩

/-- layover/duty.setOf -/
def a97 : ACode :=
  (.seq
   (.region [⟨(some 2), (.mov (.c (.int .u64 0))), none⟩])
   (.seq
    (.region [⟨(some 3), (.mov (.t 0)), none⟩, ⟨(some 4), (.gen 5 ⟨(some 4), (.binOp .shl 102 (.const (.int .u64 1)) (.tmp 3) 3), 102, "piece.go:12", #[{ on := 0, ground := Go.Ground.data }], none⟩), none⟩, ⟨(some 2), (.mov (.t 4)), none⟩])
    .ret))
def r97 : List AOp := [(.mov (.t 2))]
theorem ok97 : FnOk Tryd.prog 97 Tryd.f97.ntmps a97 r97 := ⟨Tryd.f97, Tryd.func97, by kernel_rfl, by kernel_rfl, by kernel_rfl, fun asv w => by simp⟩

/-- (layover/duty.planned).all -/
def a98 : ACode :=
  (.seq
   (.region [⟨(some 1), (.box (.t 0)), none⟩, ⟨(some 2), (.mov (.c (.int .u64 0))), none⟩])
   (.seq
    (.region [⟨(some 3), (.fa 10 (.t 1)), none⟩, ⟨(some 4), (.ld false 1 (.t 3)), none⟩, ⟨(some 5), (.len (.t 4)), none⟩, ⟨(some 6), (.call (.c (.func (.func 97) #[] #[])) [(.t 5)]), none⟩, ⟨(some 7), (.bin .sub (.t 6) (.c (.int .u64 1))), none⟩, ⟨(some 2), (.mov (.t 7)), none⟩])
    .ret))
def r98 : List AOp := [(.mov (.t 2))]
theorem ok98 : FnOk Tryd.prog 98 Tryd.f98.ntmps a98 r98 := ⟨Tryd.f98, Tryd.func98, by kernel_rfl, by kernel_rfl, by kernel_rfl, fun asv w => by simp⟩

/-- (layover/duty.planned).legalDuties -/
def a99 : ACode :=
  (.seq
   (.region [⟨(some 1), (.box (.t 0)), none⟩, ⟨(some 2), (.mov (.c (.slice none 0 0))), none⟩])
   (.seq
    (.region [⟨(some 3), (.ld true 13 (.t 1)), none⟩, ⟨(some 4), (.ld true 13 (.t 1)), none⟩, ⟨(some 5), (.fn (.func 61) [(.t 4)] []), none⟩, ⟨(some 6), (.call (.c (.func (.func 119) #[] #[])) [(.t 3), (.t 5)]), none⟩, ⟨(some 2), (.mov (.t 6)), none⟩])
    .ret))
def r99 : List AOp := [(.mov (.t 2))]
theorem ok99 : FnOk Tryd.prog 99 Tryd.f99.ntmps a99 r99 := ⟨Tryd.f99, Tryd.func99, by kernel_rfl, by kernel_rfl, by kernel_rfl, fun asv w => by simp⟩

/-- (layover/duty.set).lowest -/
def a100 : ACode :=
  (.seq
   (.region [⟨(some 2), (.mov (.c (.int .u64 0))), none⟩])
   (.seq
    (.region [⟨(some 3), (.mov (.t 0)), none⟩, ⟨(some 4), (.mov (.t 0)), none⟩, ⟨(some 5), (.gen 7 ⟨(some 5), (.unOp .neg 102 (.tmp 4)), 102, "piece.go:17", #[{ on := 1, ground := Go.Ground.data }], none⟩), none⟩, ⟨(some 6), (.gen 7 ⟨(some 6), (.binOp .and 102 (.tmp 3) (.tmp 5) 102), 102, "piece.go:17", #[{ on := 0, ground := Go.Ground.data }, { on := 2, ground := Go.Ground.data }], none⟩), none⟩, ⟨(some 2), (.mov (.t 6)), none⟩])
    .ret))
def r100 : List AOp := [(.mov (.t 2))]
theorem ok100 : FnOk Tryd.prog 100 Tryd.f100.ntmps a100 r100 := ⟨Tryd.f100, Tryd.func100, by kernel_rfl, by kernel_rfl, by kernel_rfl, fun asv w => by simp⟩

/-- math/bits.TrailingZeros -/
def a101 : ACode :=
  (.seq
   (.region [⟨(some 2), (.mov (.c (.int .i64 0))), none⟩])
   (.seq
    (.cond (.c (.bool false))
     (.seq
      (.region [⟨(some 3), (.mov (.t 0)), none⟩, ⟨(some 4), (.cvi .u32 (.t 3)), none⟩, ⟨(some 5), (.call (.c (.func (.func 120) #[] #[])) [(.t 4)]), none⟩, ⟨(some 2), (.mov (.t 5)), none⟩])
      .ret)
     .skip)
    (.seq
     (.region [⟨(some 6), (.mov (.t 0)), none⟩, ⟨(some 7), (.call (.c (.func (.func 121) #[] #[])) [(.t 6)]), none⟩, ⟨(some 2), (.mov (.t 7)), none⟩])
     .ret)))
def r101 : List AOp := [(.mov (.t 2))]
theorem ok101 : FnOk Tryd.prog 101 Tryd.f101.ntmps a101 r101 := ⟨Tryd.f101, Tryd.func101, by kernel_rfl, by kernel_rfl, by kernel_rfl, fun asv w => by simp⟩

end Go.Proofs.YtllkhaabcfnlpaaDoor
