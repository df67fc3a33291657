/-
  Joined texts of a calculus of abstract memory, and of contracts of the program's functions.
-/
import Derived.Test.YtohohnpjilinmaaJ9
import Derived.Test.YtohohnpjilinmaaChecked
import Derived.KernelRfl
/-
  The code of functions of the package, as the calculus has it.
-/
namespace Go.Proofs.Ytohohnpjilinmaa
open Go Go.Ab

/-- layover/layoverlaw01.ready -/
def a43 : ACode :=
  (.seq
   (.region [⟨(some 1), (.box (.t 0)), none⟩, ⟨(some 2), (.mov (.c (.bool false))), none⟩])
   (.seq
    (.region [⟨(some 3), (.ld true 4 (.t 1)), none⟩, ⟨(some 4), (.call (.c (.func (.func 16) #[] #[])) [(.t 3)]), none⟩, ⟨(some 5), (.mov (.t 4)), none⟩, ⟨(some 6), (.ld true 4 (.t 1)), (some (5, true))⟩, ⟨(some 7), (.call (.c (.func (.func 47) #[] #[])) [(.t 6)]), (some (5, true))⟩, ⟨(some 8), (.bin .eql (.t 7) (.c (.int .i64 0))), (some (5, true))⟩, ⟨(some 9), (.pick (.t 5) (.t 8) (.c (.bool false))), none⟩, ⟨(some 2), (.mov (.t 9)), none⟩])
    .ret))
def r43 : List AOp := [(.mov (.t 2))]
theorem ok43 : FnOk Try.prog 43 Try.f43.ntmps a43 r43 := ⟨Try.f43, Try.func43, by kernel_rfl, by kernel_rfl, by kernel_rfl, fun asv w => by simp⟩

/-- layover/layoverlaw01.Picked -/
def a44 : ACode :=
  (.seq
   (.region [⟨(some 2), (.box (.t 0)), none⟩, ⟨(some 4), (.mov (.c (.slice none 0 0))), none⟩])
   (.seq
    (.region [⟨(some 5), (.mov (.c (.slice none 0 0))), none⟩])
    (.seq
     (.seq
      (.region [⟨(some 6), (.mov (.c (.int .i64 0))), none⟩])
      (.block 0
       (.loop
        (.seq
         (.seq
          (.region [⟨(some 10), (.mov (.t 6)), none⟩, ⟨(some 11), (.fa 3 (.t 2)), none⟩, ⟨(some 12), (.ld false 1 (.t 11)), none⟩, ⟨(some 13), (.len (.t 12)), none⟩, ⟨(some 14), (.bin .lss (.t 10) (.t 13)), none⟩])
          (.cond (.t 14)
           .skip
           (.exit 0)))
         (.seq
          (.block 1
           (.seq
            (.region [⟨(some 17), (.fa 3 (.t 2)), none⟩, ⟨(some 18), (.ld false 1 (.t 17)), none⟩, ⟨(some 19), (.mov (.t 6)), none⟩, ⟨(some 20), (.isl 6 (.t 18) (.t 19)), none⟩, ⟨(some 21), (.ld true 6 (.t 20)), none⟩, ⟨(some 7), (.new [(.int .i64 0), (.int .i64 0), (.int .i64 0), (.int .i64 0), (.int .i64 0), (.int .i64 0)]), none⟩, ⟨none, (.st 6 (.t 7) (.t 21)), none⟩])
            (.seq
             (.region [⟨(some 8), (.mov (.c (.int .i64 1))), none⟩])
             (.seq
              (.seq
               (.region [⟨(some 22), (.mov (.t 1)), none⟩, ⟨(some 23), (.len (.t 22)), none⟩, ⟨(some 24), (.bin .gtr (.t 23) (.c (.int .i64 0))), none⟩])
               (.cond (.t 24)
                (.region [⟨(some 25), (.mov (.t 1)), none⟩, ⟨(some 26), (.mov (.t 6)), none⟩, ⟨(some 27), (.mov (.t 1)), none⟩, ⟨(some 28), (.len (.t 27)), none⟩, ⟨(some 29), (.bin .rem (.t 26) (.t 28)), none⟩, ⟨(some 30), (.isl 1 (.t 25) (.t 29)), none⟩, ⟨(some 31), (.ld false 1 (.t 30)), none⟩, ⟨(some 32), (.cvi .i64 (.t 31)), none⟩, ⟨(some 8), (.mov (.t 32)), none⟩])
                .skip))
              (.seq
               (.draw 13 [⟨⟨(some 33), (.fa 3 (.t 7)), none⟩, 0, false, []⟩, ⟨⟨(some 34), (.ld false 1 (.t 33)), none⟩, 1, false, []⟩, ⟨⟨(some 35), (.mov (.t 8)), none⟩, 2, false, []⟩, ⟨⟨(some 36), (.bin .quo (.t 35) (.c (.int .i64 3))), none⟩, 3, false, []⟩, ⟨⟨(some 37), (.fa 4 (.t 7)), none⟩, 4, false, []⟩, ⟨⟨(some 38), (.ld false 1 (.t 37)), none⟩, 5, false, []⟩, ⟨⟨(some 39), (.fa 3 (.t 7)), none⟩, 6, false, []⟩, ⟨⟨(some 40), (.ld false 1 (.t 39)), none⟩, 7, false, []⟩, ⟨⟨(some 41), (.bin .sub (.t 38) (.t 40)), none⟩, 8, false, []⟩, ⟨⟨(some 42), (.bin .add (.t 41) (.c (.int .i64 1))), none⟩, 9, false, []⟩, ⟨⟨(some 43), (.bin .rem (.t 36) (.t 42)), none⟩, 10, false, []⟩, ⟨⟨(some 44), (.bin .add (.t 34) (.t 43)), none⟩, 11, false, []⟩, ⟨⟨(some 9), (.mov (.t 44)), none⟩, 12, false, []⟩])
               (.seq
                (.seq
                 (.region [⟨(some 45), (.mov (.t 8)), none⟩, ⟨(some 46), (.bin .rem (.t 45) (.c (.int .i64 3))), none⟩])
                 (.block 2
                  (.seq
                   (.region [⟨(some 48), (.bin .eql (.t 46) (.c (.int .i64 0))), none⟩, ⟨(some 47), (.mov (.t 48)), none⟩])
                   (.cond (.t 47)
                    (.region [⟨(some 49), (.fa 3 (.t 7)), none⟩, ⟨(some 50), (.ld false 1 (.t 49)), none⟩, ⟨(some 9), (.mov (.t 50)), none⟩])
                    (.seq
                     (.region [⟨(some 52), (.bin .eql (.t 46) (.c (.int .i64 1))), none⟩, ⟨(some 51), (.mov (.t 52)), none⟩])
                     (.cond (.t 51)
                      (.region [⟨(some 53), (.fa 4 (.t 7)), none⟩, ⟨(some 54), (.ld false 1 (.t 53)), none⟩, ⟨(some 9), (.mov (.t 54)), none⟩])
                      .skip))))))
                (.region [⟨(some 55), (.mov (.t 5)), none⟩, ⟨(some 56), (.mov (.t 9)), none⟩, ⟨(some 57), (.bsl 1 [(.int .i64 0)] [(0, 1, (.t 56))]), none⟩, ⟨(some 58), (.app 1 8 (.t 55) (.t 57)), none⟩, ⟨(some 5), (.mov (.t 58)), none⟩])))))))
          (.region [⟨(some 15), (.mov (.t 6)), none⟩, ⟨(some 16), (.bin .add (.t 15) (.c (.int .i64 1))), none⟩, ⟨(some 6), (.mov (.t 16)), none⟩]))))))
     (.seq
      (.region [⟨(some 59), (.mov (.t 5)), none⟩, ⟨(some 4), (.mov (.t 59)), none⟩])
      .ret))))
def r44 : List AOp := [(.mov (.t 4))]
theorem ok44 : FnOk Try.prog 44 Try.f44.ntmps a44 r44 := ⟨Try.f44, Try.func44, by kernel_rfl, by kernel_rfl, by kernel_rfl, fun asv w => by simp⟩

/-- layover/layoverlaw01.RunRoad -/
def a9 : ACode :=
  (.seq
   (.region [⟨(some 3), (.box (.t 0)), none⟩, ⟨(some 6), (.mov (.c (.bool false))), none⟩])
   (.seq
    (.seq
     (.region [⟨(some 15), (.ld true 4 (.t 3)), none⟩, ⟨(some 16), (.call (.c (.func (.func 43) #[] #[])) [(.t 15)]), none⟩, ⟨(some 17), (.not (.t 16)), none⟩, ⟨(some 18), (.mov (.t 17)), none⟩, ⟨(some 19), (.mov (.t 1)), (some (18, false))⟩, ⟨(some 20), (.call (.c (.func (.func 25) #[] #[])) [(.t 19)]), (some (18, false))⟩, ⟨(some 21), (.not (.t 20)), (some (18, false))⟩, ⟨(some 22), (.pick (.t 18) (.c (.bool true)) (.t 21)), none⟩])
     (.cond (.t 22)
      (.seq
       (.region [⟨(some 23), (.call (.c (.func (.func 17) #[] #[])) []), none⟩, ⟨(some 6), (.mov (.t 23)), none⟩])
       .ret)
      .skip))
    (.seq
     (.region [⟨(some 25), (.ld true 4 (.t 3)), none⟩, ⟨(some 26), (.call (.c (.func (.func 19) #[] #[])) [(.t 25)]), none⟩, ⟨(some 27), (.call (.c (.func (.func 26) #[] #[])) [(.t 26)]), none⟩, ⟨(some 24), (.mov (.t 27)), none⟩, ⟨(some 28), (.ext (.t 24) 0), none⟩, ⟨(some 29), (.ext (.t 24) 1), none⟩, ⟨(some 7), (.mov (.t 28)), none⟩, ⟨(some 8), (.mov (.t 29)), none⟩])
     (.seq
      (.seq
       (.region [⟨(some 30), (.mov (.t 8)), none⟩, ⟨(some 31), (.bin .neq (.t 30) (.c (.int .i64 0))), none⟩, ⟨(some 32), (.mov (.t 31)), none⟩, ⟨(some 33), (.ld true 4 (.t 3)), (some (32, false))⟩, ⟨(some 34), (.call (.c (.func (.func 19) #[] #[])) [(.t 33)]), (some (32, false))⟩, ⟨(some 35), (.mov (.t 7)), (some (32, false))⟩, ⟨(some 36), (.call (.c (.func (.func 28) #[] #[])) [(.t 35)]), (some (32, false))⟩, ⟨(some 37), (.call (.c (.func (.func 27) #[] #[])) [(.t 34), (.t 36)]), (some (32, false))⟩, ⟨(some 38), (.not (.t 37)), (some (32, false))⟩, ⟨(some 39), (.pick (.t 32) (.c (.bool true)) (.t 38)), none⟩])
       (.cond (.t 39)
        (.seq
         (.region [⟨(some 6), (.mov (.c (.bool false))), none⟩])
         .ret)
        .skip))
      (.seq
       (.region [⟨(some 40), (.mov (.t 7)), none⟩, ⟨(some 41), (.mov (.t 1)), none⟩, ⟨(some 42), (.bld [(.slice none 0 0), (.slice none 0 0)] [(0, 1, (.t 40)), (1, 1, (.t 41))]), none⟩, ⟨(some 9), (.new [(.slice none 0 0), (.slice none 0 0)]), none⟩, ⟨none, (.st 2 (.t 9) (.t 42)), none⟩])
       (.seq
        (.seq
         (.region [⟨(some 10), (.mov (.c (.int .i64 0))), none⟩])
         (.block 0
          (.loop
           (.seq
            (.seq
             (.region [⟨(some 43), (.mov (.t 10)), none⟩, ⟨(some 44), (.bin .lss (.t 43) (.c (.int .i64 2))), none⟩])
             (.cond (.t 44)
              .skip
              (.exit 0)))
            (.seq
             (.block 1
              (.seq
               (.draw 15 [⟨⟨(some 48), (.ld true 4 (.t 3)), none⟩, 0, false, []⟩, ⟨⟨(some 50), (.mov (.t 10)), none⟩, 2, false, []⟩, ⟨⟨(some 51), (.iar 2 1 (.t 9) (.t 50)), none⟩, 3, false, []⟩, ⟨⟨(some 52), (.ld false 1 (.t 51)), none⟩, 4, false, []⟩, ⟨⟨(some 54), (.ld true 4 (.t 3)), none⟩, 6, false, []⟩, ⟨⟨(some 55), (.mov (.t 2)), none⟩, 7, false, []⟩, ⟨⟨(some 49), (.call (.c (.func (.func 19) #[] #[])) [(.t 48)]), none⟩, 1, true, [6, 4]⟩, ⟨⟨(some 53), (.call (.c (.func (.func 28) #[] #[])) [(.t 52)]), none⟩, 5, true, [6]⟩, ⟨⟨(some 56), (.call (.c (.func (.func 44) #[] #[])) [(.t 54), (.t 55)]), none⟩, 8, true, []⟩, ⟨⟨(some 57), (.call (.c (.func (.func 36) #[] #[])) [(.t 49), (.t 53), (.t 56)]), none⟩, 9, true, []⟩, ⟨⟨(some 47), (.mov (.t 57)), none⟩, 10, false, []⟩, ⟨⟨(some 58), (.ext (.t 47) 0), none⟩, 11, false, []⟩, ⟨⟨(some 59), (.ext (.t 47) 1), none⟩, 12, false, []⟩, ⟨⟨(some 11), (.mov (.t 58)), none⟩, 13, false, []⟩, ⟨⟨(some 12), (.mov (.t 59)), none⟩, 14, false, []⟩])
               (.seq
                (.seq
                 (.region [⟨(some 60), (.mov (.t 10)), none⟩, ⟨(some 61), (.bin .eql (.t 60) (.c (.int .i64 1))), none⟩, ⟨(some 62), (.mov (.t 61)), none⟩, ⟨(some 63), (.ld true 4 (.t 3)), (some (62, true))⟩, ⟨(some 64), (.call (.c (.func (.func 19) #[] #[])) [(.t 63)]), (some (62, true))⟩, ⟨(some 65), (.mov (.t 1)), (some (62, true))⟩, ⟨(some 66), (.call (.c (.func (.func 28) #[] #[])) [(.t 65)]), (some (62, true))⟩, ⟨(some 67), (.call (.c (.func (.func 27) #[] #[])) [(.t 64), (.t 66)]), (some (62, true))⟩, ⟨(some 68), (.not (.t 67)), (some (62, true))⟩, ⟨(some 69), (.pick (.t 62) (.t 68) (.c (.bool false))), none⟩])
                 (.cond (.t 69)
                  (.seq
                   (.region [⟨(some 70), (.mov (.t 12)), none⟩, ⟨(some 71), (.bin .eql (.t 70) (.c (.int .i64 2))), none⟩, ⟨(some 72), (.mov (.t 71)), none⟩, ⟨(some 73), (.call (.c (.func (.func 17) #[] #[])) []), (some (72, true))⟩, ⟨(some 74), (.pick (.t 72) (.t 73) (.c (.bool false))), none⟩, ⟨(some 6), (.mov (.t 74)), none⟩])
                   .ret)
                  .skip))
                (.seq
                 (.seq
                  (.region [⟨(some 75), (.mov (.t 12)), none⟩, ⟨(some 76), (.bin .neq (.t 75) (.c (.int .i64 0))), none⟩, ⟨(some 77), (.mov (.t 76)), none⟩, ⟨(some 78), (.mov (.t 11)), (some (77, false))⟩, ⟨(some 79), (.len (.t 78)), (some (77, false))⟩, ⟨(some 80), (.mov (.t 10)), (some (77, false))⟩, ⟨(some 81), (.iar 2 1 (.t 9) (.t 80)), (some (77, false))⟩, ⟨(some 82), (.ld false 1 (.t 81)), (some (77, false))⟩, ⟨(some 83), (.len (.t 82)), (some (77, false))⟩, ⟨(some 84), (.bin .neq (.t 79) (.t 83)), (some (77, false))⟩, ⟨(some 85), (.pick (.t 77) (.c (.bool true)) (.t 84)), none⟩])
                  (.cond (.t 85)
                   (.seq
                    (.region [⟨(some 6), (.mov (.c (.bool false))), none⟩])
                    .ret)
                   .skip))
                 (.seq
                  (.region [⟨(some 13), (.mov (.c (.int .i64 0))), none⟩])
                  (.block 2
                   (.loop
                    (.seq
                     (.seq
                      (.region [⟨(some 86), (.mov (.t 13)), none⟩, ⟨(some 87), (.mov (.t 11)), none⟩, ⟨(some 88), (.len (.t 87)), none⟩, ⟨(some 89), (.bin .lss (.t 86) (.t 88)), none⟩])
                      (.cond (.t 89)
                       .skip
                       (.exit 2)))
                     (.seq
                      (.block 3
                       (.seq
                        (.seq
                         (.draw 14 [⟨⟨(some 92), (.mov (.t 11)), none⟩, 0, false, []⟩, ⟨⟨(some 93), (.mov (.t 13)), none⟩, 1, false, []⟩, ⟨⟨(some 94), (.isl 1 (.t 92) (.t 93)), none⟩, 2, false, []⟩, ⟨⟨(some 95), (.ld false 1 (.t 94)), none⟩, 3, false, []⟩, ⟨⟨(some 96), (.len (.t 95)), none⟩, 4, false, []⟩, ⟨⟨(some 97), (.bin .add (.t 96) (.c (.int .i64 1))), none⟩, 5, false, []⟩, ⟨⟨(some 98), (.mov (.t 10)), none⟩, 6, false, []⟩, ⟨⟨(some 99), (.iar 2 1 (.t 9) (.t 98)), none⟩, 7, false, []⟩, ⟨⟨(some 100), (.ld false 1 (.t 99)), none⟩, 8, false, []⟩, ⟨⟨(some 101), (.mov (.t 13)), none⟩, 9, false, []⟩, ⟨⟨(some 102), (.isl 1 (.t 100) (.t 101)), none⟩, 10, false, []⟩, ⟨⟨(some 103), (.ld false 1 (.t 102)), none⟩, 11, false, []⟩, ⟨⟨(some 104), (.len (.t 103)), none⟩, 12, false, []⟩, ⟨⟨(some 105), (.bin .neq (.t 97) (.t 104)), none⟩, 13, false, []⟩])
                         (.cond (.t 105)
                          (.seq
                           (.region [⟨(some 6), (.mov (.c (.bool false))), none⟩])
                           .ret)
                          .skip))
                        (.seq
                         (.region [⟨(some 14), (.mov (.c (.int .i64 0))), none⟩])
                         (.block 4
                          (.loop
                           (.seq
                            (.seq
                             (.region [⟨(some 106), (.mov (.t 14)), none⟩, ⟨(some 107), (.mov (.t 11)), none⟩, ⟨(some 108), (.mov (.t 13)), none⟩, ⟨(some 109), (.isl 1 (.t 107) (.t 108)), none⟩, ⟨(some 110), (.ld false 1 (.t 109)), none⟩, ⟨(some 111), (.len (.t 110)), none⟩, ⟨(some 112), (.bin .lss (.t 106) (.t 111)), none⟩])
                             (.cond (.t 112)
                              .skip
                              (.exit 4)))
                            (.seq
                             (.block 5
                              (.seq
                               (.draw 40 [⟨⟨(some 115), (.mov (.t 11)), none⟩, 0, false, []⟩, ⟨⟨(some 116), (.mov (.t 13)), none⟩, 1, false, []⟩, ⟨⟨(some 117), (.isl 1 (.t 115) (.t 116)), none⟩, 2, false, []⟩, ⟨⟨(some 118), (.ld false 1 (.t 117)), none⟩, 3, false, []⟩, ⟨⟨(some 119), (.mov (.t 14)), none⟩, 4, false, []⟩, ⟨⟨(some 120), (.isl 1 (.t 118) (.t 119)), none⟩, 5, false, []⟩, ⟨⟨(some 121), (.ld false 1 (.t 120)), none⟩, 6, false, []⟩, ⟨⟨(some 122), (.bin .lss (.t 121) (.c (.int .i64 0))), none⟩, 7, false, []⟩, ⟨⟨(some 123), (.mov (.t 122)), none⟩, 8, false, []⟩, ⟨⟨(some 124), (.fa 3 (.t 3)), (some (123, false))⟩, 9, false, []⟩, ⟨⟨(some 125), (.ld false 1 (.t 124)), (some (123, false))⟩, 10, false, []⟩, ⟨⟨(some 126), (.mov (.t 10)), (some (123, false))⟩, 11, false, []⟩, ⟨⟨(some 127), (.iar 2 1 (.t 9) (.t 126)), (some (123, false))⟩, 12, false, []⟩, ⟨⟨(some 128), (.ld false 1 (.t 127)), (some (123, false))⟩, 13, false, []⟩, ⟨⟨(some 129), (.mov (.t 13)), (some (123, false))⟩, 14, false, []⟩, ⟨⟨(some 130), (.isl 1 (.t 128) (.t 129)), (some (123, false))⟩, 15, false, []⟩, ⟨⟨(some 131), (.ld false 1 (.t 130)), (some (123, false))⟩, 16, false, []⟩, ⟨⟨(some 132), (.mov (.t 14)), (some (123, false))⟩, 17, false, []⟩, ⟨⟨(some 133), (.isl 1 (.t 131) (.t 132)), (some (123, false))⟩, 18, false, []⟩, ⟨⟨(some 134), (.ld false 1 (.t 133)), (some (123, false))⟩, 19, false, []⟩, ⟨⟨(some 135), (.isl 6 (.t 125) (.t 134)), (some (123, false))⟩, 20, false, []⟩, ⟨⟨(some 136), (.fa 5 (.t 135)), (some (123, false))⟩, 21, false, []⟩, ⟨⟨(some 137), (.ld false 1 (.t 136)), (some (123, false))⟩, 22, false, []⟩, ⟨⟨(some 138), (.fa 3 (.t 3)), (some (123, false))⟩, 23, false, []⟩, ⟨⟨(some 139), (.ld false 1 (.t 138)), (some (123, false))⟩, 24, false, []⟩, ⟨⟨(some 140), (.mov (.t 10)), (some (123, false))⟩, 25, false, []⟩, ⟨⟨(some 141), (.iar 2 1 (.t 9) (.t 140)), (some (123, false))⟩, 26, false, []⟩, ⟨⟨(some 142), (.ld false 1 (.t 141)), (some (123, false))⟩, 27, false, []⟩, ⟨⟨(some 143), (.mov (.t 13)), (some (123, false))⟩, 28, false, []⟩, ⟨⟨(some 144), (.isl 1 (.t 142) (.t 143)), (some (123, false))⟩, 29, false, []⟩, ⟨⟨(some 145), (.ld false 1 (.t 144)), (some (123, false))⟩, 30, false, []⟩, ⟨⟨(some 146), (.mov (.t 14)), (some (123, false))⟩, 31, false, []⟩, ⟨⟨(some 147), (.bin .add (.t 146) (.c (.int .i64 1))), (some (123, false))⟩, 32, false, []⟩, ⟨⟨(some 148), (.isl 1 (.t 145) (.t 147)), (some (123, false))⟩, 33, false, []⟩, ⟨⟨(some 149), (.ld false 1 (.t 148)), (some (123, false))⟩, 34, false, []⟩, ⟨⟨(some 150), (.isl 6 (.t 139) (.t 149)), (some (123, false))⟩, 35, false, []⟩, ⟨⟨(some 151), (.fa 5 (.t 150)), (some (123, false))⟩, 36, false, []⟩, ⟨⟨(some 152), (.ld false 1 (.t 151)), (some (123, false))⟩, 37, false, []⟩, ⟨⟨(some 153), (.bin .neq (.t 137) (.t 152)), (some (123, false))⟩, 38, false, []⟩, ⟨⟨(some 154), (.pick (.t 123) (.c (.bool true)) (.t 153)), none⟩, 39, false, []⟩])
                               (.cond (.t 154)
                                (.seq
                                 (.region [⟨(some 6), (.mov (.c (.bool false))), none⟩])
                                 .ret)
                                .skip)))
                             (.region [⟨(some 113), (.mov (.t 14)), none⟩, ⟨(some 114), (.bin .add (.t 113) (.c (.int .i64 1))), none⟩, ⟨(some 14), (.mov (.t 114)), none⟩]))))))))
                      (.region [⟨(some 90), (.mov (.t 13)), none⟩, ⟨(some 91), (.bin .add (.t 90) (.c (.int .i64 1))), none⟩, ⟨(some 13), (.mov (.t 91)), none⟩]))))))))))
             (.region [⟨(some 45), (.mov (.t 10)), none⟩, ⟨(some 46), (.bin .add (.t 45) (.c (.int .i64 1))), none⟩, ⟨(some 10), (.mov (.t 46)), none⟩]))))))
        (.seq
         (.region [⟨(some 155), (.call (.c (.func (.func 17) #[] #[])) []), none⟩, ⟨(some 6), (.mov (.t 155)), none⟩])
         .ret)))))))
def r9 : List AOp := [(.mov (.t 6))]
theorem ok9 : FnOk Try.prog 9 Try.f9.ntmps a9 r9 := ⟨Try.f9, Try.func9, by kernel_rfl, by kernel_rfl, by kernel_rfl, fun asv w => by simp⟩

/-- layover/run.Cover -/
def a32 : ACode :=
  (.seq
   (.region [⟨(some 1), (.box (.t 0)), none⟩, ⟨(some 2), (.mov (.c (.slice none 0 0))), none⟩, ⟨(some 3), (.mov (.c (.slice none 0 0))), none⟩, ⟨(some 4), (.mov (.c (.int .i64 0))), none⟩])
   (.seq
    (.seq
     (.region [⟨(some 7), (.ld true 4 (.t 1)), none⟩, ⟨(some 8), (.call (.c (.func (.func 18) #[] #[])) [(.t 7)]), none⟩, ⟨(some 5), (.mov (.t 8)), none⟩])
     (.seq
      (.region [⟨(some 9), (.mov (.t 5)), none⟩, ⟨(some 10), (.bin .neq (.t 9) (.c (.int .i64 0))), none⟩])
      (.cond (.t 10)
       (.seq
        (.region [⟨(some 11), (.mov (.t 5)), none⟩, ⟨(some 2), (.mov (.c (.slice none 0 0))), none⟩, ⟨(some 3), (.mov (.c (.slice none 0 0))), none⟩, ⟨(some 4), (.mov (.t 11)), none⟩])
        .ret)
       .skip)))
    (.seq
     (.region [⟨(some 12), (.ld true 4 (.t 1)), none⟩, ⟨(some 13), (.call (.c (.func (.func 51) #[] #[])) [(.t 12)]), none⟩, ⟨(some 6), (.new [(.int .i64 0), (.int .i64 0), (.slice none 0 0), (.slice none 0 0), .nilFunc, (.slice none 0 0)]), none⟩, ⟨none, (.st 6 (.t 6) (.t 13)), none⟩])
     (.seq
      (.draw 11 [⟨⟨(some 15), (.ld true 6 (.t 6)), none⟩, 0, false, []⟩, ⟨⟨(some 16), (.ld true 6 (.t 6)), none⟩, 1, false, []⟩, ⟨⟨(some 17), (.ld true 6 (.t 6)), none⟩, 2, false, []⟩, ⟨⟨(some 18), (.call (.c (.func (.func 55) #[] #[])) [(.t 17)]), none⟩, 3, true, [1, 0]⟩, ⟨⟨(some 19), (.call (.c (.func (.func 54) #[] #[])) [(.t 16), (.t 18)]), none⟩, 4, true, [0]⟩, ⟨⟨(some 20), (.call (.c (.func (.func 59) #[] #[])) [(.t 15), (.t 19)]), none⟩, 5, true, []⟩, ⟨⟨(some 14), (.mov (.t 20)), none⟩, 6, false, []⟩, ⟨⟨(some 21), (.ext (.t 14) 0), none⟩, 7, false, []⟩, ⟨⟨(some 22), (.ext (.t 14) 1), none⟩, 8, false, []⟩, ⟨⟨(some 2), (.mov (.t 21)), none⟩, 9, false, []⟩, ⟨⟨(some 3), (.mov (.t 22)), none⟩, 10, false, []⟩])
      (.seq
       (.region [⟨(some 23), (.mov (.t 2)), none⟩, ⟨(some 24), (.mov (.t 3)), none⟩, ⟨(some 2), (.mov (.t 23)), none⟩, ⟨(some 3), (.mov (.t 24)), none⟩, ⟨(some 4), (.mov (.c (.int .i64 0))), none⟩])
       .ret)))))
def r32 : List AOp := [(.mov (.t 2)), (.mov (.t 3)), (.mov (.t 4))]
theorem ok32 : FnOk Try.prog 32 Try.f32.ntmps a32 r32 := ⟨Try.f32, Try.func32, by kernel_rfl, by kernel_rfl, by kernel_rfl, fun asv w => by simp⟩

/-- (layover/run.service).cover -/
def a59 : ACode :=
  (.seq
   (.region [⟨(some 2), (.box (.t 0)), none⟩, ⟨(some 3), (.box (.t 1)), none⟩, ⟨(some 4), (.mov (.c (.slice none 0 0))), none⟩, ⟨(some 5), (.mov (.c (.slice none 0 0))), none⟩])
   (.seq
    (.region [⟨(some 6), (.new [(.bool false), (.bool false), (.bool false), (.bool false), (.bool false), (.bool false), (.bool false), (.bool false), (.bool false), (.bool false), (.bool false), (.bool false)]), none⟩, ⟨(some 7), (.new [(.bool false), (.bool false), (.bool false), (.bool false), (.bool false), (.bool false), (.bool false), (.bool false), (.bool false), (.bool false), (.bool false), (.bool false)]), none⟩])
    (.seq
     (.region [⟨(some 8), (.new [.nilFunc]), none⟩])
     (.seq
      (.region [⟨(some 12), (.fn (.func 80) [] [(.t 6), (.t 2), (.t 7), (.t 3), (.t 8)]), none⟩, ⟨none, (.st 1 (.t 8) (.t 12)), none⟩])
      (.seq
       (.region [⟨(some 13), (.ld true 12 (.t 3)), none⟩, ⟨(some 14), (.call (.c (.func (.func 76) #[] #[])) [(.t 13)]), none⟩, ⟨(some 9), (.new [(.int .i64 0), (.int .i64 0), (.int .i64 0), (.int .i64 0), (.int .i64 0), (.int .i64 0), (.int .i64 0), (.int .i64 0), (.int .i64 0), (.int .i64 0), (.int .i64 0), (.int .i64 0)]), none⟩, ⟨none, (.st 12 (.t 9) (.t 14)), none⟩])
       (.seq
        (.seq
         (.region [⟨(some 15), (.fa 0 (.t 2)), none⟩, ⟨(some 16), (.fa 3 (.t 15)), none⟩, ⟨(some 17), (.ld false 1 (.t 16)), none⟩, ⟨(some 18), (.len (.t 17)), none⟩, ⟨(some 19), (.mov (.c (.int .i64 0))), none⟩])
         (.block 0
          (.loop
           (.seq
            (.region [⟨(some 20), (.bin .lss (.t 19) (.t 18)), none⟩])
            (.seq
             (.cond (.t 20)
              .skip
              (.exit 0))
             (.seq
              (.block 1
               (.seq
                (.region [⟨(some 21), (.mov (.t 19)), none⟩, ⟨(some 10), (.mov (.t 21)), none⟩])
                (.seq
                 (.region [⟨(some 22), (.mov (.t 10)), none⟩, ⟨(some 23), (.iar 12 1 (.t 9) (.t 22)), none⟩, ⟨(some 24), (.ld false 1 (.t 23)), none⟩, ⟨(some 25), (.bin .eql (.t 24) (.c (.int .i64 (-1)))), none⟩, ⟨(some 26), (.mov (.t 25)), none⟩, ⟨(some 27), (.mov (.t 10)), (some (26, true))⟩, ⟨(some 28), (.iar 12 1 (.t 6) (.t 27)), (some (26, true))⟩, ⟨(some 29), (.ld false 1 (.t 28)), (some (26, true))⟩, ⟨(some 30), (.not (.t 29)), (some (26, true))⟩, ⟨(some 31), (.pick (.t 26) (.t 30) (.c (.bool false))), none⟩])
                 (.cond (.t 31)
                  (.region [⟨(some 32), (.ld false 1 (.t 8)), none⟩, ⟨(some 33), (.mov (.t 10)), none⟩, ⟨(some 34), (.call (.t 32) [(.t 33)]), none⟩])
                  .skip))))
              (.region [⟨(some 35), (.bin .add (.t 19) (.c (.int .i64 1))), none⟩, ⟨(some 19), (.mov (.t 35)), none⟩])))))))
        (.seq
         (.seq
          (.region [⟨(some 36), (.fa 0 (.t 2)), none⟩, ⟨(some 37), (.fa 3 (.t 36)), none⟩, ⟨(some 38), (.ld false 1 (.t 37)), none⟩, ⟨(some 39), (.len (.t 38)), none⟩, ⟨(some 40), (.mov (.c (.int .i64 0))), none⟩])
          (.block 2
           (.loop
            (.seq
             (.region [⟨(some 41), (.bin .lss (.t 40) (.t 39)), none⟩])
             (.seq
              (.cond (.t 41)
               .skip
               (.exit 2))
              (.seq
               (.block 3
                (.seq
                 (.region [⟨(some 42), (.mov (.t 40)), none⟩, ⟨(some 11), (.mov (.t 42)), none⟩])
                 (.seq
                  (.seq
                   (.region [⟨(some 43), (.mov (.t 11)), none⟩, ⟨(some 44), (.iar 12 1 (.t 6) (.t 43)), none⟩, ⟨(some 45), (.ld false 1 (.t 44)), none⟩, ⟨(some 46), (.not (.t 45)), none⟩])
                   (.cond (.t 46)
                    (.region [⟨(some 47), (.mov (.t 4)), none⟩, ⟨(some 48), (.mov (.t 11)), none⟩, ⟨(some 49), (.bsl 1 [(.int .i64 0)] [(0, 1, (.t 48))]), none⟩, ⟨(some 50), (.app 1 8 (.t 47) (.t 49)), none⟩, ⟨(some 4), (.mov (.t 50)), none⟩])
                    .skip))
                  (.seq
                   (.region [⟨(some 51), (.mov (.t 11)), none⟩, ⟨(some 52), (.iar 12 1 (.t 7) (.t 51)), none⟩, ⟨(some 53), (.ld false 1 (.t 52)), none⟩])
                   (.cond (.t 53)
                    (.region [⟨(some 54), (.mov (.t 5)), none⟩, ⟨(some 55), (.mov (.t 11)), none⟩, ⟨(some 56), (.bsl 1 [(.int .i64 0)] [(0, 1, (.t 55))]), none⟩, ⟨(some 57), (.app 1 8 (.t 54) (.t 56)), none⟩, ⟨(some 5), (.mov (.t 57)), none⟩])
                    .skip)))))
               (.region [⟨(some 58), (.bin .add (.t 40) (.c (.int .i64 1))), none⟩, ⟨(some 40), (.mov (.t 58)), none⟩])))))))
         (.seq
          (.region [⟨(some 59), (.mov (.t 4)), none⟩, ⟨(some 60), (.mov (.t 5)), none⟩, ⟨(some 4), (.mov (.t 59)), none⟩, ⟨(some 5), (.mov (.t 60)), none⟩])
          .ret))))))))
def r59 : List AOp := [(.mov (.t 4)), (.mov (.t 5))]
theorem ok59 : FnOk Try.prog 59 Try.f59.ntmps a59 r59 := ⟨Try.f59, Try.func59, by kernel_rfl, by kernel_rfl, by kernel_rfl, fun asv w => by simp⟩

/-- (layover/run.service).cover$1 -/
def a80 : ACode :=
  (.seq
   (.region [⟨(some 9), (.mov (.t 0)), none⟩, ⟨(some 10), (.iar 12 1 (.t 1) (.t 9)), none⟩, ⟨none, (.st 1 (.t 10) (.c (.bool true))), none⟩])
   (.seq
    (.region [⟨(some 11), (.fa 5 (.t 2)), none⟩, ⟨(some 12), (.ld false 1 (.t 11)), none⟩, ⟨(some 13), (.mov (.t 0)), none⟩, ⟨(some 14), (.isl 1 (.t 12) (.t 13)), none⟩, ⟨(some 15), (.ld false 1 (.t 14)), none⟩, ⟨(some 16), (.len (.t 15)), none⟩, ⟨(some 17), (.mov (.c (.int .i64 0))), none⟩])
    (.block 0
     (.loop
      (.seq
       (.region [⟨(some 18), (.bin .lss (.t 17) (.t 16)), none⟩])
       (.seq
        (.cond (.t 18)
         .skip
         (.exit 0))
        (.seq
         (.block 1
          (.seq
           (.region [⟨(some 19), (.isl 1 (.t 15) (.t 17)), none⟩, ⟨(some 20), (.ld false 1 (.t 19)), none⟩, ⟨(some 8), (.mov (.t 20)), none⟩])
           (.seq
            (.seq
             (.region [⟨(some 21), (.mov (.t 8)), none⟩, ⟨(some 22), (.iar 12 1 (.t 3) (.t 21)), none⟩, ⟨(some 23), (.ld false 1 (.t 22)), none⟩])
             (.cond (.t 23)
              (.exit 1)
              .skip))
            (.seq
             (.region [⟨(some 24), (.mov (.t 8)), none⟩, ⟨(some 25), (.iar 12 1 (.t 3) (.t 24)), none⟩, ⟨none, (.st 1 (.t 25) (.c (.bool true))), none⟩])
             (.seq
              (.region [⟨(some 26), (.mov (.t 8)), none⟩, ⟨(some 27), (.iar 12 1 (.t 4) (.t 26)), none⟩, ⟨(some 28), (.ld false 1 (.t 27)), none⟩, ⟨(some 29), (.iar 12 1 (.t 1) (.t 28)), none⟩, ⟨(some 30), (.ld false 1 (.t 29)), none⟩, ⟨(some 31), (.not (.t 30)), none⟩])
              (.cond (.t 31)
               (.draw 5 [⟨⟨(some 32), (.ld false 1 (.t 5)), none⟩, 0, false, []⟩, ⟨⟨(some 33), (.mov (.t 8)), none⟩, 1, false, []⟩, ⟨⟨(some 34), (.iar 12 1 (.t 4) (.t 33)), none⟩, 2, false, []⟩, ⟨⟨(some 35), (.ld false 1 (.t 34)), none⟩, 3, false, []⟩, ⟨⟨(some 36), (.call (.t 32) [(.t 35)]), none⟩, 4, true, []⟩])
               .skip))))))
         (.region [⟨(some 37), (.bin .add (.t 17) (.c (.int .i64 1))), none⟩, ⟨(some 17), (.mov (.t 37)), none⟩]))))))))
def r80 : List AOp := []
theorem ok80 : FnOk Try.prog 80 Try.f80.ntmps a80 r80 := ⟨Try.f80, Try.func80, by kernel_rfl, by kernel_rfl, by kernel_rfl, fun asv w => by simp⟩

/-- layover/run.ProveCover -/
def a33 : ACode :=
  (.seq
   (.region [⟨(some 4), (.box (.t 0)), none⟩, ⟨(some 8), (.mov (.c (.bool false))), none⟩])
   (.seq
    (.region [⟨(some 9), (.ld true 4 (.t 4)), none⟩, ⟨(some 10), (.call (.c (.func (.func 18) #[] #[])) [(.t 9)]), none⟩, ⟨(some 11), (.bin .eql (.t 10) (.c (.int .i64 0))), none⟩, ⟨(some 12), (.mov (.t 11)), none⟩, ⟨(some 13), (.ld true 4 (.t 4)), (some (12, true))⟩, ⟨(some 14), (.call (.c (.func (.func 51) #[] #[])) [(.t 13)]), (some (12, true))⟩, ⟨(some 15), (.mov (.t 1)), (some (12, true))⟩, ⟨(some 16), (.mov (.t 2)), (some (12, true))⟩, ⟨(some 17), (.call (.c (.func (.func 60) #[] #[])) [(.t 14), (.t 15), (.t 16)]), (some (12, true))⟩, ⟨(some 18), (.pick (.t 12) (.t 17) (.c (.bool false))), none⟩, ⟨(some 19), (.mov (.t 18)), none⟩, ⟨(some 20), (.mov (.t 3)), (some (19, true))⟩, ⟨(some 21), (.fa 3 (.t 4)), (some (19, true))⟩, ⟨(some 22), (.ld false 1 (.t 21)), (some (19, true))⟩, ⟨(some 23), (.len (.t 22)), (some (19, true))⟩, ⟨(some 24), (.mov (.t 1)), (some (19, true))⟩, ⟨(some 25), (.len (.t 24)), (some (19, true))⟩, ⟨(some 26), (.bin .sub (.t 23) (.t 25)), (some (19, true))⟩, ⟨(some 27), (.mov (.t 2)), (some (19, true))⟩, ⟨(some 28), (.len (.t 27)), (some (19, true))⟩, ⟨(some 29), (.bin .sub (.t 26) (.t 28)), (some (19, true))⟩, ⟨(some 30), (.bin .leq (.t 20) (.t 29)), (some (19, true))⟩, ⟨(some 31), (.pick (.t 19) (.t 30) (.c (.bool false))), none⟩, ⟨(some 8), (.mov (.t 31)), none⟩])
    .ret))
def r33 : List AOp := [(.mov (.t 8))]
theorem ok33 : FnOk Try.prog 33 Try.f33.ntmps a33 r33 := ⟨Try.f33, Try.func33, by kernel_rfl, by kernel_rfl, by kernel_rfl, fun asv w => by simp⟩

/-- (layover/run.service).isCover -/
noncomputable def c60x0 : Code := (rfN Try.f60.body 0).1
noncomputable def c60y0 : Code := (rfN Try.f60.body 0).2
noncomputable def a60x0 : ACode :=
  (.seq
   (.region [⟨(some 9), (.mov (.t 27)), none⟩])
   (.region [⟨(some 10), (.mov (.t 28)), none⟩]))
theorem ok60x0 : ccode Try.prog 39 (cdraw Try.prog 39) c60x0 = some a60x0 := by kernel_rfl
def a60y0 : ACode :=
  (.block 1
   (.seq
    (.region [⟨(some 29), (.mov (.t 9)), none⟩, ⟨(some 30), (.iar 12 1 (.t 7) (.t 29)), none⟩, ⟨(some 31), (.ld false 1 (.t 30)), none⟩, ⟨(some 32), (.not (.t 31)), none⟩, ⟨(some 33), (.mov (.t 32)), none⟩, ⟨(some 34), (.mov (.t 10)), (some (33, true))⟩, ⟨(some 35), (.iar 12 1 (.t 8) (.t 34)), (some (33, true))⟩, ⟨(some 36), (.ld false 1 (.t 35)), (some (33, true))⟩, ⟨(some 37), (.not (.t 36)), (some (33, true))⟩, ⟨(some 38), (.pick (.t 33) (.t 37) (.c (.bool false))), none⟩])
    (.cond (.t 38)
     (.seq
      (.region [⟨none, (.st 1 (.t 6) (.c (.bool false))), none⟩])
      .ret)
     .skip)))
theorem ok60y0 : ccode Try.prog 39 (cdraw Try.prog 39) c60y0 = some a60y0 := by kernel_rfl
noncomputable def a60 : ACode :=
  (.seq
   (.region [⟨(some 3), (.box (.t 0)), none⟩, ⟨(some 6), (.new [(.bool false)]), none⟩])
   (.seq
    (.seq
     (.region [⟨(some 11), (.ld true 6 (.t 3)), none⟩, ⟨(some 12), (.mov (.t 1)), none⟩, ⟨(some 13), (.call (.c (.func (.func 81) #[] #[])) [(.t 11), (.t 12)]), none⟩, ⟨(some 14), (.not (.t 13)), none⟩, ⟨(some 15), (.mov (.t 14)), none⟩, ⟨(some 16), (.ld true 6 (.t 3)), (some (15, false))⟩, ⟨(some 17), (.mov (.t 2)), (some (15, false))⟩, ⟨(some 18), (.call (.c (.func (.func 81) #[] #[])) [(.t 16), (.t 17)]), (some (15, false))⟩, ⟨(some 19), (.not (.t 18)), (some (15, false))⟩, ⟨(some 20), (.pick (.t 15) (.c (.bool true)) (.t 19)), none⟩])
     (.cond (.t 20)
      (.seq
       (.region [⟨none, (.st 1 (.t 6) (.c (.bool false))), none⟩])
       .ret)
      .skip))
    (.seq
     (.region [⟨(some 21), (.mov (.t 1)), none⟩, ⟨(some 22), (.call (.c (.func (.func 82) #[] #[])) [(.t 21)]), none⟩, ⟨(some 23), (.mov (.t 2)), none⟩, ⟨(some 24), (.call (.c (.func (.func 82) #[] #[])) [(.t 23)]), none⟩, ⟨(some 7), (.new [(.bool false), (.bool false), (.bool false), (.bool false), (.bool false), (.bool false), (.bool false), (.bool false), (.bool false), (.bool false), (.bool false), (.bool false)]), none⟩, ⟨(some 8), (.new [(.bool false), (.bool false), (.bool false), (.bool false), (.bool false), (.bool false), (.bool false), (.bool false), (.bool false), (.bool false), (.bool false), (.bool false)]), none⟩, ⟨none, (.st 12 (.t 7) (.t 22)), none⟩, ⟨none, (.st 12 (.t 8) (.t 24)), none⟩])
     (.seq
      (.seq
       (.region [⟨(some 25), (.ld true 6 (.t 3)), none⟩, ⟨(some 26), (.call (.c (.func (.func 75) #[] #[])) [(.t 25)]), none⟩])
       (.block 0
        (.rangeF (.t 26) #[27, 28] c60x0 c60y0)))
      (.seq
       (.region [⟨none, (.st 1 (.t 6) (.c (.bool true))), none⟩])
       .ret)))))
def r60 : List AOp := [(.ld false 1 (.t 6))]
theorem ok60 : FnOk Try.prog 60 Try.f60.ntmps a60 r60 := ⟨Try.f60, Try.func60, by kernel_rfl, by kernel_rfl, by kernel_rfl, fun asv w => by simp⟩

/-- (layover/run.service).isRisingList -/
def a81 : ACode :=
  (.seq
   (.region [⟨(some 2), (.box (.t 0)), none⟩, ⟨(some 4), (.mov (.c (.bool false))), none⟩])
   (.seq
    (.region [⟨(some 5), (.new [(.int .i64 0)]), none⟩, ⟨none, (.st 1 (.t 5) (.c (.int .i64 (-1)))), none⟩])
    (.seq
     (.region [⟨(some 6), (.mov (.t 1)), none⟩, ⟨(some 7), (.fn (.func 89) [] [(.t 5), (.t 2)]), none⟩, ⟨(some 8), (.call (.c (.func (.func 65) #[] #[])) [(.t 6), (.t 7)]), none⟩, ⟨(some 4), (.mov (.t 8)), none⟩])
     .ret)))
def r81 : List AOp := [(.mov (.t 4))]
theorem ok81 : FnOk Try.prog 81 Try.f81.ntmps a81 r81 := ⟨Try.f81, Try.func81, by kernel_rfl, by kernel_rfl, by kernel_rfl, fun asv w => by simp⟩

/-- (layover/run.service).isRisingList$1 -/
def a89 : ACode :=
  (.seq
   (.region [⟨(some 4), (.mov (.c (.bool false))), none⟩])
   (.seq
    (.region [⟨(some 6), (.mov (.t 0)), none⟩, ⟨(some 7), (.ld false 1 (.t 1)), none⟩, ⟨(some 8), (.bin .gtr (.t 6) (.t 7)), none⟩, ⟨(some 5), (.mov (.t 8)), none⟩])
    (.seq
     (.region [⟨(some 9), (.mov (.t 0)), none⟩, ⟨none, (.st 1 (.t 1) (.t 9)), none⟩])
     (.seq
      (.region [⟨(some 10), (.mov (.t 5)), none⟩, ⟨(some 11), (.mov (.t 10)), none⟩, ⟨(some 12), (.ld true 6 (.t 2)), (some (11, true))⟩, ⟨(some 13), (.mov (.t 0)), (some (11, true))⟩, ⟨(some 14), (.call (.c (.func (.func 78) #[] #[])) [(.t 12), (.t 13)]), (some (11, true))⟩, ⟨(some 15), (.pick (.t 11) (.t 14) (.c (.bool false))), none⟩, ⟨(some 4), (.mov (.t 15)), none⟩])
      .ret))))
def r89 : List AOp := [(.mov (.t 4))]
theorem ok89 : FnOk Try.prog 89 Try.f89.ntmps a89 r89 := ⟨Try.f89, Try.func89, by kernel_rfl, by kernel_rfl, by kernel_rfl, fun asv w => by simp⟩

/-- layover/layoverlaw01.RunFewer -/
def a10 : ACode :=
  (.seq
   (.region [⟨(some 4), (.box (.t 0)), none⟩, ⟨(some 8), (.mov (.c (.bool false))), none⟩])
   (.seq
    (.seq
     (.region [⟨(some 14), (.ld true 4 (.t 4)), none⟩, ⟨(some 15), (.call (.c (.func (.func 43) #[] #[])) [(.t 14)]), none⟩, ⟨(some 16), (.not (.t 15)), none⟩, ⟨(some 17), (.mov (.t 16)), none⟩, ⟨(some 18), (.mov (.t 1)), (some (17, false))⟩, ⟨(some 19), (.call (.c (.func (.func 25) #[] #[])) [(.t 18)]), (some (17, false))⟩, ⟨(some 20), (.not (.t 19)), (some (17, false))⟩, ⟨(some 21), (.pick (.t 17) (.c (.bool true)) (.t 20)), none⟩, ⟨(some 22), (.mov (.t 21)), none⟩, ⟨(some 23), (.mov (.t 2)), (some (22, false))⟩, ⟨(some 24), (.len (.t 23)), (some (22, false))⟩, ⟨(some 25), (.bin .gtr (.t 24) (.c (.int .i64 15))), (some (22, false))⟩, ⟨(some 26), (.pick (.t 22) (.c (.bool true)) (.t 25)), none⟩, ⟨(some 27), (.mov (.t 26)), none⟩, ⟨(some 28), (.mov (.t 3)), (some (27, false))⟩, ⟨(some 29), (.len (.t 28)), (some (27, false))⟩, ⟨(some 30), (.bin .gtr (.t 29) (.c (.int .i64 15))), (some (27, false))⟩, ⟨(some 31), (.pick (.t 27) (.c (.bool true)) (.t 30)), none⟩])
     (.cond (.t 31)
      (.seq
       (.region [⟨(some 32), (.call (.c (.func (.func 17) #[] #[])) []), none⟩, ⟨(some 8), (.mov (.t 32)), none⟩])
       .ret)
      .skip))
    (.seq
     (.region [⟨(some 34), (.ld true 4 (.t 4)), none⟩, ⟨(some 35), (.call (.c (.func (.func 19) #[] #[])) [(.t 34)]), none⟩, ⟨(some 36), (.call (.c (.func (.func 26) #[] #[])) [(.t 35)]), none⟩, ⟨(some 33), (.mov (.t 36)), none⟩, ⟨(some 37), (.ext (.t 33) 0), none⟩, ⟨(some 38), (.ext (.t 33) 1), none⟩, ⟨(some 9), (.mov (.t 37)), none⟩, ⟨(some 10), (.mov (.t 38)), none⟩])
     (.seq
      (.region [⟨(some 40), (.ld true 4 (.t 4)), none⟩, ⟨(some 41), (.call (.c (.func (.func 19) #[] #[])) [(.t 40)]), none⟩, ⟨(some 42), (.call (.c (.func (.func 32) #[] #[])) [(.t 41)]), none⟩, ⟨(some 39), (.mov (.t 42)), none⟩, ⟨(some 43), (.ext (.t 39) 0), none⟩, ⟨(some 44), (.ext (.t 39) 1), none⟩, ⟨(some 45), (.ext (.t 39) 2), none⟩, ⟨(some 11), (.mov (.t 43)), none⟩, ⟨(some 12), (.mov (.t 44)), none⟩, ⟨(some 13), (.mov (.t 45)), none⟩])
      (.seq
       (.seq
        (.region [⟨(some 46), (.mov (.t 10)), none⟩, ⟨(some 47), (.bin .neq (.t 46) (.c (.int .i64 0))), none⟩, ⟨(some 48), (.mov (.t 47)), none⟩, ⟨(some 49), (.mov (.t 13)), (some (48, false))⟩, ⟨(some 50), (.bin .neq (.t 49) (.c (.int .i64 0))), (some (48, false))⟩, ⟨(some 51), (.pick (.t 48) (.c (.bool true)) (.t 50)), none⟩, ⟨(some 52), (.mov (.t 51)), none⟩, ⟨(some 53), (.ld true 4 (.t 4)), (some (52, false))⟩, ⟨(some 54), (.call (.c (.func (.func 19) #[] #[])) [(.t 53)]), (some (52, false))⟩, ⟨(some 55), (.mov (.t 9)), (some (52, false))⟩, ⟨(some 56), (.call (.c (.func (.func 28) #[] #[])) [(.t 55)]), (some (52, false))⟩, ⟨(some 57), (.call (.c (.func (.func 27) #[] #[])) [(.t 54), (.t 56)]), (some (52, false))⟩, ⟨(some 58), (.not (.t 57)), (some (52, false))⟩, ⟨(some 59), (.pick (.t 52) (.c (.bool true)) (.t 58)), none⟩, ⟨(some 60), (.mov (.t 59)), none⟩, ⟨(some 61), (.ld true 4 (.t 4)), (some (60, false))⟩, ⟨(some 62), (.call (.c (.func (.func 19) #[] #[])) [(.t 61)]), (some (60, false))⟩, ⟨(some 63), (.mov (.t 11)), (some (60, false))⟩, ⟨(some 64), (.call (.c (.func (.func 34) #[] #[])) [(.t 63)]), (some (60, false))⟩, ⟨(some 65), (.mov (.t 12)), (some (60, false))⟩, ⟨(some 66), (.call (.c (.func (.func 34) #[] #[])) [(.t 65)]), (some (60, false))⟩, ⟨(some 67), (.mov (.t 9)), (some (60, false))⟩, ⟨(some 68), (.len (.t 67)), (some (60, false))⟩, ⟨(some 69), (.call (.c (.func (.func 33) #[] #[])) [(.t 62), (.t 64), (.t 66), (.t 68)]), (some (60, false))⟩, ⟨(some 70), (.not (.t 69)), (some (60, false))⟩, ⟨(some 71), (.pick (.t 60) (.c (.bool true)) (.t 70)), none⟩])
        (.cond (.t 71)
         (.seq
          (.region [⟨(some 8), (.mov (.c (.bool false))), none⟩])
          .ret)
         .skip))
       (.seq
        (.seq
         (.region [⟨(some 72), (.ld true 4 (.t 4)), none⟩, ⟨(some 73), (.call (.c (.func (.func 19) #[] #[])) [(.t 72)]), none⟩, ⟨(some 74), (.mov (.t 1)), none⟩, ⟨(some 75), (.call (.c (.func (.func 28) #[] #[])) [(.t 74)]), none⟩, ⟨(some 76), (.call (.c (.func (.func 27) #[] #[])) [(.t 73), (.t 75)]), none⟩, ⟨(some 77), (.mov (.t 76)), none⟩, ⟨(some 78), (.mov (.t 1)), (some (77, true))⟩, ⟨(some 79), (.len (.t 78)), (some (77, true))⟩, ⟨(some 80), (.mov (.t 9)), (some (77, true))⟩, ⟨(some 81), (.len (.t 80)), (some (77, true))⟩, ⟨(some 82), (.bin .lss (.t 79) (.t 81)), (some (77, true))⟩, ⟨(some 83), (.pick (.t 77) (.t 82) (.c (.bool false))), none⟩])
         (.cond (.t 83)
          (.seq
           (.region [⟨(some 8), (.mov (.c (.bool false))), none⟩])
           .ret)
          .skip))
        (.seq
         (.region [⟨(some 84), (.ld true 4 (.t 4)), none⟩, ⟨(some 85), (.call (.c (.func (.func 19) #[] #[])) [(.t 84)]), none⟩, ⟨(some 86), (.mov (.t 2)), none⟩, ⟨(some 87), (.call (.c (.func (.func 34) #[] #[])) [(.t 86)]), none⟩, ⟨(some 88), (.mov (.t 3)), none⟩, ⟨(some 89), (.call (.c (.func (.func 34) #[] #[])) [(.t 88)]), none⟩, ⟨(some 90), (.mov (.t 9)), none⟩, ⟨(some 91), (.len (.t 90)), none⟩, ⟨(some 92), (.bin .add (.t 91) (.c (.int .i64 1))), none⟩, ⟨(some 93), (.call (.c (.func (.func 33) #[] #[])) [(.t 85), (.t 87), (.t 89), (.t 92)]), none⟩, ⟨(some 94), (.not (.t 93)), none⟩, ⟨(some 95), (.mov (.t 94)), none⟩, ⟨(some 96), (.call (.c (.func (.func 17) #[] #[])) []), (some (95, true))⟩, ⟨(some 97), (.pick (.t 95) (.t 96) (.c (.bool false))), none⟩, ⟨(some 8), (.mov (.t 97)), none⟩])
         .ret)))))))
def r10 : List AOp := [(.mov (.t 8))]
theorem ok10 : FnOk Try.prog 10 Try.f10.ntmps a10 r10 := ⟨Try.f10, Try.func10, by kernel_rfl, by kernel_rfl, by kernel_rfl, fun asv w => by simp⟩

end Go.Proofs.Ytohohnpjilinmaa

/-
  Contracts of what a statement picks: a timetable that may be played, and a truth by words.
-/
namespace Go.Proofs.Ytohohnpjilinmaa
open Go Go.Ab

theorem binI_rem {k : IntKind} {x y : Int} (h : y ≠ 0) : binI .rem (.int k x) (.int k y) = some (.int k (x.tmod y)) := by simp [binI, h]
theorem binI_quo {k : IntKind} {x y : Int} (h : y ≠ 0) : binI .quo (.int k x) (.int k y) = some (.int k (k.wrap (x.tdiv y))) := by simp [binI, h]

def readyT (T : Tab) : Bool := thin T && decide (checkT T = 0)

theorem readyS_spec {e s : Value} {T : Tab} {H : Heap} (h : TabAt H e s T) : AFun Try.prog 43 [tabV T e s] H (fun r B => r = .bool (readyT T) ∧ Ge H B) := by
  refine AFun.mk ok43 hm (Nat.le_of_ble_eq_true rfl) ?_
  simp [a43, r43]
  refine fcall_fun (thin_spec (h.ge (Ge.new _ _))) ?_
  rintro _ B ⟨rfl, g⟩
  have G : Ge H B := Ge.trans (Ge.new _ _) g
  have b1 := g.got (n := H.next) (by simp) rfl
  simp at b1
  unfold readyT
  cases thin T
  · simp [G]
  · simp [b1]
    refine fcall_fun (fault_spec (h.ge G)) ?_
    rintro _ C ⟨rfl, gC⟩
    simp
    exact G.trans gC

/-- Words. -/
def WordsAt (H : Heap) (v : Value) (ws : List Int) : Prop := SlR H 1 v ws.length (ws.map (.int .u16)) ∧ ws.length < 2 ^ 63 ∧ ∀ w ∈ ws, 0 ≤ w ∧ w < 65536
theorem WordsAt.ge {H H' : Heap} {v : Value} {ws : List Int} (h : WordsAt H v ws) (g : Ge H H') : WordsAt H' v ws := ⟨h.1.ge g, h.2⟩
theorem WordsAt.lenV {H : Heap} {v : Value} {ws : List Int} (h : WordsAt H v ws) : Go.Ab.lenV v = some (.int .i64 ws.length) := h.1.lenV
theorem WordsAt.at {H : Heap} {v : Value} {ws : List Int} (h : WordsAt H v ws) {i : Nat} (hi : i < ws.length) : ∃ p, islV 1 v (.int .i64 i) = some p ∧ ldV H false 1 p = some (.int .u16 ws[i]) := by
  obtain ⟨p, h1, h2⟩ := h.1.at1 (k := .i64) hi
  exact ⟨p, h1, by rw [h2]; simp [hi]⟩

theorem picked_spec {e s wv : Value} {T : Tab} {ws : List Int} {H : Heap} (h : TabAt H e s T) (hT : Valid T) (hw : WordsAt H wv ws) : AFun Try.prog 44 [tabV T e s, wv] H (fun r B => (∃ times, IntsAt B r times ∧ fitsL T times = true) ∧ Ge H B) := by
  refine AFun.mk ok44 hm (Nat.le_of_ble_eq_true rfl) ?_
  have hfew := hT.few
  have h63 := hw.2.1
  simp [a44, r44]
  refine floop_intro (fun z => z.d = [] ∧ Ge H z.H ∧ H.next < z.H.next ∧ z.t 1 = wv ∧ z.t 2 = .pointer (some ⟨H.next, 0, none⟩) ∧ z.H.get H.next = .cells true [.int .i64 T.places, .int .i64 T.layover, e, s] 4 ∧
    ∃ (i : Nat) (times : List Int), i ≤ T.trips.length ∧ z.t 6 = .int .i64 i ∧ times.length = i ∧ (∀ k, k < i → okTime T times k = true) ∧ OwnSl z.H (H.next + 1) (z.t 5) (times.map (.int .i64))) (fun z => T.trips.length - (intOf (z.t 6)).toNat) ?_ ?_
  · exact ⟨rfl, by simp, by simp, by simp, by simp, by simp, 0, [], by simp, by simp, rfl, fun k hk => by omega, .inl ⟨by simp, rfl⟩⟩
  rintro ⟨t, _, A⟩ ⟨rfl, g, hn, t1, t2, b0, i, times, hi, t6, htl, hall, hO⟩
  dsimp only at g hn t1 t2 b0 t6 hO
  simp [t2, t6, b0, h.trips.lenV]
  refine fcond_intro (fun hc => ?_) (fun hc => ?_)
  · have hi' : i < T.trips.length := by simpa using hc
    obtain ⟨n1, o1, f1, l1, f2, _⟩ := (h.trips.ge g).at hi'
    have hx := hT.trip (List.getElem_mem hi')
    have q0 : H.next ≠ A.next := by omega
    simp [t1, t2, t6, b0, f1, f2, Tr.val, hw.lenV]
    have hokm : ∀ m : Int, T.trips[i].least ≤ m → m ≤ T.trips[i].most → ∀ k, k < i + 1 → okTime T (times ++ [m]) k = true := by
      intro m h1 h2 k hk
      by_cases e : k = i
      · subst e
        simp [okTime, hi', htl, h1, h2]
      · have := hall k (by omega)
        unfold okTime at this ⊢
        rw [List.getElem?_append_left (by omega)]
        exact this
    have fin : ∀ (m : Int), T.trips[i].least ≤ m → m ≤ T.trips[i].most → ∀ (B : Heap) (R : Value → Heap → Prop) (c : Nat), B = ((⟨((A.new (.cells true [.int .i64 0, .int .i64 0, .int .i64 0, .int .i64 0, .int .i64 0, .int .i64 0] 6)).set A.next (.cells true [.int .i64 T.trips[i].src, .int .i64 T.trips[i].dst, .int .i64 T.trips[i].start, .int .i64 T.trips[i].least, .int .i64 T.trips[i].most, .int .i64 T.trips[i].kind] 6)).get, A.next + 14⟩ : Heap).new (.cells true [.int .i64 m] 1)) → B.next ≤ c →
        (∀ u C, OwnSl C (H.next + 1) u ((times ++ [m]).map (.int .i64)) → Ge H C → H.next < C.next → C.get H.next = .cells true [.int .i64 T.places, .int .i64 T.layover, e, s] 4 → R u C) → @fapp (baseOf B 1 (t 5)) (slCells B 1 (.slice (some ⟨A.next + 14, 0, none⟩) 1 1)) 1 8 B c (c + 1) ⟨R⟩ := by
      intro m h1 h2 B R c hB hcB K
      have gAB : Ge A B := by rw [hB]; exact Ge.newOf (Ge.grow_le (by omega) (Ge.setNew (Ge.new _ _) (Nat.le_refl _) _)) _
      have hBn : B.next = A.next + 15 := by rw [hB]; rfl
      refine fapp_own' (lo := H.next + 1) (hO.ge gAB) (slCells_new (x := .int .i64 m) (rw := true) (c := 1) (by rw [hB]; simp)) rfl (by simp; omega) (by omega) (by omega) (by omega) fun u C k1 k2 k3 k4 => ?_
      have hC : ∀ q, q < H.next + 1 → C.get q = A.get q := fun q hq => by
        rw [k4 q (by omega) (fun e => by have := (hO.names e).1; omega), gAB.get q (by omega)]
      refine K u C (by simpa using k1) ⟨by have := g.next; omega, fun q hq => by rw [hC q (by omega), g.get q hq]⟩ (by omega) (by rw [hC _ (by omega), b0])
    by_cases hw0 : 0 < ws.length
    · have hw0' : ¬ (ws.length : Int) = 0 := by omega
      have hmod : (i : Int).tmod (ws.length : Int) = ((i % ws.length : Nat) : Int) := by simp [Int.tmod]
      have hml : i % ws.length < ws.length := Nat.mod_lt _ hw0
      have gA : Ge H (Heap.set (A.new (.cells true [.int .i64 0, .int .i64 0, .int .i64 0, .int .i64 0, .int .i64 0, .int .i64 0] 6)) A.next (.cells true T.trips[i].cells 6)) := Ge.setNew (g.newOf _) g.next _
      obtain ⟨p, e1, e2⟩ := (hw.ge gA).at hml
      have hwb := hw.2.2 _ (List.getElem_mem hml)
      simp only [Tr.cells] at e2
      simp only [Int.natCast_emod] at e1
      generalize ws[i % ws.length] = w at e2 hwb
      have hwr : IntKind.i64.wrap w = w := wrap_i64 (by omega) (by omega)
      have hdiv : w.tdiv 3 = w / 3 := Int.tdiv_eq_ediv_of_nonneg (by omega)
      have q1 : IntKind.i64.wrap (w.tdiv 3) = w.tdiv 3 := wrap_i64 (by omega) (by omega)
      have q2 : 0 ≤ (w.tdiv 3).tmod (T.trips[i].most - T.trips[i].least + 1) := Int.tmod_nonneg _ (by omega)
      have q3 : (w.tdiv 3).tmod (T.trips[i].most - T.trips[i].least + 1) < T.trips[i].most - T.trips[i].least + 1 := Int.tmod_lt_of_pos _ (by omega)
      generalize hq : (w.tdiv 3).tmod (T.trips[i].most - T.trips[i].least + 1) = q at q2 q3
      simp [hw0, t1, t6, hw.lenV, binI_rem (x := (i : Int)) (y := (ws.length : Int)) hw0', hmod, e1, e2, hwr, binI_quo (x := w) (y := 3) (by decide), q1, binI_rem (x := w.tdiv 3) (y := T.trips[i].most - T.trips[i].least + 1) (by omega), hq, sub_in (x := T.trips[i].most) (y := T.trips[i].least) (by omega) (by omega), add_in (x := T.trips[i].most - T.trips[i].least) (y := 1) (by omega) (by omega), add_in (x := T.trips[i].least) (y := q) (by omega) (by omega), binI_rem (x := w) (y := 3) (by decide)]
      by_cases z0 : w.tmod 3 = 0
      · simp [z0]
        refine fin T.trips[i].least (by omega) (by omega) _ _ _ rfl (by simp) fun u C k1 k2 k3 k4 => ?_
        simp [t6, add_in (x := i) (y := 1) (by omega) (by omega)]
        exact ⟨⟨k2, k3, t1, t2, k4, i + 1, by omega, by omega, times ++ [T.trips[i].least], by simp [htl], hokm T.trips[i].least (by omega) (by omega), by simpa using k1⟩, by omega⟩
      by_cases z1 : w.tmod 3 = 1
      · simp [z1]
        refine fin T.trips[i].most (by omega) (by omega) _ _ _ rfl (by simp) fun u C k1 k2 k3 k4 => ?_
        simp [t6, add_in (x := i) (y := 1) (by omega) (by omega)]
        exact ⟨⟨k2, k3, t1, t2, k4, i + 1, by omega, by omega, times ++ [T.trips[i].most], by simp [htl], hokm T.trips[i].most (by omega) (by omega), by simpa using k1⟩, by omega⟩
      simp [z0, z1]
      refine fin (T.trips[i].least + q) (by omega) (by omega) _ _ _ rfl (by simp) fun u C k1 k2 k3 k4 => ?_
      simp [t6, add_in (x := i) (y := 1) (by omega) (by omega)]
      exact ⟨⟨k2, k3, t1, t2, k4, i + 1, by omega, by omega, times ++ [(T.trips[i].least + q)], by simp [htl], hokm (T.trips[i].least + q) (by omega) (by omega), by simpa using k1⟩, by omega⟩
    · have hws : ws = [] := List.length_eq_zero_iff.1 (by omega)
      subst hws
      have b1 : binI .quo (.int .i64 1) (.int .i64 3) = some (.int .i64 0) := rfl
      have b2 : binI .rem (.int .i64 1) (.int .i64 3) = some (.int .i64 1) := rfl
      simp [b1, b2, binI_rem (x := 0) (y := T.trips[i].most - T.trips[i].least + 1) (by omega), sub_in (x := T.trips[i].most) (y := T.trips[i].least) (by omega) (by omega), add_in (x := T.trips[i].most - T.trips[i].least) (y := 1) (by omega) (by omega), add_in (x := T.trips[i].least) (y := 0) (by omega) (by omega)]
      refine fin T.trips[i].most (by omega) (by omega) _ _ _ rfl (by simp) fun u C k1 k2 k3 k4 => ?_
      simp [t6, add_in (x := i) (y := 1) (by omega) (by omega)]
      exact ⟨⟨k2, k3, t1, t2, k4, i + 1, by omega, by omega, times ++ [T.trips[i].most], by simp [htl], hokm T.trips[i].most (by omega) (by omega), by simpa using k1⟩, by omega⟩
  · have hi' : i = T.trips.length := by simp at hc; omega
    subst hi'
    simp
    refine ⟨⟨times, ⟨by simpa using hO.slr, by omega⟩, ?_⟩, g⟩
    simp only [fitsL, htl, decide_true, Bool.true_and, List.all_eq_true, List.mem_range]
    exact hall

end Go.Proofs.Ytohohnpjilinmaa

/-
  In each truth no bus waits less than no minutes; sizes of cuttings.
-/
namespace Go.Proofs.Ytohohnpjilinmaa
open Go Go.Ab

theorem may_kind {T : Tab} {i j : Nat} (h : T.mayN i j = true) : ∃ x y, T.trips[i]? = some x ∧ T.trips[j]? = some y ∧ x.kind = y.kind ∧ T.wait x y [x.least, x.most] ≥ 0 := by
  unfold Tab.mayN at h
  split at h
  · rename_i x y h1 h2
    refine ⟨x, y, h1, h2, ?_, ?_⟩
    · simp [Tab.may] at h; exact h.1.2
    · simp [Tab.may] at h; exact h.2
  · cases h

theorem waitAt_nonneg {T : Tab} (hT : Valid T) {times b : List Int} (hf : fitsL T times = true) {k : Nat} (hk : k + 1 < b.length) (hm : T.mayN b[k].toNat b[k + 1].toNat = true) : 0 ≤ waitAt T times b (k + 1) := by
  obtain ⟨x, y, h1, h2, _, h3⟩ := may_kind hm
  obtain ⟨hi, hx⟩ := List.getElem?_eq_some_iff.1 h1
  obtain ⟨m, m1, m2, m3, m4, m5⟩ := fitsL_at hT hf hi
  rw [hx] at m2 m3
  have ht := hT.trip (List.getElem_mem hi)
  rw [hx] at ht
  unfold waitAt
  simp only [Nat.add_sub_cancel]
  rw [List.getElem?_eq_getElem hk, List.getElem?_eq_getElem (by omega : k < b.length)]
  simp only [Option.getD_some]
  rw [h1, h2, m1]
  simp only [Option.getD_some]
  unfold Tab.wait Tab.ready at h3 ⊢
  simp only [List.foldl_cons, List.foldl_nil] at h3 ⊢
  have e1 : max (max 0 x.least) x.most = x.most := by omega
  have e2 : max 0 m = m := by omega
  rw [e1] at h3
  rw [e2]
  omega

theorem goodB_may {T : Tab} : ∀ {bs : List (List Int)} {l : List Int}, GoodB T l bs → ∀ b ∈ bs, ∀ k (h : k + 1 < b.length), T.mayN b[k].toNat b[k + 1].toNat = true
  | [], _, _, b, hb => by simp at hb
  | c :: bs, l, h, b, hb => by
    rcases List.mem_cons.1 hb with rfl | hb
    · exact h.1.may
    · exact goodB_may h.2 b hb

theorem flat_le {T : Tab} (hfew : T.trips.length ≤ 12) {bs : List (List Int)} (h : isCutL T bs = true) : bs.flatten.length ≤ T.trips.length := by
  obtain ⟨h1, _⟩ := (isCutL_iff hfew).1 h
  have hnd := h1.nodup (by simp)
  simp only [List.nil_append] at hnd
  have := flat_cnt hfew hnd h1.num (fun _ => true)
  rw [List.countP_eq_length_filter, List.filter_eq_self.2 (fun _ _ => rfl)] at this
  exact Nat.le_trans this cntN_le

theorem flatten_bounds {bs : List (List Int)} (h0 : ∀ b ∈ bs, b ≠ []) : bs.length ≤ bs.flatten.length ∧ ∀ b ∈ bs, b.length ≤ bs.flatten.length := by
  induction bs with
  | nil => simp
  | cons c bs ih =>
    obtain ⟨i1, i2⟩ := ih fun b hb => h0 b (List.mem_cons_of_mem _ hb)
    have := List.length_pos_iff.2 (h0 c (List.mem_cons_self))
    simp only [List.flatten_cons, List.length_append, List.length_cons]
    refine ⟨by omega, fun b hb => ?_⟩
    rcases List.mem_cons.1 hb with rfl | hb
    · omega
    · have := i2 b hb; omega

theorem cut_small {T : Tab} (hfew : T.trips.length ≤ 12) {bs : List (List Int)} (h : isCutL T bs = true) : bs.length ≤ 12 ∧ ∀ b ∈ bs, b.length ≤ 12 := by
  have h1 := flat_le hfew h
  obtain ⟨h2, h3⟩ := flatten_bounds fun b hb => (isCutL_blocks h b hb).1
  exact ⟨by omega, fun b hb => by have := h3 b hb; omega⟩

end Go.Proofs.Ytohohnpjilinmaa

/-
  What RunRoad answers.
-/
namespace Go.Proofs.Ytohohnpjilinmaa
open Go Go.Ab

theorem runRoad_of {e s bv wv : Value} {T : Tab} {blocks : List (List Int)} {ws : List Int} {H : Heap} (h : TabAt H e s T) (hb : RowsAt H bv blocks) (hw : WordsAt H wv ws) : AFun Try.prog 9 [tabV T e s, bv, wv] H (fun v B => v = .bool true ∧ Ge H B) := by
  refine AFun.mk ok9 hm (Nat.le_of_ble_eq_true rfl) ?_
  have g0 : Ge H (H.new (.cells true [.int .i64 T.places, .int .i64 T.layover, e, s] 4)) := Ge.new _ _
  simp [a9, r9]
  refine fcall_fun (readyS_spec (h.ge g0)) ?_
  rintro _ H1 ⟨rfl, g1⟩
  have G1 := g0.trans g1
  have n1 := g1.next
  simp at n1
  have b1 := g1.got (n := H.next) (by simp) rfl
  simp at b1
  cases hrd : readyT T
  · simp
    refine fcall_fun (awake_spec _) ?_
    rintro _ B ⟨rfl, gB⟩
    simp
    exact G1.trans gB
  have hrd2 : thin T = true ∧ checkT T = 0 := by simpa [readyT] using hrd
  obtain ⟨hth, hc⟩ := hrd2
  have hT := checkT_zero.1 hc
  have hfew := hT.few
  simp
  refine fcall_fun (short_spec (hb.ge G1)) ?_
  rintro _ H2 ⟨rfl, g2⟩
  have G2 := G1.trans g2
  have n2 := g2.next
  have b2 := g2.got (by omega) b1
  have hse : (decide (blocks.length ≤ 15) && blocks.all fun l => decide (l.length ≤ 15)) = shortL blocks := rfl
  rw [hse]
  cases hsh : shortL blocks
  · simp
    refine fcall_fun (awake_spec _) ?_
    rintro _ B ⟨rfl, gB⟩
    simp
    exact G2.trans gB
  obtain ⟨s1, s2⟩ := shortL_at hsh
  simp [b2]
  refine fcall_fun (table_spec (h.ge G2) hth) ?_
  rintro _ H3 ⟨⟨e3, s3, rfl, t3⟩, g3⟩
  have G3 := G2.trans g3
  have n3 := g3.next
  simp
  refine fcall_fun (cut_spec t3) ?_
  rintro _ H4 ⟨g4, _, hcut⟩
  obtain ⟨cv, rfl, hcv⟩ := hcut hc
  have G4 := G3.trans g4
  have n4 := g4.next
  have b4 := g4.got (by omega) (g3.got (by omega) b2)
  have hgood := cutL_good hT
  obtain ⟨c1, c2⟩ := cut_small hfew hgood
  simp [b4]
  refine fcall_fun (table_spec (h.ge G4) hth) ?_
  rintro _ H5 ⟨⟨e5, s5, rfl, t5⟩, g5⟩
  have G5 := G4.trans g5
  have n5 := g5.next
  simp
  refine fcall_fun (rows_spec (hcv.ge g5) (by omega) (fun l hl => by have := c2 l hl; omega)) ?_
  rintro r6 H6 ⟨hr6, g6⟩
  have G6 := G5.trans g6
  have n6 := g6.next
  simp
  refine fcall_fun (proveCut_spec (t5.ge g6) (hr6.rows (by omega))) ?_
  rintro _ H7 ⟨rfl, g7⟩
  have G7 := G6.trans g7
  have n7 := g7.next
  have b7 := g7.got (by omega) (g6.got (by omega) (g5.got (by omega) b4))
  have hcv7 := ((hcv.ge g5).ge g6).ge g7
  have hcv1 := hcv7.one
  have hbv1 := hb.one
  have occ := one_cells hcv1
  have obb := one_cells hbv1
  simp [hc, hgood, hcv1, hbv1, occ, obb]
  refine floop_intro (fun z => z.d = [] ∧ Ge H z.H ∧ Ge H7 z.H ∧ H7.next < z.H.next ∧ z.t 1 = bv ∧ z.t 2 = wv ∧ z.t 3 = .pointer (some ⟨H.next, 0, none⟩) ∧ z.t 9 = .pointer (some ⟨H7.next, 0, none⟩) ∧ z.H.get H7.next = .cells true [cv, bv] 2 ∧ ∃ i : Nat, i ≤ 2 ∧ z.t 10 = .int .i64 i) (fun z => 2 - (intOf (z.t 10)).toNat) ?_ ?_
  · exact ⟨rfl, Ge.setNew (G7.newOf _) (by omega) _, Ge.setNew (Ge.new _ _) (Nat.le_refl _) _, by simp, by simp, by simp, by simp, by simp, by simp, 0, by simp, by simp⟩
  rintro ⟨t, _, A⟩ ⟨rfl, gA, gA7, hnA, t1, t2, t3', t9, k9, i, hi, t10⟩
  dsimp only at gA gA7 hnA t1 t2 t3' t9 k9 t10
  have bA := gA7.got (by omega) b7
  have hcvA := hcv7.ge gA7
  have hbA := hb.ge gA
  simp [t10]
  refine fcond_intro (fun hci => ?_) (fun hci => ?_)
  · have hi' : i < 2 := by simp at hci; omega
    obtain ⟨xv, xs, x1, x2, x3, x4, x5, x6⟩ : ∃ xv xs, [cv, bv][i]? = some xv ∧ RowsAt A xv xs ∧ (i = 0 → isCutL T xs = true) ∧ (i = 1 → xs = blocks) ∧ xs.length ≤ 15 ∧ ∀ l ∈ xs, l.length ≤ 15 := by
      match i, hi' with
      | 0, _ => exact ⟨cv, cutL T, rfl, hcvA, fun _ => hgood, fun h => (by cases h), by omega, fun l hl => by have := c2 l hl; omega⟩
      | 1, _ => exact ⟨bv, blocks, rfl, hbA, fun h => (by cases h), fun _ => rfl, s1, s2⟩
    have hI : iarV 2 1 (.pointer (some ⟨H7.next, 0, none⟩)) (.int .i64 i) = some (.pointer (some ⟨H7.next, i, none⟩)) := by
      rw [iarV_in (by omega) (by omega)]; simp
    simp [t2, t3', t9, t10, bA, hI, k9, x1]
    refine fcall_fun (table_spec (h.ge (gA.grow 15)) hth) ?_
    rintro _ B1 ⟨⟨e6, s6, rfl, t6⟩, gB1⟩
    have q1 := gB1.next
    simp at q1
    have kb1 := gB1.got (n := H.next) (by simp; omega) bA
    have kc1 := gB1.got (n := H7.next) (by simp; omega) k9
    simp [t3', kb1, kc1, x1]
    refine fcall_fun (rows_spec (x2.ge ((Ge.more A 15).trans gB1)) (by omega) (fun l hl => by have := x6 l hl; omega)) ?_
    rintro r7 B2 ⟨hr7, gB2⟩
    have q2 := gB2.next
    have kb2 := gB2.got (by omega) kb1
    have kc2 := gB2.got (by omega) kc1
    simp [t3', kb2]
    have GB2 : Ge A B2 := ((Ge.more A 15).trans gB1).trans gB2
    refine fcall_fun (picked_spec (h.ge (gA.trans GB2)) hT (hw.ge (gA.trans GB2))) ?_
    rintro tv B3 ⟨⟨times, htv, hfit⟩, gB3⟩
    have q3 := gB3.next
    have kb3 := gB3.got (by omega) kb2
    have kc3 := gB3.got (by omega) kc2
    have GB3 := GB2.trans gB3
    simp
    refine fcall_fun (play_spec ((t6.ge gB2).ge gB3) (hr7.keep (by omega) fun n h1 h2 => gB3.get n h2) (by omega) (fun l hl => by have := x6 l hl; omega) htv) ?_
    rintro r B4 ⟨gB4, _, hbad2, hgood2⟩
    have q4 := gB4.next
    have kb4 := gB4.got (by omega) kb3
    have kc4 := gB4.got (by omega) kc3
    have GB4 := GB3.trans gB4
    -- behind Play
    cases hcx : isCutL T xs
    · -- not a cutting: it was handed in
      have hi1 : i = 1 := by
        by_cases e0 : i = 0
        · rw [x3 e0] at hcx; cases hcx
        · omega
      subst hi1
      have hxb := x4 rfl
      subst hxb
      have hr := hbad2 hc (by rw [hcx]; rfl)
      subst hr
      simp [t3', t10, kb4]
      refine fcall_fun (table_spec (h.ge (gA.trans GB4)) hth) ?_
      rintro _ B5 ⟨⟨e8, s8, rfl, t8⟩, gB5⟩
      simp [t1]
      refine fcall_fun (rows_spec (hb.ge ((gA.trans GB4).trans gB5)) (by omega) (fun l hl => by have := x6 l hl; omega)) ?_
      rintro r9 B6 ⟨hr9, gB6⟩
      simp
      refine fcall_fun (proveCut_spec (t8.ge gB6) (hr9.rows (by omega))) ?_
      rintro _ B7 ⟨rfl, gB7⟩
      simp [hcx]
      refine fcall_fun (awake_spec _) ?_
      rintro _ B8 ⟨rfl, gB8⟩
      simp
      exact (((gA.trans GB4).trans gB5).trans gB6).trans (gB7.trans gB8)
    obtain ⟨w, rfl, hwr⟩ := hgood2 hc (by rw [hcx, hfit]; rfl)
    have hnd := isCutL_blocks hcx
    have hmay := goodB_may ((isCutL_iff hfew).1 hcx).1
    have body : ∀ (C : Heap) (Q : Prop), True := fun _ _ => trivial
    by_cases hi1 : i = 1
    · have hxb := x4 hi1
      have hi1' : (i : Int) = 1 := by omega
      simp [t3', t10, kb4, hi1']
      refine fcall_fun (table_spec (h.ge (gA.trans GB4)) hth) ?_
      rintro _ B5 ⟨⟨e8, s8, rfl, t8⟩, gB5⟩
      simp [t1]
      refine fcall_fun (rows_spec (hb.ge ((gA.trans GB4).trans gB5)) (by omega) (fun l hl => by have := s2 l hl; omega)) ?_
      rintro r9 B6 ⟨hr9, gB6⟩
      simp
      refine fcall_fun (proveCut_spec (t8.ge gB6) (hr9.rows (by omega))) ?_
      rintro _ C ⟨rfl, gB7⟩
      rw [hxb] at hcx
      have g47 := (gB5.trans gB6).trans gB7
      have GC : Ge A C := GB4.trans g47
      have kbC := g47.got (by omega) kb4
      have kcC := g47.got (by omega) kc4
      have hwC := hwr.ge g47
      simp [hcx, hc, hi1']
      have hnC := GC.next
      have hwl := hwC.lenV
      simp at hwl
      have hxl := (x2.ge GC).lenV
      simp [hwl, t9, t10, hI, kcC, x1, hxl]
      refine floop_intro (fun z => z.d = [] ∧ Ge C z.H ∧ z.t 1 = bv ∧ z.t 2 = wv ∧ z.t 3 = .pointer (some ⟨H.next, 0, none⟩) ∧ z.t 9 = .pointer (some ⟨H7.next, 0, none⟩) ∧ z.t 10 = .int .i64 i ∧ z.t 11 = w ∧ ∃ k : Nat, k ≤ xs.length ∧ z.t 13 = .int .i64 k) (fun z => xs.length - (intOf (z.t 13)).toNat) ?_ ?_
      · exact ⟨rfl, Ge.refl _, by simp [t1], by simp [t2], by simp [t3'], by simp [t9], by simp [t10], by simp, 0, by simp, by simp⟩
      rintro ⟨u, _, D⟩ ⟨rfl, gD, u1, u2, u3, u9, u10, u11, k, hk, u13⟩
      dsimp only at gD u1 u2 u3 u9 u10 u11 u13
      simp [u11, u13, hwl]
      have hnD := gD.next
      have kbD := gD.got (by omega) kbC
      have kcD := gD.got (by omega) kcC
      refine fcond_intro (fun hck => ?_) (fun hck => ?_)
      · have hk' : k < xs.length := by simpa using hck
        obtain ⟨p1, w1, f1, f2, f3⟩ := hwC.atAll (i := k) (by simpa using hk')
        obtain ⟨p2, w2, f4, f5, f6⟩ := (x2.ge GC).atAll hk'
        have hblk := hnd _ (List.getElem_mem hk')
        have hpos := List.length_pos_iff.2 hblk.1
        have hx6 := x6 _ (List.getElem_mem hk')
        have hwk : (waitsL T times xs[k]).length + 1 = xs[k].length := by simp [waitsL]; omega
        simp only [List.getElem_map] at f3
        have f3l := f3.lenV
        have f6l := f6.lenV
        have hwk' : ((waitsL T times xs[k]).length : Int) + 1 = xs[k].length := by omega
        simp [u11, u13, f1, f2 _ (gD.grow 14), u9, u10, hI, kcD, x1, f4, f5 _ (gD.grow 14), f3l, f6l, add_in (x := (waitsL T times xs[k]).length) (y := 1) (by omega) (by omega), hwk']
        refine floop_intro (fun z => z.d = [] ∧ Ge C z.H ∧ z.t 1 = bv ∧ z.t 2 = wv ∧ z.t 3 = .pointer (some ⟨H.next, 0, none⟩) ∧ z.t 9 = .pointer (some ⟨H7.next, 0, none⟩) ∧ z.t 10 = .int .i64 i ∧ z.t 11 = w ∧ z.t 13 = .int .i64 k ∧ ∃ n : Nat, n ≤ (waitsL T times xs[k]).length ∧ z.t 14 = .int .i64 n) (fun z => (waitsL T times xs[k]).length - (intOf (z.t 14)).toNat) ?_ ?_
        · exact ⟨rfl, gD.grow 14, by simp [u1], by simp [u2], by simp [u3], by simp [u9], by simp [u10], by simp [u11], by simp [u13], 0, by simp, by simp⟩
        rintro ⟨y, _, E⟩ ⟨rfl, gE, y1, y2, y3, y9, y10, y11, y13, n, hn, y14⟩
        dsimp only at gE y1 y2 y3 y9 y10 y11 y13 y14
        have hnE := gE.next
        have kbE := gE.got (by omega) kbC
        have kcE := gE.got (by omega) kcC
        simp [y11, y13, y14, f1, f2 _ gE, f3l]
        refine fcond_intro (fun hcn => ?_) (fun hcn => ?_)
        · have hn' : n < (waitsL T times xs[k]).length := by simpa using hcn
          obtain ⟨p3, f7, f8⟩ := (f3.ge (gE.grow 40)).at hn'
          obtain ⟨p4, f9, f10⟩ := (f6.ge (gE.grow 40)).at (i := n) (by omega)
          obtain ⟨p5, f11, f12⟩ := (f6.ge (gE.grow 40)).at (i := n + 1) (by omega)
          have hm := hmay _ (List.getElem_mem hk') n (by omega)
          have hnn : 0 ≤ (waitsL T times xs[k])[n] := by
            simp only [waitsL, List.getElem_map, List.getElem_range]
            exact waitAt_nonneg hT hfit (by omega) hm
          have hneg : ¬ (waitsL T times xs[k])[n] < 0 := by omega
          obtain ⟨x, x', m1, m2, m3, _⟩ := may_kind hm
          obtain ⟨i1, i2⟩ := List.getElem?_eq_some_iff.1 m1
          obtain ⟨j1, j2⟩ := List.getElem?_eq_some_iff.1 m2
          have b1' := num_lt hfew (hblk.2 xs[k][n] (List.getElem_mem _))
          have b2' := num_lt hfew (hblk.2 xs[k][n + 1] (List.getElem_mem _))
          obtain ⟨m1', o1, r1, l1, _, r2⟩ := (h.trips.ge (gA.trans (GC.trans gE))).atI b1'.1 b1'.2.2
          obtain ⟨m2', o2, r3, l2, _, r4⟩ := (h.trips.ge (gA.trans (GC.trans gE))).atI b2'.1 b2'.2.2
          have r25 := r2 5 (by omega)
          have r45 := r4 5 (by omega)
          rw [i2] at r25
          rw [j2] at r45
          simp [Tr.cells] at r25 r45
          simp at f11
          simp [y11, y13, y14, f1, f2 _ (gE.grow 40), f7, f8, hneg, y3, kbE, y9, y10, hI, kcE, x1, f4, f5 _ (gE.grow 40), f9, f10, r1, r25, add_in (x := n) (y := 1) (by omega) (by omega), f11, f12, r3, r45, m3]
          exact ⟨⟨gE.grow 40, y1, y2, n + 1, by omega, by omega⟩, by omega⟩
        · simp [y13, add_in (x := k) (y := 1) (by omega) (by omega)]
          exact ⟨⟨gE, y1, y2, y3, y9, y10, y11, k + 1, by omega, by omega⟩, by simp [u13]; omega⟩
      · simp [u10, add_in (x := i) (y := 1) (by omega) (by omega)]
        exact ⟨⟨gA.trans (GC.trans gD), gA7.trans (GC.trans gD), by omega, u1, u2, u3, u9, kcD, i + 1, by omega, by omega⟩, by simp [t10]; omega⟩
    · have hi1' : ¬ (i : Int) = 1 := by omega
      obtain ⟨C, hCe⟩ : ∃ C, C = B4 := ⟨_, rfl⟩
      subst hCe
      have GC := GB4
      have kbC := kb4
      have kcC := kc4
      have hwC := hwr
      simp [t10, hi1']
      have hnC := GC.next
      have hwl := hwC.lenV
      simp at hwl
      have hxl := (x2.ge GC).lenV
      simp [hwl, t9, t10, hI, kcC, x1, hxl]
      refine floop_intro (fun z => z.d = [] ∧ Ge C z.H ∧ z.t 1 = bv ∧ z.t 2 = wv ∧ z.t 3 = .pointer (some ⟨H.next, 0, none⟩) ∧ z.t 9 = .pointer (some ⟨H7.next, 0, none⟩) ∧ z.t 10 = .int .i64 i ∧ z.t 11 = w ∧ ∃ k : Nat, k ≤ xs.length ∧ z.t 13 = .int .i64 k) (fun z => xs.length - (intOf (z.t 13)).toNat) ?_ ?_
      · exact ⟨rfl, Ge.refl _, by simp [t1], by simp [t2], by simp [t3'], by simp [t9], by simp [t10], by simp, 0, by simp, by simp⟩
      rintro ⟨u, _, D⟩ ⟨rfl, gD, u1, u2, u3, u9, u10, u11, k, hk, u13⟩
      dsimp only at gD u1 u2 u3 u9 u10 u11 u13
      simp [u11, u13, hwl]
      have hnD := gD.next
      have kbD := gD.got (by omega) kbC
      have kcD := gD.got (by omega) kcC
      refine fcond_intro (fun hck => ?_) (fun hck => ?_)
      · have hk' : k < xs.length := by simpa using hck
        obtain ⟨p1, w1, f1, f2, f3⟩ := hwC.atAll (i := k) (by simpa using hk')
        obtain ⟨p2, w2, f4, f5, f6⟩ := (x2.ge GC).atAll hk'
        have hblk := hnd _ (List.getElem_mem hk')
        have hpos := List.length_pos_iff.2 hblk.1
        have hx6 := x6 _ (List.getElem_mem hk')
        have hwk : (waitsL T times xs[k]).length + 1 = xs[k].length := by simp [waitsL]; omega
        simp only [List.getElem_map] at f3
        have f3l := f3.lenV
        have f6l := f6.lenV
        have hwk' : ((waitsL T times xs[k]).length : Int) + 1 = xs[k].length := by omega
        simp [u11, u13, f1, f2 _ (gD.grow 14), u9, u10, hI, kcD, x1, f4, f5 _ (gD.grow 14), f3l, f6l, add_in (x := (waitsL T times xs[k]).length) (y := 1) (by omega) (by omega), hwk']
        refine floop_intro (fun z => z.d = [] ∧ Ge C z.H ∧ z.t 1 = bv ∧ z.t 2 = wv ∧ z.t 3 = .pointer (some ⟨H.next, 0, none⟩) ∧ z.t 9 = .pointer (some ⟨H7.next, 0, none⟩) ∧ z.t 10 = .int .i64 i ∧ z.t 11 = w ∧ z.t 13 = .int .i64 k ∧ ∃ n : Nat, n ≤ (waitsL T times xs[k]).length ∧ z.t 14 = .int .i64 n) (fun z => (waitsL T times xs[k]).length - (intOf (z.t 14)).toNat) ?_ ?_
        · exact ⟨rfl, gD.grow 14, by simp [u1], by simp [u2], by simp [u3], by simp [u9], by simp [u10], by simp [u11], by simp [u13], 0, by simp, by simp⟩
        rintro ⟨y, _, E⟩ ⟨rfl, gE, y1, y2, y3, y9, y10, y11, y13, n, hn, y14⟩
        dsimp only at gE y1 y2 y3 y9 y10 y11 y13 y14
        have hnE := gE.next
        have kbE := gE.got (by omega) kbC
        have kcE := gE.got (by omega) kcC
        simp [y11, y13, y14, f1, f2 _ gE, f3l]
        refine fcond_intro (fun hcn => ?_) (fun hcn => ?_)
        · have hn' : n < (waitsL T times xs[k]).length := by simpa using hcn
          obtain ⟨p3, f7, f8⟩ := (f3.ge (gE.grow 40)).at hn'
          obtain ⟨p4, f9, f10⟩ := (f6.ge (gE.grow 40)).at (i := n) (by omega)
          obtain ⟨p5, f11, f12⟩ := (f6.ge (gE.grow 40)).at (i := n + 1) (by omega)
          have hm := hmay _ (List.getElem_mem hk') n (by omega)
          have hnn : 0 ≤ (waitsL T times xs[k])[n] := by
            simp only [waitsL, List.getElem_map, List.getElem_range]
            exact waitAt_nonneg hT hfit (by omega) hm
          have hneg : ¬ (waitsL T times xs[k])[n] < 0 := by omega
          obtain ⟨x, x', m1, m2, m3, _⟩ := may_kind hm
          obtain ⟨i1, i2⟩ := List.getElem?_eq_some_iff.1 m1
          obtain ⟨j1, j2⟩ := List.getElem?_eq_some_iff.1 m2
          have b1' := num_lt hfew (hblk.2 xs[k][n] (List.getElem_mem _))
          have b2' := num_lt hfew (hblk.2 xs[k][n + 1] (List.getElem_mem _))
          obtain ⟨m1', o1, r1, l1, _, r2⟩ := (h.trips.ge (gA.trans (GC.trans gE))).atI b1'.1 b1'.2.2
          obtain ⟨m2', o2, r3, l2, _, r4⟩ := (h.trips.ge (gA.trans (GC.trans gE))).atI b2'.1 b2'.2.2
          have r25 := r2 5 (by omega)
          have r45 := r4 5 (by omega)
          rw [i2] at r25
          rw [j2] at r45
          simp [Tr.cells] at r25 r45
          simp at f11
          simp [y11, y13, y14, f1, f2 _ (gE.grow 40), f7, f8, hneg, y3, kbE, y9, y10, hI, kcE, x1, f4, f5 _ (gE.grow 40), f9, f10, r1, r25, add_in (x := n) (y := 1) (by omega) (by omega), f11, f12, r3, r45, m3]
          exact ⟨⟨gE.grow 40, y1, y2, n + 1, by omega, by omega⟩, by omega⟩
        · simp [y13, add_in (x := k) (y := 1) (by omega) (by omega)]
          exact ⟨⟨gE, y1, y2, y3, y9, y10, y11, k + 1, by omega, by omega⟩, by simp [u13]; omega⟩
      · simp [u10, add_in (x := i) (y := 1) (by omega) (by omega)]
        exact ⟨⟨gA.trans (GC.trans gD), gA7.trans (GC.trans gD), by omega, u1, u2, u3, u9, kcD, i + 1, by omega, by omega⟩, by omega⟩
  · have hi' : i = 2 := by simp at hci; omega
    subst hi'
    simp
    refine fcall_fun (awake_spec _) ?_
    rintro _ B ⟨rfl, gB⟩
    simp
    exact gA.trans gB

end Go.Proofs.Ytohohnpjilinmaa

/-
  The contract of what visits the trips that are free.
-/
namespace Go.Proofs.Ytohohnpjilinmaa
open Go Go.Ab

abbrev on (l : List Bool) (i : Nat) : Prop := l[i]?.getD false = true

/-- The names of what visit reads and turns. -/
structure VN where
  r : Nat
  s : Nat
  w : Nat
  d : Nat
  g : Nat

def VN.caps (b : VN) : List Value := [.pointer (some ⟨b.r, 0, none⟩), .pointer (some ⟨b.s, 0, none⟩), .pointer (some ⟨b.w, 0, none⟩), .pointer (some ⟨b.d, 0, none⟩), .pointer (some ⟨b.g, 0, none⟩)]

structure VEnv (T : Tab) (H0 H : Heap) (b : VN) (e s f : Value) (led : List Int) (fr wa : List Bool) : Prop where
  ge : Ge H0 H
  lo : H0.next ≤ b.s ∧ H0.next ≤ b.r ∧ H0.next ≤ b.w ∧ H0.next ≤ b.d ∧ H0.next ≤ b.g
  lt : b.s < H.next ∧ b.r < H.next ∧ b.w < H.next ∧ b.d < H.next ∧ b.g < H.next
  nr : b.s ≠ b.r ∧ b.w ≠ b.r ∧ b.d ≠ b.r ∧ b.g ≠ b.r
  nw : b.s ≠ b.w ∧ b.r ≠ b.w ∧ b.d ≠ b.w ∧ b.g ≠ b.w
  frl : fr.length = 12
  wal : wa.length = 12
  svc : H.get b.s = .cells true [.int .i64 T.places, .int .i64 T.layover, e, s, .func (.func 74) #[] #[], f] 6
  free : H.get b.r = .cells true (fr.map .bool) 12
  want : H.get b.w = .cells true (wa.map .bool) 12
  led : H.get b.d = .cells true (led.map (.int .i64)) 12
  self : H.get b.g = .cells true [.func (.func 80) #[] b.caps.toArray] 1

theorem VEnv.setR {T : Tab} {H0 H : Heap} {b : VN} {e s f : Value} {led : List Int} {fr wa : List Bool} (h : VEnv T H0 H b e s f led fr wa) {a : List Bool} (ha : a.length = 12) :
    VEnv T H0 (H.set b.r (.cells true (a.map .bool) 12)) b e s f led a wa where
  ge := Ge.setNew h.ge h.lo.2.1 _
  lo := h.lo
  lt := h.lt
  nr := h.nr
  nw := h.nw
  frl := ha
  wal := h.wal
  svc := by simp [h.nr.1, h.svc]
  free := by simp
  want := by simp [h.nr.2.1, h.want]
  led := by simp [h.nr.2.2.1, h.led]
  self := by simp [h.nr.2.2.2, h.self]

theorem VEnv.setW {T : Tab} {H0 H : Heap} {b : VN} {e s f : Value} {led : List Int} {fr wa : List Bool} (h : VEnv T H0 H b e s f led fr wa) {a : List Bool} (ha : a.length = 12) :
    VEnv T H0 (H.set b.w (.cells true (a.map .bool) 12)) b e s f led fr a where
  ge := Ge.setNew h.ge h.lo.2.2.1 _
  lo := h.lo
  lt := h.lt
  nr := h.nr
  nw := h.nw
  frl := h.frl
  wal := ha
  svc := by simp [h.nw.1, h.svc]
  free := by simp [h.nw.2.1, h.free]
  want := by simp
  led := by simp [h.nw.2.2.1, h.led]
  self := by simp [h.nw.2.2.2, h.self]

theorem VEnv.grow {T : Tab} {H0 H : Heap} {b : VN} {e s f : Value} {led : List Int} {fr wa : List Bool} (h : VEnv T H0 H b e s f led fr wa) (k : Nat) : VEnv T H0 ⟨H.get, H.next + k⟩ b e s f led fr wa where
  ge := h.ge.grow k
  lo := h.lo
  lt := by have := h.lt; simp; omega
  nr := h.nr
  nw := h.nw
  frl := h.frl
  wal := h.wal
  svc := h.svc
  free := h.free
  want := h.want
  led := h.led
  self := h.self

/-- All but two names are as they were. -/
structure KeepV (b : VN) (A B : Heap) : Prop where
  next : A.next ≤ B.next
  get : ∀ n, n < A.next → n ≠ b.r → n ≠ b.w → B.get n = A.get n

theorem KeepV.refl (b : VN) (A : Heap) : KeepV b A A := ⟨Nat.le_refl _, fun _ _ _ _ => rfl⟩
theorem KeepV.trans {b : VN} {A B C : Heap} (h : KeepV b A B) (k : KeepV b B C) : KeepV b A C := ⟨Nat.le_trans h.next k.next, fun n hn h1 h2 => (k.get n (Nat.lt_of_lt_of_le hn h.next) h1 h2).trans (h.get n hn h1 h2)⟩
theorem KeepV.setR {b : VN} {A B : Heap} (h : KeepV b A B) (x : AObj) : KeepV b A (B.set b.r x) := ⟨h.next, fun n hn h1 h2 => by rw [Heap.set_get, if_neg h1]; exact h.get n hn h1 h2⟩
theorem KeepV.setW {b : VN} {A B : Heap} (h : KeepV b A B) (x : AObj) : KeepV b A (B.set b.w x) := ⟨h.next, fun n hn h1 h2 => by rw [Heap.set_get, if_neg h2]; exact h.get n hn h1 h2⟩
theorem KeepV.grow {b : VN} {A B : Heap} (h : KeepV b A B) (k : Nat) : KeepV b A ⟨B.get, B.next + k⟩ := ⟨Nat.le_trans h.next (Nat.le_add_right _ _), h.get⟩

/-- What has been visited, but for what comes behind a trip. -/
structure Vis (F : List (List Int)) (led : List Int) (trip : Nat) (fr wa fr' wa' : List Bool) : Prop where
  monoF : ∀ i, on fr i → on fr' i
  monoW : ∀ j, on wa j → on wa' j
  it : on fr' trip
  newF : ∀ i, on fr' i → ¬ on fr i → i ≠ trip → (∀ x ∈ F[i]?.getD [], on wa' x.toNat) ∧ ∃ j, on wa' j ∧ ¬ on wa j ∧ led[j]? = some (i : Int)
  newW : ∀ j, on wa' j → ¬ on wa j → ∃ i : Nat, led[j]? = some (i : Int) ∧ on fr' i
  cnt : wa'.count false ≤ wa.count false

theorem on_set {l : List Bool} {i j : Nat} (hi : i < l.length) : on (l.set i true) j ↔ j = i ∨ on l j := by
  by_cases e : i = j
  · subst e; simp [on, hi]
  · simp only [on, List.getElem?_set_ne e]
    constructor
    · exact .inr
    · rintro (h | h)
      · exact absurd h.symm e
      · exact h

/-- One more is wanted. -/
theorem Vis.step {F : List (List Int)} {led : List Int} {trip x i : Nat} {fr wa fr' wa' fr2 wa2 : List Bool} (h : Vis F led trip fr wa fr' wa') (hx : x < wa'.length) (hxw : ¬ on wa' x) (hl : led[x]? = some (i : Int)) (hwa : wa'.count false = (wa'.set x true).count false + 1)
    (k : (on fr' i ∧ fr2 = fr' ∧ wa2 = wa'.set x true) ∨ (Vis F led i fr' (wa'.set x true) fr2 wa2 ∧ ∀ y ∈ F[i]?.getD [], on wa2 y.toNat)) : Vis F led trip fr wa fr2 wa2 ∧ on wa2 x := by
  rcases k with ⟨k1, rfl, rfl⟩ | ⟨k, k2⟩
  · refine ⟨⟨h.monoF, fun j hj => (on_set hx).2 (.inr (h.monoW j hj)), h.it, fun i' h1 h2 h3 => ?_, fun j h1 h2 => ?_, by have := h.cnt; omega⟩, (on_set hx).2 (.inl rfl)⟩
    · obtain ⟨q1, j, q2, q3, q4⟩ := h.newF i' h1 h2 h3
      exact ⟨fun y hy => (on_set hx).2 (.inr (q1 y hy)), j, (on_set hx).2 (.inr q2), q3, q4⟩
    · rcases (on_set hx).1 h1 with rfl | h1
      · exact ⟨i, hl, k1⟩
      · exact h.newW j h1 h2
  · have hx2 : on wa2 x := k.monoW x ((on_set hx).2 (.inl rfl))
    have hxwa : ¬ on wa x := fun e => hxw (h.monoW x e)
    refine ⟨⟨fun i' hi => k.monoF i' (h.monoF i' hi), fun j hj => k.monoW j ((on_set hx).2 (.inr (h.monoW j hj))), k.monoF _ h.it, fun i' h1 h2 h3 => ?_, fun j h1 h2 => ?_, by have := h.cnt; have := k.cnt; omega⟩, hx2⟩
    · by_cases hf : on fr' i'
      · obtain ⟨q1, j, q2, q3, q4⟩ := h.newF i' hf h2 h3
        exact ⟨fun y hy => k.monoW _ ((on_set hx).2 (.inr (q1 y hy))), j, k.monoW _ ((on_set hx).2 (.inr q2)), q3, q4⟩
      · by_cases e : i' = i
        · subst e
          exact ⟨k2, x, hx2, hxwa, hl⟩
        · obtain ⟨q1, j, q2, q3, q4⟩ := k.newF i' h1 hf e
          exact ⟨q1, j, q2, fun hw => q3 ((on_set hx).2 (.inr (h.monoW j hw))), q4⟩
    · by_cases hw : on (wa'.set x true) j
      · rcases (on_set hx).1 hw with rfl | hw
        · exact ⟨i, hl, k.it⟩
        · obtain ⟨i', q1, q2⟩ := h.newW j hw h2
          exact ⟨i', q1, k.monoF _ q2⟩
      · exact k.newW j h1 hw

theorem visit_spec {T : Tab} {H0 : Heap} {b : VN} {e s f : Value} {F : List (List Int)} {n : Nat} {led : List Int} {A : Nat → Prop} (hF : FollOk n F) (hled : LedOk n led) (hrows : RowsAt H0 f F)
    (hA : ∀ j, A j → ∃ i : Nat, led[j]? = some (i : Int) ∧ ∀ x ∈ F[i]?.getD [], A x.toNat) :
    ∀ (k : Nat) (B : Heap) (fr wa : List Bool) (trip : Nat), VEnv T H0 B b e s f led fr wa → trip < n → (∀ x ∈ F[trip]?.getD [], A x.toNat) → wa.count false < k →
      AFun Try.prog 80 (.int .i64 trip :: b.caps) B (fun _ C => ∃ fr' wa', VEnv T H0 C b e s f led fr' wa' ∧ KeepV b B C ∧ Vis F led trip fr wa fr' wa' ∧ ∀ x ∈ F[trip]?.getD [], on wa' x.toNat)
  | 0, _, _, _, _, _, _, _, h => by omega
  | k + 1, B, fr, wa, trip, hV, ht, htA, hk => by
    refine AFun.mk ok80 hm (Nat.le_of_ble_eq_true rfl) ?_
    have htF : trip < F.length := by rw [hF.1]; exact ht
    have hn12 := hF.2.1
    have hI : ∀ (m : Nat) (x : Nat), x < 12 → iarV 12 1 (.pointer (some ⟨m, 0, none⟩)) (.int .i64 x) = some (.pointer (some ⟨m, x, none⟩)) := fun m x hx => by
      rw [iarV_in (by omega) (by omega)]; simp
    have hfrl := hV.frl
    have hset : ∀ (l : List Bool) (x : Nat), x < l.length → wrL (l.map Value.bool) x [.bool true] = (l.set x true).map .bool := fun l x hx => by
      rw [wrL_one _ _ _ (by simpa using hx), map_set_bool]
    have hV1 := hV.setR (a := fr.set trip true) (by simpa using hfrl)
    obtain ⟨p, u, e1, e2, e3⟩ := hrows.atGe hV1.ge htF
    have hb := hV1.svc
    have hbr := hV.nr.1
    have htrip12 : trip + 1 ≤ 12 := by omega
    have e2' := e2
    simp at e2'
    have hs0 := hV.svc
    simp [a80, r80, VN.caps, hI _ trip (by omega), hV.free, hfrl, htrip12, hset fr trip (by omega), hbr, hs0, e1, e2', e3.lenV]
    have hF0 : F[trip]?.getD [] = F[trip] := by simp [htF]
    have hwl := hV.wal
    refine floop_intro (fun y => y.d = [] ∧ y.t 1 = .pointer (some ⟨b.r, 0, none⟩) ∧ y.t 3 = .pointer (some ⟨b.w, 0, none⟩) ∧ y.t 4 = .pointer (some ⟨b.d, 0, none⟩) ∧ y.t 5 = .pointer (some ⟨b.g, 0, none⟩) ∧ y.t 15 = u ∧ y.t 16 = .int .i64 F[trip].length ∧ KeepV b B y.H ∧
      ∃ (i : Nat) (fr' wa' : List Bool), i ≤ F[trip].length ∧ y.t 17 = .int .i64 i ∧ VEnv T H0 y.H b e s f led fr' wa' ∧ Vis F led trip fr wa fr' wa' ∧ ∀ x ∈ F[trip].take i, on wa' x.toNat) (fun y => F[trip].length - (intOf (y.t 17)).toNat) ?_ ?_
    · refine ⟨rfl, by simp, by simp, by simp, by simp, by simp, by simp, (KeepV.refl b B).setR _, 0, fr.set trip true, wa, by simp, by simp, by simpa using hV1, ⟨fun i hi => (on_set (by omega)).2 (.inr hi), fun j hj => hj, (on_set (by omega)).2 (.inl rfl), fun i h1 h2 h3 => ?_, fun j h1 h2 => absurd h1 h2, Nat.le_refl _⟩, by simp⟩
      rcases (on_set (by omega)).1 h1 with h4 | h4
      · exact absurd h4 h3
      · exact absurd h4 h2
    rintro ⟨t, _, C⟩ ⟨rfl, t1, t3, t4, t5, t15, t16, hK, i, fr', wa', hi, t17, hV', hVis, hdone⟩
    dsimp only at t1 t3 t4 t5 t15 t16 hK t17 hV'
    simp [t16, t17]
    have h63 := e3.2
    refine fcond_intro (fun hc => ?_) (fun hc => ?_)
    · have hi' : i < F[trip].length := by simpa using hc
      obtain ⟨p', f1, f2⟩ := (e3.ge hV'.ge).at hi'
      have hx := hF.2.2 _ (List.getElem_mem htF) _ (List.getElem_mem hi')
      have hxA := htA F[trip][i] (by rw [hF0]; exact List.getElem_mem hi')
      have htk : ∀ w : List Bool, (∀ y ∈ F[trip].take i, on w y.toNat) → on w F[trip][i].toNat → ∀ y ∈ F[trip].take (i + 1), on w y.toNat := by
        intro w h1 h2 y hy
        rw [List.take_succ_eq_append_getElem hi'] at hy
        rcases List.mem_append.1 hy with hy | hy
        · exact h1 y hy
        · simp at hy; rw [hy]; exact h2
      obtain ⟨x, hxe⟩ : ∃ x : Nat, F[trip][i] = (x : Int) := ⟨F[trip][i].toNat, by omega⟩
      rw [hxe] at f2 hx hxA htk
      rw [Int.toNat_natCast] at hxA htk
      have hwl' := hV'.wal
      have hfl' := hV'.frl
      have hx12 : x < 12 := by omega
      simp [t3, t15, t17, f1, f2, hI _ x hx12, hV'.want, hwl', hx12]
      have hwx : wa'[x]?.getD false = wa'[x]'(by omega) := by simp [hwl', hx12]
      cases hwv : wa'[x]'(by omega)
      case true =>
        simp [t17, add_in (x := i) (y := 1) (by omega) (by omega)]
        exact ⟨⟨t1, t3, t4, t5, t15, t16, hK, i + 1, by omega, by omega, fr', wa', hV', hVis, htk wa' hdone (by rw [on, hwx, hwv])⟩, by omega⟩
      have hnw : ¬ on wa' x := by rw [on, hwx, hwv]; simp
      have hV2 := hV'.setW (a := wa'.set x true) (by simpa using hwl')
      have hcnt := count_set_true (a := wa') (i := x) (by omega) hwv
      obtain ⟨l, hl, hlA⟩ := hA x hxA
      obtain ⟨hll, hlv⟩ := List.getElem?_eq_some_iff.1 hl
      have hln := hled.2 _ (List.getElem_mem hll)
      rw [hlv] at hln
      have hln' : l < n := by omega
      have hled12 := hled.1
      have hx12' : x + 1 ≤ 12 := by omega
      have hl12 : l < 12 := by omega
      simp [t1, t3, t4, hI _ x hx12, hI _ l hl12, hx12', hset wa' x (by omega), hV'.want, hwl', hV'.nw.2.2.1, hV'.led, hl, hV'.nw.2.1, hV'.free, hfl', hl12]
      have hfx : fr'[l]?.getD false = fr'[l]'(by omega) := by simp [hfl', hl12]
      cases hfv : fr'[l]'(by omega)
      case true =>
        simp [t17, add_in (x := i) (y := 1) (by omega) (by omega)]
        obtain ⟨k1, k2⟩ := hVis.step (by omega) hnw hl (by omega) (.inl ⟨by rw [on, hfx, hfv], rfl, rfl⟩)
        refine ⟨⟨t1, t3, t4, t5, t15, t16, hK.setW _, i + 1, by omega, by omega, fr', wa'.set x true, by simpa using hV2, k1, htk _ (fun y hy => (on_set (by omega)).2 (.inr (hdone y hy))) k2⟩, by omega⟩
      simp [t4, t5, hI _ x hx12, hV'.nw.2.2.2, hV'.self, hV'.nw.2.2.1, hV'.led, hl]
      have hrec := visit_spec hF hled hrows hA k _ fr' (wa'.set x true) l (hV2.grow 5) hln' hlA (by have := hVis.cnt; omega)
      simp only [List.map_set] at hrec
      refine fcall_intro ((ACall.of_fun (xs := #[]) (us := b.caps.toArray) (args := [.int .i64 l]) (by simpa using hrec)).mono ?_)
      rintro _ D ⟨fr2, wa2, q1, q2, q3, q4⟩
      simp [t17, add_in (x := i) (y := 1) (by omega) (by omega)]
      obtain ⟨k1, k2⟩ := hVis.step (by omega) hnw hl (by omega) (.inr ⟨q3, q4⟩)
      refine ⟨⟨t1, t3, t4, t5, t15, t16, ((hK.setW _).grow 5).trans q2, i + 1, by omega, by omega, fr2, wa2, q1, k1, htk _ (fun y hy => q3.monoW _ ((on_set (by omega)).2 (.inr (hdone y hy)))) k2⟩, by omega⟩
    · have hi' : i = F[trip].length := by simp at hc; omega
      subst hi'
      rw [List.take_length] at hdone
      simp
      exact ⟨fr', wa', hV', hK, hVis, by rw [hF0]; exact hdone⟩

end Go.Proofs.Ytohohnpjilinmaa

/-
  The contract of cover.
-/
namespace Go.Proofs.Ytohohnpjilinmaa
open Go Go.Ab

/-- What has been visited so far. -/
structure Seen (T : Tab) (led : List Int) (m : Nat) (fr wa : List Bool) : Prop where
  shut : ∀ i, on fr i → ∀ x ∈ T.followers[i]?.getD [], on wa x.toNat
  want : ∀ j, on wa j → ∃ i : Nat, led[j]? = some (i : Int) ∧ on fr i
  free : ∀ i, on fr i → (turnL led)[i]?.getD (-1) = -1 ∨ ∃ j, on wa j ∧ led[j]? = some (i : Int)
  all : ∀ i, i < m → (turnL led)[i]?.getD (-1) = -1 → on fr i

theorem Seen.visit {T : Tab} {led : List Int} {m : Nat} {fr wa fr' wa' : List Bool} (h : Seen T led m fr wa) (k : Vis T.followers led m fr wa fr' wa') (k2 : ∀ x ∈ T.followers[m]?.getD [], on wa' x.toNat) (hm : (turnL led)[m]?.getD (-1) = -1) : Seen T led (m + 1) fr' wa' where
  shut i hi := by
    by_cases e : i = m
    · subst e; exact k2
    · by_cases hf : on fr i
      · exact fun x hx => k.monoW _ (h.shut i hf x hx)
      · exact (k.newF i hi hf e).1
  want j hj := by
    by_cases hw : on wa j
    · obtain ⟨i, q1, q2⟩ := h.want j hw
      exact ⟨i, q1, k.monoF _ q2⟩
    · exact k.newW j hj hw
  free i hi := by
    by_cases e : i = m
    · subst e; exact .inl hm
    · by_cases hf : on fr i
      · rcases h.free i hf with q | ⟨j, q1, q2⟩
        · exact .inl q
        · exact .inr ⟨j, k.monoW _ q1, q2⟩
      · obtain ⟨_, j, q1, _, q2⟩ := k.newF i hi hf e
        exact .inr ⟨j, q1, q2⟩
  all i hi hn := by
    by_cases e : i = m
    · subst e; exact k.it
    · exact k.monoF _ (h.all i (by omega) hn)

theorem Seen.skip {T : Tab} {led : List Int} {m : Nat} {fr wa : List Bool} (h : Seen T led m fr wa) (hm : (turnL led)[m]?.getD (-1) = -1 → on fr m) : Seen T led (m + 1) fr wa where
  shut := h.shut
  want := h.want
  free := h.free
  all i hi hn := by
    by_cases e : i = m
    · subst e; exact hm hn
    · exact h.all i (by omega) hn

def numsOf (n : Nat) (f : Nat → Bool) : List Int := ((List.range n).filter f).map Int.ofNat
theorem numsOf_length {n : Nat} {f : Nat → Bool} : (numsOf n f).length = cntN n f := by simp [numsOf, cntN]
theorem numsOf_succ {n : Nat} {f : Nat → Bool} : numsOf (n + 1) f = if f n then numsOf n f ++ [(n : Int)] else numsOf n f := by
  simp only [numsOf, List.range_succ, List.filter_append, List.map_append]
  cases h : f n <;> simp [h]

def aheadL (n : Nat) (fr : List Bool) : List Int := numsOf n fun i => !(fr[i]?.getD false)
def behindL (n : Nat) (wa : List Bool) : List Int := numsOf n fun i => wa[i]?.getD false

/-- A cover that proves as many buses as there are blocks. -/
structure CovOk (T : Tab) (a b : Nat → Bool) : Prop where
  cov : Cov T.mayN T.trips.length a b
  size : cntN T.trips.length a + cntN T.trips.length b = T.most

theorem pm_most {T : Tab} (hfew : T.trips.length ≤ 12) {a b : Nat → Bool} (hc : Cov T.mayN T.trips.length a b) : T.most ≤ cntN T.trips.length a + cntN T.trips.length b := by
  have h := (joinL_mat (looked := upTo T.trips.length) (followers_ok hfew) T.trips.length (Nat.le_refl _)).pm
  exact h.le_cov fun i j hi hj he => hc i j hi hj (by rw [mayL_upTo hfew hi hj] at he; exact he)

theorem Seen.cov {T : Tab} (hT : Valid T) {fr wa : List Bool} (h : Seen T (joinL T.followers (upTo T.trips.length) T.trips.length) T.trips.length fr wa) : CovOk T (fun i => !(fr[i]?.getD false)) (fun j => wa[j]?.getD false) := by
  have hfew := hT.few
  have hM := joinL_mat (looked := upTo T.trips.length) (followers_ok hfew) T.trips.length (Nat.le_refl _)
  have hmost : T.most = ledSize T.trips.length (joinL T.followers (upTo T.trips.length) T.trips.length) := rfl
  generalize joinL T.followers (upTo T.trips.length) T.trips.length = led at h hM hmost
  have hc : Cov T.mayN T.trips.length (fun i => !(fr[i]?.getD false)) (fun j => wa[j]?.getD false) := by
    intro i j hi hj he
    by_cases hf : on fr i
    · right
      simpa [on] using h.shut i hf _ (mem_followers hi hj he)
    · left
      simpa [on] using hf
  refine ⟨hc, ?_⟩
  have hge := pm_most hfew hc
  have h1 := cntN_split (n := T.trips.length) (f := fun _ => true) (fun i => fr[i]?.getD false)
  have h2 := cntN_split (n := T.trips.length) (f := fun i => fr[i]?.getD false) (fun i => decide ((turnL led)[i]?.getD (-1) = -1))
  have h3 := cntN_split (n := T.trips.length) (f := fun _ => true) (fun i => decide ((turnL led)[i]?.getD (-1) = -1))
  simp only [Bool.true_and] at h1 h3
  have h4 : cntN T.trips.length (fun _ => true) = T.trips.length := by
    unfold cntN; rw [List.filter_eq_self.2 (fun _ _ => rfl)]; simp
  -- those that lead none are free
  have h5 : cntN T.trips.length (fun i => decide ((turnL led)[i]?.getD (-1) = -1)) ≤ cntN T.trips.length (fun i => fr[i]?.getD false && decide ((turnL led)[i]?.getD (-1) = -1)) := by
    refine cntN_mono fun i hi he => ?_
    simp at he
    have := h.all i hi he
    simp [on] at this
    simp [this, he]
  -- as many lead another one as are led
  have h6 : cntN T.trips.length (fun i => !decide ((turnL led)[i]?.getD (-1) = -1)) ≤ ledSize T.trips.length led := by
    refine cntN_inj (fun i => ((turnL led)[i]?.getD (-1)).toNat) (fun i hi he => ?_) (fun i k hi hk hei hek he => ?_)
    · simp at he
      obtain ⟨q1, q2⟩ := turn_led hT hM (y := (i : Int)) (by omega) (by simp) he
      have hp := ledP_of q2
      have := hM.pm.edge
      refine ⟨?_, by simp [hp]⟩
      have hok := turn_ok hT hM
      have hl := (left_next hT hok (x := (i : Int)) (by omega) (by simpa using hi)).2
      simp at hl
      exact (hl.resolve_left he).2
    · simp at hei hek
      obtain ⟨q1, q2⟩ := turn_led hT hM (y := (i : Int)) (by omega) (by simp) hei
      obtain ⟨q3, q4⟩ := turn_led hT hM (y := (k : Int)) (by omega) (by simp) hek
      rw [he, q4] at q2
      have := Option.some.inj q2
      omega
  -- as many of those that are free lead another one as are wanted
  have h7 : cntN T.trips.length (fun j => wa[j]?.getD false) ≤ cntN T.trips.length (fun i => fr[i]?.getD false && !decide ((turnL led)[i]?.getD (-1) = -1)) := by
    refine cntN_inj (fun j => (led[j]?.getD 0).toNat) (fun j hj he => ?_) (fun j k hj hk hej hek he => ?_)
    · obtain ⟨i, q1, q2⟩ := h.want j he
      have hp := ledP_of q1
      have hin := (hM.pm.edge j i hj hp).1
      have hn := led_turn hT hM (y := (i : Int)) (x := (j : Int)) (by omega) (by omega) (by simpa using q1)
      simp at hn
      rw [q1]
      simp [on] at q2
      simp [hin, q2, hn]
    · obtain ⟨i, q1, _⟩ := h.want j hej
      obtain ⟨i', q2, _⟩ := h.want k hek
      rw [q1, q2] at he
      simp at he
      subst he
      exact hM.pm.inj j k i hj hk (ledP_of q1) (ledP_of q2)
  omega

end Go.Proofs.Ytohohnpjilinmaa

/-
  The contracts of cover and of Cover.
-/
namespace Go.Proofs.Ytohohnpjilinmaa
open Go Go.Ab

theorem cover_spec {T : Tab} {H : Heap} {e s f : Value} (h : TabAt H e s T) (hT : Valid T) (hrows : RowsAt H f T.followers) :
    AFun Try.prog 59 [svcV T e s f, inV (joinL T.followers (upTo T.trips.length) T.trips.length)] H (fun r B => Ge H B ∧ ∃ fr wa, Seen T (joinL T.followers (upTo T.trips.length) T.trips.length) T.trips.length fr wa ∧ ∃ va vb, r = .tuple #[va, vb] ∧ IntsAt B va (aheadL T.trips.length fr) ∧ IntsAt B vb (behindL T.trips.length wa)) := by
  refine AFun.mk ok59 hm (Nat.le_of_ble_eq_true rfl) ?_
  have hfew := hT.few
  have hM := joinL_mat (looked := upTo T.trips.length) (followers_ok hfew) T.trips.length (Nat.le_refl _)
  generalize joinL T.followers (upTo T.trips.length) T.trips.length = led at hM
  have hl12 := hM.ok.1
  have hr := rdL_self (cs := led.map (Value.int .i64)) (n := 12) (by simp [hl12])
  have he := h.empty.one
  have hs := h.trips.one
  have hf1 := hrows.one
  simp [a59, r59, inA_toList, inA_size, hl12, hr]
  have ht := turned_spec (H := (((((H.new (.cells true [.int .i64 T.places, .int .i64 T.layover, e, s, .func (.func 74) #[] #[], f] 6)).new (.cells true (led.map (.int .i64)) 12)).new (.cells true (List.replicate 12 (.bool false)) 12)).new (.cells true (List.replicate 12 (.bool false)) 12)).new (.cells true [.nilFunc] 1)).set (H.next + 4) (.cells true [.func (.func 80) #[] #[.pointer (some ⟨H.next + 2, 0, none⟩), .pointer (some ⟨H.next, 0, none⟩), .pointer (some ⟨H.next + 3, 0, none⟩), .pointer (some ⟨H.next + 1, 0, none⟩), .pointer (some ⟨H.next + 4, 0, none⟩)]] 1)) hfew hM.ok
  refine fcall_fun ht ?_
  rintro _ H1 ⟨rfl, g1⟩
  have G1 : Ge H H1 := (Ge.setNew (((((Ge.new _ _).newOf _).newOf _).newOf _).newOf _) (by omega) _).trans g1
  have n1 := g1.next
  simp at n1
  have k0 := g1.got (n := H.next) (by simp) rfl
  have k1 := g1.got (n := H.next + 1) (by simp) rfl
  have k2 := g1.got (n := H.next + 2) (by simp) rfl
  have k3 := g1.got (n := H.next + 3) (by simp) rfl
  have k4 := g1.got (n := H.next + 4) (by simp) rfl
  simp at k0 k1 k2 k3 k4
  have hnl : (turnL led).length = 12 := turnTo_length 12
  have q0 : H.next ≠ H1.next := by omega
  have q1 : H.next + 1 ≠ H1.next := by omega
  have q2 : H.next + 2 ≠ H1.next := by omega
  have q3 : H.next + 3 ≠ H1.next := by omega
  have q4 : H.next + 4 ≠ H1.next := by omega
  simp [inA_toList, inA_size, hnl, q0, k0, h.trips.lenV]
  let b : VN := ⟨H.next + 2, H.next, H.next + 3, H.next + 1, H.next + 4⟩
  obtain ⟨A, hA1, hA2⟩ := hM.shut
  have hlk : ∀ x : Int, 0 ≤ x → x < T.trips.length → lk (upTo T.trips.length) x := fun x h0 h1 => by
    have : x.toNat < 12 := by omega
    have : x.toNat < T.trips.length := by omega
    simp [lk, upTo, *]
  have hfol : ∀ (i : Nat) (x : Int), x ∈ T.followers[i]?.getD [] → lk (upTo T.trips.length) x := by
    intro i x hx
    obtain ⟨x0, hm⟩ := followers_may hx
    have := (mayN_start hT hm).2.1
    exact hlk x x0 (by omega)
  have hA : ∀ j, A j → ∃ i : Nat, led[j]? = some (i : Int) ∧ ∀ x ∈ T.followers[i]?.getD [], A x.toNat := fun j hj => by
    obtain ⟨i, q1, q2⟩ := hA1 j hj
    exact ⟨i, q1, fun x hx => q2 x hx (hfol i x hx)⟩
  have hAs : ∀ i, i < T.trips.length → (turnL led)[i]?.getD (-1) = -1 → ∀ x ∈ T.followers[i]?.getD [], A x.toNat := by
    intro i hi hn x hx
    refine hA2 i hi (by simp [upTo, hi, (by omega : i < 12)]) ?_ x hx (hfol i x hx)
    by_cases h0 : led.count (i : Int) = 0
    · exact h0
    · exfalso
      obtain ⟨j, hj⟩ := List.getElem?_of_mem (List.count_pos_iff.1 (Nat.pos_of_ne_zero h0))
      have := led_turn hT hM (y := (i : Int)) (x := (j : Int)) (by omega) (by omega) (by simpa using hj)
      simp at this
      omega
  refine floop_intro (fun z => z.d = [] ∧ H1.next < z.H.next ∧ z.t 2 = .pointer (some ⟨H.next, 0, none⟩) ∧ z.t 4 = .slice none 0 0 ∧ z.t 5 = .slice none 0 0 ∧ z.t 6 = .pointer (some ⟨H.next + 2, 0, none⟩) ∧ z.t 7 = .pointer (some ⟨H.next + 3, 0, none⟩) ∧ z.t 8 = .pointer (some ⟨H.next + 4, 0, none⟩) ∧ z.t 9 = .pointer (some ⟨H1.next, 0, none⟩) ∧ z.t 18 = .int .i64 T.trips.length ∧
    z.H.get H1.next = .cells true ((turnL led).map (.int .i64)) 12 ∧ ∃ (m : Nat) (fr wa : List Bool), m ≤ T.trips.length ∧ z.t 19 = .int .i64 m ∧ VEnv T H z.H b e s f led fr wa ∧ Seen T led m fr wa) (fun z => T.trips.length - (intOf (z.t 19)).toNat) ?_ ?_
  · refine ⟨rfl, by simp, by simp, by simp, by simp, by simp, by simp, by simp, by simp, by simp, by simp, 0, List.replicate 12 false, List.replicate 12 false, by simp, by simp, ?_, ?_⟩
    · constructor <;> simp [b, k0, k1, k2, k3, k4, q0, q1, q2, q3, q4, VN.caps]
      · exact Ge.setNew (G1.newOf _) (by omega) _
      · omega
    · have hz : ∀ i, ¬ on (List.replicate 12 false) i := fun i => by
        simp only [on, List.getElem?_replicate]; split <;> simp
      exact ⟨fun i hi => absurd hi (hz i), fun j hj => absurd hj (hz j), fun i hi => absurd hi (hz i), fun i hi => by omega⟩
  rintro ⟨t, _, B⟩ ⟨rfl, hn, t2, t4, t5, t6, t7, t8, t9, t18, kn, m, fr, wa, hm', t19, hV, hS⟩
  dsimp only at hn t2 t4 t5 t6 t7 t8 t9 t18 kn t19 hV
  simp [t18, t19]
  refine fcond_intro (fun hc => ?_) (fun hc => ?_)
  · have hm2 : m < T.trips.length := by simpa using hc
    have hm12 : m < 12 := by omega
    have hI : ∀ q, iarV 12 1 (.pointer (some ⟨q, 0, none⟩)) (.int .i64 m) = some (.pointer (some ⟨q, m, none⟩)) := fun q => by
      rw [iarV_in (by omega) (by omega)]; simp
    have hnm : (turnL led)[m]?.getD (-1) = (turnL led)[m]'(by omega) := by simp [hnl, hm12]
    have hfrl := hV.frl
    have hfree := hV.free
    have hself := hV.self
    simp only [b] at hfree hself
    simp [t9, t19, hI, kn, hnl, hm12]
    by_cases hne : (turnL led)[m]'(by omega) = -1
    case neg =>
      simp [hne, t18, t19, add_in (x := m) (y := 1) (by omega) (by omega)]
      exact ⟨⟨hn, t2, t4, t5, t6, t7, t8, t9, kn, m + 1, by omega, by omega, fr, wa, hV, hS.skip fun e => absurd (hnm.symm.trans e) hne⟩, by omega⟩
    have hfm : fr[m]?.getD false = fr[m]'(by omega) := by simp [hfrl, hm12]
    simp [hne, t6, hI, hfree, hfrl, hm12]
    cases hfv : fr[m]'(by omega)
    case true =>
      simp [t19, add_in (x := m) (y := 1) (by omega) (by omega)]
      exact ⟨⟨hn, t2, t4, t5, t6, t7, t8, t9, t18, kn, m + 1, by omega, by omega, fr, wa, hV, hS.skip fun _ => by rw [on, hfm, hfv]⟩, by omega⟩
    simp [t8, hself]
    have hcw : wa.count false < 13 := by
      have := List.count_le_length (a := false) (l := wa)
      have := hV.wal
      omega
    have hcall := visit_spec (followers_ok hfew) hM.ok hrows hA 13 B fr wa m hV hm2 (hAs m hm2 (by rw [hnm, hne])) hcw
    refine fcall_intro ((ACall.of_fun (xs := #[]) (us := b.caps.toArray) (args := [.int .i64 m]) (by simpa using hcall)).mono ?_)
    rintro _ C ⟨fr', wa', v1, v2, v3, v4⟩
    have nC := v2.next
    simp [t19, add_in (x := m) (y := 1) (by omega) (by omega)]
    refine ⟨⟨by omega, t2, t4, t5, t6, t7, t8, t9, t18, ?_, m + 1, by omega, by omega, fr', wa', v1, hS.visit v3 v4 (by rw [hnm, hne])⟩, by omega⟩
    rw [v2.get _ hn (by simp [b]; omega) (by simp [b]; omega), kn]
  · have hm2 : m = T.trips.length := by simp at hc; omega
    subst hm2
    have hsvc := hV.svc
    have hfree := hV.free
    have hwant := hV.want
    simp only [b] at hsvc hfree hwant
    simp [t2, hsvc, h.trips.lenV]
    refine floop_intro (fun z => z.d = [] ∧ Ge H z.H ∧ B.next ≤ z.H.next ∧ z.t 6 = .pointer (some ⟨H.next + 2, 0, none⟩) ∧ z.t 7 = .pointer (some ⟨H.next + 3, 0, none⟩) ∧ z.t 39 = .int .i64 T.trips.length ∧ (∀ n, n < B.next → z.H.get n = B.get n) ∧
      ∃ i : Nat, i ≤ T.trips.length ∧ z.t 40 = .int .i64 i ∧ OwnSl z.H B.next (z.t 4) ((aheadL i fr).map (.int .i64)) ∧ OwnSl z.H B.next (z.t 5) ((behindL i wa).map (.int .i64)) ∧ ∀ q, slName (z.t 4) = some q → slName (z.t 5) ≠ some q) (fun z => T.trips.length - (intOf (z.t 40)).toNat) ?_ ?_
    · exact ⟨rfl, hV.ge, Nat.le_refl _, by simp [t6], by simp [t7], by simp, fun _ _ => rfl, 0, by simp, by simp, .inl ⟨by simp [t4], rfl⟩, .inl ⟨by simp [t5], rfl⟩, by simp [t4, slName]⟩
    rintro ⟨w, _, C⟩ ⟨rfl, gC, hnC, w6, w7, w39, hkeep, i, hi, w40, hO4, hO5, hdis⟩
    dsimp only at gC hnC w6 w7 w39 hkeep w40 hO4 hO5 hdis
    simp [w39, w40]
    refine fcond_intro (fun hc => ?_) (fun hc => ?_)
    · have hi' : i < T.trips.length := by simpa using hc
      have hi12 : i < 12 := by omega
      have hI : ∀ q, iarV 12 1 (.pointer (some ⟨q, 0, none⟩)) (.int .i64 i) = some (.pointer (some ⟨q, i, none⟩)) := fun q => by
        rw [iarV_in (by omega) (by omega)]; simp
      have hfC := (hkeep (H.next + 2) (by omega)).trans hfree
      have hwC := (hkeep (H.next + 3) (by omega)).trans hwant
      have hfrl := hV.frl
      have hwal := hV.wal
      have hfi : fr[i]?.getD false = fr[i]'(by omega) := by simp [hfrl, hi12]
      have hwi : wa[i]?.getD false = wa[i]'(by omega) := by simp [hwal, hi12]
      have ha1 : aheadL (i + 1) fr = if !(fr[i]'(by omega)) then aheadL i fr ++ [(i : Int)] else aheadL i fr := by
        unfold aheadL; rw [numsOf_succ, hfi]
      have hb1 : behindL (i + 1) wa = if wa[i]'(by omega) then behindL i wa ++ [(i : Int)] else behindL i wa := by
        unfold behindL; rw [numsOf_succ, hwi]
      have la : (aheadL i fr).length ≤ 12 := by unfold aheadL; rw [numsOf_length]; exact Nat.le_trans cntN_le (by omega)
      have lb : (behindL i wa).length ≤ 12 := by unfold behindL; rw [numsOf_length]; exact Nat.le_trans cntN_le (by omega)
      simp [w6, w40, hI, hfC, hfrl, hi12]
      generalize fr[i]'(by omega) = fv at ha1
      have hdone : ∀ (u4 u5 : Value) (D : Heap), C.next ≤ D.next → (∀ n, n < B.next → D.get n = C.get n) → OwnSl D B.next u4 ((aheadL (i + 1) fr).map (.int .i64)) → OwnSl D B.next u5 ((behindL (i + 1) wa).map (.int .i64)) → (∀ q, slName u4 = some q → slName u5 ≠ some q) → Ge H D ∧ (∀ n, n < B.next → D.get n = B.get n) := by
        intro u4 u5 D d1 d2 _ _ _
        refine ⟨⟨by have := gC.next; omega, fun n hn => ?_⟩, fun n hn => (d2 n hn).trans (hkeep n hn)⟩
        have := hV.ge.next
        rw [d2 n (by omega), gC.get n hn]
      cases fv
      · simp at ha1
        simp
        have gN1 : Ge C (C.new (.cells true [.int .i64 i] 1)) := Ge.new _ _
        refine fapp_own (lo := B.next) (hO4.ge gN1) (slCells_new (x := .int .i64 i) (rw := true) (c := 1) (by simp)) rfl (by simp; omega) (by omega) (Nat.le_refl _) (by omega) (by simp; omega) fun u1 D1 k11 k21 k31 k41 => ?_
        have hD1 : ∀ q, q < C.next → slName (w 4) ≠ some q → D1.get q = C.get q := fun q h1 h2 => by
          rw [k41 q (by simp; omega) h2, gN1.get q h1]
        have hwD := (hD1 (H.next + 3) (by omega) (fun e => by have := (hO4.names e).1; omega)).trans hwC
        have hO5' : OwnSl D1 B.next (w 5) ((behindL i wa).map (.int .i64)) := hO5.keep (by omega) fun q hq => hD1 q (hO5.names hq).2 (fun e => hdis q e hq)
        have hO4' : OwnSl D1 B.next u1 ((aheadL (i + 1) fr).map (.int .i64)) := by rw [ha1]; simpa using k11
        have hdis' : ∀ q, slName u1 = some q → slName (w 5) ≠ some q := fun q h1 h2 => by
          rw [k21] at h1; cases h1; have := (hO5.names h2).2; omega
        have hlow : ∀ n, n < B.next → D1.get n = C.get n := fun n hn => hD1 n (by omega) (fun e => by have := (hO4.names e).1; omega)
        simp [w7, hI, hwD, hwal, hi12]
        generalize wa[i]'(by omega) = wv at hb1
        cases wv
        · simp at hb1
          simp [w40, add_in (x := i) (y := 1) (by omega) (by omega)]
          have hO5'' : OwnSl D1 B.next (w 5) ((behindL (i + 1) wa).map (.int .i64)) := by rw [hb1]; exact hO5'
          obtain ⟨z1, z2⟩ := hdone u1 (w 5) D1 (by omega) hlow hO4' hO5'' hdis'
          exact ⟨⟨z1, by omega, w6, w7, w39, z2, i + 1, by omega, by omega, hO4', hO5'', hdis'⟩, by omega⟩
        · simp at hb1
          simp
          have gN2 : Ge D1 (D1.new (.cells true [.int .i64 i] 1)) := Ge.new _ _
          refine fapp_own (lo := B.next) (hO5'.ge gN2) (slCells_new (x := .int .i64 i) (rw := true) (c := 1) (by simp)) rfl (by simp; omega) (by omega) (Nat.le_refl _) (by omega) (by simp; omega) fun u2 D2 k12 k22 k32 k42 => ?_
          have hD2 : ∀ q, q < D1.next → slName (w 5) ≠ some q → D2.get q = D1.get q := fun q h1 h2 => by
            rw [k42 q (by simp; omega) h2, gN2.get q h1]
          have hO4'' : OwnSl D2 B.next u1 ((aheadL (i + 1) fr).map (.int .i64)) := hO4'.keep (by omega) fun q hq => hD2 q (hO4'.names hq).2 (hdis' q hq)
          have hO5'' : OwnSl D2 B.next u2 ((behindL (i + 1) wa).map (.int .i64)) := by rw [hb1]; simpa using k12
          have hdis'' : ∀ q, slName u1 = some q → slName u2 ≠ some q := fun q h1 h2 => by
            rw [k22] at h2; cases h2; have := (hO4'.names h1).2; omega
          obtain ⟨z1, z2⟩ := hdone u1 u2 D2 (by omega) (fun n hn => (hD2 n (by omega) (fun e => by have := (hO5'.names e).1; omega)).trans (hlow n hn)) hO4'' hO5'' hdis''
          simp [w40, add_in (x := i) (y := 1) (by omega) (by omega)]
          exact ⟨⟨z1, by omega, w6, w7, w39, z2, i + 1, by omega, by omega, hO4'', hO5'', hdis''⟩, by omega⟩
      · simp at ha1
        simp [w7, hI, hwC, hwal, hi12]
        have hO4' : OwnSl C B.next (w 4) ((aheadL (i + 1) fr).map (.int .i64)) := by rw [ha1]; exact hO4
        generalize wa[i]'(by omega) = wv at hb1
        cases wv
        · simp at hb1
          simp [w40, add_in (x := i) (y := 1) (by omega) (by omega)]
          have hO5'' : OwnSl C B.next (w 5) ((behindL (i + 1) wa).map (.int .i64)) := by rw [hb1]; exact hO5
          obtain ⟨z1, z2⟩ := hdone (w 4) (w 5) C (by omega) (fun _ _ => rfl) hO4' hO5'' hdis
          exact ⟨⟨z1, by omega, w6, w7, w39, z2, i + 1, by omega, by omega, hO4', hO5'', hdis⟩, by omega⟩
        · simp at hb1
          simp
          have gN2 : Ge C (C.new (.cells true [.int .i64 i] 1)) := Ge.new _ _
          refine fapp_own (lo := B.next) (hO5.ge gN2) (slCells_new (x := .int .i64 i) (rw := true) (c := 1) (by simp)) rfl (by simp; omega) (by omega) (Nat.le_refl _) (by omega) (by simp; omega) fun u2 D2 k12 k22 k32 k42 => ?_
          have hD2 : ∀ q, q < C.next → slName (w 5) ≠ some q → D2.get q = C.get q := fun q h1 h2 => by
            rw [k42 q (by simp; omega) h2, gN2.get q h1]
          have hO4'' : OwnSl D2 B.next (w 4) ((aheadL (i + 1) fr).map (.int .i64)) := hO4'.keep (by omega) fun q hq => hD2 q (hO4'.names hq).2 (hdis q hq)
          have hO5'' : OwnSl D2 B.next u2 ((behindL (i + 1) wa).map (.int .i64)) := by rw [hb1]; simpa using k12
          have hdis'' : ∀ q, slName (w 4) = some q → slName u2 ≠ some q := fun q h1 h2 => by
            rw [k22] at h2; cases h2; have := (hO4'.names h1).2; omega
          obtain ⟨z1, z2⟩ := hdone (w 4) u2 D2 (by omega) (fun n hn => hD2 n (by omega) (fun e => by have := (hO5.names e).1; omega)) hO4'' hO5'' hdis''
          simp [w40, add_in (x := i) (y := 1) (by omega) (by omega)]
          exact ⟨⟨z1, by omega, w6, w7, w39, z2, i + 1, by omega, by omega, hO4'', hO5'', hdis''⟩, by omega⟩
    · have hi' : i = T.trips.length := by simp at hc; omega
      subst hi'
      simp
      refine ⟨gC, fr, wa, hS, w 4, w 5, ⟨rfl, rfl⟩, ⟨by simpa using hO4.slr, ?_⟩, ⟨by simpa using hO5.slr, ?_⟩⟩
      all_goals simp only [aheadL, behindL, numsOf_length]; exact Nat.lt_of_le_of_lt cntN_le (by omega)

end Go.Proofs.Ytohohnpjilinmaa
