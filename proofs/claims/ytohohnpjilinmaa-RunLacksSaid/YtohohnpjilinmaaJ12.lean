/-
  Joined texts of a calculus of abstract memory, and of contracts of the program's functions.
-/
import Derived.Test.YtohohnpjilinmaaJ11
import Derived.Test.YtohohnpjilinmaaChecked
import Derived.KernelRfl
/-
  The code of functions of the package, as the calculus has it.
-/
namespace Go.Proofs.Ytohohnpjilinmaa
open Go Go.Ab

/-- layover/layoverlaw01.RunMore -/
def a12 : ACode :=
  (.seq
   (.region [⟨(some 2), (.box (.t 0)), none⟩, ⟨(some 3), (.box (.t 1)), none⟩, ⟨(some 4), (.mov (.c (.bool false))), none⟩])
   (.seq
    (.region [⟨(some 16), (.ld true 4 (.t 2)), none⟩, ⟨(some 5), (.new [(.int .i64 0), (.int .i64 0), (.slice none 0 0), (.slice none 0 0)]), none⟩, ⟨none, (.st 4 (.t 5) (.t 16)), none⟩])
    (.seq
     (.draw 9 [⟨⟨(some 17), (.bsl 0 [] []), none⟩, 0, false, []⟩, ⟨⟨(some 18), (.fa 3 (.t 2)), none⟩, 1, false, []⟩, ⟨⟨(some 19), (.ld false 1 (.t 18)), none⟩, 2, false, []⟩, ⟨⟨(some 21), (.ld true 6 (.t 3)), none⟩, 4, false, []⟩, ⟨⟨(some 22), (.bsl 1 [(.int .i64 0), (.int .i64 0), (.int .i64 0), (.int .i64 0), (.int .i64 0), (.int .i64 0)] [(0, 6, (.t 21))]), none⟩, 5, false, []⟩, ⟨⟨(some 20), (.app 6 48 (.t 17) (.t 19)), none⟩, 3, true, [4]⟩, ⟨⟨(some 23), (.app 6 48 (.t 20) (.t 22)), none⟩, 6, true, []⟩, ⟨⟨(some 24), (.fa 3 (.t 5)), none⟩, 7, false, []⟩, ⟨⟨none, (.st 1 (.t 24) (.t 23)), none⟩, 8, true, []⟩])
     (.seq
      (.seq
       (.region [⟨(some 25), (.ld true 4 (.t 2)), none⟩, ⟨(some 26), (.call (.c (.func (.func 43) #[] #[])) [(.t 25)]), none⟩, ⟨(some 27), (.not (.t 26)), none⟩, ⟨(some 28), (.mov (.t 27)), none⟩, ⟨(some 29), (.ld true 4 (.t 5)), (some (28, false))⟩, ⟨(some 30), (.call (.c (.func (.func 43) #[] #[])) [(.t 29)]), (some (28, false))⟩, ⟨(some 31), (.not (.t 30)), (some (28, false))⟩, ⟨(some 32), (.pick (.t 28) (.c (.bool true)) (.t 31)), none⟩])
       (.cond (.t 32)
        (.seq
         (.region [⟨(some 33), (.call (.c (.func (.func 17) #[] #[])) []), none⟩, ⟨(some 4), (.mov (.t 33)), none⟩])
         .ret)
        .skip))
      (.seq
       (.region [⟨(some 35), (.ld true 4 (.t 2)), none⟩, ⟨(some 36), (.call (.c (.func (.func 19) #[] #[])) [(.t 35)]), none⟩, ⟨(some 37), (.call (.c (.func (.func 26) #[] #[])) [(.t 36)]), none⟩, ⟨(some 34), (.mov (.t 37)), none⟩, ⟨(some 38), (.ext (.t 34) 0), none⟩, ⟨(some 39), (.ext (.t 34) 1), none⟩, ⟨(some 6), (.mov (.t 38)), none⟩, ⟨(some 7), (.mov (.t 39)), none⟩])
       (.seq
        (.region [⟨(some 41), (.ld true 4 (.t 5)), none⟩, ⟨(some 42), (.call (.c (.func (.func 19) #[] #[])) [(.t 41)]), none⟩, ⟨(some 43), (.call (.c (.func (.func 26) #[] #[])) [(.t 42)]), none⟩, ⟨(some 40), (.mov (.t 43)), none⟩, ⟨(some 44), (.ext (.t 40) 0), none⟩, ⟨(some 45), (.ext (.t 40) 1), none⟩, ⟨(some 8), (.mov (.t 44)), none⟩, ⟨(some 9), (.mov (.t 45)), none⟩])
        (.seq
         (.region [⟨(some 47), (.ld true 4 (.t 5)), none⟩, ⟨(some 48), (.call (.c (.func (.func 19) #[] #[])) [(.t 47)]), none⟩, ⟨(some 49), (.call (.c (.func (.func 20) #[] #[])) [(.t 48)]), none⟩, ⟨(some 46), (.mov (.t 49)), none⟩, ⟨(some 50), (.ext (.t 46) 0), none⟩, ⟨(some 51), (.ext (.t 46) 1), none⟩, ⟨(some 10), (.mov (.t 50)), none⟩, ⟨(some 11), (.mov (.t 51)), none⟩])
         (.seq
          (.seq
           (.region [⟨(some 52), (.mov (.t 7)), none⟩, ⟨(some 53), (.bin .neq (.t 52) (.c (.int .i64 0))), none⟩, ⟨(some 54), (.mov (.t 53)), none⟩, ⟨(some 55), (.mov (.t 9)), (some (54, false))⟩, ⟨(some 56), (.bin .neq (.t 55) (.c (.int .i64 0))), (some (54, false))⟩, ⟨(some 57), (.pick (.t 54) (.c (.bool true)) (.t 56)), none⟩, ⟨(some 58), (.mov (.t 57)), none⟩, ⟨(some 59), (.mov (.t 11)), (some (58, false))⟩, ⟨(some 60), (.bin .neq (.t 59) (.c (.int .i64 0))), (some (58, false))⟩, ⟨(some 61), (.pick (.t 58) (.c (.bool true)) (.t 60)), none⟩, ⟨(some 62), (.mov (.t 61)), none⟩, ⟨(some 63), (.mov (.t 10)), (some (62, false))⟩, ⟨(some 64), (.len (.t 63)), (some (62, false))⟩, ⟨(some 65), (.fa 3 (.t 5)), (some (62, false))⟩, ⟨(some 66), (.ld false 1 (.t 65)), (some (62, false))⟩, ⟨(some 67), (.len (.t 66)), (some (62, false))⟩, ⟨(some 68), (.bin .neq (.t 64) (.t 67)), (some (62, false))⟩, ⟨(some 69), (.pick (.t 62) (.c (.bool true)) (.t 68)), none⟩, ⟨(some 70), (.mov (.t 69)), none⟩, ⟨(some 71), (.mov (.t 8)), (some (70, false))⟩, ⟨(some 72), (.len (.t 71)), (some (70, false))⟩, ⟨(some 73), (.mov (.t 6)), (some (70, false))⟩, ⟨(some 74), (.len (.t 73)), (some (70, false))⟩, ⟨(some 75), (.bin .add (.t 74) (.c (.int .i64 1))), (some (70, false))⟩, ⟨(some 76), (.bin .gtr (.t 72) (.t 75)), (some (70, false))⟩, ⟨(some 77), (.pick (.t 70) (.c (.bool true)) (.t 76)), none⟩])
           (.cond (.t 77)
            (.seq
             (.region [⟨(some 4), (.mov (.c (.bool false))), none⟩])
             .ret)
            .skip))
          (.seq
           (.region [⟨(some 12), (.mov (.c (.bool true))), none⟩])
           (.seq
            (.seq
             (.region [⟨(some 13), (.mov (.c (.int .i64 0))), none⟩])
             (.block 0
              (.loop
               (.seq
                (.seq
                 (.region [⟨(some 78), (.mov (.t 13)), none⟩, ⟨(some 79), (.mov (.t 10)), none⟩, ⟨(some 80), (.len (.t 79)), none⟩, ⟨(some 81), (.bin .lss (.t 78) (.t 80)), none⟩])
                 (.cond (.t 81)
                  .skip
                  (.exit 0)))
                (.seq
                 (.block 1
                  (.seq
                   (.region [⟨(some 14), (.mov (.c (.int .i64 0))), none⟩])
                   (.block 2
                    (.loop
                     (.seq
                      (.seq
                       (.region [⟨(some 84), (.mov (.t 14)), none⟩, ⟨(some 85), (.mov (.t 10)), none⟩, ⟨(some 86), (.mov (.t 13)), none⟩, ⟨(some 87), (.isl 1 (.t 85) (.t 86)), none⟩, ⟨(some 88), (.ld false 1 (.t 87)), none⟩, ⟨(some 89), (.len (.t 88)), none⟩, ⟨(some 90), (.bin .lss (.t 84) (.t 89)), none⟩])
                       (.cond (.t 90)
                        .skip
                        (.exit 2)))
                      (.seq
                       (.block 3
                        (.draw 15 [⟨⟨(some 93), (.mov (.t 12)), none⟩, 0, false, []⟩, ⟨⟨(some 94), (.mov (.t 93)), none⟩, 1, false, []⟩, ⟨⟨(some 95), (.mov (.t 10)), (some (94, true))⟩, 2, false, []⟩, ⟨⟨(some 96), (.mov (.t 13)), (some (94, true))⟩, 3, false, []⟩, ⟨⟨(some 97), (.isl 1 (.t 95) (.t 96)), (some (94, true))⟩, 4, false, []⟩, ⟨⟨(some 98), (.ld false 1 (.t 97)), (some (94, true))⟩, 5, false, []⟩, ⟨⟨(some 99), (.mov (.t 14)), (some (94, true))⟩, 6, false, []⟩, ⟨⟨(some 100), (.isl 1 (.t 98) (.t 99)), (some (94, true))⟩, 7, false, []⟩, ⟨⟨(some 101), (.ld false 1 (.t 100)), (some (94, true))⟩, 8, false, []⟩, ⟨⟨(some 102), (.fa 3 (.t 2)), (some (94, true))⟩, 9, false, []⟩, ⟨⟨(some 103), (.ld false 1 (.t 102)), (some (94, true))⟩, 10, false, []⟩, ⟨⟨(some 104), (.len (.t 103)), (some (94, true))⟩, 11, false, []⟩, ⟨⟨(some 105), (.bin .neq (.t 101) (.t 104)), (some (94, true))⟩, 12, false, []⟩, ⟨⟨(some 106), (.pick (.t 94) (.t 105) (.c (.bool false))), none⟩, 13, false, []⟩, ⟨⟨(some 12), (.mov (.t 106)), none⟩, 14, false, []⟩]))
                       (.region [⟨(some 91), (.mov (.t 14)), none⟩, ⟨(some 92), (.bin .add (.t 91) (.c (.int .i64 1))), none⟩, ⟨(some 14), (.mov (.t 92)), none⟩])))))))
                 (.region [⟨(some 82), (.mov (.t 13)), none⟩, ⟨(some 83), (.bin .add (.t 82) (.c (.int .i64 1))), none⟩, ⟨(some 13), (.mov (.t 83)), none⟩]))))))
            (.seq
             (.region [⟨(some 107), (.mov (.t 10)), none⟩, ⟨(some 108), (.fa 3 (.t 2)), none⟩, ⟨(some 109), (.ld false 1 (.t 108)), none⟩, ⟨(some 110), (.len (.t 109)), none⟩, ⟨(some 111), (.isl 1 (.t 107) (.t 110)), none⟩, ⟨(some 112), (.ld false 1 (.t 111)), none⟩, ⟨(some 113), (.len (.t 112)), none⟩, ⟨(some 114), (.bin .eql (.t 113) (.c (.int .i64 0))), none⟩, ⟨(some 15), (.mov (.t 114)), none⟩])
             (.seq
              (.region [⟨(some 115), (.mov (.t 8)), none⟩, ⟨(some 116), (.len (.t 115)), none⟩, ⟨(some 117), (.mov (.t 6)), none⟩, ⟨(some 118), (.len (.t 117)), none⟩, ⟨(some 119), (.bin .geq (.t 116) (.t 118)), none⟩, ⟨(some 120), (.mov (.t 119)), none⟩, ⟨(some 121), (.mov (.t 12)), (some (120, false))⟩, ⟨(some 122), (.not (.t 121)), (some (120, false))⟩, ⟨(some 123), (.mov (.t 122)), (some (120, false))⟩, ⟨(some 124), (.mov (.t 15)), (some (123, true))⟩, ⟨(some 125), (.not (.t 124)), (some (123, true))⟩, ⟨(some 126), (.pick (.t 123) (.t 125) (.c (.bool false))), (some (120, false))⟩, ⟨(some 127), (.pick (.t 120) (.c (.bool true)) (.t 126)), none⟩, ⟨(some 128), (.mov (.t 127)), none⟩, ⟨(some 129), (.call (.c (.func (.func 17) #[] #[])) []), (some (128, true))⟩, ⟨(some 130), (.pick (.t 128) (.t 129) (.c (.bool false))), none⟩, ⟨(some 4), (.mov (.t 130)), none⟩])
              .ret))))))))))))
def r12 : List AOp := [(.mov (.t 4))]
theorem ok12 : FnOk Try.prog 12 Try.f12.ntmps a12 r12 := ⟨Try.f12, Try.func12, by kernel_rfl, by kernel_rfl, by kernel_rfl, fun asv w => by simp⟩

/-- layover/layoverlaw01.RunLater -/
def a14 : ACode :=
  (.seq
   (.region [⟨(some 2), (.box (.t 0)), none⟩, ⟨(some 4), (.mov (.c (.bool false))), none⟩])
   (.seq
    (.seq
     (.region [⟨(some 16), (.ld true 4 (.t 2)), none⟩, ⟨(some 17), (.call (.c (.func (.func 43) #[] #[])) [(.t 16)]), none⟩, ⟨(some 18), (.not (.t 17)), none⟩])
     (.cond (.t 18)
      (.seq
       (.region [⟨(some 19), (.call (.c (.func (.func 17) #[] #[])) []), none⟩, ⟨(some 4), (.mov (.t 19)), none⟩])
       .ret)
      .skip))
    (.seq
     (.region [⟨(some 20), (.ld true 4 (.t 2)), none⟩, ⟨(some 5), (.new [(.int .i64 0), (.int .i64 0), (.slice none 0 0), (.slice none 0 0)]), none⟩, ⟨none, (.st 4 (.t 5) (.t 20)), none⟩])
     (.seq
      (.region [⟨(some 21), (.bsl 0 [] []), none⟩, ⟨(some 22), (.fa 3 (.t 2)), none⟩, ⟨(some 23), (.ld false 1 (.t 22)), none⟩, ⟨(some 24), (.app 6 48 (.t 21) (.t 23)), none⟩, ⟨(some 25), (.fa 3 (.t 5)), none⟩, ⟨none, (.st 1 (.t 25) (.t 24)), none⟩])
      (.seq
       (.seq
        (.region [⟨(some 6), (.mov (.c (.int .i64 0))), none⟩])
        (.block 0
         (.loop
          (.seq
           (.seq
            (.region [⟨(some 26), (.mov (.t 6)), none⟩, ⟨(some 27), (.fa 3 (.t 5)), none⟩, ⟨(some 28), (.ld false 1 (.t 27)), none⟩, ⟨(some 29), (.len (.t 28)), none⟩, ⟨(some 30), (.bin .lss (.t 26) (.t 29)), none⟩])
            (.cond (.t 30)
             .skip
             (.exit 0)))
           (.seq
            (.block 1
             (.region [⟨(some 33), (.fa 3 (.t 5)), none⟩, ⟨(some 34), (.ld false 1 (.t 33)), none⟩, ⟨(some 35), (.mov (.t 6)), none⟩, ⟨(some 36), (.isl 6 (.t 34) (.t 35)), none⟩, ⟨(some 37), (.fa 2 (.t 36)), none⟩, ⟨(some 38), (.ld false 1 (.t 37)), none⟩, ⟨(some 39), (.mov (.t 1)), none⟩, ⟨(some 40), (.cvi .i64 (.t 39)), none⟩, ⟨(some 41), (.bin .rem (.t 40) (.c (.int .i64 500))), none⟩, ⟨(some 42), (.bin .add (.t 38) (.t 41)), none⟩, ⟨(some 43), (.isl 6 (.t 34) (.t 35)), none⟩, ⟨(some 44), (.fa 2 (.t 43)), none⟩, ⟨none, (.st 1 (.t 44) (.t 42)), none⟩]))
            (.region [⟨(some 31), (.mov (.t 6)), none⟩, ⟨(some 32), (.bin .add (.t 31) (.c (.int .i64 1))), none⟩, ⟨(some 6), (.mov (.t 32)), none⟩]))))))
       (.seq
        (.seq
         (.region [⟨(some 45), (.ld true 4 (.t 5)), none⟩, ⟨(some 46), (.call (.c (.func (.func 47) #[] #[])) [(.t 45)]), none⟩, ⟨(some 47), (.bin .neq (.t 46) (.c (.int .i64 0))), none⟩])
         (.cond (.t 47)
          (.seq
           (.region [⟨(some 48), (.call (.c (.func (.func 17) #[] #[])) []), none⟩, ⟨(some 4), (.mov (.t 48)), none⟩])
           .ret)
          .skip))
        (.seq
         (.region [⟨(some 50), (.ld true 4 (.t 2)), none⟩, ⟨(some 51), (.call (.c (.func (.func 19) #[] #[])) [(.t 50)]), none⟩, ⟨(some 52), (.call (.c (.func (.func 20) #[] #[])) [(.t 51)]), none⟩, ⟨(some 49), (.mov (.t 52)), none⟩, ⟨(some 53), (.ext (.t 49) 0), none⟩, ⟨(some 54), (.ext (.t 49) 1), none⟩, ⟨(some 7), (.mov (.t 53)), none⟩, ⟨(some 8), (.mov (.t 54)), none⟩])
         (.seq
          (.region [⟨(some 56), (.ld true 4 (.t 5)), none⟩, ⟨(some 57), (.call (.c (.func (.func 19) #[] #[])) [(.t 56)]), none⟩, ⟨(some 58), (.call (.c (.func (.func 20) #[] #[])) [(.t 57)]), none⟩, ⟨(some 55), (.mov (.t 58)), none⟩, ⟨(some 59), (.ext (.t 55) 0), none⟩, ⟨(some 60), (.ext (.t 55) 1), none⟩, ⟨(some 9), (.mov (.t 59)), none⟩, ⟨(some 10), (.mov (.t 60)), none⟩])
          (.seq
           (.region [⟨(some 62), (.ld true 4 (.t 2)), none⟩, ⟨(some 63), (.call (.c (.func (.func 19) #[] #[])) [(.t 62)]), none⟩, ⟨(some 64), (.call (.c (.func (.func 26) #[] #[])) [(.t 63)]), none⟩, ⟨(some 61), (.mov (.t 64)), none⟩, ⟨(some 65), (.ext (.t 61) 0), none⟩, ⟨(some 66), (.ext (.t 61) 1), none⟩, ⟨(some 11), (.mov (.t 65)), none⟩, ⟨(some 12), (.mov (.t 66)), none⟩])
           (.seq
            (.region [⟨(some 68), (.ld true 4 (.t 5)), none⟩, ⟨(some 69), (.call (.c (.func (.func 19) #[] #[])) [(.t 68)]), none⟩, ⟨(some 70), (.call (.c (.func (.func 26) #[] #[])) [(.t 69)]), none⟩, ⟨(some 67), (.mov (.t 70)), none⟩, ⟨(some 71), (.ext (.t 67) 0), none⟩, ⟨(some 72), (.ext (.t 67) 1), none⟩, ⟨(some 13), (.mov (.t 71)), none⟩, ⟨(some 14), (.mov (.t 72)), none⟩])
            (.seq
             (.seq
              (.region [⟨(some 73), (.mov (.t 8)), none⟩, ⟨(some 74), (.bin .neq (.t 73) (.c (.int .i64 0))), none⟩, ⟨(some 75), (.mov (.t 74)), none⟩, ⟨(some 76), (.mov (.t 10)), (some (75, false))⟩, ⟨(some 77), (.bin .neq (.t 76) (.c (.int .i64 0))), (some (75, false))⟩, ⟨(some 78), (.pick (.t 75) (.c (.bool true)) (.t 77)), none⟩, ⟨(some 79), (.mov (.t 78)), none⟩, ⟨(some 80), (.mov (.t 12)), (some (79, false))⟩, ⟨(some 81), (.bin .neq (.t 80) (.c (.int .i64 0))), (some (79, false))⟩, ⟨(some 82), (.pick (.t 79) (.c (.bool true)) (.t 81)), none⟩, ⟨(some 83), (.mov (.t 82)), none⟩, ⟨(some 84), (.mov (.t 14)), (some (83, false))⟩, ⟨(some 85), (.bin .neq (.t 84) (.c (.int .i64 0))), (some (83, false))⟩, ⟨(some 86), (.pick (.t 83) (.c (.bool true)) (.t 85)), none⟩, ⟨(some 87), (.mov (.t 86)), none⟩, ⟨(some 88), (.mov (.t 7)), (some (87, false))⟩, ⟨(some 89), (.len (.t 88)), (some (87, false))⟩, ⟨(some 90), (.mov (.t 9)), (some (87, false))⟩, ⟨(some 91), (.len (.t 90)), (some (87, false))⟩, ⟨(some 92), (.bin .neq (.t 89) (.t 91)), (some (87, false))⟩, ⟨(some 93), (.pick (.t 87) (.c (.bool true)) (.t 92)), none⟩, ⟨(some 94), (.mov (.t 93)), none⟩, ⟨(some 95), (.mov (.t 11)), (some (94, false))⟩, ⟨(some 96), (.len (.t 95)), (some (94, false))⟩, ⟨(some 97), (.mov (.t 13)), (some (94, false))⟩, ⟨(some 98), (.len (.t 97)), (some (94, false))⟩, ⟨(some 99), (.bin .neq (.t 96) (.t 98)), (some (94, false))⟩, ⟨(some 100), (.pick (.t 94) (.c (.bool true)) (.t 99)), none⟩])
              (.cond (.t 100)
               (.seq
                (.region [⟨(some 4), (.mov (.c (.bool false))), none⟩])
                .ret)
               .skip))
             (.seq
              (.seq
               (.region [⟨(some 15), (.mov (.c (.int .i64 0))), none⟩])
               (.block 2
                (.loop
                 (.seq
                  (.seq
                   (.region [⟨(some 101), (.mov (.t 15)), none⟩, ⟨(some 102), (.mov (.t 7)), none⟩, ⟨(some 103), (.len (.t 102)), none⟩, ⟨(some 104), (.bin .lss (.t 101) (.t 103)), none⟩])
                   (.cond (.t 104)
                    .skip
                    (.exit 2)))
                  (.seq
                   (.block 3
                    (.seq
                     (.draw 10 [⟨⟨(some 107), (.mov (.t 7)), none⟩, 0, false, []⟩, ⟨⟨(some 108), (.mov (.t 15)), none⟩, 1, false, []⟩, ⟨⟨(some 109), (.isl 1 (.t 107) (.t 108)), none⟩, 2, false, []⟩, ⟨⟨(some 110), (.ld false 1 (.t 109)), none⟩, 3, false, []⟩, ⟨⟨(some 111), (.mov (.t 9)), none⟩, 4, false, []⟩, ⟨⟨(some 112), (.mov (.t 15)), none⟩, 5, false, []⟩, ⟨⟨(some 113), (.isl 1 (.t 111) (.t 112)), none⟩, 6, false, []⟩, ⟨⟨(some 114), (.ld false 1 (.t 113)), none⟩, 7, false, []⟩, ⟨⟨(some 115), (.call (.c (.func (.func 22) #[] #[])) [(.t 110), (.t 114)]), none⟩, 8, true, []⟩, ⟨⟨(some 116), (.not (.t 115)), none⟩, 9, false, []⟩])
                     (.cond (.t 116)
                      (.seq
                       (.region [⟨(some 4), (.mov (.c (.bool false))), none⟩])
                       .ret)
                      .skip)))
                   (.region [⟨(some 105), (.mov (.t 15)), none⟩, ⟨(some 106), (.bin .add (.t 105) (.c (.int .i64 1))), none⟩, ⟨(some 15), (.mov (.t 106)), none⟩]))))))
              (.seq
               (.region [⟨(some 117), (.ld true 4 (.t 5)), none⟩, ⟨(some 118), (.call (.c (.func (.func 19) #[] #[])) [(.t 117)]), none⟩, ⟨(some 119), (.mov (.t 11)), none⟩, ⟨(some 120), (.call (.c (.func (.func 28) #[] #[])) [(.t 119)]), none⟩, ⟨(some 121), (.call (.c (.func (.func 27) #[] #[])) [(.t 118), (.t 120)]), none⟩, ⟨(some 122), (.mov (.t 121)), none⟩, ⟨(some 123), (.call (.c (.func (.func 17) #[] #[])) []), (some (122, true))⟩, ⟨(some 124), (.pick (.t 122) (.t 123) (.c (.bool false))), none⟩, ⟨(some 4), (.mov (.t 124)), none⟩])
               .ret)))))))))))))
def r14 : List AOp := [(.mov (.t 4))]
theorem ok14 : FnOk Try.prog 14 Try.f14.ntmps a14 r14 := ⟨Try.f14, Try.func14, by kernel_rfl, by kernel_rfl, by kernel_rfl, fun asv w => by simp⟩

/-- layover/layoverlaw01.RunKinds -/
def a15 : ACode :=
  (.seq
   (.region [⟨(some 1), (.box (.t 0)), none⟩, ⟨(some 2), (.mov (.c (.bool false))), none⟩])
   (.seq
    (.seq
     (.region [⟨(some 7), (.ld true 4 (.t 1)), none⟩, ⟨(some 8), (.call (.c (.func (.func 43) #[] #[])) [(.t 7)]), none⟩, ⟨(some 9), (.not (.t 8)), none⟩])
     (.cond (.t 9)
      (.seq
       (.region [⟨(some 10), (.call (.c (.func (.func 17) #[] #[])) []), none⟩, ⟨(some 2), (.mov (.t 10)), none⟩])
       .ret)
      .skip))
    (.seq
     (.region [⟨(some 12), (.ld true 4 (.t 1)), none⟩, ⟨(some 13), (.call (.c (.func (.func 19) #[] #[])) [(.t 12)]), none⟩, ⟨(some 14), (.call (.c (.func (.func 26) #[] #[])) [(.t 13)]), none⟩, ⟨(some 11), (.mov (.t 14)), none⟩, ⟨(some 15), (.ext (.t 11) 0), none⟩, ⟨(some 16), (.ext (.t 11) 1), none⟩, ⟨(some 3), (.mov (.t 15)), none⟩, ⟨(some 4), (.mov (.t 16)), none⟩])
     (.seq
      (.region [⟨(some 18), (.ld true 4 (.t 1)), none⟩, ⟨(some 19), (.call (.c (.func (.func 45) #[] #[])) [(.t 18), (.c (.slice none 0 0))]), none⟩, ⟨(some 17), (.mov (.t 19)), none⟩, ⟨(some 20), (.ext (.t 17) 0), none⟩, ⟨(some 21), (.ext (.t 17) 1), none⟩, ⟨(some 5), (.new [(.int .i64 0), (.int .i64 0), (.int .i64 0)]), none⟩, ⟨none, (.st 3 (.t 5) (.t 20)), none⟩, ⟨(some 6), (.mov (.t 21)), none⟩])
      (.seq
       (.region [⟨(some 22), (.mov (.t 4)), none⟩, ⟨(some 23), (.bin .eql (.t 22) (.c (.int .i64 0))), none⟩, ⟨(some 24), (.mov (.t 23)), none⟩, ⟨(some 25), (.mov (.t 6)), (some (24, true))⟩, ⟨(some 26), (.pick (.t 24) (.t 25) (.c (.bool false))), none⟩, ⟨(some 27), (.mov (.t 26)), none⟩, ⟨(some 28), (.mov (.t 3)), (some (27, true))⟩, ⟨(some 29), (.len (.t 28)), (some (27, true))⟩, ⟨(some 30), (.iar 3 1 (.t 5) (.c (.int .i64 0))), (some (27, true))⟩, ⟨(some 31), (.ld false 1 (.t 30)), (some (27, true))⟩, ⟨(some 32), (.iar 3 1 (.t 5) (.c (.int .i64 1))), (some (27, true))⟩, ⟨(some 33), (.ld false 1 (.t 32)), (some (27, true))⟩, ⟨(some 34), (.bin .add (.t 31) (.t 33)), (some (27, true))⟩, ⟨(some 35), (.iar 3 1 (.t 5) (.c (.int .i64 2))), (some (27, true))⟩, ⟨(some 36), (.ld false 1 (.t 35)), (some (27, true))⟩, ⟨(some 37), (.bin .add (.t 34) (.t 36)), (some (27, true))⟩, ⟨(some 38), (.bin .eql (.t 29) (.t 37)), (some (27, true))⟩, ⟨(some 39), (.pick (.t 27) (.t 38) (.c (.bool false))), none⟩, ⟨(some 40), (.mov (.t 39)), none⟩, ⟨(some 41), (.call (.c (.func (.func 17) #[] #[])) []), (some (40, true))⟩, ⟨(some 42), (.pick (.t 40) (.t 41) (.c (.bool false))), none⟩, ⟨(some 2), (.mov (.t 42)), none⟩])
       .ret)))))
def r15 : List AOp := [(.mov (.t 2))]
theorem ok15 : FnOk Try.prog 15 Try.f15.ntmps a15 r15 := ⟨Try.f15, Try.func15, by kernel_rfl, by kernel_rfl, by kernel_rfl, fun asv w => by simp⟩

/-- layover/layoverlaw01.RunNames -/
def a8 : ACode :=
  (.seq
   (.region [⟨(some 0), (.mov (.c (.bool false))), none⟩])
   (.seq
    (.region [⟨(some 19), (.call (.c (.func (.func 42) #[] #[])) []), none⟩, ⟨(some 20), (.call (.c (.func (.func 32) #[] #[])) [(.t 19)]), none⟩, ⟨(some 18), (.mov (.t 20)), none⟩, ⟨(some 21), (.ext (.t 18) 0), none⟩, ⟨(some 22), (.ext (.t 18) 1), none⟩, ⟨(some 23), (.ext (.t 18) 2), none⟩, ⟨(some 1), (.mov (.t 21)), none⟩, ⟨(some 2), (.mov (.t 22)), none⟩, ⟨(some 3), (.mov (.t 23)), none⟩])
    (.seq
     (.region [⟨(some 25), (.call (.c (.func (.func 42) #[] #[])) []), none⟩, ⟨(some 26), (.bsl 3 [(.int .i64 0), (.int .i64 0), (.int .i64 0)] [(0, 1, (.c (.int .i64 0))), (1, 1, (.c (.int .i64 1))), (2, 1, (.c (.int .i64 3)))]), none⟩, ⟨(some 27), (.bsl 1 [(.int .i64 0)] [(0, 1, (.c (.int .i64 2)))]), none⟩, ⟨(some 28), (.bsl 1 [(.int .i64 0)] [(0, 1, (.c (.int .i64 4)))]), none⟩, ⟨(some 29), (.bsl 3 [(.slice none 0 0), (.slice none 0 0), (.slice none 0 0)] [(0, 1, (.t 26)), (1, 1, (.t 27)), (2, 1, (.t 28))]), none⟩, ⟨(some 30), (.bsl 5 [(.int .i64 0), (.int .i64 0), (.int .i64 0), (.int .i64 0), (.int .i64 0)] [(0, 1, (.c (.int .i64 40))), (1, 1, (.c (.int .i64 20))), (2, 1, (.c (.int .i64 40))), (3, 1, (.c (.int .i64 30))), (4, 1, (.c (.int .i64 10)))]), none⟩, ⟨(some 31), (.call (.c (.func (.func 36) #[] #[])) [(.t 25), (.t 29), (.t 30)]), none⟩, ⟨(some 24), (.mov (.t 31)), none⟩, ⟨(some 32), (.ext (.t 24) 0), none⟩, ⟨(some 33), (.ext (.t 24) 1), none⟩, ⟨(some 4), (.mov (.t 32)), none⟩, ⟨(some 5), (.mov (.t 33)), none⟩])
     (.seq
      (.region [⟨(some 35), (.call (.c (.func (.func 42) #[] #[])) []), none⟩, ⟨(some 36), (.bsl 3 [(.int .i64 0), (.int .i64 0), (.int .i64 0)] [(0, 1, (.c (.int .i64 1))), (1, 1, (.c (.int .i64 1))), (2, 1, (.c (.int .i64 0)))]), none⟩, ⟨(some 37), (.call (.c (.func (.func 39) #[] #[])) [(.t 35), (.t 36)]), none⟩, ⟨(some 34), (.mov (.t 37)), none⟩, ⟨(some 38), (.ext (.t 34) 0), none⟩, ⟨(some 39), (.ext (.t 34) 1), none⟩, ⟨(some 6), (.mov (.t 38)), none⟩, ⟨(some 7), (.mov (.t 39)), none⟩])
      (.seq
       (.region [⟨(some 41), (.call (.c (.func (.func 42) #[] #[])) []), none⟩, ⟨(some 42), (.bsl 3 [(.int .i64 0), (.int .i64 0), (.int .i64 0)] [(0, 1, (.c (.int .i64 2))), (1, 1, (.c (.int .i64 0))), (2, 1, (.c (.int .i64 0)))]), none⟩, ⟨(some 43), (.call (.c (.func (.func 39) #[] #[])) [(.t 41), (.t 42)]), none⟩, ⟨(some 40), (.mov (.t 43)), none⟩, ⟨(some 44), (.ext (.t 40) 0), none⟩, ⟨(some 45), (.ext (.t 40) 1), none⟩, ⟨(some 8), (.mov (.t 44)), none⟩, ⟨(some 9), (.mov (.t 45)), none⟩])
       (.seq
        (.region [⟨(some 47), (.call (.c (.func (.func 42) #[] #[])) []), none⟩, ⟨(some 48), (.bsl 3 [(.int .i64 0), (.int .i64 0), (.int .i64 0)] [(0, 1, (.c (.int .i64 2))), (1, 1, (.c (.int .i64 1))), (2, 1, (.c (.int .i64 0)))]), none⟩, ⟨(some 49), (.call (.c (.func (.func 39) #[] #[])) [(.t 47), (.t 48)]), none⟩, ⟨(some 46), (.mov (.t 49)), none⟩, ⟨(some 50), (.ext (.t 46) 0), none⟩, ⟨(some 51), (.ext (.t 46) 1), none⟩, ⟨(some 10), (.mov (.t 50)), none⟩, ⟨(some 11), (.mov (.t 51)), none⟩])
        (.seq
         (.seq
          (.draw 84 [⟨⟨(some 52), (.mov (.t 3)), none⟩, 0, false, []⟩, ⟨⟨(some 53), (.bin .neq (.t 52) (.c (.int .i64 0))), none⟩, 1, false, []⟩, ⟨⟨(some 54), (.mov (.t 53)), none⟩, 2, false, []⟩, ⟨⟨(some 56), (.mov (.t 1)), (some (54, false))⟩, 4, false, []⟩, ⟨⟨(some 57), (.mov (.t 2)), (some (54, false))⟩, 5, false, []⟩, ⟨⟨(some 55), (.call (.c (.func (.func 42) #[] #[])) []), (some (54, false))⟩, 3, true, []⟩, ⟨⟨(some 58), (.call (.c (.func (.func 33) #[] #[])) [(.t 55), (.t 56), (.t 57), (.c (.int .i64 3))]), (some (54, false))⟩, 6, true, []⟩, ⟨⟨(some 59), (.not (.t 58)), (some (54, false))⟩, 7, false, []⟩, ⟨⟨(some 60), (.pick (.t 54) (.c (.bool true)) (.t 59)), none⟩, 8, false, []⟩, ⟨⟨(some 61), (.mov (.t 60)), none⟩, 9, false, []⟩, ⟨⟨(some 63), (.mov (.t 1)), (some (61, false))⟩, 11, false, []⟩, ⟨⟨(some 64), (.mov (.t 2)), (some (61, false))⟩, 12, false, []⟩, ⟨⟨(some 62), (.call (.c (.func (.func 42) #[] #[])) []), (some (61, false))⟩, 10, true, []⟩, ⟨⟨(some 65), (.call (.c (.func (.func 33) #[] #[])) [(.t 62), (.t 63), (.t 64), (.c (.int .i64 4))]), (some (61, false))⟩, 13, true, []⟩, ⟨⟨(some 66), (.pick (.t 61) (.c (.bool true)) (.t 65)), none⟩, 14, false, []⟩, ⟨⟨(some 67), (.mov (.t 66)), none⟩, 15, false, []⟩, ⟨⟨(some 69), (.bsl 2 [(.int .i64 0), (.int .i64 0)] [(0, 1, (.c (.int .i64 0))), (1, 1, (.c (.int .i64 1)))]), (some (67, false))⟩, 17, false, []⟩, ⟨⟨(some 68), (.call (.c (.func (.func 42) #[] #[])) []), (some (67, false))⟩, 16, true, []⟩, ⟨⟨(some 70), (.call (.c (.func (.func 33) #[] #[])) [(.t 68), (.t 69), (.c (.slice none 0 0)), (.c (.int .i64 3))]), (some (67, false))⟩, 18, true, []⟩, ⟨⟨(some 71), (.not (.t 70)), (some (67, false))⟩, 19, false, []⟩, ⟨⟨(some 72), (.pick (.t 67) (.c (.bool true)) (.t 71)), none⟩, 20, false, []⟩, ⟨⟨(some 73), (.mov (.t 72)), none⟩, 21, false, []⟩, ⟨⟨(some 75), (.bsl 1 [(.int .i64 0)] [(0, 1, (.c (.int .i64 0)))]), (some (73, false))⟩, 23, false, []⟩, ⟨⟨(some 74), (.call (.c (.func (.func 42) #[] #[])) []), (some (73, false))⟩, 22, true, []⟩, ⟨⟨(some 76), (.call (.c (.func (.func 33) #[] #[])) [(.t 74), (.t 75), (.c (.slice none 0 0)), (.c (.int .i64 3))]), (some (73, false))⟩, 24, true, []⟩, ⟨⟨(some 77), (.pick (.t 73) (.c (.bool true)) (.t 76)), none⟩, 25, false, []⟩, ⟨⟨(some 78), (.mov (.t 77)), none⟩, 26, false, []⟩, ⟨⟨(some 79), (.mov (.t 5)), (some (78, false))⟩, 27, false, []⟩, ⟨⟨(some 80), (.bin .neq (.t 79) (.c (.int .i64 0))), (some (78, false))⟩, 28, false, []⟩, ⟨⟨(some 81), (.pick (.t 78) (.c (.bool true)) (.t 80)), none⟩, 29, false, []⟩, ⟨⟨(some 82), (.mov (.t 81)), none⟩, 30, false, []⟩, ⟨⟨(some 83), (.mov (.t 4)), (some (82, false))⟩, 31, false, []⟩, ⟨⟨(some 84), (.len (.t 83)), (some (82, false))⟩, 32, false, []⟩, ⟨⟨(some 85), (.bin .neq (.t 84) (.c (.int .i64 3))), (some (82, false))⟩, 33, false, []⟩, ⟨⟨(some 86), (.pick (.t 82) (.c (.bool true)) (.t 85)), none⟩, 34, false, []⟩, ⟨⟨(some 87), (.mov (.t 86)), none⟩, 35, false, []⟩, ⟨⟨(some 88), (.mov (.t 4)), (some (87, false))⟩, 36, false, []⟩, ⟨⟨(some 89), (.isl 1 (.t 88) (.c (.int .i64 0))), (some (87, false))⟩, 37, false, []⟩, ⟨⟨(some 90), (.ld false 1 (.t 89)), (some (87, false))⟩, 38, false, []⟩, ⟨⟨(some 91), (.bsl 2 [(.int .i64 0), (.int .i64 0)] [(0, 1, (.c (.int .i64 20))), (1, 1, (.c (.int .i64 10)))]), (some (87, false))⟩, 39, false, []⟩, ⟨⟨(some 92), (.call (.c (.func (.func 22) #[] #[])) [(.t 90), (.t 91)]), (some (87, false))⟩, 40, true, []⟩, ⟨⟨(some 93), (.not (.t 92)), (some (87, false))⟩, 41, false, []⟩, ⟨⟨(some 94), (.pick (.t 87) (.c (.bool true)) (.t 93)), none⟩, 42, false, []⟩, ⟨⟨(some 95), (.mov (.t 94)), none⟩, 43, false, []⟩, ⟨⟨(some 96), (.mov (.t 4)), (some (95, false))⟩, 44, false, []⟩, ⟨⟨(some 97), (.isl 1 (.t 96) (.c (.int .i64 1))), (some (95, false))⟩, 45, false, []⟩, ⟨⟨(some 98), (.ld false 1 (.t 97)), (some (95, false))⟩, 46, false, []⟩, ⟨⟨(some 99), (.len (.t 98)), (some (95, false))⟩, 47, false, []⟩, ⟨⟨(some 100), (.mov (.t 4)), (some (95, false))⟩, 48, false, []⟩, ⟨⟨(some 101), (.isl 1 (.t 100) (.c (.int .i64 2))), (some (95, false))⟩, 49, false, []⟩, ⟨⟨(some 102), (.ld false 1 (.t 101)), (some (95, false))⟩, 50, false, []⟩, ⟨⟨(some 103), (.len (.t 102)), (some (95, false))⟩, 51, false, []⟩, ⟨⟨(some 104), (.bin .add (.t 99) (.t 103)), (some (95, false))⟩, 52, false, []⟩, ⟨⟨(some 105), (.bin .neq (.t 104) (.c (.int .i64 0))), (some (95, false))⟩, 53, false, []⟩, ⟨⟨(some 106), (.pick (.t 95) (.c (.bool true)) (.t 105)), none⟩, 54, false, []⟩, ⟨⟨(some 107), (.mov (.t 106)), none⟩, 55, false, []⟩, ⟨⟨(some 108), (.mov (.t 7)), (some (107, false))⟩, 56, false, []⟩, ⟨⟨(some 109), (.bin .neq (.t 108) (.c (.int .i64 0))), (some (107, false))⟩, 57, false, []⟩, ⟨⟨(some 110), (.pick (.t 107) (.c (.bool true)) (.t 109)), none⟩, 58, false, []⟩, ⟨⟨(some 111), (.mov (.t 110)), none⟩, 59, false, []⟩, ⟨⟨(some 112), (.mov (.t 6)), (some (111, false))⟩, 60, false, []⟩, ⟨⟨(some 113), (.bsl 1 [(.int .i64 0)] [(0, 1, (.c (.int .i64 2)))]), (some (111, false))⟩, 61, false, []⟩, ⟨⟨(some 114), (.call (.c (.func (.func 22) #[] #[])) [(.t 112), (.t 113)]), (some (111, false))⟩, 62, true, []⟩, ⟨⟨(some 115), (.not (.t 114)), (some (111, false))⟩, 63, false, []⟩, ⟨⟨(some 116), (.pick (.t 111) (.c (.bool true)) (.t 115)), none⟩, 64, false, []⟩, ⟨⟨(some 117), (.mov (.t 116)), none⟩, 65, false, []⟩, ⟨⟨(some 118), (.mov (.t 9)), (some (117, false))⟩, 66, false, []⟩, ⟨⟨(some 119), (.bin .neq (.t 118) (.c (.int .i64 0))), (some (117, false))⟩, 67, false, []⟩, ⟨⟨(some 120), (.pick (.t 117) (.c (.bool true)) (.t 119)), none⟩, 68, false, []⟩, ⟨⟨(some 121), (.mov (.t 120)), none⟩, 69, false, []⟩, ⟨⟨(some 122), (.mov (.t 8)), (some (121, false))⟩, 70, false, []⟩, ⟨⟨(some 123), (.bsl 1 [(.int .i64 0)] [(0, 1, (.c (.int .i64 4)))]), (some (121, false))⟩, 71, false, []⟩, ⟨⟨(some 124), (.call (.c (.func (.func 22) #[] #[])) [(.t 122), (.t 123)]), (some (121, false))⟩, 72, true, []⟩, ⟨⟨(some 125), (.not (.t 124)), (some (121, false))⟩, 73, false, []⟩, ⟨⟨(some 126), (.pick (.t 121) (.c (.bool true)) (.t 125)), none⟩, 74, false, []⟩, ⟨⟨(some 127), (.mov (.t 126)), none⟩, 75, false, []⟩, ⟨⟨(some 128), (.mov (.t 11)), (some (127, false))⟩, 76, false, []⟩, ⟨⟨(some 129), (.bin .neq (.t 128) (.c (.int .i64 0))), (some (127, false))⟩, 77, false, []⟩, ⟨⟨(some 130), (.pick (.t 127) (.c (.bool true)) (.t 129)), none⟩, 78, false, []⟩, ⟨⟨(some 131), (.mov (.t 130)), none⟩, 79, false, []⟩, ⟨⟨(some 132), (.mov (.t 10)), (some (131, false))⟩, 80, false, []⟩, ⟨⟨(some 133), (.len (.t 132)), (some (131, false))⟩, 81, false, []⟩, ⟨⟨(some 134), (.bin .neq (.t 133) (.c (.int .i64 0))), (some (131, false))⟩, 82, false, []⟩, ⟨⟨(some 135), (.pick (.t 131) (.c (.bool true)) (.t 134)), none⟩, 83, false, []⟩])
          (.cond (.t 135)
           (.seq
            (.region [⟨(some 0), (.mov (.c (.bool false))), none⟩])
            .ret)
           .skip))
         (.seq
          (.region [⟨(some 137), (.call (.c (.func (.func 42) #[] #[])) []), none⟩, ⟨(some 138), (.bsl 2 [(.int .i64 0), (.int .i64 0)] [(0, 1, (.c (.int .i64 0))), (1, 1, (.c (.int .i64 3)))]), none⟩, ⟨(some 139), (.bsl 1 [(.int .i64 0)] [(0, 1, (.c (.int .i64 1)))]), none⟩, ⟨(some 140), (.bsl 1 [(.int .i64 0)] [(0, 1, (.c (.int .i64 2)))]), none⟩, ⟨(some 141), (.bsl 3 [(.slice none 0 0), (.slice none 0 0), (.slice none 0 0)] [(0, 1, (.t 138)), (1, 1, (.t 139)), (2, 1, (.t 140))]), none⟩, ⟨(some 142), (.bsl 5 [(.int .i64 0), (.int .i64 0), (.int .i64 0), (.int .i64 0), (.int .i64 0)] [(0, 1, (.c (.int .i64 40))), (1, 1, (.c (.int .i64 20))), (2, 1, (.c (.int .i64 40))), (3, 1, (.c (.int .i64 30))), (4, 1, (.c (.int .i64 10)))]), none⟩, ⟨(some 143), (.call (.c (.func (.func 36) #[] #[])) [(.t 137), (.t 141), (.t 142)]), none⟩, ⟨(some 136), (.mov (.t 143)), none⟩, ⟨(some 144), (.ext (.t 136) 0), none⟩, ⟨(some 145), (.ext (.t 136) 1), none⟩, ⟨(some 3), (.mov (.t 145)), none⟩])
          (.seq
           (.region [⟨(some 147), (.call (.c (.func (.func 42) #[] #[])) []), none⟩, ⟨(some 148), (.bsl 3 [(.int .i64 0), (.int .i64 0), (.int .i64 0)] [(0, 1, (.c (.int .i64 0))), (1, 1, (.c (.int .i64 1))), (2, 1, (.c (.int .i64 3)))]), none⟩, ⟨(some 149), (.bsl 1 [(.int .i64 0)] [(0, 1, (.c (.int .i64 2)))]), none⟩, ⟨(some 150), (.bsl 1 [(.int .i64 0)] [(0, 1, (.c (.int .i64 4)))]), none⟩, ⟨(some 151), (.bsl 3 [(.slice none 0 0), (.slice none 0 0), (.slice none 0 0)] [(0, 1, (.t 148)), (1, 1, (.t 149)), (2, 1, (.t 150))]), none⟩, ⟨(some 152), (.bsl 4 [(.int .i64 0), (.int .i64 0), (.int .i64 0), (.int .i64 0)] [(0, 1, (.c (.int .i64 40))), (1, 1, (.c (.int .i64 20))), (2, 1, (.c (.int .i64 40))), (3, 1, (.c (.int .i64 30)))]), none⟩, ⟨(some 153), (.call (.c (.func (.func 36) #[] #[])) [(.t 147), (.t 151), (.t 152)]), none⟩, ⟨(some 146), (.mov (.t 153)), none⟩, ⟨(some 154), (.ext (.t 146) 0), none⟩, ⟨(some 155), (.ext (.t 146) 1), none⟩, ⟨(some 5), (.mov (.t 155)), none⟩])
           (.seq
            (.region [⟨(some 157), (.call (.c (.func (.func 42) #[] #[])) []), none⟩, ⟨(some 158), (.bsl 3 [(.int .i64 0), (.int .i64 0), (.int .i64 0)] [(0, 1, (.c (.int .i64 0))), (1, 1, (.c (.int .i64 1))), (2, 1, (.c (.int .i64 3)))]), none⟩, ⟨(some 159), (.bsl 1 [(.int .i64 0)] [(0, 1, (.c (.int .i64 2)))]), none⟩, ⟨(some 160), (.bsl 1 [(.int .i64 0)] [(0, 1, (.c (.int .i64 4)))]), none⟩, ⟨(some 161), (.bsl 3 [(.slice none 0 0), (.slice none 0 0), (.slice none 0 0)] [(0, 1, (.t 158)), (1, 1, (.t 159)), (2, 1, (.t 160))]), none⟩, ⟨(some 162), (.bsl 5 [(.int .i64 0), (.int .i64 0), (.int .i64 0), (.int .i64 0), (.int .i64 0)] [(0, 1, (.c (.int .i64 40))), (1, 1, (.c (.int .i64 31))), (2, 1, (.c (.int .i64 40))), (3, 1, (.c (.int .i64 30))), (4, 1, (.c (.int .i64 10)))]), none⟩, ⟨(some 163), (.call (.c (.func (.func 36) #[] #[])) [(.t 157), (.t 161), (.t 162)]), none⟩, ⟨(some 156), (.mov (.t 163)), none⟩, ⟨(some 164), (.ext (.t 156) 0), none⟩, ⟨(some 165), (.ext (.t 156) 1), none⟩, ⟨(some 7), (.mov (.t 165)), none⟩])
            (.seq
             (.region [⟨(some 167), (.call (.c (.func (.func 42) #[] #[])) []), none⟩, ⟨(some 168), (.bsl 2 [(.int .i64 0), (.int .i64 0)] [(0, 1, (.c (.int .i64 1))), (1, 1, (.c (.int .i64 1)))]), none⟩, ⟨(some 169), (.call (.c (.func (.func 39) #[] #[])) [(.t 167), (.t 168)]), none⟩, ⟨(some 166), (.mov (.t 169)), none⟩, ⟨(some 170), (.ext (.t 166) 0), none⟩, ⟨(some 171), (.ext (.t 166) 1), none⟩, ⟨(some 9), (.mov (.t 171)), none⟩])
             (.seq
              (.region [⟨(some 173), (.call (.c (.func (.func 42) #[] #[])) []), none⟩, ⟨(some 174), (.bsl 3 [(.int .i64 0), (.int .i64 0), (.int .i64 0)] [(0, 1, (.c (.int .i64 1))), (1, 1, (.c (.int .i64 13))), (2, 1, (.c (.int .i64 0)))]), none⟩, ⟨(some 175), (.call (.c (.func (.func 39) #[] #[])) [(.t 173), (.t 174)]), none⟩, ⟨(some 172), (.mov (.t 175)), none⟩, ⟨(some 176), (.ext (.t 172) 0), none⟩, ⟨(some 177), (.ext (.t 172) 1), none⟩, ⟨(some 11), (.mov (.t 177)), none⟩])
              (.seq
               (.region [⟨(some 178), (.call (.c (.func (.func 42) #[] #[])) []), none⟩, ⟨(some 179), (.call (.c (.func (.func 42) #[] #[])) []), none⟩, ⟨(some 180), (.call (.c (.func (.func 42) #[] #[])) []), none⟩, ⟨(some 12), (.new [(.int .i64 0), (.int .i64 0), (.slice none 0 0), (.slice none 0 0)]), none⟩, ⟨(some 13), (.new [(.int .i64 0), (.int .i64 0), (.slice none 0 0), (.slice none 0 0)]), none⟩, ⟨(some 14), (.new [(.int .i64 0), (.int .i64 0), (.slice none 0 0), (.slice none 0 0)]), none⟩, ⟨none, (.st 4 (.t 12) (.t 178)), none⟩, ⟨none, (.st 4 (.t 13) (.t 179)), none⟩, ⟨none, (.st 4 (.t 14) (.t 180)), none⟩])
               (.seq
                (.region [⟨(some 181), (.mks 6 48 [(.int .i64 0), (.int .i64 0), (.int .i64 0), (.int .i64 0), (.int .i64 0), (.int .i64 0)] (.c (.int .i64 13)) (.c (.int .i64 13))), none⟩, ⟨(some 182), (.fa 3 (.t 12)), none⟩, ⟨none, (.st 1 (.t 182) (.t 181)), none⟩])
                (.seq
                 (.region [⟨(some 183), (.fa 3 (.t 13)), none⟩, ⟨(some 184), (.ld false 1 (.t 183)), none⟩, ⟨(some 185), (.isl 6 (.t 184) (.c (.int .i64 0))), none⟩, ⟨(some 186), (.fa 3 (.t 185)), none⟩, ⟨none, (.st 1 (.t 186) (.c (.int .i64 0))), none⟩])
                 (.seq
                  (.region [⟨(some 187), (.fa 2 (.t 14)), none⟩, ⟨(some 188), (.ld false 1 (.t 187)), none⟩, ⟨(some 189), (.isl 1 (.t 188) (.c (.int .i64 1))), none⟩, ⟨(some 190), (.ld false 1 (.t 189)), none⟩, ⟨(some 191), (.isl 1 (.t 190) (.c (.int .i64 1))), none⟩, ⟨none, (.st 1 (.t 191) (.c (.int .i64 1))), none⟩])
                  (.seq
                   (.region [⟨(some 192), (.bsl 1 [(.int .i64 0)] [(0, 1, (.c (.int .i64 0)))]), none⟩, ⟨(some 193), (.bsl 1 [(.slice none 0 0)] [(0, 1, (.t 192))]), none⟩, ⟨(some 194), (.bld [(.int .i64 0), (.int .i64 0), (.slice none 0 0), (.slice none 0 0)] [(0, 1, (.c (.int .i64 1))), (2, 1, (.t 193))]), none⟩, ⟨(some 15), (.new [(.int .i64 0), (.int .i64 0), (.slice none 0 0), (.slice none 0 0)]), none⟩, ⟨none, (.st 4 (.t 15) (.t 194)), none⟩])
                   (.seq
                    (.region [⟨(some 196), (.ld true 4 (.t 15)), none⟩, ⟨(some 197), (.call (.c (.func (.func 26) #[] #[])) [(.t 196)]), none⟩, ⟨(some 195), (.mov (.t 197)), none⟩, ⟨(some 198), (.ext (.t 195) 0), none⟩, ⟨(some 199), (.ext (.t 195) 1), none⟩, ⟨(some 16), (.mov (.t 198)), none⟩, ⟨(some 17), (.mov (.t 199)), none⟩])
                    (.seq
                     (.region [⟨(some 200), (.mov (.t 3)), none⟩, ⟨(some 201), (.bin .eql (.t 200) (.c (.int .i64 2))), none⟩, ⟨(some 202), (.mov (.t 201)), none⟩, ⟨(some 203), (.mov (.t 5)), (some (202, true))⟩, ⟨(some 204), (.bin .eql (.t 203) (.c (.int .i64 2))), (some (202, true))⟩, ⟨(some 205), (.pick (.t 202) (.t 204) (.c (.bool false))), none⟩, ⟨(some 206), (.mov (.t 205)), none⟩, ⟨(some 207), (.mov (.t 7)), (some (206, true))⟩, ⟨(some 208), (.bin .eql (.t 207) (.c (.int .i64 2))), (some (206, true))⟩, ⟨(some 209), (.pick (.t 206) (.t 208) (.c (.bool false))), none⟩, ⟨(some 210), (.mov (.t 209)), none⟩, ⟨(some 211), (.mov (.t 9)), (some (210, true))⟩, ⟨(some 212), (.bin .eql (.t 211) (.c (.int .i64 2))), (some (210, true))⟩, ⟨(some 213), (.pick (.t 210) (.t 212) (.c (.bool false))), none⟩, ⟨(some 214), (.mov (.t 213)), none⟩, ⟨(some 215), (.mov (.t 11)), (some (214, true))⟩, ⟨(some 216), (.bin .eql (.t 215) (.c (.int .i64 2))), (some (214, true))⟩, ⟨(some 217), (.pick (.t 214) (.t 216) (.c (.bool false))), none⟩, ⟨(some 218), (.mov (.t 217)), none⟩, ⟨(some 219), (.ld true 4 (.t 12)), (some (218, true))⟩, ⟨(some 220), (.call (.c (.func (.func 18) #[] #[])) [(.t 219)]), (some (218, true))⟩, ⟨(some 221), (.bin .eql (.t 220) (.c (.int .i64 3))), (some (218, true))⟩, ⟨(some 222), (.pick (.t 218) (.t 221) (.c (.bool false))), none⟩, ⟨(some 223), (.mov (.t 222)), none⟩, ⟨(some 224), (.ld true 4 (.t 13)), (some (223, true))⟩, ⟨(some 225), (.call (.c (.func (.func 18) #[] #[])) [(.t 224)]), (some (223, true))⟩, ⟨(some 226), (.bin .eql (.t 225) (.c (.int .i64 1))), (some (223, true))⟩, ⟨(some 227), (.pick (.t 223) (.t 226) (.c (.bool false))), none⟩, ⟨(some 228), (.mov (.t 227)), none⟩, ⟨(some 229), (.ld true 4 (.t 14)), (some (228, true))⟩, ⟨(some 230), (.call (.c (.func (.func 18) #[] #[])) [(.t 229)]), (some (228, true))⟩, ⟨(some 231), (.bin .eql (.t 230) (.c (.int .i64 1))), (some (228, true))⟩, ⟨(some 232), (.pick (.t 228) (.t 231) (.c (.bool false))), none⟩, ⟨(some 233), (.mov (.t 232)), none⟩, ⟨(some 234), (.bld [(.int .i64 0), (.int .i64 0), (.slice none 0 0), (.slice none 0 0)] []), (some (233, true))⟩, ⟨(some 235), (.call (.c (.func (.func 18) #[] #[])) [(.t 234)]), (some (233, true))⟩, ⟨(some 236), (.bin .eql (.t 235) (.c (.int .i64 1))), (some (233, true))⟩, ⟨(some 237), (.pick (.t 233) (.t 236) (.c (.bool false))), none⟩, ⟨(some 238), (.mov (.t 237)), none⟩, ⟨(some 239), (.mov (.t 17)), (some (238, true))⟩, ⟨(some 240), (.bin .eql (.t 239) (.c (.int .i64 0))), (some (238, true))⟩, ⟨(some 241), (.pick (.t 238) (.t 240) (.c (.bool false))), none⟩, ⟨(some 242), (.mov (.t 241)), none⟩, ⟨(some 243), (.mov (.t 16)), (some (242, true))⟩, ⟨(some 244), (.len (.t 243)), (some (242, true))⟩, ⟨(some 245), (.bin .eql (.t 244) (.c (.int .i64 0))), (some (242, true))⟩, ⟨(some 246), (.pick (.t 242) (.t 245) (.c (.bool false))), none⟩, ⟨(some 247), (.mov (.t 246)), none⟩, ⟨(some 248), (.ld true 4 (.t 15)), (some (247, true))⟩, ⟨(some 249), (.call (.c (.func (.func 27) #[] #[])) [(.t 248), (.c (.slice none 0 0))]), (some (247, true))⟩, ⟨(some 250), (.pick (.t 247) (.t 249) (.c (.bool false))), none⟩, ⟨(some 251), (.mov (.t 250)), none⟩, ⟨(some 252), (.ld true 4 (.t 15)), (some (251, true))⟩, ⟨(some 253), (.call (.c (.func (.func 33) #[] #[])) [(.t 252), (.c (.slice none 0 0)), (.c (.slice none 0 0)), (.c (.int .i64 0))]), (some (251, true))⟩, ⟨(some 254), (.pick (.t 251) (.t 253) (.c (.bool false))), none⟩, ⟨(some 255), (.mov (.t 254)), none⟩, ⟨(some 256), (.call (.c (.func (.func 42) #[] #[])) []), (some (255, true))⟩, ⟨(some 257), (.bsl 3 [(.int .i64 0), (.int .i64 0), (.int .i64 0)] [(0, 1, (.c (.int .i64 0))), (1, 1, (.c (.int .i64 1))), (2, 1, (.c (.int .i64 3)))]), (some (255, true))⟩, ⟨(some 258), (.bsl 1 [(.int .i64 0)] [(0, 1, (.c (.int .i64 2)))]), (some (255, true))⟩, ⟨(some 259), (.bsl 2 [(.slice none 0 0), (.slice none 0 0)] [(0, 1, (.t 257)), (1, 1, (.t 258))]), (some (255, true))⟩, ⟨(some 260), (.call (.c (.func (.func 27) #[] #[])) [(.t 256), (.t 259)]), (some (255, true))⟩, ⟨(some 261), (.not (.t 260)), (some (255, true))⟩, ⟨(some 262), (.pick (.t 255) (.t 261) (.c (.bool false))), none⟩, ⟨(some 263), (.mov (.t 262)), none⟩, ⟨(some 264), (.call (.c (.func (.func 42) #[] #[])) []), (some (263, true))⟩, ⟨(some 265), (.bsl 3 [(.int .i64 0), (.int .i64 0), (.int .i64 0)] [(0, 1, (.c (.int .i64 0))), (1, 1, (.c (.int .i64 1))), (2, 1, (.c (.int .i64 3)))]), (some (263, true))⟩, ⟨(some 266), (.bsl 1 [(.int .i64 0)] [(0, 1, (.c (.int .i64 2)))]), (some (263, true))⟩, ⟨(some 267), (.bsl 1 [(.int .i64 0)] [(0, 1, (.c (.int .i64 4)))]), (some (263, true))⟩, ⟨(some 268), (.bsl 0 [] []), (some (263, true))⟩, ⟨(some 269), (.bsl 4 [(.slice none 0 0), (.slice none 0 0), (.slice none 0 0), (.slice none 0 0)] [(0, 1, (.t 265)), (1, 1, (.t 266)), (2, 1, (.t 267)), (3, 1, (.t 268))]), (some (263, true))⟩, ⟨(some 270), (.call (.c (.func (.func 27) #[] #[])) [(.t 264), (.t 269)]), (some (263, true))⟩, ⟨(some 271), (.not (.t 270)), (some (263, true))⟩, ⟨(some 272), (.pick (.t 263) (.t 271) (.c (.bool false))), none⟩, ⟨(some 273), (.mov (.t 272)), none⟩, ⟨(some 274), (.call (.c (.func (.func 17) #[] #[])) []), (some (273, true))⟩, ⟨(some 275), (.pick (.t 273) (.t 274) (.c (.bool false))), none⟩, ⟨(some 0), (.mov (.t 275)), none⟩])
                     .ret)))))))))))))))))))
def r8 : List AOp := [(.mov (.t 0))]
theorem ok8 : FnOk Try.prog 8 Try.f8.ntmps a8 r8 := ⟨Try.f8, Try.func8, by kernel_rfl, by kernel_rfl, by kernel_rfl, fun asv w => by simp⟩

/-- layover/layoverlaw01.only -/
def a70 : ACode :=
  (.seq
   (.region [⟨(some 2), (.box (.t 0)), none⟩, ⟨(some 4), (.new [(.int .i64 0), (.int .i64 0), (.slice none 0 0), (.slice none 0 0)]), none⟩])
   (.seq
    (.region [⟨(some 7), (.ld true 4 (.t 2)), none⟩, ⟨(some 5), (.new [(.int .i64 0), (.int .i64 0), (.slice none 0 0), (.slice none 0 0)]), none⟩, ⟨none, (.st 4 (.t 5) (.t 7)), none⟩])
    (.seq
     (.region [⟨(some 8), (.fa 3 (.t 5)), none⟩, ⟨none, (.st 1 (.t 8) (.c (.slice none 0 0))), none⟩])
     (.seq
      (.seq
       (.region [⟨(some 6), (.mov (.c (.int .i64 0))), none⟩])
       (.block 0
        (.loop
         (.seq
          (.seq
           (.region [⟨(some 9), (.mov (.t 6)), none⟩, ⟨(some 10), (.mov (.t 1)), none⟩, ⟨(some 11), (.len (.t 10)), none⟩, ⟨(some 12), (.bin .lss (.t 9) (.t 11)), none⟩])
           (.cond (.t 12)
            .skip
            (.exit 0)))
          (.seq
           (.block 1
            (.draw 14 [⟨⟨(some 15), (.fa 3 (.t 5)), none⟩, 0, false, []⟩, ⟨⟨(some 16), (.ld false 1 (.t 15)), none⟩, 1, false, []⟩, ⟨⟨(some 17), (.fa 3 (.t 2)), none⟩, 2, false, []⟩, ⟨⟨(some 18), (.ld false 1 (.t 17)), none⟩, 3, false, []⟩, ⟨⟨(some 19), (.mov (.t 1)), none⟩, 4, false, []⟩, ⟨⟨(some 20), (.mov (.t 6)), none⟩, 5, false, []⟩, ⟨⟨(some 21), (.isl 1 (.t 19) (.t 20)), none⟩, 6, false, []⟩, ⟨⟨(some 22), (.ld false 1 (.t 21)), none⟩, 7, false, []⟩, ⟨⟨(some 23), (.isl 6 (.t 18) (.t 22)), none⟩, 8, false, []⟩, ⟨⟨(some 24), (.ld true 6 (.t 23)), none⟩, 9, false, []⟩, ⟨⟨(some 25), (.bsl 1 [(.int .i64 0), (.int .i64 0), (.int .i64 0), (.int .i64 0), (.int .i64 0), (.int .i64 0)] [(0, 6, (.t 24))]), none⟩, 10, false, []⟩, ⟨⟨(some 26), (.app 6 48 (.t 16) (.t 25)), none⟩, 11, true, []⟩, ⟨⟨(some 27), (.fa 3 (.t 5)), none⟩, 12, false, []⟩, ⟨⟨none, (.st 1 (.t 27) (.t 26)), none⟩, 13, true, []⟩]))
           (.region [⟨(some 13), (.mov (.t 6)), none⟩, ⟨(some 14), (.bin .add (.t 13) (.c (.int .i64 1))), none⟩, ⟨(some 6), (.mov (.t 14)), none⟩]))))))
      (.seq
       (.region [⟨(some 28), (.ld true 4 (.t 5)), none⟩, ⟨none, (.st 4 (.t 4) (.t 28)), none⟩])
       .ret)))))
def r70 : List AOp := [(.ld true 4 (.t 4))]
theorem ok70 : FnOk Try.prog 70 Try.f70.ntmps a70 r70 := ⟨Try.f70, Try.func70, by kernel_rfl, by kernel_rfl, by kernel_rfl, fun asv w => by simp⟩

/-- layover/layoverlaw01.fewest -/
def a45 : ACode :=
  (.seq
   (.region [⟨(some 2), (.box (.t 0)), none⟩, ⟨(some 4), (.new [(.int .i64 0), (.int .i64 0), (.int .i64 0)]), none⟩, ⟨(some 5), (.mov (.c (.bool false))), none⟩])
   (.seq
    (.region [⟨(some 6), (.new [(.int .i64 0), (.int .i64 0), (.int .i64 0)]), none⟩])
    (.seq
     (.seq
      (.region [⟨(some 7), (.mov (.c (.int .i64 0))), none⟩])
      (.block 0
       (.loop
        (.seq
         (.seq
          (.region [⟨(some 10), (.mov (.t 7)), none⟩, ⟨(some 11), (.bin .lss (.t 10) (.c (.int .i64 3))), none⟩])
          (.cond (.t 11)
           .skip
           (.exit 0)))
         (.seq
          (.block 1
           (.seq
            (.draw 13 [⟨⟨(some 15), (.ld true 4 (.t 2)), none⟩, 0, false, []⟩, ⟨⟨(some 16), (.ld true 4 (.t 2)), none⟩, 1, false, []⟩, ⟨⟨(some 17), (.mov (.t 7)), none⟩, 2, false, []⟩, ⟨⟨(some 18), (.mov (.t 1)), none⟩, 3, false, []⟩, ⟨⟨(some 19), (.call (.c (.func (.func 31) #[] #[])) [(.t 16), (.t 17), (.t 18)]), none⟩, 4, true, [0]⟩, ⟨⟨(some 20), (.call (.c (.func (.func 70) #[] #[])) [(.t 15), (.t 19)]), none⟩, 5, true, []⟩, ⟨⟨(some 21), (.call (.c (.func (.func 19) #[] #[])) [(.t 20)]), none⟩, 6, true, []⟩, ⟨⟨(some 22), (.call (.c (.func (.func 26) #[] #[])) [(.t 21)]), none⟩, 7, true, []⟩, ⟨⟨(some 14), (.mov (.t 22)), none⟩, 8, false, []⟩, ⟨⟨(some 23), (.ext (.t 14) 0), none⟩, 9, false, []⟩, ⟨⟨(some 24), (.ext (.t 14) 1), none⟩, 10, false, []⟩, ⟨⟨(some 8), (.mov (.t 23)), none⟩, 11, false, []⟩, ⟨⟨(some 9), (.mov (.t 24)), none⟩, 12, false, []⟩])
            (.seq
             (.seq
              (.region [⟨(some 25), (.mov (.t 9)), none⟩, ⟨(some 26), (.bin .neq (.t 25) (.c (.int .i64 0))), none⟩])
              (.cond (.t 26)
               (.seq
                (.region [⟨(some 27), (.ld true 3 (.t 6)), none⟩, ⟨none, (.st 3 (.t 4) (.t 27)), none⟩, ⟨(some 5), (.mov (.c (.bool false))), none⟩])
                .ret)
               .skip))
             (.region [⟨(some 28), (.mov (.t 7)), none⟩, ⟨(some 29), (.mov (.t 8)), none⟩, ⟨(some 30), (.len (.t 29)), none⟩, ⟨(some 31), (.iar 3 1 (.t 6) (.t 28)), none⟩, ⟨none, (.st 1 (.t 31) (.t 30)), none⟩]))))
          (.region [⟨(some 12), (.mov (.t 7)), none⟩, ⟨(some 13), (.bin .add (.t 12) (.c (.int .i64 1))), none⟩, ⟨(some 7), (.mov (.t 13)), none⟩]))))))
     (.seq
      (.region [⟨(some 32), (.ld true 3 (.t 6)), none⟩, ⟨none, (.st 3 (.t 4) (.t 32)), none⟩, ⟨(some 5), (.mov (.c (.bool true))), none⟩])
      .ret))))
def r45 : List AOp := [(.ld true 3 (.t 4)), (.mov (.t 5))]
theorem ok45 : FnOk Try.prog 45 Try.f45.ntmps a45 r45 := ⟨Try.f45, Try.func45, by kernel_rfl, by kernel_rfl, by kernel_rfl, fun asv w => by simp⟩

end Go.Proofs.Ytohohnpjilinmaa

/-
  The code of functions of the package, as the calculus has it.
-/
namespace Go.Proofs.Ytohohnpjilinmaa
open Go Go.Ab

/-- layover/layoverref01.IsFleet -/
def a40 : ACode :=
  (.seq
   (.region [⟨(some 2), (.mov (.c (.bool false))), none⟩])
   (.seq
    (.region [⟨(some 3), (.mov (.t 0)), none⟩, ⟨(some 4), (.len (.t 3)), none⟩, ⟨(some 5), (.bin .eql (.t 4) (.c (.int .i64 3))), none⟩, ⟨(some 6), (.mov (.t 5)), none⟩, ⟨(some 7), (.mov (.t 0)), (some (6, true))⟩, ⟨(some 8), (.isl 1 (.t 7) (.c (.int .i64 0))), (some (6, true))⟩, ⟨(some 9), (.ld false 1 (.t 8)), (some (6, true))⟩, ⟨(some 10), (.call (.c (.func (.func 57) #[] #[])) [(.t 9), (.c (.int .i64 0)), (.c (.int .i64 12))]), (some (6, true))⟩, ⟨(some 11), (.pick (.t 6) (.t 10) (.c (.bool false))), none⟩, ⟨(some 12), (.mov (.t 11)), none⟩, ⟨(some 13), (.mov (.t 0)), (some (12, true))⟩, ⟨(some 14), (.isl 1 (.t 13) (.c (.int .i64 1))), (some (12, true))⟩, ⟨(some 15), (.ld false 1 (.t 14)), (some (12, true))⟩, ⟨(some 16), (.call (.c (.func (.func 57) #[] #[])) [(.t 15), (.c (.int .i64 0)), (.c (.int .i64 12))]), (some (12, true))⟩, ⟨(some 17), (.pick (.t 12) (.t 16) (.c (.bool false))), none⟩, ⟨(some 18), (.mov (.t 17)), none⟩, ⟨(some 19), (.mov (.t 0)), (some (18, true))⟩, ⟨(some 20), (.isl 1 (.t 19) (.c (.int .i64 2))), (some (18, true))⟩, ⟨(some 21), (.ld false 1 (.t 20)), (some (18, true))⟩, ⟨(some 22), (.call (.c (.func (.func 57) #[] #[])) [(.t 21), (.c (.int .i64 0)), (.c (.int .i64 12))]), (some (18, true))⟩, ⟨(some 23), (.pick (.t 18) (.t 22) (.c (.bool false))), none⟩, ⟨(some 2), (.mov (.t 23)), none⟩])
    .ret))
def r40 : List AOp := [(.mov (.t 2))]
theorem ok40 : FnOk Try.prog 40 Try.f40.ntmps a40 r40 := ⟨Try.f40, Try.func40, by kernel_rfl, by kernel_rfl, by kernel_rfl, fun asv w => by simp⟩

/-- layover/layoverref01.Enough -/
def a69 : ACode :=
  (.seq
   (.region [⟨(some 3), (.box (.t 0)), none⟩, ⟨(some 6), (.mov (.c (.bool false))), none⟩])
   (.seq
    (.seq
     (.region [⟨(some 7), (.mov (.c (.int .i64 0))), none⟩])
     (.block 0
      (.loop
       (.seq
        (.seq
         (.region [⟨(some 8), (.mov (.t 7)), none⟩, ⟨(some 9), (.bin .lss (.t 8) (.c (.int .i64 3))), none⟩])
         (.cond (.t 9)
          .skip
          (.exit 0)))
        (.seq
         (.block 1
          (.seq
           (.draw 11 [⟨⟨(some 12), (.ld true 4 (.t 3)), none⟩, 0, false, []⟩, ⟨⟨(some 13), (.ld true 4 (.t 3)), none⟩, 1, false, []⟩, ⟨⟨(some 14), (.mov (.t 7)), none⟩, 2, false, []⟩, ⟨⟨(some 15), (.mov (.t 2)), none⟩, 3, false, []⟩, ⟨⟨(some 18), (.mov (.t 1)), none⟩, 6, false, []⟩, ⟨⟨(some 19), (.mov (.t 7)), none⟩, 7, false, []⟩, ⟨⟨(some 20), (.isl 1 (.t 18) (.t 19)), none⟩, 8, false, []⟩, ⟨⟨(some 21), (.ld false 1 (.t 20)), none⟩, 9, false, []⟩, ⟨⟨(some 16), (.call (.c (.func (.func 31) #[] #[])) [(.t 13), (.t 14), (.t 15)]), none⟩, 4, true, [9, 0]⟩, ⟨⟨(some 17), (.call (.c (.func (.func 30) #[] #[])) [(.t 12), (.t 16)]), none⟩, 5, true, [9]⟩, ⟨⟨(some 22), (.bin .gtr (.t 17) (.t 21)), none⟩, 10, false, []⟩])
           (.cond (.t 22)
            (.seq
             (.region [⟨(some 6), (.mov (.c (.bool false))), none⟩])
             .ret)
            .skip)))
         (.region [⟨(some 10), (.mov (.t 7)), none⟩, ⟨(some 11), (.bin .add (.t 10) (.c (.int .i64 1))), none⟩, ⟨(some 7), (.mov (.t 11)), none⟩]))))))
    (.seq
     (.region [⟨(some 6), (.mov (.c (.bool true))), none⟩])
     .ret)))
def r69 : List AOp := [(.mov (.t 6))]
theorem ok69 : FnOk Try.prog 69 Try.f69.ntmps a69 r69 := ⟨Try.f69, Try.func69, by kernel_rfl, by kernel_rfl, by kernel_rfl, fun asv w => by simp⟩

/-- layover/layoverref01.Less -/
def a68 : ACode :=
  (.seq
   (.region [⟨(some 4), (.mov (.c (.bool false))), none⟩])
   (.seq
    (.seq
     (.region [⟨(some 5), (.mov (.c (.int .i64 0))), none⟩])
     (.block 0
      (.loop
       (.seq
        (.seq
         (.region [⟨(some 6), (.mov (.t 5)), none⟩, ⟨(some 7), (.mov (.t 0)), none⟩, ⟨(some 8), (.len (.t 7)), none⟩, ⟨(some 9), (.bin .lss (.t 6) (.t 8)), none⟩, ⟨(some 10), (.mov (.t 9)), none⟩, ⟨(some 11), (.mov (.t 0)), (some (10, true))⟩, ⟨(some 12), (.len (.t 11)), (some (10, true))⟩, ⟨(some 13), (.mov (.t 1)), (some (10, true))⟩, ⟨(some 14), (.len (.t 13)), (some (10, true))⟩, ⟨(some 15), (.bin .eql (.t 12) (.t 14)), (some (10, true))⟩, ⟨(some 16), (.pick (.t 10) (.t 15) (.c (.bool false))), none⟩])
         (.cond (.t 16)
          .skip
          (.exit 0)))
        (.seq
         (.block 1
          (.seq
           (.draw 9 [⟨⟨(some 19), (.mov (.t 0)), none⟩, 0, false, []⟩, ⟨⟨(some 20), (.mov (.t 5)), none⟩, 1, false, []⟩, ⟨⟨(some 21), (.isl 1 (.t 19) (.t 20)), none⟩, 2, false, []⟩, ⟨⟨(some 22), (.ld false 1 (.t 21)), none⟩, 3, false, []⟩, ⟨⟨(some 23), (.mov (.t 1)), none⟩, 4, false, []⟩, ⟨⟨(some 24), (.mov (.t 5)), none⟩, 5, false, []⟩, ⟨⟨(some 25), (.isl 1 (.t 23) (.t 24)), none⟩, 6, false, []⟩, ⟨⟨(some 26), (.ld false 1 (.t 25)), none⟩, 7, false, []⟩, ⟨⟨(some 27), (.bin .neq (.t 22) (.t 26)), none⟩, 8, false, []⟩])
           (.cond (.t 27)
            (.seq
             (.draw 10 [⟨⟨(some 28), (.mov (.t 0)), none⟩, 0, false, []⟩, ⟨⟨(some 29), (.mov (.t 5)), none⟩, 1, false, []⟩, ⟨⟨(some 30), (.isl 1 (.t 28) (.t 29)), none⟩, 2, false, []⟩, ⟨⟨(some 31), (.ld false 1 (.t 30)), none⟩, 3, false, []⟩, ⟨⟨(some 32), (.mov (.t 1)), none⟩, 4, false, []⟩, ⟨⟨(some 33), (.mov (.t 5)), none⟩, 5, false, []⟩, ⟨⟨(some 34), (.isl 1 (.t 32) (.t 33)), none⟩, 6, false, []⟩, ⟨⟨(some 35), (.ld false 1 (.t 34)), none⟩, 7, false, []⟩, ⟨⟨(some 36), (.bin .lss (.t 31) (.t 35)), none⟩, 8, false, []⟩, ⟨⟨(some 4), (.mov (.t 36)), none⟩, 9, false, []⟩])
             .ret)
            .skip)))
         (.region [⟨(some 17), (.mov (.t 5)), none⟩, ⟨(some 18), (.bin .add (.t 17) (.c (.int .i64 1))), none⟩, ⟨(some 5), (.mov (.t 18)), none⟩]))))))
    (.seq
     (.region [⟨(some 37), (.mov (.t 0)), none⟩, ⟨(some 38), (.len (.t 37)), none⟩, ⟨(some 39), (.mov (.t 1)), none⟩, ⟨(some 40), (.len (.t 39)), none⟩, ⟨(some 41), (.bin .lss (.t 38) (.t 40)), none⟩, ⟨(some 4), (.mov (.t 41)), none⟩])
     .ret)))
def r68 : List AOp := [(.mov (.t 4))]
theorem ok68 : FnOk Try.prog 68 Try.f68.ntmps a68 r68 := ⟨Try.f68, Try.func68, by kernel_rfl, by kernel_rfl, by kernel_rfl, fun asv w => by simp⟩

/-- layover/layoverref01.Lacks -/
def a41 : ACode :=
  (.seq
   (.region [⟨(some 2), (.box (.t 0)), none⟩, ⟨(some 4), (.mov (.c (.slice none 0 0))), none⟩])
   (.seq
    (.region [⟨(some 9), (.ld true 4 (.t 2)), none⟩, ⟨(some 10), (.call (.c (.func (.func 31) #[] #[])) [(.t 9), (.c (.int .i64 (-1))), (.c (.slice none 0 0))]), none⟩, ⟨(some 5), (.mov (.t 10)), none⟩])
    (.seq
     (.seq
      (.region [⟨(some 6), (.mov (.c (.int .i64 0))), none⟩])
      (.block 0
       (.loop
        (.seq
         (.seq
          (.region [⟨(some 11), (.mov (.t 6)), none⟩, ⟨(some 12), (.fa 3 (.t 2)), none⟩, ⟨(some 13), (.ld false 1 (.t 12)), none⟩, ⟨(some 14), (.len (.t 13)), none⟩, ⟨(some 15), (.cvi .u64 (.t 14)), none⟩, ⟨(some 16), (.gen 48 ⟨(some 16), (.binOp .shl 3 (.const (.int .i64 1)) (.tmp 15) 105), 3, "ref.go:207", #[{ on := 4, ground := Go.Ground.data }], none⟩), none⟩, ⟨(some 17), (.bin .lss (.t 11) (.t 16)), none⟩])
          (.cond (.t 17)
           .skip
           (.exit 0)))
         (.seq
          (.block 1
           (.seq
            (.region [⟨(some 7), (.mov (.c (.slice none 0 0))), none⟩])
            (.seq
             (.seq
              (.region [⟨(some 8), (.mov (.c (.int .i64 0))), none⟩])
              (.block 2
               (.loop
                (.seq
                 (.seq
                  (.region [⟨(some 20), (.mov (.t 8)), none⟩, ⟨(some 21), (.fa 3 (.t 2)), none⟩, ⟨(some 22), (.ld false 1 (.t 21)), none⟩, ⟨(some 23), (.len (.t 22)), none⟩, ⟨(some 24), (.bin .lss (.t 20) (.t 23)), none⟩])
                  (.cond (.t 24)
                   .skip
                   (.exit 2)))
                 (.seq
                  (.block 3
                   (.seq
                    (.region [⟨(some 27), (.mov (.t 6)), none⟩, ⟨(some 28), (.mov (.t 8)), none⟩, ⟨(some 29), (.cvi .u64 (.t 28)), none⟩, ⟨(some 30), (.gen 48 ⟨(some 30), (.binOp .shr 3 (.tmp 27) (.tmp 29) 105), 3, "ref.go:210", #[{ on := 0, ground := Go.Ground.data }, { on := 2, ground := Go.Ground.data }], none⟩), none⟩, ⟨(some 31), (.bin .rem (.t 30) (.c (.int .i64 2))), none⟩, ⟨(some 32), (.bin .eql (.t 31) (.c (.int .i64 1))), none⟩])
                    (.cond (.t 32)
                     (.region [⟨(some 33), (.mov (.t 7)), none⟩, ⟨(some 34), (.mov (.t 8)), none⟩, ⟨(some 35), (.bsl 1 [(.int .i64 0)] [(0, 1, (.t 34))]), none⟩, ⟨(some 36), (.app 1 8 (.t 33) (.t 35)), none⟩, ⟨(some 7), (.mov (.t 36)), none⟩])
                     .skip)))
                  (.region [⟨(some 25), (.mov (.t 8)), none⟩, ⟨(some 26), (.bin .add (.t 25) (.c (.int .i64 1))), none⟩, ⟨(some 8), (.mov (.t 26)), none⟩]))))))
             (.seq
              (.region [⟨(some 37), (.mov (.t 7)), none⟩, ⟨(some 38), (.mov (.t 5)), none⟩, ⟨(some 39), (.call (.c (.func (.func 68) #[] #[])) [(.t 37), (.t 38)]), none⟩, ⟨(some 40), (.mov (.t 39)), none⟩, ⟨(some 41), (.ld true 4 (.t 2)), (some (40, true))⟩, ⟨(some 42), (.mov (.t 1)), (some (40, true))⟩, ⟨(some 43), (.mov (.t 7)), (some (40, true))⟩, ⟨(some 44), (.call (.c (.func (.func 69) #[] #[])) [(.t 41), (.t 42), (.t 43)]), (some (40, true))⟩, ⟨(some 45), (.pick (.t 40) (.t 44) (.c (.bool false))), none⟩])
              (.cond (.t 45)
               (.region [⟨(some 46), (.mov (.t 7)), none⟩, ⟨(some 5), (.mov (.t 46)), none⟩])
               .skip)))))
          (.region [⟨(some 18), (.mov (.t 6)), none⟩, ⟨(some 19), (.bin .add (.t 18) (.c (.int .i64 1))), none⟩, ⟨(some 6), (.mov (.t 19)), none⟩]))))))
     (.seq
      (.region [⟨(some 47), (.mov (.t 5)), none⟩, ⟨(some 4), (.mov (.t 47)), none⟩])
      .ret))))
def r41 : List AOp := [(.mov (.t 4))]
theorem ok41 : FnOk Try.prog 41 Try.f41.ntmps a41 r41 := ⟨Try.f41, Try.func41, by kernel_rfl, by kernel_rfl, by kernel_rfl, fun asv w => by simp⟩

/-- layover/layoverlaw01.RunLacks -/
def a7 : ACode :=
  (.seq
   (.region [⟨(some 2), (.box (.t 0)), none⟩, ⟨(some 4), (.mov (.c (.bool false))), none⟩])
   (.seq
    (.seq
     (.region [⟨(some 8), (.ld true 4 (.t 2)), none⟩, ⟨(some 9), (.call (.c (.func (.func 24) #[] #[])) [(.t 8)]), none⟩, ⟨(some 10), (.not (.t 9)), none⟩, ⟨(some 11), (.mov (.t 10)), none⟩, ⟨(some 12), (.mov (.t 1)), (some (11, false))⟩, ⟨(some 13), (.len (.t 12)), (some (11, false))⟩, ⟨(some 14), (.bin .gtr (.t 13) (.c (.int .i64 5))), (some (11, false))⟩, ⟨(some 15), (.pick (.t 11) (.c (.bool true)) (.t 14)), none⟩])
     (.cond (.t 15)
      (.seq
       (.region [⟨(some 16), (.call (.c (.func (.func 17) #[] #[])) []), none⟩, ⟨(some 4), (.mov (.t 16)), none⟩])
       .ret)
      .skip))
    (.seq
     (.region [⟨(some 18), (.ld true 4 (.t 2)), none⟩, ⟨(some 19), (.call (.c (.func (.func 19) #[] #[])) [(.t 18)]), none⟩, ⟨(some 20), (.mov (.t 1)), none⟩, ⟨(some 21), (.call (.c (.func (.func 34) #[] #[])) [(.t 20)]), none⟩, ⟨(some 22), (.call (.c (.func (.func 39) #[] #[])) [(.t 19), (.t 21)]), none⟩, ⟨(some 17), (.mov (.t 22)), none⟩, ⟨(some 23), (.ext (.t 17) 0), none⟩, ⟨(some 24), (.ext (.t 17) 1), none⟩, ⟨(some 5), (.mov (.t 23)), none⟩, ⟨(some 6), (.mov (.t 24)), none⟩])
     (.seq
      (.region [⟨(some 25), (.ld true 4 (.t 2)), none⟩, ⟨(some 26), (.call (.c (.func (.func 21) #[] #[])) [(.t 25)]), none⟩, ⟨(some 7), (.mov (.t 26)), none⟩])
      (.seq
       (.seq
        (.region [⟨(some 27), (.mov (.t 7)), none⟩, ⟨(some 28), (.bin .eql (.t 27) (.c (.int .i64 0))), none⟩, ⟨(some 29), (.mov (.t 28)), none⟩, ⟨(some 30), (.mov (.t 1)), (some (29, true))⟩, ⟨(some 31), (.call (.c (.func (.func 40) #[] #[])) [(.t 30)]), (some (29, true))⟩, ⟨(some 32), (.not (.t 31)), (some (29, true))⟩, ⟨(some 33), (.pick (.t 29) (.t 32) (.c (.bool false))), none⟩])
        (.cond (.t 33)
         (.region [⟨(some 7), (.mov (.c (.int .i64 2))), none⟩])
         .skip))
       (.seq
        (.seq
         (.region [⟨(some 34), (.mov (.t 7)), none⟩, ⟨(some 35), (.bin .neq (.t 34) (.c (.int .i64 0))), none⟩])
         (.cond (.t 35)
          (.seq
           (.region [⟨(some 36), (.mov (.t 6)), none⟩, ⟨(some 37), (.mov (.t 7)), none⟩, ⟨(some 38), (.bin .eql (.t 36) (.t 37)), none⟩, ⟨(some 39), (.mov (.t 38)), none⟩, ⟨(some 40), (.mov (.t 5)), (some (39, true))⟩, ⟨(some 41), (.len (.t 40)), (some (39, true))⟩, ⟨(some 42), (.bin .eql (.t 41) (.c (.int .i64 0))), (some (39, true))⟩, ⟨(some 43), (.pick (.t 39) (.t 42) (.c (.bool false))), none⟩, ⟨(some 44), (.mov (.t 43)), none⟩, ⟨(some 45), (.call (.c (.func (.func 17) #[] #[])) []), (some (44, true))⟩, ⟨(some 46), (.pick (.t 44) (.t 45) (.c (.bool false))), none⟩, ⟨(some 4), (.mov (.t 46)), none⟩])
           .ret)
          .skip))
        (.seq
         (.region [⟨(some 47), (.mov (.t 6)), none⟩, ⟨(some 48), (.bin .eql (.t 47) (.c (.int .i64 0))), none⟩, ⟨(some 49), (.mov (.t 48)), none⟩, ⟨(some 50), (.mov (.t 5)), (some (49, true))⟩, ⟨(some 51), (.ld true 4 (.t 2)), (some (49, true))⟩, ⟨(some 52), (.mov (.t 1)), (some (49, true))⟩, ⟨(some 53), (.call (.c (.func (.func 41) #[] #[])) [(.t 51), (.t 52)]), (some (49, true))⟩, ⟨(some 54), (.call (.c (.func (.func 22) #[] #[])) [(.t 50), (.t 53)]), (some (49, true))⟩, ⟨(some 55), (.pick (.t 49) (.t 54) (.c (.bool false))), none⟩, ⟨(some 56), (.mov (.t 55)), none⟩, ⟨(some 57), (.call (.c (.func (.func 17) #[] #[])) []), (some (56, true))⟩, ⟨(some 58), (.pick (.t 56) (.t 57) (.c (.bool false))), none⟩, ⟨(some 4), (.mov (.t 58)), none⟩])
         .ret)))))))
def r7 : List AOp := [(.mov (.t 4))]
theorem ok7 : FnOk Try.prog 7 Try.f7.ntmps a7 r7 := ⟨Try.f7, Try.func7, by kernel_rfl, by kernel_rfl, by kernel_rfl, fun asv w => by simp⟩

/-- layover/layoverlaw01.RunLeft -/
def a13 : ACode :=
  (.seq
   (.region [⟨(some 4), (.box (.t 0)), none⟩, ⟨(some 5), (.box (.t 1)), none⟩, ⟨(some 8), (.mov (.c (.bool false))), none⟩])
   (.seq
    (.seq
     (.region [⟨(some 23), (.ld true 4 (.t 4)), none⟩, ⟨(some 24), (.call (.c (.func (.func 43) #[] #[])) [(.t 23)]), none⟩, ⟨(some 25), (.not (.t 24)), none⟩, ⟨(some 26), (.mov (.t 25)), none⟩, ⟨(some 27), (.mov (.t 3)), (some (26, false))⟩, ⟨(some 28), (.len (.t 27)), (some (26, false))⟩, ⟨(some 29), (.bin .gtr (.t 28) (.c (.int .i64 15))), (some (26, false))⟩, ⟨(some 30), (.pick (.t 26) (.c (.bool true)) (.t 29)), none⟩])
     (.cond (.t 30)
      (.seq
       (.region [⟨(some 31), (.call (.c (.func (.func 17) #[] #[])) []), none⟩, ⟨(some 8), (.mov (.t 31)), none⟩])
       .ret)
      .skip))
    (.seq
     (.region [⟨(some 32), (.iar 3 1 (.t 5) (.c (.int .i64 0))), none⟩, ⟨(some 33), (.ld false 1 (.t 32)), none⟩, ⟨(some 34), (.cvi .i64 (.t 33)), none⟩, ⟨(some 35), (.bin .rem (.t 34) (.c (.int .i64 13))), none⟩, ⟨(some 36), (.iar 3 1 (.t 5) (.c (.int .i64 1))), none⟩, ⟨(some 37), (.ld false 1 (.t 36)), none⟩, ⟨(some 38), (.cvi .i64 (.t 37)), none⟩, ⟨(some 39), (.bin .rem (.t 38) (.c (.int .i64 13))), none⟩, ⟨(some 40), (.iar 3 1 (.t 5) (.c (.int .i64 2))), none⟩, ⟨(some 41), (.ld false 1 (.t 40)), none⟩, ⟨(some 42), (.cvi .i64 (.t 41)), none⟩, ⟨(some 43), (.bin .rem (.t 42) (.c (.int .i64 13))), none⟩, ⟨(some 44), (.bsl 3 [(.int .i64 0), (.int .i64 0), (.int .i64 0)] [(0, 1, (.t 35)), (1, 1, (.t 39)), (2, 1, (.t 43))]), none⟩, ⟨(some 9), (.mov (.t 44)), none⟩])
     (.seq
      (.region [⟨(some 45), (.mov (.t 9)), none⟩, ⟨(some 46), (.call (.c (.func (.func 34) #[] #[])) [(.t 45)]), none⟩, ⟨(some 10), (.mov (.t 46)), none⟩])
      (.seq
       (.region [⟨(some 47), (.mov (.t 10)), none⟩, ⟨(some 48), (.mov (.t 2)), none⟩, ⟨(some 49), (.cvi .i64 (.t 48)), none⟩, ⟨(some 50), (.bin .rem (.t 49) (.c (.int .i64 3))), none⟩, ⟨(some 51), (.mov (.t 10)), none⟩, ⟨(some 52), (.mov (.t 2)), none⟩, ⟨(some 53), (.cvi .i64 (.t 52)), none⟩, ⟨(some 54), (.bin .rem (.t 53) (.c (.int .i64 3))), none⟩, ⟨(some 55), (.isl 1 (.t 51) (.t 54)), none⟩, ⟨(some 56), (.ld false 1 (.t 55)), none⟩, ⟨(some 57), (.bin .add (.t 56) (.c (.int .i64 1))), none⟩, ⟨(some 58), (.gen 198 ⟨(some 58), (.call ⟨.builtin .min, #[(.const (.int .i64 12)), (.tmp 57)], #[3, 3]⟩), 3, "outright.go:200", #[{ on := 10, ground := Go.Ground.data }], none⟩), none⟩, ⟨(some 59), (.isl 1 (.t 47) (.t 50)), none⟩, ⟨none, (.st 1 (.t 59) (.t 58)), none⟩])
       (.seq
        (.region [⟨(some 61), (.ld true 4 (.t 4)), none⟩, ⟨(some 62), (.call (.c (.func (.func 19) #[] #[])) [(.t 61)]), none⟩, ⟨(some 63), (.mov (.t 9)), none⟩, ⟨(some 64), (.call (.c (.func (.func 34) #[] #[])) [(.t 63)]), none⟩, ⟨(some 65), (.call (.c (.func (.func 39) #[] #[])) [(.t 62), (.t 64)]), none⟩, ⟨(some 60), (.mov (.t 65)), none⟩, ⟨(some 66), (.ext (.t 60) 0), none⟩, ⟨(some 67), (.ext (.t 60) 1), none⟩, ⟨(some 11), (.mov (.t 66)), none⟩, ⟨(some 12), (.mov (.t 67)), none⟩])
        (.seq
         (.region [⟨(some 69), (.ld true 4 (.t 4)), none⟩, ⟨(some 70), (.call (.c (.func (.func 19) #[] #[])) [(.t 69)]), none⟩, ⟨(some 71), (.mov (.t 10)), none⟩, ⟨(some 72), (.call (.c (.func (.func 39) #[] #[])) [(.t 70), (.t 71)]), none⟩, ⟨(some 68), (.mov (.t 72)), none⟩, ⟨(some 73), (.ext (.t 68) 0), none⟩, ⟨(some 74), (.ext (.t 68) 1), none⟩, ⟨(some 13), (.mov (.t 73)), none⟩, ⟨(some 14), (.mov (.t 74)), none⟩])
         (.seq
          (.region [⟨(some 76), (.ld true 4 (.t 4)), none⟩, ⟨(some 77), (.call (.c (.func (.func 45) #[] #[])) [(.t 76), (.c (.slice none 0 0))]), none⟩, ⟨(some 75), (.mov (.t 77)), none⟩, ⟨(some 78), (.ext (.t 75) 0), none⟩, ⟨(some 79), (.ext (.t 75) 1), none⟩, ⟨(some 15), (.new [(.int .i64 0), (.int .i64 0), (.int .i64 0)]), none⟩, ⟨none, (.st 3 (.t 15) (.t 78)), none⟩, ⟨(some 16), (.mov (.t 79)), none⟩])
          (.seq
           (.seq
            (.region [⟨(some 80), (.mov (.t 12)), none⟩, ⟨(some 81), (.bin .neq (.t 80) (.c (.int .i64 0))), none⟩, ⟨(some 82), (.mov (.t 81)), none⟩, ⟨(some 83), (.mov (.t 14)), (some (82, false))⟩, ⟨(some 84), (.bin .neq (.t 83) (.c (.int .i64 0))), (some (82, false))⟩, ⟨(some 85), (.pick (.t 82) (.c (.bool true)) (.t 84)), none⟩, ⟨(some 86), (.mov (.t 85)), none⟩, ⟨(some 87), (.mov (.t 16)), (some (86, false))⟩, ⟨(some 88), (.not (.t 87)), (some (86, false))⟩, ⟨(some 89), (.pick (.t 86) (.c (.bool true)) (.t 88)), none⟩, ⟨(some 90), (.mov (.t 89)), none⟩, ⟨(some 91), (.ld true 4 (.t 4)), (some (90, false))⟩, ⟨(some 92), (.mov (.t 11)), (some (90, false))⟩, ⟨(some 93), (.call (.c (.func (.func 46) #[] #[])) [(.t 91), (.t 92)]), (some (90, false))⟩, ⟨(some 94), (.not (.t 93)), (some (90, false))⟩, ⟨(some 95), (.pick (.t 90) (.c (.bool true)) (.t 94)), none⟩, ⟨(some 96), (.mov (.t 95)), none⟩, ⟨(some 97), (.mov (.t 13)), (some (96, false))⟩, ⟨(some 98), (.len (.t 97)), (some (96, false))⟩, ⟨(some 99), (.mov (.t 11)), (some (96, false))⟩, ⟨(some 100), (.len (.t 99)), (some (96, false))⟩, ⟨(some 101), (.bin .gtr (.t 98) (.t 100)), (some (96, false))⟩, ⟨(some 102), (.pick (.t 96) (.c (.bool true)) (.t 101)), none⟩])
            (.cond (.t 102)
             (.seq
              (.region [⟨(some 8), (.mov (.c (.bool false))), none⟩])
              .ret)
             .skip))
           (.seq
            (.seq
             (.draw 23 [⟨⟨(some 103), (.iar 3 1 (.t 15) (.c (.int .i64 0))), none⟩, 0, false, []⟩, ⟨⟨(some 104), (.ld false 1 (.t 103)), none⟩, 1, false, []⟩, ⟨⟨(some 105), (.mov (.t 9)), none⟩, 2, false, []⟩, ⟨⟨(some 106), (.isl 1 (.t 105) (.c (.int .i64 0))), none⟩, 3, false, []⟩, ⟨⟨(some 107), (.ld false 1 (.t 106)), none⟩, 4, false, []⟩, ⟨⟨(some 108), (.bin .leq (.t 104) (.t 107)), none⟩, 5, false, []⟩, ⟨⟨(some 109), (.mov (.t 108)), none⟩, 6, false, []⟩, ⟨⟨(some 110), (.iar 3 1 (.t 15) (.c (.int .i64 1))), (some (109, true))⟩, 7, false, []⟩, ⟨⟨(some 111), (.ld false 1 (.t 110)), (some (109, true))⟩, 8, false, []⟩, ⟨⟨(some 112), (.mov (.t 9)), (some (109, true))⟩, 9, false, []⟩, ⟨⟨(some 113), (.isl 1 (.t 112) (.c (.int .i64 1))), (some (109, true))⟩, 10, false, []⟩, ⟨⟨(some 114), (.ld false 1 (.t 113)), (some (109, true))⟩, 11, false, []⟩, ⟨⟨(some 115), (.bin .leq (.t 111) (.t 114)), (some (109, true))⟩, 12, false, []⟩, ⟨⟨(some 116), (.pick (.t 109) (.t 115) (.c (.bool false))), none⟩, 13, false, []⟩, ⟨⟨(some 117), (.mov (.t 116)), none⟩, 14, false, []⟩, ⟨⟨(some 118), (.iar 3 1 (.t 15) (.c (.int .i64 2))), (some (117, true))⟩, 15, false, []⟩, ⟨⟨(some 119), (.ld false 1 (.t 118)), (some (117, true))⟩, 16, false, []⟩, ⟨⟨(some 120), (.mov (.t 9)), (some (117, true))⟩, 17, false, []⟩, ⟨⟨(some 121), (.isl 1 (.t 120) (.c (.int .i64 2))), (some (117, true))⟩, 18, false, []⟩, ⟨⟨(some 122), (.ld false 1 (.t 121)), (some (117, true))⟩, 19, false, []⟩, ⟨⟨(some 123), (.bin .leq (.t 119) (.t 122)), (some (117, true))⟩, 20, false, []⟩, ⟨⟨(some 124), (.pick (.t 117) (.t 123) (.c (.bool false))), none⟩, 21, false, []⟩, ⟨⟨(some 17), (.mov (.t 124)), none⟩, 22, false, []⟩])
             (.seq
              (.region [⟨(some 125), (.mov (.t 17)), none⟩, ⟨(some 126), (.mov (.t 11)), none⟩, ⟨(some 127), (.len (.t 126)), none⟩, ⟨(some 128), (.bin .eql (.t 127) (.c (.int .i64 0))), none⟩, ⟨(some 129), (.gen 198 ⟨(some 129), (.binOp .neq 4 (.tmp 125) (.tmp 128) 4), 4, "outright.go:207", #[{ on := 0, ground := Go.Ground.data }, { on := 3, ground := Go.Ground.data }], none⟩), none⟩])
              (.cond (.t 129)
               (.seq
                (.region [⟨(some 8), (.mov (.c (.bool false))), none⟩])
                .ret)
               .skip)))
            (.seq
             (.region [⟨(some 130), (.mov (.t 11)), none⟩, ⟨(some 131), (.mov (.t 3)), none⟩, ⟨(some 132), (.bld [(.slice none 0 0), (.slice none 0 0)] [(0, 1, (.t 130)), (1, 1, (.t 131))]), none⟩, ⟨(some 18), (.new [(.slice none 0 0), (.slice none 0 0)]), none⟩, ⟨none, (.st 2 (.t 18) (.t 132)), none⟩])
             (.seq
              (.seq
               (.region [⟨(some 19), (.mov (.c (.int .i64 0))), none⟩])
               (.block 0
                (.loop
                 (.seq
                  (.seq
                   (.region [⟨(some 133), (.mov (.t 19)), none⟩, ⟨(some 134), (.bin .lss (.t 133) (.c (.int .i64 2))), none⟩])
                   (.cond (.t 134)
                    .skip
                    (.exit 0)))
                  (.seq
                   (.block 1
                    (.seq
                     (.seq
                      (.draw 6 [⟨⟨(some 137), (.ld true 4 (.t 4)), none⟩, 0, false, []⟩, ⟨⟨(some 138), (.mov (.t 19)), none⟩, 1, false, []⟩, ⟨⟨(some 139), (.iar 2 1 (.t 18) (.t 138)), none⟩, 2, false, []⟩, ⟨⟨(some 140), (.ld false 1 (.t 139)), none⟩, 3, false, []⟩, ⟨⟨(some 141), (.call (.c (.func (.func 46) #[] #[])) [(.t 137), (.t 140)]), none⟩, 4, true, []⟩, ⟨⟨(some 142), (.not (.t 141)), none⟩, 5, false, []⟩])
                      (.cond (.t 142)
                       (.exit 1)
                       .skip))
                     (.seq
                      (.draw 11 [⟨⟨(some 144), (.ld true 4 (.t 4)), none⟩, 0, false, []⟩, ⟨⟨(some 145), (.mov (.t 19)), none⟩, 1, false, []⟩, ⟨⟨(some 146), (.iar 2 1 (.t 18) (.t 145)), none⟩, 2, false, []⟩, ⟨⟨(some 147), (.ld false 1 (.t 146)), none⟩, 3, false, []⟩, ⟨⟨(some 20), (.new [(.int .i64 0), (.int .i64 0), (.int .i64 0)]), none⟩, 8, false, []⟩, ⟨⟨(some 148), (.call (.c (.func (.func 45) #[] #[])) [(.t 144), (.t 147)]), none⟩, 4, true, []⟩, ⟨⟨(some 143), (.mov (.t 148)), none⟩, 5, false, []⟩, ⟨⟨(some 149), (.ext (.t 143) 0), none⟩, 6, false, []⟩, ⟨⟨(some 150), (.ext (.t 143) 1), none⟩, 7, false, []⟩, ⟨⟨none, (.st 3 (.t 20) (.t 149)), none⟩, 9, true, []⟩, ⟨⟨(some 21), (.mov (.t 150)), none⟩, 10, false, []⟩])
                      (.seq
                       (.draw 23 [⟨⟨(some 151), (.iar 3 1 (.t 20) (.c (.int .i64 0))), none⟩, 0, false, []⟩, ⟨⟨(some 152), (.ld false 1 (.t 151)), none⟩, 1, false, []⟩, ⟨⟨(some 153), (.mov (.t 9)), none⟩, 2, false, []⟩, ⟨⟨(some 154), (.isl 1 (.t 153) (.c (.int .i64 0))), none⟩, 3, false, []⟩, ⟨⟨(some 155), (.ld false 1 (.t 154)), none⟩, 4, false, []⟩, ⟨⟨(some 156), (.bin .leq (.t 152) (.t 155)), none⟩, 5, false, []⟩, ⟨⟨(some 157), (.mov (.t 156)), none⟩, 6, false, []⟩, ⟨⟨(some 158), (.iar 3 1 (.t 20) (.c (.int .i64 1))), (some (157, true))⟩, 7, false, []⟩, ⟨⟨(some 159), (.ld false 1 (.t 158)), (some (157, true))⟩, 8, false, []⟩, ⟨⟨(some 160), (.mov (.t 9)), (some (157, true))⟩, 9, false, []⟩, ⟨⟨(some 161), (.isl 1 (.t 160) (.c (.int .i64 1))), (some (157, true))⟩, 10, false, []⟩, ⟨⟨(some 162), (.ld false 1 (.t 161)), (some (157, true))⟩, 11, false, []⟩, ⟨⟨(some 163), (.bin .leq (.t 159) (.t 162)), (some (157, true))⟩, 12, false, []⟩, ⟨⟨(some 164), (.pick (.t 157) (.t 163) (.c (.bool false))), none⟩, 13, false, []⟩, ⟨⟨(some 165), (.mov (.t 164)), none⟩, 14, false, []⟩, ⟨⟨(some 166), (.iar 3 1 (.t 20) (.c (.int .i64 2))), (some (165, true))⟩, 15, false, []⟩, ⟨⟨(some 167), (.ld false 1 (.t 166)), (some (165, true))⟩, 16, false, []⟩, ⟨⟨(some 168), (.mov (.t 9)), (some (165, true))⟩, 17, false, []⟩, ⟨⟨(some 169), (.isl 1 (.t 168) (.c (.int .i64 2))), (some (165, true))⟩, 18, false, []⟩, ⟨⟨(some 170), (.ld false 1 (.t 169)), (some (165, true))⟩, 19, false, []⟩, ⟨⟨(some 171), (.bin .leq (.t 167) (.t 170)), (some (165, true))⟩, 20, false, []⟩, ⟨⟨(some 172), (.pick (.t 165) (.t 171) (.c (.bool false))), none⟩, 21, false, []⟩, ⟨⟨(some 22), (.mov (.t 172)), none⟩, 22, false, []⟩])
                       (.seq
                        (.region [⟨(some 173), (.mov (.t 21)), none⟩, ⟨(some 174), (.not (.t 173)), none⟩, ⟨(some 175), (.mov (.t 174)), none⟩, ⟨(some 176), (.mov (.t 19)), (some (175, false))⟩, ⟨(some 177), (.bin .eql (.t 176) (.c (.int .i64 0))), (some (175, false))⟩, ⟨(some 178), (.mov (.t 177)), (some (175, false))⟩, ⟨(some 179), (.mov (.t 22)), (some (178, true))⟩, ⟨(some 180), (.not (.t 179)), (some (178, true))⟩, ⟨(some 181), (.pick (.t 178) (.t 180) (.c (.bool false))), (some (175, false))⟩, ⟨(some 182), (.pick (.t 175) (.c (.bool true)) (.t 181)), none⟩, ⟨(some 183), (.mov (.t 182)), none⟩, ⟨(some 184), (.mov (.t 19)), (some (183, false))⟩, ⟨(some 185), (.bin .eql (.t 184) (.c (.int .i64 1))), (some (183, false))⟩, ⟨(some 186), (.mov (.t 185)), (some (183, false))⟩, ⟨(some 187), (.mov (.t 22)), (some (186, true))⟩, ⟨(some 188), (.pick (.t 186) (.t 187) (.c (.bool false))), (some (183, false))⟩, ⟨(some 189), (.mov (.t 188)), (some (183, false))⟩, ⟨(some 190), (.mov (.t 3)), (some (189, true))⟩, ⟨(some 191), (.len (.t 190)), (some (189, true))⟩, ⟨(some 192), (.mov (.t 11)), (some (189, true))⟩, ⟨(some 193), (.len (.t 192)), (some (189, true))⟩, ⟨(some 194), (.bin .lss (.t 191) (.t 193)), (some (189, true))⟩, ⟨(some 195), (.pick (.t 189) (.t 194) (.c (.bool false))), (some (183, false))⟩, ⟨(some 196), (.pick (.t 183) (.c (.bool true)) (.t 195)), none⟩])
                        (.cond (.t 196)
                         (.seq
                          (.region [⟨(some 8), (.mov (.c (.bool false))), none⟩])
                          .ret)
                         .skip))))))
                   (.region [⟨(some 135), (.mov (.t 19)), none⟩, ⟨(some 136), (.bin .add (.t 135) (.c (.int .i64 1))), none⟩, ⟨(some 19), (.mov (.t 136)), none⟩]))))))
              (.seq
               (.region [⟨(some 197), (.call (.c (.func (.func 17) #[] #[])) []), none⟩, ⟨(some 8), (.mov (.t 197)), none⟩])
               .ret)))))))))))))
def r13 : List AOp := [(.mov (.t 8))]
theorem ok13 : FnOk Try.prog 13 Try.f13.ntmps a13 r13 := ⟨Try.f13, Try.func13, by kernel_rfl, by kernel_rfl, by kernel_rfl, fun asv w => by simp⟩

end Go.Proofs.Ytohohnpjilinmaa

/-
  Timetables in which the same trips follow each other, and slices of trips that are appended to an empty one.
-/
namespace Go.Proofs.Ytohohnpjilinmaa
open Go Go.Ab

section
variable {T X : Tab} (hn : X.trips.length = T.trips.length) (hm : ∀ i j, X.mayN i j = T.mayN i j)
include hn hm
theorem same_followers : X.followers = T.followers := by
  unfold Tab.followers
  rw [hn]
  congr 1; funext i; congr 2; funext j; exact hm i j
omit hm in
theorem same_num (x : Int) : X.num x = T.num x := by simp only [Tab.num, hn]
theorem same_cut (bs : List (List Int)) : isCutL X bs = isCutL T bs := by
  have h1 : ∀ b d k, tripStep X b d k = tripStep T b d k := fun b d k => by simp only [tripStep, hm]
  have h2 : blockStep X = blockStep T := by
    funext d b
    have : X.num = T.num := funext (same_num hn)
    have h3 : tripStep X b = tripStep T b := by funext d k; exact h1 b d k
    simp only [blockStep, this, h3]
  simp only [isCutL, h2, hn]
theorem same_most : X.most = T.most := by simp only [Tab.most, same_followers hn hm, hn]
end

theorem trips_one (xs : List Tr) : (xs.flatMap Tr.cells).all one = true := by
  simp only [List.all_eq_true, List.mem_flatMap]
  rintro v ⟨x, _, hv⟩
  simp only [Tr.cells, List.mem_cons, List.not_mem_nil, or_false] at hv
  rcases hv with rfl | rfl | rfl | rfl | rfl | rfl <;> rfl
theorem trips_cells (xs : List Tr) : (xs.flatMap Tr.cells).length = xs.length * 6 := by
  induction xs with
  | nil => rfl
  | cons x xs ih => simp only [List.flatMap_cons, List.length_append, ih, List.length_cons]; simp [Tr.cells]; omega

/-- A slice of trips is appended to an empty one. -/
theorem fapp_clone {A : Heap} {s : Value} {xs : List Tr} {m n nx : Nat} {R : Value → Heap → Prop} (hm : A.get m = .cells true [] 0) (hs : TripsAt A s xs) (hl : xs.length ≤ 2 ^ 20) (_hnx : n < nx)
    (K : ∀ cap B, xs.length ≤ cap → B.get n = .cells true (xs.flatMap Tr.cells) (cap * 6) → B.next = nx → (∀ q, q ≠ n → q ≠ m → B.get q = A.get q) → R (.slice (some ⟨n, 0, none⟩) xs.length cap) B) : @fapp (baseOf A 6 (.slice (some ⟨m, 0, none⟩) 0 0)) (slCells A 6 s) 6 48 A n nx ⟨R⟩ := by
  refine ⟨0, [], some m, 0, xs.length, xs.flatMap Tr.cells, by simp [baseOf, hm], hs.1.1, trips_one xs, by omega, ?_⟩
  rw [if_neg (by simp)]
  intro cap hcap
  have := K cap (appHeap A n nx (some m) (xs.flatMap Tr.cells) (cap * 6)) (by omega) (by simp [appHeap]) rfl (fun q h1 h2 => by simp [appHeap, h1, h2])
  simpa using this

/-- A trip that starts later. -/
def Tr.later (d : Int) (x : Tr) : Tr := { x with start := x.start + d }
def laterTo (d : Int) (xs : List Tr) (m : Nat) : List Tr := (xs.take m).map (Tr.later d) ++ xs.drop m
theorem laterTo_length {d : Int} {xs : List Tr} {m : Nat} : (laterTo d xs m).length = xs.length := by simp [laterTo]; omega
theorem laterTo_zero {d : Int} {xs : List Tr} : laterTo d xs 0 = xs := by simp [laterTo]
theorem laterTo_all {d : Int} {xs : List Tr} : laterTo d xs xs.length = xs.map (Tr.later d) := by simp [laterTo]
theorem laterTo_split {d : Int} {xs : List Tr} {m : Nat} (hm : m < xs.length) : laterTo d xs m = (xs.take m).map (Tr.later d) ++ xs[m] :: xs.drop (m + 1) := by
  simp only [laterTo]; rw [List.drop_eq_getElem_cons hm]
theorem laterTo_next {d : Int} {xs : List Tr} {m : Nat} (hm : m < xs.length) : laterTo d xs (m + 1) = (xs.take m).map (Tr.later d) ++ xs[m].later d :: xs.drop (m + 1) := by
  simp only [laterTo]; rw [List.take_succ_eq_append_getElem hm]; simp only [List.map_append, List.map_cons, List.map_nil, List.append_assoc, List.singleton_append]
theorem laterTo_at {d : Int} {xs : List Tr} {m : Nat} (hm : m < xs.length) : ((laterTo d xs m).flatMap Tr.cells)[m * 6 + 2]? = some (.int .i64 xs[m].start) := by
  have hl : (((xs.take m).map (Tr.later d)).flatMap Tr.cells).length = m * 6 := by rw [trips_cells]; simp; omega
  rw [laterTo_split hm, List.flatMap_append, List.getElem?_append_right (by omega), hl, List.flatMap_cons]
  simp [Tr.cells]
theorem laterTo_wr {d : Int} {xs : List Tr} {m : Nat} (hm : m < xs.length) : wrL ((laterTo d xs m).flatMap Tr.cells) (m * 6 + 2) [.int .i64 (xs[m].start + d)] = (laterTo d xs (m + 1)).flatMap Tr.cells := by
  have hl : (((xs.take m).map (Tr.later d)).flatMap Tr.cells).length = m * 6 := by rw [trips_cells]; simp; omega
  rw [laterTo_split hm, laterTo_next hm, List.flatMap_append, List.flatMap_append, List.flatMap_cons, List.flatMap_cons]
  generalize ((xs.take m).map (Tr.later d)).flatMap Tr.cells = A at hl
  have h1 : A.take (m * 6 + 2) = A := List.take_of_length_le (by omega)
  have h2 : A.drop (m * 6 + 3) = [] := List.drop_of_length_le (by omega)
  have e1 : m * 6 + 2 - m * 6 = 2 := by omega
  have e2 : m * 6 + 3 - m * 6 = 3 := by omega
  have e3 : m * 6 + 2 + [Value.int .i64 (xs[m].start + d)].length = m * 6 + 3 := rfl
  simp only [wrL, Tr.cells, Tr.later]
  rw [e3, List.take_append, List.drop_append, h1, h2, hl, e1, e2]
  simp

def laterT (T : Tab) (d : Int) : Tab := { T with trips := T.trips.map (Tr.later d) }
theorem laterT_len {T : Tab} {d : Int} : (laterT T d).trips.length = T.trips.length := by simp [laterT]
theorem laterT_may {T : Tab} {d : Int} (i j : Nat) : (laterT T d).mayN i j = T.mayN i j := by
  simp only [Tab.mayN, laterT, List.getElem?_map]
  cases T.trips[i]? with
  | none => rfl
  | some x =>
    cases T.trips[j]? with
    | none => rfl
    | some y =>
      simp only [Option.map_some]
      have he : (x.later d = y.later d) ↔ x = y := by
        constructor
        · intro h
          cases x; cases y
          simp only [Tr.later, Tr.mk.injEq] at h ⊢
          omega
        · rintro rfl; rfl
      have hw : ∀ m, Tab.wait { T with trips := T.trips.map (Tr.later d) } (x.later d) (y.later d) m = T.wait x y m := by
        intro m
        simp only [Tab.wait, Tab.ready, Tab.road, Tr.later]
        omega
      simp only [Tab.may, he, hw]
      rfl
theorem laterT_thin {T : Tab} {d : Int} : thin (laterT T d) = thin T := by simp only [thin, laterT, List.length_map]; rfl

end Go.Proofs.Ytohohnpjilinmaa

/-
  Some trips of a timetable alone, and the kinds of a timetable: how many may be led.
-/
namespace Go.Proofs.Ytohohnpjilinmaa

def Tab.mostL (T : Tab) (looked : List Bool) : Nat := ledSize T.trips.length (joinL T.followers looked T.trips.length)

theorem most_all (T : Tab) : T.most = T.mostL (upTo T.trips.length) := rfl
theorem mostL_cov {T : Tab} (hfew : T.trips.length ≤ 12) (looked : List Bool) : ∃ a b : Nat → Bool, Cov (T.mayL looked) T.trips.length a b ∧ cntN T.trips.length a + cntN T.trips.length b ≤ T.mostL looked :=
  (joinL_mat (looked := looked) (followers_ok hfew) T.trips.length (Nat.le_refl _)).cov
theorem mostL_le {T : Tab} (hfew : T.trips.length ≤ 12) {looked : List Bool} {a b : Nat → Bool} (hc : Cov (T.mayL looked) T.trips.length a b) : T.mostL looked ≤ cntN T.trips.length a + cntN T.trips.length b :=
  (joinL_mat (looked := looked) (followers_ok hfew) T.trips.length (Nat.le_refl _)).pm.le_cov hc

def noTr : Tr := ⟨0, 0, 0, 0, 0, 0⟩
/-- Some trips alone. -/
def onlyT (T : Tab) (l : List Int) : Tab := { T with trips := l.map fun x => T.trips[x.toNat]?.getD noTr }
theorem onlyT_len {T : Tab} {l : List Int} : (onlyT T l).trips.length = l.length := by simp only [onlyT, List.length_map]

/-- The number at a place of a list, and the place of a number. -/
def sel (l : List Int) (i : Nat) : Nat := (l[i]?.getD 0).toNat

theorem numsOf_bound {n : Nat} {f : Nat → Bool} : (numsOf n f).length ≤ n := by rw [numsOf_length]; exact cntN_le

theorem sel_lt {n : Nat} {f : Nat → Bool} {i : Nat} (hi : i < (numsOf n f).length) : sel (numsOf n f) i < n ∧ f (sel (numsOf n f) i) = true := by
  obtain ⟨k, h1, h2, h3⟩ := numsOf_mem.1 (List.getElem_mem hi)
  have : sel (numsOf n f) i = k := by simp only [sel, List.getElem?_eq_getElem hi, Option.getD_some, h3]; simp
  rw [this]; exact ⟨h1, h2⟩

theorem sel_idx {f : Nat → Bool} {x : Nat} : ∀ {n : Nat}, x < n → f x = true → cntN x f < (numsOf n f).length ∧ sel (numsOf n f) (cntN x f) = x
  | 0, h, _ => by omega
  | n + 1, h, hf => by
    by_cases e : x = n
    · subst e
      have hl := numsOf_length (n := x) (f := f)
      rw [numsOf_succ, if_pos hf]
      refine ⟨by simp only [List.length_append, List.length_singleton]; omega, ?_⟩
      simp only [sel]
      rw [List.getElem?_append_right (by omega), hl]
      simp
    · obtain ⟨h1, h2⟩ := sel_idx (n := n) (by omega) hf
      rw [numsOf_succ]
      split
      · refine ⟨by simp only [List.length_append, List.length_singleton]; omega, ?_⟩
        simp only [sel] at h2 ⊢
        rw [List.getElem?_append_left h1]
        exact h2
      · exact ⟨h1, h2⟩

theorem cnt_sel {f g : Nat → Bool} : ∀ {n : Nat}, cntN (numsOf n f).length (fun i => g (sel (numsOf n f) i)) = cntN n (fun x => f x && g x)
  | 0 => by simp [numsOf, cntN]
  | n + 1 => by
    rw [cntN_succ (n := n), ← cnt_sel (n := n), numsOf_succ]
    cases hf : f n
    · simp
    · have hc : cntN (numsOf n f).length (fun i => g (sel (numsOf n f ++ [(n : Int)]) i)) = cntN (numsOf n f).length (fun i => g (sel (numsOf n f) i)) := cntN_congr fun k hk => by
        simp only [sel]; rw [List.getElem?_append_left hk]
      have hl : (numsOf n f ++ [(n : Int)]).length = (numsOf n f).length + 1 := by simp
      have hs : sel (numsOf n f ++ [(n : Int)]) (numsOf n f).length = n := by simp [sel]
      simp only [if_true, hl, cntN_succ, hc, hs, Bool.true_and]

theorem only_may {T : Tab} {f : Nat → Bool} {i j : Nat} (hi : i < (numsOf T.trips.length f).length) (hj : j < (numsOf T.trips.length f).length) :
    (onlyT T (numsOf T.trips.length f)).mayN i j = T.mayN (sel (numsOf T.trips.length f) i) (sel (numsOf T.trips.length f) j) := by
  have h1 := (sel_lt hi).1
  have h2 := (sel_lt hj).1
  have e1 : (onlyT T (numsOf T.trips.length f)).trips[i]? = some (T.trips[sel (numsOf T.trips.length f) i]) := by
    simp only [onlyT, List.getElem?_map, List.getElem?_eq_getElem hi, Option.map_some, Option.some.injEq]
    have : sel (numsOf T.trips.length f) i = ((numsOf T.trips.length f)[i]).toNat := by simp only [sel, List.getElem?_eq_getElem hi, Option.getD_some]
    rw [← this, List.getElem?_eq_getElem h1]; rfl
  have e2 : (onlyT T (numsOf T.trips.length f)).trips[j]? = some (T.trips[sel (numsOf T.trips.length f) j]) := by
    simp only [onlyT, List.getElem?_map, List.getElem?_eq_getElem hj, Option.map_some, Option.some.injEq]
    have : sel (numsOf T.trips.length f) j = ((numsOf T.trips.length f)[j]).toNat := by simp only [sel, List.getElem?_eq_getElem hj, Option.getD_some]
    rw [← this, List.getElem?_eq_getElem h2]; rfl
  rw [Tab.mayN_eq h1 h2]
  simp only [Tab.mayN, e1, e2]
  rfl

/-- Of some trips alone as many may be led as among those that are looked at. -/
theorem only_most {T : Tab} (hfew : T.trips.length ≤ 12) {f : Nat → Bool} {looked : List Bool} (hlk : ∀ i, i < T.trips.length → looked[i]?.getD false = f i) : (onlyT T (numsOf T.trips.length f)).most = T.mostL looked := by
  have hlen := onlyT_len (T := T) (l := numsOf T.trips.length f)
  have hb := numsOf_bound (n := T.trips.length) (f := f)
  have hfewX : (onlyT T (numsOf T.trips.length f)).trips.length ≤ 12 := by omega
  apply Nat.le_antisymm
  · obtain ⟨a, b, hc, hs⟩ := mostL_cov hfew looked
    have hcX : Cov (onlyT T (numsOf T.trips.length f)).mayN (onlyT T (numsOf T.trips.length f)).trips.length (fun i => a (sel (numsOf T.trips.length f) i)) (fun i => b (sel (numsOf T.trips.length f) i)) := by
      intro i j hi hj he
      rw [hlen] at hi hj
      rw [only_may hi hj] at he
      obtain ⟨h1, h2⟩ := sel_lt hi
      obtain ⟨h3, h4⟩ := sel_lt hj
      refine hc _ _ h1 h3 ?_
      simp only [Tab.mayL, hlk _ h1, hlk _ h3, h2, h4, he, Bool.and_self]
    have h5 := pm_most hfewX hcX
    rw [hlen, cnt_sel, cnt_sel] at h5
    have h6 : cntN T.trips.length (fun x => f x && a x) ≤ cntN T.trips.length a := cntN_mono fun k _ hk => by simp at hk; exact hk.2
    have h7 : cntN T.trips.length (fun x => f x && b x) ≤ cntN T.trips.length b := cntN_mono fun k _ hk => by simp at hk; exact hk.2
    omega
  · obtain ⟨a, b, hc, hs⟩ := mostL_cov hfewX (upTo (onlyT T (numsOf T.trips.length f)).trips.length)
    rw [most_all]
    refine Nat.le_trans (mostL_le hfew (a := fun x => f x && a (cntN x f)) (b := fun x => f x && b (cntN x f)) ?_) (Nat.le_trans (Nat.le_of_eq ?_) hs)
    · intro i j hi hj he
      simp only [Tab.mayL, hlk _ hi, hlk _ hj, Bool.and_eq_true] at he
      obtain ⟨⟨f1, f2⟩, hm⟩ := he
      obtain ⟨i1, i2⟩ := sel_idx hi f1
      obtain ⟨j1, j2⟩ := sel_idx hj f2
      have := hc (cntN i f) (cntN j f) (by omega) (by omega) (by rw [mayL_upTo hfewX (by omega) (by omega), only_may i1 j1, i2, j2]; exact hm)
      simpa [f1, f2] using this
    · have hk : ∀ g : Nat → Bool, cntN T.trips.length (fun x => f x && g (cntN x f)) = cntN (numsOf T.trips.length f).length g := fun g => by
        rw [← cnt_sel (g := fun x => g (cntN x f))]
        refine cntN_congr fun k hk => ?_
        obtain ⟨s1, s2⟩ := sel_lt hk
        obtain ⟨s3, s4⟩ := sel_idx s1 s2
        have hp := List.pairwise_iff_getElem.1 (numsOf_rise (n := T.trips.length) (f := f))
        have e : cntN (sel (numsOf T.trips.length f) k) f = k := by
          have h1 : sel (numsOf T.trips.length f) (cntN (sel (numsOf T.trips.length f) k) f) = sel (numsOf T.trips.length f) k := s4
          generalize cntN (sel (numsOf T.trips.length f) k) f = q at h1 s3
          have hq := numsOf_mem.1 (List.getElem_mem s3)
          have hk' := numsOf_mem.1 (List.getElem_mem hk)
          obtain ⟨u, _, _, hu⟩ := hq
          obtain ⟨w, _, _, hw⟩ := hk'
          simp only [sel, List.getElem?_eq_getElem hk, List.getElem?_eq_getElem s3, Option.getD_some] at h1
          rcases Nat.lt_trichotomy q k with h | h | h
          · have := hp q k s3 hk h; omega
          · exact h
          · have := hp k q hk s3 h; omega
        simp only [e]
      rw [hk a, hk b, hlen]

theorem only_valid {T : Tab} (hT : Valid T) {f : Nat → Bool} : Valid (onlyT T (numsOf T.trips.length f)) where
  few := by rw [onlyT_len]; exact Nat.le_trans numsOf_bound hT.few
  places := hT.places
  trips := by
    simp only [onlyT, List.all_map, List.all_eq_true, Function.comp]
    intro x hx
    obtain ⟨k, h1, _, rfl⟩ := numsOf_mem.1 hx
    have := List.all_eq_true.1 hT.trips _ (List.getElem_mem h1)
    simpa [h1] using this
theorem only_thin {T : Tab} {f : Nat → Bool} (h : thin T = true) : thin (onlyT T (numsOf T.trips.length f)) = true := by
  simp only [thin, Bool.and_eq_true, decide_eq_true_eq] at h ⊢
  refine ⟨h.1, ?_⟩
  rw [onlyT_len]
  exact Nat.le_trans numsOf_bound h.2

/-- The fewest buses for some trips alone. -/
theorem only_cut {T : Tab} (hT : Valid T) {f : Nat → Bool} {looked : List Bool} (hlk : ∀ i, i < T.trips.length → looked[i]?.getD false = f i) : (cutL (onlyT T (numsOf T.trips.length f))).length + T.mostL looked = cntN T.trips.length f := by
  have h := cutL_size (only_valid hT (f := f))
  rw [only_most hT.few hlk, onlyT_len, numsOf_length] at h
  exact h

end Go.Proofs.Ytohohnpjilinmaa

/-
  The contract of what gives the trips of a kind that are not in a list.
-/
namespace Go.Proofs.Ytohohnpjilinmaa
open Go Go.Ab

def kindN (T : Tab) (i : Nat) : Int := (T.trips[i]?.getD noTr).kind
def okAll (T : Tab) (kind : Int) (w : List Int) (i : Nat) : Bool := (decide (kind < 0) || decide (kindN T i = kind)) && !decide ((i : Int) ∈ w)
def allL (T : Tab) (kind : Int) (w : List Int) : List Int := numsOf T.trips.length (okAll T kind w)

theorem all_spec {e s wv : Value} {T : Tab} {kind : Int} {w : List Int} {H : Heap} (h : TabAt H e s T) (hfew : T.trips.length ≤ 2 ^ 20) (hw : IntsAt H wv w) : AFun Try.prog 31 [tabV T e s, .int .i64 kind, wv] H (fun r B => OwnSl B (H.next + 1) r ((allL T kind w).map (.int .i64)) ∧ Ge H B) := by
  refine AFun.mk ok31 hm (Nat.le_of_ble_eq_true rfl) ?_
  have h63 := hw.2
  simp [a31, r31]
  refine floop_intro (fun z => z.d = [] ∧ Ge H z.H ∧ H.next + 1 ≤ z.H.next ∧ z.t 1 = .int .i64 kind ∧ z.t 2 = wv ∧ z.t 3 = .pointer (some ⟨H.next, 0, none⟩) ∧ z.H.get H.next = .cells true [.int .i64 T.places, .int .i64 T.layover, e, s] 4 ∧
    ∃ i : Nat, i ≤ T.trips.length ∧ z.t 8 = .int .i64 i ∧ OwnSl z.H (H.next + 1) (z.t 7) ((numsOf i (okAll T kind w)).map (.int .i64))) (fun z => T.trips.length - (intOf (z.t 8)).toNat) ?_ ?_
  · exact ⟨rfl, by simp, by simp, by simp, by simp, by simp, by simp, 0, by simp, by simp, .inl ⟨by simp, by simp [numsOf]⟩⟩
  rintro ⟨t, _, A⟩ ⟨rfl, g, hn, t1, t2, t3, b0, i, hi, t8, hO⟩
  dsimp only at g hn t1 t2 t3 b0 t8 hO
  simp [t3, t8, b0, h.trips.lenV]
  refine fcond_intro (fun hc => ?_) (fun hc => ?_)
  · have hi' : i < T.trips.length := by simpa using hc
    obtain ⟨n1, o1, f1, l1, _, f2⟩ := (h.trips.ge g).at hi'
    have f5 := f2 5 (by omega)
    simp [Tr.cells] at f5
    have hkd : kindN T i = T.trips[i].kind := by simp [kindN, hi']
    have hmem : ∀ m (hm : m < w.length), decide ((i : Int) ∈ w.take (m + 1)) = (decide ((i : Int) ∈ w.take m) || decide (w[m] = (i : Int))) := fun m hm => by
      rw [List.take_succ_eq_append_getElem hm]
      simp only [List.mem_append, List.mem_singleton, Bool.decide_or]
      congr 1
      simp [eq_comm]
    by_cases hk : kind < 0
    all_goals
      simp [t1, t3, t8, b0, f1, f5, hk]
      refine floop_intro (fun z => z.d = [] ∧ z.H = A ∧ z.t 1 = .int .i64 kind ∧ z.t 2 = wv ∧ z.t 3 = .pointer (some ⟨H.next, 0, none⟩) ∧ z.t 8 = .int .i64 i ∧ z.t 7 = t 7 ∧ ∃ m : Nat, m ≤ w.length ∧ z.t 10 = .int .i64 m ∧ z.t 9 = .bool ((decide (kind < 0) || decide (kindN T i = kind)) && !decide ((i : Int) ∈ w.take m))) (fun z => w.length - (intOf (z.t 10)).toNat) ?_ ?_
      · exact ⟨rfl, rfl, by simp [t1], by simp [t2], by simp [t3], by simp [t8], by simp, 0, by simp, by simp, by simp [hk, hkd]⟩
      rintro ⟨u, _, A'⟩ ⟨rfl, hA', u1, u2, u3, u8, u7, m, hm, u10, u9⟩
      dsimp only at hA' u1 u2 u3 u8 u7 u10 u9
      subst hA'
      simp [u2, u10, hw.lenV]
      refine fcond_intro (fun hc => ?_) (fun hc => ?_)
      · have hm' : m < w.length := by simpa using hc
        obtain ⟨q, e1, e2⟩ := (hw.ge g).at hm'
        have hmm := hmem m hm'
        generalize hd : (decide (kind < 0) || decide (kindN T i = kind)) = b9 at u9
        cases b9
        · simp at u9
          simp [u2, u8, u9, u10, add_in (x := m) (y := 1) (by omega) (by omega)]
          exact ⟨⟨u1, u3, u7, m + 1, by omega, by omega⟩, by omega⟩
        · simp only [Bool.true_and] at u9
          generalize decide ((i : Int) ∈ w.take m) = b2 at u9 hmm
          cases b2
          · simp at u9
            simp [u2, u8, u9, u10, e1, e2, add_in (x := m) (y := 1) (by omega) (by omega)]
            simp at hmm
            exact ⟨⟨u1, u3, u7, m + 1, by omega, by omega, hmm.symm⟩, by omega⟩
          · simp at u9
            simp [u2, u8, u9, u10, add_in (x := m) (y := 1) (by omega) (by omega)]
            simp only [Bool.true_or, decide_eq_true_eq] at hmm
            exact ⟨⟨u1, u3, u7, m + 1, by omega, by omega, hmm⟩, by omega⟩
      · have hm' : m = w.length := by simp at hc; omega
        subst hm'
        rw [List.take_length] at u9
        have hok : okAll T kind w i = ((decide (kind < 0) || decide (kindN T i = kind)) && !decide ((i : Int) ∈ w)) := rfl
        rw [← hok] at u9
        have hs : numsOf (i + 1) (okAll T kind w) = if okAll T kind w i then numsOf i (okAll T kind w) ++ [(i : Int)] else numsOf i (okAll T kind w) := numsOf_succ
        generalize okAll T kind w i = b9 at u9 hs
        cases b9
        · simp [u9, u8, add_in (x := i) (y := 1) (by omega) (by omega)]
          simp at hs
          exact ⟨⟨g, by omega, u1, u2, u3, b0, i + 1, by omega, by omega, by rw [hs, u7]; exact hO⟩, by first | omega | (simp [t8]; omega)⟩
        · simp [u9, u8, u7]
          simp at hs
          have gN : Ge A' (A'.new (.cells true [.int .i64 i] 1)) := Ge.new _ _
          have hll := numsOf_bound (n := i) (f := okAll T kind w)
          refine fapp_own (lo := H.next + 1) (hO.ge gN) (slCells_new (x := .int .i64 i) (rw := true) (c := 1) (by simp)) rfl (by simp; omega) (by omega) (Nat.le_refl _) (by omega) (by simp; omega) fun u' D k1 k2 k3 k4 => ?_
          have hD : ∀ q, q < H.next + 1 → D.get q = A'.get q := fun q hq => by
            rw [k4 q (by simp; omega) (fun e => by have := (hO.names e).1; omega), gN.get q (by omega)]
          have := g.next
          simp [u8, add_in (x := i) (y := 1) (by omega) (by omega)]
          exact ⟨⟨⟨by omega, fun q hq => by rw [hD q (by omega), g.get q hq]⟩, by omega, u1, u2, u3, by rw [hD _ (by omega), b0], i + 1, by omega, by omega, by rw [hs]; simpa using k1⟩, by first | omega | (simp [t8]; omega)⟩
  · have hi' : i = T.trips.length := by simp at hc; omega
    subst hi'
    simp
    exact ⟨by simpa [allL] using hO, g⟩

end Go.Proofs.Ytohohnpjilinmaa

/-
  The contract of what lays a timetable with some of its trips alone.
-/
namespace Go.Proofs.Ytohohnpjilinmaa
open Go Go.Ab

theorem onlyT_take {T : Tab} {l : List Int} {i : Nat} (hi : i < l.length) (hx : (l[i]).toNat < T.trips.length) : (onlyT T (l.take (i + 1))).trips.flatMap Tr.cells = (onlyT T (l.take i)).trips.flatMap Tr.cells ++ T.trips[(l[i]).toNat].cells := by
  simp only [onlyT]
  rw [List.take_succ_eq_append_getElem hi, List.map_append, List.flatMap_append]
  simp [hx]

theorem only_spec {e s lv : Value} {T : Tab} {l : List Int} {H : Heap} (h : TabAt H e s T) (hl : IntsAt H lv l) (hx : ∀ x ∈ l, 0 ≤ x ∧ x.toNat < T.trips.length) (hlen : l.length ≤ 2 ^ 20) : AFun Try.prog 70 [tabV T e s, lv] H (fun r B => (∃ s', r = tabV T e s' ∧ TabAt B e s' (onlyT T l)) ∧ Ge H B) := by
  refine AFun.mk ok70 hm (Nat.le_of_ble_eq_true rfl) ?_
  have he := h.empty.one
  have hs := h.trips.one
  simp [a70, r70, he, hs]
  refine floop_intro (fun z => z.d = [] ∧ Ge H z.H ∧ H.next + 3 ≤ z.H.next ∧ z.t 1 = lv ∧ z.t 2 = .pointer (some ⟨H.next, 0, none⟩) ∧ z.t 4 = .pointer (some ⟨H.next + 1, 0, none⟩) ∧ z.t 5 = .pointer (some ⟨H.next + 2, 0, none⟩) ∧ z.H.get H.next = .cells true [.int .i64 T.places, .int .i64 T.layover, e, s] 4 ∧
    z.H.get (H.next + 1) = .cells true [.int .i64 0, .int .i64 0, .slice none 0 0, .slice none 0 0] 4 ∧
    ∃ (i : Nat) (s' : Value), i ≤ l.length ∧ z.t 6 = .int .i64 i ∧ z.H.get (H.next + 2) = .cells true [.int .i64 T.places, .int .i64 T.layover, e, s'] 4 ∧ OwnS z.H (H.next + 3) 6 s' i ((onlyT T (l.take i)).trips.flatMap Tr.cells)) (fun z => l.length - (intOf (z.t 6)).toNat) ?_ ?_
  · refine ⟨rfl, ?_, by simp, by simp, by simp, by simp, by simp, by simp, by simp, 0, .slice none 0 0, by simp, by simp, by simp, .inl ⟨rfl, rfl, by simp [onlyT]⟩⟩
    refine Ge.setNew (Ge.setNew (Ge.newOf (Ge.newOf (Ge.new _ _) _) _) (by omega) _) (by omega) _
  rintro ⟨t, _, A⟩ ⟨rfl, gA, hn, t1, t2, t4, t5, b0, b1, i, s', hi, t6, b2, hO⟩
  dsimp only at gA hn t1 t2 t4 t5 b0 b1 t6 b2 hO
  simp [t1, t6, hl.lenV]
  refine fcond_intro (fun hc => ?_) (fun hc => ?_)
  · have hi' : i < l.length := by simpa using hc
    obtain ⟨x0, x1⟩ := hx _ (List.getElem_mem hi')
    obtain ⟨q, e1, e2⟩ := (hl.ge (gA.grow 14)).at hi'
    obtain ⟨n1, o1, f1, l1, f2, _⟩ := (h.trips.ge gA).atI x0 x1
    simp [t1, t2, t5, t6, b0, b2, e1, e2, f1, f2, Tr.val]
    have gA2 : Ge A (({ get := A.get, next := A.next + 14 } : Heap).set (A.next + 10) (.cells true T.trips[l[i].toNat].cells 6)) := Ge.setNew (Ge.more A 14) (by omega) _
    refine fapp_ownS' (lo := H.next + 3) (len := i) (xs := T.trips[l[i].toNat].cells) (hO.ge gA2) ?_ rfl rfl (by omega) (by omega) (by omega) (by omega) fun u C k1 k2 k3 k4 => ?_
    · simp [slCells, rdL, Tr.cells]
    have hgA := gA.next
    have hC : ∀ m, m < H.next + 3 → C.get m = A.get m := fun m hm => by
      have e1 : m ≠ A.next + 10 := by omega
      rw [k4 m (by omega) (fun e => by have := (hO.names e).1; omega)]
      simp [e1]
    have c2 := (hC (H.next + 2) (by omega)).trans b2
    have hu := k1.one
    have ou := one_cells hu
    simp [t5, c2, hu, ou, t6, add_in (x := i) (y := 1) (by omega) (by omega)]
    have n0 : H.next ≠ H.next + 2 := by omega
    have n1' : H.next + 1 ≠ H.next + 2 := by omega
    refine ⟨⟨Ge.setNew ⟨by omega, fun m hm => by rw [hC m (by omega), gA.get m hm]⟩ (by omega) _, by omega, t1, t2, t4, by rw [hC _ (by omega), b0], by rw [hC _ (by omega), b1], i + 1, by omega, by omega, ?_⟩, by omega⟩
    rw [onlyT_take hi' x1]
    refine k1.keep (by simp) fun m hm => ?_
    have := (k1.names hm).1
    have e1 : m ≠ H.next + 2 := by omega
    simp [e1]
  · have hi' : i = l.length := by simp at hc; omega
    subst hi'
    rw [List.take_length] at hO
    have hs' := hO.one
    have hb := onlyT_len (T := T) (l := l)
    have os' := one_cells hs'
    have oe := one_cells he
    simp [t4, t5, b1, b2, he, hs']
    refine ⟨⟨h.empty.ge (Ge.setNew gA (by omega) _), ⟨?_, by omega⟩⟩, Ge.setNew gA (by omega) _⟩
    have hk := hO.keep (B := A.set (H.next + 1) (.cells true [.int .i64 T.places, .int .i64 T.layover, e, s'] 4)) (by simp) fun m hm => by
      have := (hO.names hm).1
      have e1 : m ≠ H.next + 1 := by omega
      simp [e1]
    rw [hb]
    exact hk.slr

end Go.Proofs.Ytohohnpjilinmaa

/-
  The contract of what gives the fewest buses of each kind, by the program.
-/
namespace Go.Proofs.Ytohohnpjilinmaa
open Go Go.Ab

def fewK (T : Tab) (w : List Int) (k : Nat) : Nat := (cutL (onlyT T (allL T k w))).length
def fewTo (T : Tab) (w : List Int) (k : Nat) : List Value := (List.range 3).map fun j => .int .i64 (if j < k then (fewK T w j : Int) else 0)

theorem allL_ok {T : Tab} {kind : Int} {w : List Int} : ∀ x ∈ allL T kind w, 0 ≤ x ∧ x.toNat < T.trips.length := by
  intro x hx
  obtain ⟨k, h1, _, rfl⟩ := numsOf_mem.1 hx
  exact ⟨by omega, by simpa using h1⟩

theorem fewTo_next {T : Tab} {w : List Int} {k : Nat} (hk : k < 3) : wrL (fewTo T w k) k [.int .i64 (fewK T w k)] = fewTo T w (k + 1) := by
  rcases (by omega : k = 0 ∨ k = 1 ∨ k = 2) with rfl | rfl | rfl <;> simp [fewTo, wrL, List.range_succ]

theorem fewestS_spec {e s wv : Value} {T : Tab} {w : List Int} {H : Heap} (h : TabAt H e s T) (hT : Valid T) (hth : thin T = true) (hw : IntsAt H wv w) : AFun Try.prog 45 [tabV T e s, wv] H (fun r B => r = .tuple #[.agg #[.int .i64 (fewK T w 0), .int .i64 (fewK T w 1), .int .i64 (fewK T w 2)], .bool true] ∧ Ge H B) := by
  refine AFun.mk ok45 hm (Nat.le_of_ble_eq_true rfl) ?_
  have hfew := hT.few
  simp [a45, r45]
  refine floop_intro (fun z => z.d = [] ∧ Ge H z.H ∧ H.next + 3 ≤ z.H.next ∧ z.t 1 = wv ∧ z.t 2 = .pointer (some ⟨H.next, 0, none⟩) ∧ z.t 4 = .pointer (some ⟨H.next + 1, 0, none⟩) ∧ z.t 6 = .pointer (some ⟨H.next + 2, 0, none⟩) ∧ z.H.get H.next = .cells true [.int .i64 T.places, .int .i64 T.layover, e, s] 4 ∧
    z.H.get (H.next + 1) = .cells true [.int .i64 0, .int .i64 0, .int .i64 0] 3 ∧ ∃ k : Nat, k ≤ 3 ∧ z.t 7 = .int .i64 k ∧ z.H.get (H.next + 2) = .cells true (fewTo T w k) 3) (fun z => 3 - (intOf (z.t 7)).toNat) ?_ ?_
  · exact ⟨rfl, ((Ge.new _ _).newOf _).newOf _, by simp, by simp, by simp, by simp, by simp, by simp, by simp, 0, by simp, by simp, by simp [fewTo, List.range_succ]⟩
  rintro ⟨t, _, A⟩ ⟨rfl, gA, hn, t1, t2, t4, t6, b0, b1, k, hk, t7, b2⟩
  dsimp only at gA hn t1 t2 t4 t6 b0 b1 t7 b2
  simp [t7]
  refine fcond_intro (fun hc => ?_) (fun hc => ?_)
  · have hk' : k < 3 := by simp at hc; omega
    simp [t1, t2, t7, b0]
    refine fcall_fun (all_spec (h.ge (gA.grow 13)) (by omega) (hw.ge (gA.grow 13))) ?_
    rintro v1 H1 ⟨hO, g1⟩
    have n1 := g1.next
    simp at n1
    have G1 := (Ge.more A 13).trans g1
    have hlen : (allL T k w).length ≤ 12 := Nat.le_trans numsOf_bound hfew
    have hi1 : IntsAt H1 v1 (allL T k w) := ⟨by simpa using hO.slr, by omega⟩
    have d0 := G1.got (by omega) b0
    simp [t2, d0]
    refine fcall_fun (only_spec (h.ge (gA.trans G1)) hi1 allL_ok (by omega)) ?_
    rintro _ H2 ⟨⟨s2, rfl, u2⟩, g2⟩
    simp
    have hvX : tabV (onlyT T (allL T k w)) e s2 = tabV T e s2 := rfl
    have htb := table_spec u2 (only_thin hth)
    rw [hvX] at htb
    refine fcall_fun htb ?_
    rintro _ H3 ⟨⟨e3, s3, rfl, u3⟩, g3⟩
    simp
    refine fcall_fun (cut_spec u3) ?_
    rintro _ H4 ⟨g4, _, hcut⟩
    obtain ⟨cv, rfl, hcv⟩ := hcut (checkT_zero.2 (only_valid hT))
    have G4 := G1.trans ((g2.trans g3).trans g4)
    have n4 := G4.next
    have c0 := G4.got (by omega) b0
    have c1 := G4.got (by omega) b1
    have c2 := G4.got (by omega) b2
    have hI : iarV 3 1 (.pointer (some ⟨H.next + 2, 0, none⟩)) (.int .i64 k) = some (.pointer (some ⟨H.next + 2, k, none⟩)) := by
      rw [iarV_in (by omega) (by omega)]; simp
    have hwr := fewTo_next (T := T) (w := w) hk'
    have hfl : (fewTo T w k).length = 3 := by simp [fewTo]
    simp only [fewK] at hwr
    generalize fewTo T w k = cs at c2 hwr hfl
    have hk3 : k + 1 ≤ 3 := hk'
    simp [t6, t7, hI, c2, hcv.lenV, hwr, hfl, hk3, add_in (x := k) (y := 1) (by omega) (by omega)]
    exact ⟨⟨Ge.setNew (gA.trans G4) (by omega) _, by omega, t1, t2, t4, c0, c1, k + 1, by omega, by omega, rfl⟩, by omega⟩
  · have hk' : k = 3 := by simp at hc; omega
    subst hk'
    have e3 : fewTo T w 3 = [.int .i64 (fewK T w 0), .int .i64 (fewK T w 1), .int .i64 (fewK T w 2)] := by simp [fewTo, List.range_succ]
    rw [e3] at b2
    simp [t4, t6, b1, b2]
    exact Ge.setNew gA (by omega) _

end Go.Proofs.Ytohohnpjilinmaa
