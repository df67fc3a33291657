/-
  Joined texts of a calculus of abstract memory, and of contracts of the program's functions.
-/
import Derived.Test.YtnbkclhjpekkcaaJ11
import Derived.Test.YtnbkclhjpekkcaaChecked
import Derived.KernelRfl
/-
  The code of functions of the package, as the calculus has it.
-/
namespace Go.Proofs.Ytnbkclhjpekkcaa
open Go Go.Ab

/-- layover/layoverlaw01.RunMore -/
def a12 : ACode :=
  (.seq
   (.region [⟨(some 2), (.box (.t 0)), none⟩, ⟨(some 3), (.box (.t 1)), none⟩, ⟨(some 4), (.mov (.c (.bool false))), none⟩])
   (.seq
    (.region [⟨(some 16), (.ld true 4 (.t 2)), none⟩, ⟨(some 5), (.new [(.int .i64 0), (.int .i64 0), (.slice none 0 0), (.slice none 0 0)]), none⟩, ⟨none, (.st 4 (.t 5) (.t 16)), none⟩])
    (.seq
     (.draw 9 [⟨⟨(some 17), (.bsl 0 [] []), none⟩, 0, false, []⟩, ⟨⟨(some 18), (.fa 3 (.t 2)), none⟩, 1, false, []⟩, ⟨⟨(some 19), (.ld false 1 (.t 18)), none⟩, 2, false, []⟩, ⟨⟨(some 21), (.ld true 6 (.t 3)), none⟩, 4, false, []⟩, ⟨⟨(some 22), (.bsl 1 [(.int .i64 0), (.int .i64 0), (.int .i64 0), (.int .i64 0), (.int .i64 0), (.int .i64 0)] [(0, 6, (.t 21))]), none⟩, 5, false, []⟩, ⟨⟨(some 20), (.app 6 48 (.t 17) (.t 19)), none⟩, 3, true, [4]⟩, ⟨⟨(some 23), (.app 6 48 (.t 20) (.t 22)), none⟩, 6, true, []⟩, ⟨⟨(some 24), (.fa 3 (.t 5)), none⟩, 7, false, []⟩, ⟨⟨none, (.st 1 (.t 24) (.t 23)), none⟩, 8, true, []⟩])
     (.seq
      (.seq
       (.region [⟨(some 25), (.ld true 4 (.t 2)), none⟩, ⟨(some 26), (.call (.c (.func (.func 43) #[] #[])) [(.t 25)]), none⟩, ⟨(some 27), (.not (.t 26)), none⟩, ⟨(some 28), (.mov (.t 27)), none⟩, ⟨(some 29), (.ld true 4 (.t 5)), (some (28, false))⟩, ⟨(some 30), (.call (.c (.func (.func 43) #[] #[])) [(.t 29)]), (some (28, false))⟩, ⟨(some 31), (.not (.t 30)), (some (28, false))⟩, ⟨(some 32), (.pick (.t 28) (.c (.bool true)) (.t 31)), none⟩])
       (.cond (.t 32)
        (.seq
         (.region [⟨(some 33), (.call (.c (.func (.func 17) #[] #[])) []), none⟩, ⟨(some 4), (.mov (.t 33)), none⟩])
         .ret)
        .skip))
      (.seq
       (.region [⟨(some 35), (.ld true 4 (.t 2)), none⟩, ⟨(some 36), (.call (.c (.func (.func 19) #[] #[])) [(.t 35)]), none⟩, ⟨(some 37), (.call (.c (.func (.func 26) #[] #[])) [(.t 36)]), none⟩, ⟨(some 34), (.mov (.t 37)), none⟩, ⟨(some 38), (.ext (.t 34) 0), none⟩, ⟨(some 39), (.ext (.t 34) 1), none⟩, ⟨(some 6), (.mov (.t 38)), none⟩, ⟨(some 7), (.mov (.t 39)), none⟩])
       (.seq
        (.region [⟨(some 41), (.ld true 4 (.t 5)), none⟩, ⟨(some 42), (.call (.c (.func (.func 19) #[] #[])) [(.t 41)]), none⟩, ⟨(some 43), (.call (.c (.func (.func 26) #[] #[])) [(.t 42)]), none⟩, ⟨(some 40), (.mov (.t 43)), none⟩, ⟨(some 44), (.ext (.t 40) 0), none⟩, ⟨(some 45), (.ext (.t 40) 1), none⟩, ⟨(some 8), (.mov (.t 44)), none⟩, ⟨(some 9), (.mov (.t 45)), none⟩])
        (.seq
         (.region [⟨(some 47), (.ld true 4 (.t 5)), none⟩, ⟨(some 48), (.call (.c (.func (.func 19) #[] #[])) [(.t 47)]), none⟩, ⟨(some 49), (.call (.c (.func (.func 20) #[] #[])) [(.t 48)]), none⟩, ⟨(some 46), (.mov (.t 49)), none⟩, ⟨(some 50), (.ext (.t 46) 0), none⟩, ⟨(some 51), (.ext (.t 46) 1), none⟩, ⟨(some 10), (.mov (.t 50)), none⟩, ⟨(some 11), (.mov (.t 51)), none⟩])
         (.seq
          (.seq
           (.region [⟨(some 52), (.mov (.t 7)), none⟩, ⟨(some 53), (.bin .neq (.t 52) (.c (.int .i64 0))), none⟩, ⟨(some 54), (.mov (.t 53)), none⟩, ⟨(some 55), (.mov (.t 9)), (some (54, false))⟩, ⟨(some 56), (.bin .neq (.t 55) (.c (.int .i64 0))), (some (54, false))⟩, ⟨(some 57), (.pick (.t 54) (.c (.bool true)) (.t 56)), none⟩, ⟨(some 58), (.mov (.t 57)), none⟩, ⟨(some 59), (.mov (.t 11)), (some (58, false))⟩, ⟨(some 60), (.bin .neq (.t 59) (.c (.int .i64 0))), (some (58, false))⟩, ⟨(some 61), (.pick (.t 58) (.c (.bool true)) (.t 60)), none⟩, ⟨(some 62), (.mov (.t 61)), none⟩, ⟨(some 63), (.mov (.t 10)), (some (62, false))⟩, ⟨(some 64), (.len (.t 63)), (some (62, false))⟩, ⟨(some 65), (.fa 3 (.t 5)), (some (62, false))⟩, ⟨(some 66), (.ld false 1 (.t 65)), (some (62, false))⟩, ⟨(some 67), (.len (.t 66)), (some (62, false))⟩, ⟨(some 68), (.bin .neq (.t 64) (.t 67)), (some (62, false))⟩, ⟨(some 69), (.pick (.t 62) (.c (.bool true)) (.t 68)), none⟩, ⟨(some 70), (.mov (.t 69)), none⟩, ⟨(some 71), (.mov (.t 8)), (some (70, false))⟩, ⟨(some 72), (.len (.t 71)), (some (70, false))⟩, ⟨(some 73), (.mov (.t 6)), (some (70, false))⟩, ⟨(some 74), (.len (.t 73)), (some (70, false))⟩, ⟨(some 75), (.bin .add (.t 74) (.c (.int .i64 1))), (some (70, false))⟩, ⟨(some 76), (.bin .gtr (.t 72) (.t 75)), (some (70, false))⟩, ⟨(some 77), (.pick (.t 70) (.c (.bool true)) (.t 76)), none⟩])
           (.cond (.t 77)
            (.seq
             (.region [⟨(some 4), (.mov (.c (.bool false))), none⟩])
             .ret)
            .skip))
          (.seq
           (.region [⟨(some 12), (.mov (.c (.bool true))), none⟩])
           (.seq
            (.seq
             (.region [⟨(some 13), (.mov (.c (.int .i64 0))), none⟩])
             (.block 0
              (.loop
               (.seq
                (.seq
                 (.region [⟨(some 78), (.mov (.t 13)), none⟩, ⟨(some 79), (.mov (.t 10)), none⟩, ⟨(some 80), (.len (.t 79)), none⟩, ⟨(some 81), (.bin .lss (.t 78) (.t 80)), none⟩])
                 (.cond (.t 81)
                  .skip
                  (.exit 0)))
                (.seq
                 (.block 1
                  (.seq
                   (.region [⟨(some 14), (.mov (.c (.int .i64 0))), none⟩])
                   (.block 2
                    (.loop
                     (.seq
                      (.seq
                       (.region [⟨(some 84), (.mov (.t 14)), none⟩, ⟨(some 85), (.mov (.t 10)), none⟩, ⟨(some 86), (.mov (.t 13)), none⟩, ⟨(some 87), (.isl 1 (.t 85) (.t 86)), none⟩, ⟨(some 88), (.ld false 1 (.t 87)), none⟩, ⟨(some 89), (.len (.t 88)), none⟩, ⟨(some 90), (.bin .lss (.t 84) (.t 89)), none⟩])
                       (.cond (.t 90)
                        .skip
                        (.exit 2)))
                      (.seq
                       (.block 3
                        (.draw 15 [⟨⟨(some 93), (.mov (.t 12)), none⟩, 0, false, []⟩, ⟨⟨(some 94), (.mov (.t 93)), none⟩, 1, false, []⟩, ⟨⟨(some 95), (.mov (.t 10)), (some (94, true))⟩, 2, false, []⟩, ⟨⟨(some 96), (.mov (.t 13)), (some (94, true))⟩, 3, false, []⟩, ⟨⟨(some 97), (.isl 1 (.t 95) (.t 96)), (some (94, true))⟩, 4, false, []⟩, ⟨⟨(some 98), (.ld false 1 (.t 97)), (some (94, true))⟩, 5, false, []⟩, ⟨⟨(some 99), (.mov (.t 14)), (some (94, true))⟩, 6, false, []⟩, ⟨⟨(some 100), (.isl 1 (.t 98) (.t 99)), (some (94, true))⟩, 7, false, []⟩, ⟨⟨(some 101), (.ld false 1 (.t 100)), (some (94, true))⟩, 8, false, []⟩, ⟨⟨(some 102), (.fa 3 (.t 2)), (some (94, true))⟩, 9, false, []⟩, ⟨⟨(some 103), (.ld false 1 (.t 102)), (some (94, true))⟩, 10, false, []⟩, ⟨⟨(some 104), (.len (.t 103)), (some (94, true))⟩, 11, false, []⟩, ⟨⟨(some 105), (.bin .neq (.t 101) (.t 104)), (some (94, true))⟩, 12, false, []⟩, ⟨⟨(some 106), (.pick (.t 94) (.t 105) (.c (.bool false))), none⟩, 13, false, []⟩, ⟨⟨(some 12), (.mov (.t 106)), none⟩, 14, false, []⟩]))
                       (.region [⟨(some 91), (.mov (.t 14)), none⟩, ⟨(some 92), (.bin .add (.t 91) (.c (.int .i64 1))), none⟩, ⟨(some 14), (.mov (.t 92)), none⟩])))))))
                 (.region [⟨(some 82), (.mov (.t 13)), none⟩, ⟨(some 83), (.bin .add (.t 82) (.c (.int .i64 1))), none⟩, ⟨(some 13), (.mov (.t 83)), none⟩]))))))
            (.seq
             (.region [⟨(some 107), (.mov (.t 10)), none⟩, ⟨(some 108), (.fa 3 (.t 2)), none⟩, ⟨(some 109), (.ld false 1 (.t 108)), none⟩, ⟨(some 110), (.len (.t 109)), none⟩, ⟨(some 111), (.isl 1 (.t 107) (.t 110)), none⟩, ⟨(some 112), (.ld false 1 (.t 111)), none⟩, ⟨(some 113), (.len (.t 112)), none⟩, ⟨(some 114), (.bin .eql (.t 113) (.c (.int .i64 0))), none⟩, ⟨(some 15), (.mov (.t 114)), none⟩])
             (.seq
              (.region [⟨(some 115), (.mov (.t 8)), none⟩, ⟨(some 116), (.len (.t 115)), none⟩, ⟨(some 117), (.mov (.t 6)), none⟩, ⟨(some 118), (.len (.t 117)), none⟩, ⟨(some 119), (.bin .geq (.t 116) (.t 118)), none⟩, ⟨(some 120), (.mov (.t 119)), none⟩, ⟨(some 121), (.mov (.t 12)), (some (120, false))⟩, ⟨(some 122), (.not (.t 121)), (some (120, false))⟩, ⟨(some 123), (.mov (.t 122)), (some (120, false))⟩, ⟨(some 124), (.mov (.t 15)), (some (123, true))⟩, ⟨(some 125), (.not (.t 124)), (some (123, true))⟩, ⟨(some 126), (.pick (.t 123) (.t 125) (.c (.bool false))), (some (120, false))⟩, ⟨(some 127), (.pick (.t 120) (.c (.bool true)) (.t 126)), none⟩, ⟨(some 128), (.mov (.t 127)), none⟩, ⟨(some 129), (.call (.c (.func (.func 17) #[] #[])) []), (some (128, true))⟩, ⟨(some 130), (.pick (.t 128) (.t 129) (.c (.bool false))), none⟩, ⟨(some 4), (.mov (.t 130)), none⟩])
              .ret))))))))))))
def r12 : List AOp := [(.mov (.t 4))]
theorem ok12 : FnOk Try.prog 12 Try.f12.ntmps a12 r12 := ⟨Try.f12, Try.func12, by kernel_rfl, by kernel_rfl, by kernel_rfl, fun asv w => by simp⟩

/-- layover/layoverlaw01.RunLater -/
def a14 : ACode :=
  (.seq
   (.region [⟨(some 2), (.box (.t 0)), none⟩, ⟨(some 4), (.mov (.c (.bool false))), none⟩])
   (.seq
    (.seq
     (.region [⟨(some 16), (.ld true 4 (.t 2)), none⟩, ⟨(some 17), (.call (.c (.func (.func 43) #[] #[])) [(.t 16)]), none⟩, ⟨(some 18), (.not (.t 17)), none⟩])
     (.cond (.t 18)
      (.seq
       (.region [⟨(some 19), (.call (.c (.func (.func 17) #[] #[])) []), none⟩, ⟨(some 4), (.mov (.t 19)), none⟩])
       .ret)
      .skip))
    (.seq
     (.region [⟨(some 20), (.ld true 4 (.t 2)), none⟩, ⟨(some 5), (.new [(.int .i64 0), (.int .i64 0), (.slice none 0 0), (.slice none 0 0)]), none⟩, ⟨none, (.st 4 (.t 5) (.t 20)), none⟩])
     (.seq
      (.region [⟨(some 21), (.bsl 0 [] []), none⟩, ⟨(some 22), (.fa 3 (.t 2)), none⟩, ⟨(some 23), (.ld false 1 (.t 22)), none⟩, ⟨(some 24), (.app 6 48 (.t 21) (.t 23)), none⟩, ⟨(some 25), (.fa 3 (.t 5)), none⟩, ⟨none, (.st 1 (.t 25) (.t 24)), none⟩])
      (.seq
       (.seq
        (.region [⟨(some 6), (.mov (.c (.int .i64 0))), none⟩])
        (.block 0
         (.loop
          (.seq
           (.seq
            (.region [⟨(some 26), (.mov (.t 6)), none⟩, ⟨(some 27), (.fa 3 (.t 5)), none⟩, ⟨(some 28), (.ld false 1 (.t 27)), none⟩, ⟨(some 29), (.len (.t 28)), none⟩, ⟨(some 30), (.bin .lss (.t 26) (.t 29)), none⟩])
            (.cond (.t 30)
             .skip
             (.exit 0)))
           (.seq
            (.block 1
             (.region [⟨(some 33), (.fa 3 (.t 5)), none⟩, ⟨(some 34), (.ld false 1 (.t 33)), none⟩, ⟨(some 35), (.mov (.t 6)), none⟩, ⟨(some 36), (.isl 6 (.t 34) (.t 35)), none⟩, ⟨(some 37), (.fa 2 (.t 36)), none⟩, ⟨(some 38), (.ld false 1 (.t 37)), none⟩, ⟨(some 39), (.mov (.t 1)), none⟩, ⟨(some 40), (.cvi .i64 (.t 39)), none⟩, ⟨(some 41), (.bin .rem (.t 40) (.c (.int .i64 500))), none⟩, ⟨(some 42), (.bin .add (.t 38) (.t 41)), none⟩, ⟨(some 43), (.isl 6 (.t 34) (.t 35)), none⟩, ⟨(some 44), (.fa 2 (.t 43)), none⟩, ⟨none, (.st 1 (.t 44) (.t 42)), none⟩]))
            (.region [⟨(some 31), (.mov (.t 6)), none⟩, ⟨(some 32), (.bin .add (.t 31) (.c (.int .i64 1))), none⟩, ⟨(some 6), (.mov (.t 32)), none⟩]))))))
       (.seq
        (.seq
         (.region [⟨(some 45), (.ld true 4 (.t 5)), none⟩, ⟨(some 46), (.call (.c (.func (.func 47) #[] #[])) [(.t 45)]), none⟩, ⟨(some 47), (.bin .neq (.t 46) (.c (.int .i64 0))), none⟩])
         (.cond (.t 47)
          (.seq
           (.region [⟨(some 48), (.call (.c (.func (.func 17) #[] #[])) []), none⟩, ⟨(some 4), (.mov (.t 48)), none⟩])
           .ret)
          .skip))
        (.seq
         (.region [⟨(some 50), (.ld true 4 (.t 2)), none⟩, ⟨(some 51), (.call (.c (.func (.func 19) #[] #[])) [(.t 50)]), none⟩, ⟨(some 52), (.call (.c (.func (.func 20) #[] #[])) [(.t 51)]), none⟩, ⟨(some 49), (.mov (.t 52)), none⟩, ⟨(some 53), (.ext (.t 49) 0), none⟩, ⟨(some 54), (.ext (.t 49) 1), none⟩, ⟨(some 7), (.mov (.t 53)), none⟩, ⟨(some 8), (.mov (.t 54)), none⟩])
         (.seq
          (.region [⟨(some 56), (.ld true 4 (.t 5)), none⟩, ⟨(some 57), (.call (.c (.func (.func 19) #[] #[])) [(.t 56)]), none⟩, ⟨(some 58), (.call (.c (.func (.func 20) #[] #[])) [(.t 57)]), none⟩, ⟨(some 55), (.mov (.t 58)), none⟩, ⟨(some 59), (.ext (.t 55) 0), none⟩, ⟨(some 60), (.ext (.t 55) 1), none⟩, ⟨(some 9), (.mov (.t 59)), none⟩, ⟨(some 10), (.mov (.t 60)), none⟩])
          (.seq
           (.region [⟨(some 62), (.ld true 4 (.t 2)), none⟩, ⟨(some 63), (.call (.c (.func (.func 19) #[] #[])) [(.t 62)]), none⟩, ⟨(some 64), (.call (.c (.func (.func 26) #[] #[])) [(.t 63)]), none⟩, ⟨(some 61), (.mov (.t 64)), none⟩, ⟨(some 65), (.ext (.t 61) 0), none⟩, ⟨(some 66), (.ext (.t 61) 1), none⟩, ⟨(some 11), (.mov (.t 65)), none⟩, ⟨(some 12), (.mov (.t 66)), none⟩])
           (.seq
            (.region [⟨(some 68), (.ld true 4 (.t 5)), none⟩, ⟨(some 69), (.call (.c (.func (.func 19) #[] #[])) [(.t 68)]), none⟩, ⟨(some 70), (.call (.c (.func (.func 26) #[] #[])) [(.t 69)]), none⟩, ⟨(some 67), (.mov (.t 70)), none⟩, ⟨(some 71), (.ext (.t 67) 0), none⟩, ⟨(some 72), (.ext (.t 67) 1), none⟩, ⟨(some 13), (.mov (.t 71)), none⟩, ⟨(some 14), (.mov (.t 72)), none⟩])
            (.seq
             (.seq
              (.region [⟨(some 73), (.mov (.t 8)), none⟩, ⟨(some 74), (.bin .neq (.t 73) (.c (.int .i64 0))), none⟩, ⟨(some 75), (.mov (.t 74)), none⟩, ⟨(some 76), (.mov (.t 10)), (some (75, false))⟩, ⟨(some 77), (.bin .neq (.t 76) (.c (.int .i64 0))), (some (75, false))⟩, ⟨(some 78), (.pick (.t 75) (.c (.bool true)) (.t 77)), none⟩, ⟨(some 79), (.mov (.t 78)), none⟩, ⟨(some 80), (.mov (.t 12)), (some (79, false))⟩, ⟨(some 81), (.bin .neq (.t 80) (.c (.int .i64 0))), (some (79, false))⟩, ⟨(some 82), (.pick (.t 79) (.c (.bool true)) (.t 81)), none⟩, ⟨(some 83), (.mov (.t 82)), none⟩, ⟨(some 84), (.mov (.t 14)), (some (83, false))⟩, ⟨(some 85), (.bin .neq (.t 84) (.c (.int .i64 0))), (some (83, false))⟩, ⟨(some 86), (.pick (.t 83) (.c (.bool true)) (.t 85)), none⟩, ⟨(some 87), (.mov (.t 86)), none⟩, ⟨(some 88), (.mov (.t 7)), (some (87, false))⟩, ⟨(some 89), (.len (.t 88)), (some (87, false))⟩, ⟨(some 90), (.mov (.t 9)), (some (87, false))⟩, ⟨(some 91), (.len (.t 90)), (some (87, false))⟩, ⟨(some 92), (.bin .neq (.t 89) (.t 91)), (some (87, false))⟩, ⟨(some 93), (.pick (.t 87) (.c (.bool true)) (.t 92)), none⟩, ⟨(some 94), (.mov (.t 93)), none⟩, ⟨(some 95), (.mov (.t 11)), (some (94, false))⟩, ⟨(some 96), (.len (.t 95)), (some (94, false))⟩, ⟨(some 97), (.mov (.t 13)), (some (94, false))⟩, ⟨(some 98), (.len (.t 97)), (some (94, false))⟩, ⟨(some 99), (.bin .neq (.t 96) (.t 98)), (some (94, false))⟩, ⟨(some 100), (.pick (.t 94) (.c (.bool true)) (.t 99)), none⟩])
              (.cond (.t 100)
               (.seq
                (.region [⟨(some 4), (.mov (.c (.bool false))), none⟩])
                .ret)
               .skip))
             (.seq
              (.seq
               (.region [⟨(some 15), (.mov (.c (.int .i64 0))), none⟩])
               (.block 2
                (.loop
                 (.seq
                  (.seq
                   (.region [⟨(some 101), (.mov (.t 15)), none⟩, ⟨(some 102), (.mov (.t 7)), none⟩, ⟨(some 103), (.len (.t 102)), none⟩, ⟨(some 104), (.bin .lss (.t 101) (.t 103)), none⟩])
                   (.cond (.t 104)
                    .skip
                    (.exit 2)))
                  (.seq
                   (.block 3
                    (.seq
                     (.draw 10 [⟨⟨(some 107), (.mov (.t 7)), none⟩, 0, false, []⟩, ⟨⟨(some 108), (.mov (.t 15)), none⟩, 1, false, []⟩, ⟨⟨(some 109), (.isl 1 (.t 107) (.t 108)), none⟩, 2, false, []⟩, ⟨⟨(some 110), (.ld false 1 (.t 109)), none⟩, 3, false, []⟩, ⟨⟨(some 111), (.mov (.t 9)), none⟩, 4, false, []⟩, ⟨⟨(some 112), (.mov (.t 15)), none⟩, 5, false, []⟩, ⟨⟨(some 113), (.isl 1 (.t 111) (.t 112)), none⟩, 6, false, []⟩, ⟨⟨(some 114), (.ld false 1 (.t 113)), none⟩, 7, false, []⟩, ⟨⟨(some 115), (.call (.c (.func (.func 22) #[] #[])) [(.t 110), (.t 114)]), none⟩, 8, true, []⟩, ⟨⟨(some 116), (.not (.t 115)), none⟩, 9, false, []⟩])
                     (.cond (.t 116)
                      (.seq
                       (.region [⟨(some 4), (.mov (.c (.bool false))), none⟩])
                       .ret)
                      .skip)))
                   (.region [⟨(some 105), (.mov (.t 15)), none⟩, ⟨(some 106), (.bin .add (.t 105) (.c (.int .i64 1))), none⟩, ⟨(some 15), (.mov (.t 106)), none⟩]))))))
              (.seq
               (.region [⟨(some 117), (.ld true 4 (.t 5)), none⟩, ⟨(some 118), (.call (.c (.func (.func 19) #[] #[])) [(.t 117)]), none⟩, ⟨(some 119), (.mov (.t 11)), none⟩, ⟨(some 120), (.call (.c (.func (.func 28) #[] #[])) [(.t 119)]), none⟩, ⟨(some 121), (.call (.c (.func (.func 27) #[] #[])) [(.t 118), (.t 120)]), none⟩, ⟨(some 122), (.mov (.t 121)), none⟩, ⟨(some 123), (.call (.c (.func (.func 17) #[] #[])) []), (some (122, true))⟩, ⟨(some 124), (.pick (.t 122) (.t 123) (.c (.bool false))), none⟩, ⟨(some 4), (.mov (.t 124)), none⟩])
               .ret)))))))))))))
def r14 : List AOp := [(.mov (.t 4))]
theorem ok14 : FnOk Try.prog 14 Try.f14.ntmps a14 r14 := ⟨Try.f14, Try.func14, by kernel_rfl, by kernel_rfl, by kernel_rfl, fun asv w => by simp⟩

/-- layover/layoverlaw01.RunKinds -/
def a15 : ACode :=
  (.seq
   (.region [⟨(some 1), (.box (.t 0)), none⟩, ⟨(some 2), (.mov (.c (.bool false))), none⟩])
   (.seq
    (.seq
     (.region [⟨(some 7), (.ld true 4 (.t 1)), none⟩, ⟨(some 8), (.call (.c (.func (.func 43) #[] #[])) [(.t 7)]), none⟩, ⟨(some 9), (.not (.t 8)), none⟩])
     (.cond (.t 9)
      (.seq
       (.region [⟨(some 10), (.call (.c (.func (.func 17) #[] #[])) []), none⟩, ⟨(some 2), (.mov (.t 10)), none⟩])
       .ret)
      .skip))
    (.seq
     (.region [⟨(some 12), (.ld true 4 (.t 1)), none⟩, ⟨(some 13), (.call (.c (.func (.func 19) #[] #[])) [(.t 12)]), none⟩, ⟨(some 14), (.call (.c (.func (.func 26) #[] #[])) [(.t 13)]), none⟩, ⟨(some 11), (.mov (.t 14)), none⟩, ⟨(some 15), (.ext (.t 11) 0), none⟩, ⟨(some 16), (.ext (.t 11) 1), none⟩, ⟨(some 3), (.mov (.t 15)), none⟩, ⟨(some 4), (.mov (.t 16)), none⟩])
     (.seq
      (.region [⟨(some 18), (.ld true 4 (.t 1)), none⟩, ⟨(some 19), (.call (.c (.func (.func 45) #[] #[])) [(.t 18), (.c (.slice none 0 0))]), none⟩, ⟨(some 17), (.mov (.t 19)), none⟩, ⟨(some 20), (.ext (.t 17) 0), none⟩, ⟨(some 21), (.ext (.t 17) 1), none⟩, ⟨(some 5), (.new [(.int .i64 0), (.int .i64 0), (.int .i64 0)]), none⟩, ⟨none, (.st 3 (.t 5) (.t 20)), none⟩, ⟨(some 6), (.mov (.t 21)), none⟩])
      (.seq
       (.region [⟨(some 22), (.mov (.t 4)), none⟩, ⟨(some 23), (.bin .eql (.t 22) (.c (.int .i64 0))), none⟩, ⟨(some 24), (.mov (.t 23)), none⟩, ⟨(some 25), (.mov (.t 6)), (some (24, true))⟩, ⟨(some 26), (.pick (.t 24) (.t 25) (.c (.bool false))), none⟩, ⟨(some 27), (.mov (.t 26)), none⟩, ⟨(some 28), (.mov (.t 3)), (some (27, true))⟩, ⟨(some 29), (.len (.t 28)), (some (27, true))⟩, ⟨(some 30), (.iar 3 1 (.t 5) (.c (.int .i64 0))), (some (27, true))⟩, ⟨(some 31), (.ld false 1 (.t 30)), (some (27, true))⟩, ⟨(some 32), (.iar 3 1 (.t 5) (.c (.int .i64 1))), (some (27, true))⟩, ⟨(some 33), (.ld false 1 (.t 32)), (some (27, true))⟩, ⟨(some 34), (.bin .add (.t 31) (.t 33)), (some (27, true))⟩, ⟨(some 35), (.iar 3 1 (.t 5) (.c (.int .i64 2))), (some (27, true))⟩, ⟨(some 36), (.ld false 1 (.t 35)), (some (27, true))⟩, ⟨(some 37), (.bin .add (.t 34) (.t 36)), (some (27, true))⟩, ⟨(some 38), (.bin .eql (.t 29) (.t 37)), (some (27, true))⟩, ⟨(some 39), (.pick (.t 27) (.t 38) (.c (.bool false))), none⟩, ⟨(some 40), (.mov (.t 39)), none⟩, ⟨(some 41), (.call (.c (.func (.func 17) #[] #[])) []), (some (40, true))⟩, ⟨(some 42), (.pick (.t 40) (.t 41) (.c (.bool false))), none⟩, ⟨(some 2), (.mov (.t 42)), none⟩])
       .ret)))))
def r15 : List AOp := [(.mov (.t 2))]
theorem ok15 : FnOk Try.prog 15 Try.f15.ntmps a15 r15 := ⟨Try.f15, Try.func15, by kernel_rfl, by kernel_rfl, by kernel_rfl, fun asv w => by simp⟩

/-- layover/layoverlaw01.RunNames -/
def a8 : ACode :=
  (.seq
   (.region [⟨(some 0), (.mov (.c (.bool false))), none⟩])
   (.seq
    (.region [⟨(some 19), (.call (.c (.func (.func 42) #[] #[])) []), none⟩, ⟨(some 20), (.call (.c (.func (.func 32) #[] #[])) [(.t 19)]), none⟩, ⟨(some 18), (.mov (.t 20)), none⟩, ⟨(some 21), (.ext (.t 18) 0), none⟩, ⟨(some 22), (.ext (.t 18) 1), none⟩, ⟨(some 23), (.ext (.t 18) 2), none⟩, ⟨(some 1), (.mov (.t 21)), none⟩, ⟨(some 2), (.mov (.t 22)), none⟩, ⟨(some 3), (.mov (.t 23)), none⟩])
    (.seq
     (.region [⟨(some 25), (.call (.c (.func (.func 42) #[] #[])) []), none⟩, ⟨(some 26), (.bsl 3 [(.int .i64 0), (.int .i64 0), (.int .i64 0)] [(0, 1, (.c (.int .i64 0))), (1, 1, (.c (.int .i64 1))), (2, 1, (.c (.int .i64 3)))]), none⟩, ⟨(some 27), (.bsl 1 [(.int .i64 0)] [(0, 1, (.c (.int .i64 2)))]), none⟩, ⟨(some 28), (.bsl 1 [(.int .i64 0)] [(0, 1, (.c (.int .i64 4)))]), none⟩, ⟨(some 29), (.bsl 3 [(.slice none 0 0), (.slice none 0 0), (.slice none 0 0)] [(0, 1, (.t 26)), (1, 1, (.t 27)), (2, 1, (.t 28))]), none⟩, ⟨(some 30), (.bsl 5 [(.int .i64 0), (.int .i64 0), (.int .i64 0), (.int .i64 0), (.int .i64 0)] [(0, 1, (.c (.int .i64 40))), (1, 1, (.c (.int .i64 20))), (2, 1, (.c (.int .i64 40))), (3, 1, (.c (.int .i64 30))), (4, 1, (.c (.int .i64 10)))]), none⟩, ⟨(some 31), (.call (.c (.func (.func 36) #[] #[])) [(.t 25), (.t 29), (.t 30)]), none⟩, ⟨(some 24), (.mov (.t 31)), none⟩, ⟨(some 32), (.ext (.t 24) 0), none⟩, ⟨(some 33), (.ext (.t 24) 1), none⟩, ⟨(some 4), (.mov (.t 32)), none⟩, ⟨(some 5), (.mov (.t 33)), none⟩])
     (.seq
      (.region [⟨(some 35), (.call (.c (.func (.func 42) #[] #[])) []), none⟩, ⟨(some 36), (.bsl 3 [(.int .i64 0), (.int .i64 0), (.int .i64 0)] [(0, 1, (.c (.int .i64 1))), (1, 1, (.c (.int .i64 1))), (2, 1, (.c (.int .i64 0)))]), none⟩, ⟨(some 37), (.call (.c (.func (.func 39) #[] #[])) [(.t 35), (.t 36)]), none⟩, ⟨(some 34), (.mov (.t 37)), none⟩, ⟨(some 38), (.ext (.t 34) 0), none⟩, ⟨(some 39), (.ext (.t 34) 1), none⟩, ⟨(some 6), (.mov (.t 38)), none⟩, ⟨(some 7), (.mov (.t 39)), none⟩])
      (.seq
       (.region [⟨(some 41), (.call (.c (.func (.func 42) #[] #[])) []), none⟩, ⟨(some 42), (.bsl 3 [(.int .i64 0), (.int .i64 0), (.int .i64 0)] [(0, 1, (.c (.int .i64 2))), (1, 1, (.c (.int .i64 0))), (2, 1, (.c (.int .i64 0)))]), none⟩, ⟨(some 43), (.call (.c (.func (.func 39) #[] #[])) [(.t 41), (.t 42)]), none⟩, ⟨(some 40), (.mov (.t 43)), none⟩, ⟨(some 44), (.ext (.t 40) 0), none⟩, ⟨(some 45), (.ext (.t 40) 1), none⟩, ⟨(some 8), (.mov (.t 44)), none⟩, ⟨(some 9), (.mov (.t 45)), none⟩])
       (.seq
        (.region [⟨(some 47), (.call (.c (.func (.func 42) #[] #[])) []), none⟩, ⟨(some 48), (.bsl 3 [(.int .i64 0), (.int .i64 0), (.int .i64 0)] [(0, 1, (.c (.int .i64 2))), (1, 1, (.c (.int .i64 1))), (2, 1, (.c (.int .i64 0)))]), none⟩, ⟨(some 49), (.call (.c (.func (.func 39) #[] #[])) [(.t 47), (.t 48)]), none⟩, ⟨(some 46), (.mov (.t 49)), none⟩, ⟨(some 50), (.ext (.t 46) 0), none⟩, ⟨(some 51), (.ext (.t 46) 1), none⟩, ⟨(some 10), (.mov (.t 50)), none⟩, ⟨(some 11), (.mov (.t 51)), none⟩])
        (.seq
         (.seq
          (.draw 84 [⟨⟨(some 52), (.mov (.t 3)), none⟩, 0, false, []⟩, ⟨⟨(some 53), (.bin .neq (.t 52) (.c (.int .i64 0))), none⟩, 1, false, []⟩, ⟨⟨(some 54), (.mov (.t 53)), none⟩, 2, false, []⟩, ⟨⟨(some 56), (.mov (.t 1)), (some (54, false))⟩, 4, false, []⟩, ⟨⟨(some 57), (.mov (.t 2)), (some (54, false))⟩, 5, false, []⟩, ⟨⟨(some 55), (.call (.c (.func (.func 42) #[] #[])) []), (some (54, false))⟩, 3, true, []⟩, ⟨⟨(some 58), (.call (.c (.func (.func 33) #[] #[])) [(.t 55), (.t 56), (.t 57), (.c (.int .i64 3))]), (some (54, false))⟩, 6, true, []⟩, ⟨⟨(some 59), (.not (.t 58)), (some (54, false))⟩, 7, false, []⟩, ⟨⟨(some 60), (.pick (.t 54) (.c (.bool true)) (.t 59)), none⟩, 8, false, []⟩, ⟨⟨(some 61), (.mov (.t 60)), none⟩, 9, false, []⟩, ⟨⟨(some 63), (.mov (.t 1)), (some (61, false))⟩, 11, false, []⟩, ⟨⟨(some 64), (.mov (.t 2)), (some (61, false))⟩, 12, false, []⟩, ⟨⟨(some 62), (.call (.c (.func (.func 42) #[] #[])) []), (some (61, false))⟩, 10, true, []⟩, ⟨⟨(some 65), (.call (.c (.func (.func 33) #[] #[])) [(.t 62), (.t 63), (.t 64), (.c (.int .i64 4))]), (some (61, false))⟩, 13, true, []⟩, ⟨⟨(some 66), (.pick (.t 61) (.c (.bool true)) (.t 65)), none⟩, 14, false, []⟩, ⟨⟨(some 67), (.mov (.t 66)), none⟩, 15, false, []⟩, ⟨⟨(some 69), (.bsl 2 [(.int .i64 0), (.int .i64 0)] [(0, 1, (.c (.int .i64 0))), (1, 1, (.c (.int .i64 1)))]), (some (67, false))⟩, 17, false, []⟩, ⟨⟨(some 68), (.call (.c (.func (.func 42) #[] #[])) []), (some (67, false))⟩, 16, true, []⟩, ⟨⟨(some 70), (.call (.c (.func (.func 33) #[] #[])) [(.t 68), (.t 69), (.c (.slice none 0 0)), (.c (.int .i64 3))]), (some (67, false))⟩, 18, true, []⟩, ⟨⟨(some 71), (.not (.t 70)), (some (67, false))⟩, 19, false, []⟩, ⟨⟨(some 72), (.pick (.t 67) (.c (.bool true)) (.t 71)), none⟩, 20, false, []⟩, ⟨⟨(some 73), (.mov (.t 72)), none⟩, 21, false, []⟩, ⟨⟨(some 75), (.bsl 1 [(.int .i64 0)] [(0, 1, (.c (.int .i64 0)))]), (some (73, false))⟩, 23, false, []⟩, ⟨⟨(some 74), (.call (.c (.func (.func 42) #[] #[])) []), (some (73, false))⟩, 22, true, []⟩, ⟨⟨(some 76), (.call (.c (.func (.func 33) #[] #[])) [(.t 74), (.t 75), (.c (.slice none 0 0)), (.c (.int .i64 3))]), (some (73, false))⟩, 24, true, []⟩, ⟨⟨(some 77), (.pick (.t 73) (.c (.bool true)) (.t 76)), none⟩, 25, false, []⟩, ⟨⟨(some 78), (.mov (.t 77)), none⟩, 26, false, []⟩, ⟨⟨(some 79), (.mov (.t 5)), (some (78, false))⟩, 27, false, []⟩, ⟨⟨(some 80), (.bin .neq (.t 79) (.c (.int .i64 0))), (some (78, false))⟩, 28, false, []⟩, ⟨⟨(some 81), (.pick (.t 78) (.c (.bool true)) (.t 80)), none⟩, 29, false, []⟩, ⟨⟨(some 82), (.mov (.t 81)), none⟩, 30, false, []⟩, ⟨⟨(some 83), (.mov (.t 4)), (some (82, false))⟩, 31, false, []⟩, ⟨⟨(some 84), (.len (.t 83)), (some (82, false))⟩, 32, false, []⟩, ⟨⟨(some 85), (.bin .neq (.t 84) (.c (.int .i64 3))), (some (82, false))⟩, 33, false, []⟩, ⟨⟨(some 86), (.pick (.t 82) (.c (.bool true)) (.t 85)), none⟩, 34, false, []⟩, ⟨⟨(some 87), (.mov (.t 86)), none⟩, 35, false, []⟩, ⟨⟨(some 88), (.mov (.t 4)), (some (87, false))⟩, 36, false, []⟩, ⟨⟨(some 89), (.isl 1 (.t 88) (.c (.int .i64 0))), (some (87, false))⟩, 37, false, []⟩, ⟨⟨(some 90), (.ld false 1 (.t 89)), (some (87, false))⟩, 38, false, []⟩, ⟨⟨(some 91), (.bsl 2 [(.int .i64 0), (.int .i64 0)] [(0, 1, (.c (.int .i64 20))), (1, 1, (.c (.int .i64 10)))]), (some (87, false))⟩, 39, false, []⟩, ⟨⟨(some 92), (.call (.c (.func (.func 22) #[] #[])) [(.t 90), (.t 91)]), (some (87, false))⟩, 40, true, []⟩, ⟨⟨(some 93), (.not (.t 92)), (some (87, false))⟩, 41, false, []⟩, ⟨⟨(some 94), (.pick (.t 87) (.c (.bool true)) (.t 93)), none⟩, 42, false, []⟩, ⟨⟨(some 95), (.mov (.t 94)), none⟩, 43, false, []⟩, ⟨⟨(some 96), (.mov (.t 4)), (some (95, false))⟩, 44, false, []⟩, ⟨⟨(some 97), (.isl 1 (.t 96) (.c (.int .i64 1))), (some (95, false))⟩, 45, false, []⟩, ⟨⟨(some 98), (.ld false 1 (.t 97)), (some (95, false))⟩, 46, false, []⟩, ⟨⟨(some 99), (.len (.t 98)), (some (95, false))⟩, 47, false, []⟩, ⟨⟨(some 100), (.mov (.t 4)), (some (95, false))⟩, 48, false, []⟩, ⟨⟨(some 101), (.isl 1 (.t 100) (.c (.int .i64 2))), (some (95, false))⟩, 49, false, []⟩, ⟨⟨(some 102), (.ld false 1 (.t 101)), (some (95, false))⟩, 50, false, []⟩, ⟨⟨(some 103), (.len (.t 102)), (some (95, false))⟩, 51, false, []⟩, ⟨⟨(some 104), (.bin .add (.t 99) (.t 103)), (some (95, false))⟩, 52, false, []⟩, ⟨⟨(some 105), (.bin .neq (.t 104) (.c (.int .i64 0))), (some (95, false))⟩, 53, false, []⟩, ⟨⟨(some 106), (.pick (.t 95) (.c (.bool true)) (.t 105)), none⟩, 54, false, []⟩, ⟨⟨(some 107), (.mov (.t 106)), none⟩, 55, false, []⟩, ⟨⟨(some 108), (.mov (.t 7)), (some (107, false))⟩, 56, false, []⟩, ⟨⟨(some 109), (.bin .neq (.t 108) (.c (.int .i64 0))), (some (107, false))⟩, 57, false, []⟩, ⟨⟨(some 110), (.pick (.t 107) (.c (.bool true)) (.t 109)), none⟩, 58, false, []⟩, ⟨⟨(some 111), (.mov (.t 110)), none⟩, 59, false, []⟩, ⟨⟨(some 112), (.mov (.t 6)), (some (111, false))⟩, 60, false, []⟩, ⟨⟨(some 113), (.bsl 1 [(.int .i64 0)] [(0, 1, (.c (.int .i64 2)))]), (some (111, false))⟩, 61, false, []⟩, ⟨⟨(some 114), (.call (.c (.func (.func 22) #[] #[])) [(.t 112), (.t 113)]), (some (111, false))⟩, 62, true, []⟩, ⟨⟨(some 115), (.not (.t 114)), (some (111, false))⟩, 63, false, []⟩, ⟨⟨(some 116), (.pick (.t 111) (.c (.bool true)) (.t 115)), none⟩, 64, false, []⟩, ⟨⟨(some 117), (.mov (.t 116)), none⟩, 65, false, []⟩, ⟨⟨(some 118), (.mov (.t 9)), (some (117, false))⟩, 66, false, []⟩, ⟨⟨(some 119), (.bin .neq (.t 118) (.c (.int .i64 0))), (some (117, false))⟩, 67, false, []⟩, ⟨⟨(some 120), (.pick (.t 117) (.c (.bool true)) (.t 119)), none⟩, 68, false, []⟩, ⟨⟨(some 121), (.mov (.t 120)), none⟩, 69, false, []⟩, ⟨⟨(some 122), (.mov (.t 8)), (some (121, false))⟩, 70, false, []⟩, ⟨⟨(some 123), (.bsl 1 [(.int .i64 0)] [(0, 1, (.c (.int .i64 4)))]), (some (121, false))⟩, 71, false, []⟩, ⟨⟨(some 124), (.call (.c (.func (.func 22) #[] #[])) [(.t 122), (.t 123)]), (some (121, false))⟩, 72, true, []⟩, ⟨⟨(some 125), (.not (.t 124)), (some (121, false))⟩, 73, false, []⟩, ⟨⟨(some 126), (.pick (.t 121) (.c (.bool true)) (.t 125)), none⟩, 74, false, []⟩, ⟨⟨(some 127), (.mov (.t 126)), none⟩, 75, false, []⟩, ⟨⟨(some 128), (.mov (.t 11)), (some (127, false))⟩, 76, false, []⟩, ⟨⟨(some 129), (.bin .neq (.t 128) (.c (.int .i64 0))), (some (127, false))⟩, 77, false, []⟩, ⟨⟨(some 130), (.pick (.t 127) (.c (.bool true)) (.t 129)), none⟩, 78, false, []⟩, ⟨⟨(some 131), (.mov (.t 130)), none⟩, 79, false, []⟩, ⟨⟨(some 132), (.mov (.t 10)), (some (131, false))⟩, 80, false, []⟩, ⟨⟨(some 133), (.len (.t 132)), (some (131, false))⟩, 81, false, []⟩, ⟨⟨(some 134), (.bin .neq (.t 133) (.c (.int .i64 0))), (some (131, false))⟩, 82, false, []⟩, ⟨⟨(some 135), (.pick (.t 131) (.c (.bool true)) (.t 134)), none⟩, 83, false, []⟩])
          (.cond (.t 135)
           (.seq
            (.region [⟨(some 0), (.mov (.c (.bool false))), none⟩])
            .ret)
           .skip))
         (.seq
          (.region [⟨(some 137), (.call (.c (.func (.func 42) #[] #[])) []), none⟩, ⟨(some 138), (.bsl 2 [(.int .i64 0), (.int .i64 0)] [(0, 1, (.c (.int .i64 0))), (1, 1, (.c (.int .i64 3)))]), none⟩, ⟨(some 139), (.bsl 1 [(.int .i64 0)] [(0, 1, (.c (.int .i64 1)))]), none⟩, ⟨(some 140), (.bsl 1 [(.int .i64 0)] [(0, 1, (.c (.int .i64 2)))]), none⟩, ⟨(some 141), (.bsl 3 [(.slice none 0 0), (.slice none 0 0), (.slice none 0 0)] [(0, 1, (.t 138)), (1, 1, (.t 139)), (2, 1, (.t 140))]), none⟩, ⟨(some 142), (.bsl 5 [(.int .i64 0), (.int .i64 0), (.int .i64 0), (.int .i64 0), (.int .i64 0)] [(0, 1, (.c (.int .i64 40))), (1, 1, (.c (.int .i64 20))), (2, 1, (.c (.int .i64 40))), (3, 1, (.c (.int .i64 30))), (4, 1, (.c (.int .i64 10)))]), none⟩, ⟨(some 143), (.call (.c (.func (.func 36) #[] #[])) [(.t 137), (.t 141), (.t 142)]), none⟩, ⟨(some 136), (.mov (.t 143)), none⟩, ⟨(some 144), (.ext (.t 136) 0), none⟩, ⟨(some 145), (.ext (.t 136) 1), none⟩, ⟨(some 3), (.mov (.t 145)), none⟩])
          (.seq
           (.region [⟨(some 147), (.call (.c (.func (.func 42) #[] #[])) []), none⟩, ⟨(some 148), (.bsl 3 [(.int .i64 0), (.int .i64 0), (.int .i64 0)] [(0, 1, (.c (.int .i64 0))), (1, 1, (.c (.int .i64 1))), (2, 1, (.c (.int .i64 3)))]), none⟩, ⟨(some 149), (.bsl 1 [(.int .i64 0)] [(0, 1, (.c (.int .i64 2)))]), none⟩, ⟨(some 150), (.bsl 1 [(.int .i64 0)] [(0, 1, (.c (.int .i64 4)))]), none⟩, ⟨(some 151), (.bsl 3 [(.slice none 0 0), (.slice none 0 0), (.slice none 0 0)] [(0, 1, (.t 148)), (1, 1, (.t 149)), (2, 1, (.t 150))]), none⟩, ⟨(some 152), (.bsl 4 [(.int .i64 0), (.int .i64 0), (.int .i64 0), (.int .i64 0)] [(0, 1, (.c (.int .i64 40))), (1, 1, (.c (.int .i64 20))), (2, 1, (.c (.int .i64 40))), (3, 1, (.c (.int .i64 30)))]), none⟩, ⟨(some 153), (.call (.c (.func (.func 36) #[] #[])) [(.t 147), (.t 151), (.t 152)]), none⟩, ⟨(some 146), (.mov (.t 153)), none⟩, ⟨(some 154), (.ext (.t 146) 0), none⟩, ⟨(some 155), (.ext (.t 146) 1), none⟩, ⟨(some 5), (.mov (.t 155)), none⟩])
           (.seq
            (.region [⟨(some 157), (.call (.c (.func (.func 42) #[] #[])) []), none⟩, ⟨(some 158), (.bsl 3 [(.int .i64 0), (.int .i64 0), (.int .i64 0)] [(0, 1, (.c (.int .i64 0))), (1, 1, (.c (.int .i64 1))), (2, 1, (.c (.int .i64 3)))]), none⟩, ⟨(some 159), (.bsl 1 [(.int .i64 0)] [(0, 1, (.c (.int .i64 2)))]), none⟩, ⟨(some 160), (.bsl 1 [(.int .i64 0)] [(0, 1, (.c (.int .i64 4)))]), none⟩, ⟨(some 161), (.bsl 3 [(.slice none 0 0), (.slice none 0 0), (.slice none 0 0)] [(0, 1, (.t 158)), (1, 1, (.t 159)), (2, 1, (.t 160))]), none⟩, ⟨(some 162), (.bsl 5 [(.int .i64 0), (.int .i64 0), (.int .i64 0), (.int .i64 0), (.int .i64 0)] [(0, 1, (.c (.int .i64 40))), (1, 1, (.c (.int .i64 31))), (2, 1, (.c (.int .i64 40))), (3, 1, (.c (.int .i64 30))), (4, 1, (.c (.int .i64 10)))]), none⟩, ⟨(some 163), (.call (.c (.func (.func 36) #[] #[])) [(.t 157), (.t 161), (.t 162)]), none⟩, ⟨(some 156), (.mov (.t 163)), none⟩, ⟨(some 164), (.ext (.t 156) 0), none⟩, ⟨(some 165), (.ext (.t 156) 1), none⟩, ⟨(some 7), (.mov (.t 165)), none⟩])
            (.seq
             (.region [⟨(some 167), (.call (.c (.func (.func 42) #[] #[])) []), none⟩, ⟨(some 168), (.bsl 2 [(.int .i64 0), (.int .i64 0)] [(0, 1, (.c (.int .i64 1))), (1, 1, (.c (.int .i64 1)))]), none⟩, ⟨(some 169), (.call (.c (.func (.func 39) #[] #[])) [(.t 167), (.t 168)]), none⟩, ⟨(some 166), (.mov (.t 169)), none⟩, ⟨(some 170), (.ext (.t 166) 0), none⟩, ⟨(some 171), (.ext (.t 166) 1), none⟩, ⟨(some 9), (.mov (.t 171)), none⟩])
             (.seq
              (.region [⟨(some 173), (.call (.c (.func (.func 42) #[] #[])) []), none⟩, ⟨(some 174), (.bsl 3 [(.int .i64 0), (.int .i64 0), (.int .i64 0)] [(0, 1, (.c (.int .i64 1))), (1, 1, (.c (.int .i64 13))), (2, 1, (.c (.int .i64 0)))]), none⟩, ⟨(some 175), (.call (.c (.func (.func 39) #[] #[])) [(.t 173), (.t 174)]), none⟩, ⟨(some 172), (.mov (.t 175)), none⟩, ⟨(some 176), (.ext (.t 172) 0), none⟩, ⟨(some 177), (.ext (.t 172) 1), none⟩, ⟨(some 11), (.mov (.t 177)), none⟩])
              (.seq
               (.region [⟨(some 178), (.call (.c (.func (.func 42) #[] #[])) []), none⟩, ⟨(some 179), (.call (.c (.func (.func 42) #[] #[])) []), none⟩, ⟨(some 180), (.call (.c (.func (.func 42) #[] #[])) []), none⟩, ⟨(some 12), (.new [(.int .i64 0), (.int .i64 0), (.slice none 0 0), (.slice none 0 0)]), none⟩, ⟨(some 13), (.new [(.int .i64 0), (.int .i64 0), (.slice none 0 0), (.slice none 0 0)]), none⟩, ⟨(some 14), (.new [(.int .i64 0), (.int .i64 0), (.slice none 0 0), (.slice none 0 0)]), none⟩, ⟨none, (.st 4 (.t 12) (.t 178)), none⟩, ⟨none, (.st 4 (.t 13) (.t 179)), none⟩, ⟨none, (.st 4 (.t 14) (.t 180)), none⟩])
               (.seq
                (.region [⟨(some 181), (.mks 6 48 [(.int .i64 0), (.int .i64 0), (.int .i64 0), (.int .i64 0), (.int .i64 0), (.int .i64 0)] (.c (.int .i64 13)) (.c (.int .i64 13))), none⟩, ⟨(some 182), (.fa 3 (.t 12)), none⟩, ⟨none, (.st 1 (.t 182) (.t 181)), none⟩])
                (.seq
                 (.region [⟨(some 183), (.fa 3 (.t 13)), none⟩, ⟨(some 184), (.ld false 1 (.t 183)), none⟩, ⟨(some 185), (.isl 6 (.t 184) (.c (.int .i64 0))), none⟩, ⟨(some 186), (.fa 3 (.t 185)), none⟩, ⟨none, (.st 1 (.t 186) (.c (.int .i64 0))), none⟩])
                 (.seq
                  (.region [⟨(some 187), (.fa 2 (.t 14)), none⟩, ⟨(some 188), (.ld false 1 (.t 187)), none⟩, ⟨(some 189), (.isl 1 (.t 188) (.c (.int .i64 1))), none⟩, ⟨(some 190), (.ld false 1 (.t 189)), none⟩, ⟨(some 191), (.isl 1 (.t 190) (.c (.int .i64 1))), none⟩, ⟨none, (.st 1 (.t 191) (.c (.int .i64 1))), none⟩])
                  (.seq
                   (.region [⟨(some 192), (.bsl 1 [(.int .i64 0)] [(0, 1, (.c (.int .i64 0)))]), none⟩, ⟨(some 193), (.bsl 1 [(.slice none 0 0)] [(0, 1, (.t 192))]), none⟩, ⟨(some 194), (.bld [(.int .i64 0), (.int .i64 0), (.slice none 0 0), (.slice none 0 0)] [(0, 1, (.c (.int .i64 1))), (2, 1, (.t 193))]), none⟩, ⟨(some 15), (.new [(.int .i64 0), (.int .i64 0), (.slice none 0 0), (.slice none 0 0)]), none⟩, ⟨none, (.st 4 (.t 15) (.t 194)), none⟩])
                   (.seq
                    (.region [⟨(some 196), (.ld true 4 (.t 15)), none⟩, ⟨(some 197), (.call (.c (.func (.func 26) #[] #[])) [(.t 196)]), none⟩, ⟨(some 195), (.mov (.t 197)), none⟩, ⟨(some 198), (.ext (.t 195) 0), none⟩, ⟨(some 199), (.ext (.t 195) 1), none⟩, ⟨(some 16), (.mov (.t 198)), none⟩, ⟨(some 17), (.mov (.t 199)), none⟩])
                    (.seq
                     (.region [⟨(some 200), (.mov (.t 3)), none⟩, ⟨(some 201), (.bin .eql (.t 200) (.c (.int .i64 2))), none⟩, ⟨(some 202), (.mov (.t 201)), none⟩, ⟨(some 203), (.mov (.t 5)), (some (202, true))⟩, ⟨(some 204), (.bin .eql (.t 203) (.c (.int .i64 2))), (some (202, true))⟩, ⟨(some 205), (.pick (.t 202) (.t 204) (.c (.bool false))), none⟩, ⟨(some 206), (.mov (.t 205)), none⟩, ⟨(some 207), (.mov (.t 7)), (some (206, true))⟩, ⟨(some 208), (.bin .eql (.t 207) (.c (.int .i64 2))), (some (206, true))⟩, ⟨(some 209), (.pick (.t 206) (.t 208) (.c (.bool false))), none⟩, ⟨(some 210), (.mov (.t 209)), none⟩, ⟨(some 211), (.mov (.t 9)), (some (210, true))⟩, ⟨(some 212), (.bin .eql (.t 211) (.c (.int .i64 2))), (some (210, true))⟩, ⟨(some 213), (.pick (.t 210) (.t 212) (.c (.bool false))), none⟩, ⟨(some 214), (.mov (.t 213)), none⟩, ⟨(some 215), (.mov (.t 11)), (some (214, true))⟩, ⟨(some 216), (.bin .eql (.t 215) (.c (.int .i64 2))), (some (214, true))⟩, ⟨(some 217), (.pick (.t 214) (.t 216) (.c (.bool false))), none⟩, ⟨(some 218), (.mov (.t 217)), none⟩, ⟨(some 219), (.ld true 4 (.t 12)), (some (218, true))⟩, ⟨(some 220), (.call (.c (.func (.func 18) #[] #[])) [(.t 219)]), (some (218, true))⟩, ⟨(some 221), (.bin .eql (.t 220) (.c (.int .i64 3))), (some (218, true))⟩, ⟨(some 222), (.pick (.t 218) (.t 221) (.c (.bool false))), none⟩, ⟨(some 223), (.mov (.t 222)), none⟩, ⟨(some 224), (.ld true 4 (.t 13)), (some (223, true))⟩, ⟨(some 225), (.call (.c (.func (.func 18) #[] #[])) [(.t 224)]), (some (223, true))⟩, ⟨(some 226), (.bin .eql (.t 225) (.c (.int .i64 1))), (some (223, true))⟩, ⟨(some 227), (.pick (.t 223) (.t 226) (.c (.bool false))), none⟩, ⟨(some 228), (.mov (.t 227)), none⟩, ⟨(some 229), (.ld true 4 (.t 14)), (some (228, true))⟩, ⟨(some 230), (.call (.c (.func (.func 18) #[] #[])) [(.t 229)]), (some (228, true))⟩, ⟨(some 231), (.bin .eql (.t 230) (.c (.int .i64 1))), (some (228, true))⟩, ⟨(some 232), (.pick (.t 228) (.t 231) (.c (.bool false))), none⟩, ⟨(some 233), (.mov (.t 232)), none⟩, ⟨(some 234), (.bld [(.int .i64 0), (.int .i64 0), (.slice none 0 0), (.slice none 0 0)] []), (some (233, true))⟩, ⟨(some 235), (.call (.c (.func (.func 18) #[] #[])) [(.t 234)]), (some (233, true))⟩, ⟨(some 236), (.bin .eql (.t 235) (.c (.int .i64 1))), (some (233, true))⟩, ⟨(some 237), (.pick (.t 233) (.t 236) (.c (.bool false))), none⟩, ⟨(some 238), (.mov (.t 237)), none⟩, ⟨(some 239), (.mov (.t 17)), (some (238, true))⟩, ⟨(some 240), (.bin .eql (.t 239) (.c (.int .i64 0))), (some (238, true))⟩, ⟨(some 241), (.pick (.t 238) (.t 240) (.c (.bool false))), none⟩, ⟨(some 242), (.mov (.t 241)), none⟩, ⟨(some 243), (.mov (.t 16)), (some (242, true))⟩, ⟨(some 244), (.len (.t 243)), (some (242, true))⟩, ⟨(some 245), (.bin .eql (.t 244) (.c (.int .i64 0))), (some (242, true))⟩, ⟨(some 246), (.pick (.t 242) (.t 245) (.c (.bool false))), none⟩, ⟨(some 247), (.mov (.t 246)), none⟩, ⟨(some 248), (.ld true 4 (.t 15)), (some (247, true))⟩, ⟨(some 249), (.call (.c (.func (.func 27) #[] #[])) [(.t 248), (.c (.slice none 0 0))]), (some (247, true))⟩, ⟨(some 250), (.pick (.t 247) (.t 249) (.c (.bool false))), none⟩, ⟨(some 251), (.mov (.t 250)), none⟩, ⟨(some 252), (.ld true 4 (.t 15)), (some (251, true))⟩, ⟨(some 253), (.call (.c (.func (.func 33) #[] #[])) [(.t 252), (.c (.slice none 0 0)), (.c (.slice none 0 0)), (.c (.int .i64 0))]), (some (251, true))⟩, ⟨(some 254), (.pick (.t 251) (.t 253) (.c (.bool false))), none⟩, ⟨(some 255), (.mov (.t 254)), none⟩, ⟨(some 256), (.call (.c (.func (.func 42) #[] #[])) []), (some (255, true))⟩, ⟨(some 257), (.bsl 3 [(.int .i64 0), (.int .i64 0), (.int .i64 0)] [(0, 1, (.c (.int .i64 0))), (1, 1, (.c (.int .i64 1))), (2, 1, (.c (.int .i64 3)))]), (some (255, true))⟩, ⟨(some 258), (.bsl 1 [(.int .i64 0)] [(0, 1, (.c (.int .i64 2)))]), (some (255, true))⟩, ⟨(some 259), (.bsl 2 [(.slice none 0 0), (.slice none 0 0)] [(0, 1, (.t 257)), (1, 1, (.t 258))]), (some (255, true))⟩, ⟨(some 260), (.call (.c (.func (.func 27) #[] #[])) [(.t 256), (.t 259)]), (some (255, true))⟩, ⟨(some 261), (.not (.t 260)), (some (255, true))⟩, ⟨(some 262), (.pick (.t 255) (.t 261) (.c (.bool false))), none⟩, ⟨(some 263), (.mov (.t 262)), none⟩, ⟨(some 264), (.call (.c (.func (.func 42) #[] #[])) []), (some (263, true))⟩, ⟨(some 265), (.bsl 3 [(.int .i64 0), (.int .i64 0), (.int .i64 0)] [(0, 1, (.c (.int .i64 0))), (1, 1, (.c (.int .i64 1))), (2, 1, (.c (.int .i64 3)))]), (some (263, true))⟩, ⟨(some 266), (.bsl 1 [(.int .i64 0)] [(0, 1, (.c (.int .i64 2)))]), (some (263, true))⟩, ⟨(some 267), (.bsl 1 [(.int .i64 0)] [(0, 1, (.c (.int .i64 4)))]), (some (263, true))⟩, ⟨(some 268), (.bsl 0 [] []), (some (263, true))⟩, ⟨(some 269), (.bsl 4 [(.slice none 0 0), (.slice none 0 0), (.slice none 0 0), (.slice none 0 0)] [(0, 1, (.t 265)), (1, 1, (.t 266)), (2, 1, (.t 267)), (3, 1, (.t 268))]), (some (263, true))⟩, ⟨(some 270), (.call (.c (.func (.func 27) #[] #[])) [(.t 264), (.t 269)]), (some (263, true))⟩, ⟨(some 271), (.not (.t 270)), (some (263, true))⟩, ⟨(some 272), (.pick (.t 263) (.t 271) (.c (.bool false))), none⟩, ⟨(some 273), (.mov (.t 272)), none⟩, ⟨(some 274), (.call (.c (.func (.func 17) #[] #[])) []), (some (273, true))⟩, ⟨(some 275), (.pick (.t 273) (.t 274) (.c (.bool false))), none⟩, ⟨(some 0), (.mov (.t 275)), none⟩])
                     .ret)))))))))))))))))))
def r8 : List AOp := [(.mov (.t 0))]
theorem ok8 : FnOk Try.prog 8 Try.f8.ntmps a8 r8 := ⟨Try.f8, Try.func8, by kernel_rfl, by kernel_rfl, by kernel_rfl, fun asv w => by simp⟩

/-- layover/layoverlaw01.only -/
def a70 : ACode :=
  (.seq
   (.region [⟨(some 2), (.box (.t 0)), none⟩, ⟨(some 4), (.new [(.int .i64 0), (.int .i64 0), (.slice none 0 0), (.slice none 0 0)]), none⟩])
   (.seq
    (.region [⟨(some 7), (.ld true 4 (.t 2)), none⟩, ⟨(some 5), (.new [(.int .i64 0), (.int .i64 0), (.slice none 0 0), (.slice none 0 0)]), none⟩, ⟨none, (.st 4 (.t 5) (.t 7)), none⟩])
    (.seq
     (.region [⟨(some 8), (.fa 3 (.t 5)), none⟩, ⟨none, (.st 1 (.t 8) (.c (.slice none 0 0))), none⟩])
     (.seq
      (.seq
       (.region [⟨(some 6), (.mov (.c (.int .i64 0))), none⟩])
       (.block 0
        (.loop
         (.seq
          (.seq
           (.region [⟨(some 9), (.mov (.t 6)), none⟩, ⟨(some 10), (.mov (.t 1)), none⟩, ⟨(some 11), (.len (.t 10)), none⟩, ⟨(some 12), (.bin .lss (.t 9) (.t 11)), none⟩])
           (.cond (.t 12)
            .skip
            (.exit 0)))
          (.seq
           (.block 1
            (.draw 14 [⟨⟨(some 15), (.fa 3 (.t 5)), none⟩, 0, false, []⟩, ⟨⟨(some 16), (.ld false 1 (.t 15)), none⟩, 1, false, []⟩, ⟨⟨(some 17), (.fa 3 (.t 2)), none⟩, 2, false, []⟩, ⟨⟨(some 18), (.ld false 1 (.t 17)), none⟩, 3, false, []⟩, ⟨⟨(some 19), (.mov (.t 1)), none⟩, 4, false, []⟩, ⟨⟨(some 20), (.mov (.t 6)), none⟩, 5, false, []⟩, ⟨⟨(some 21), (.isl 1 (.t 19) (.t 20)), none⟩, 6, false, []⟩, ⟨⟨(some 22), (.ld false 1 (.t 21)), none⟩, 7, false, []⟩, ⟨⟨(some 23), (.isl 6 (.t 18) (.t 22)), none⟩, 8, false, []⟩, ⟨⟨(some 24), (.ld true 6 (.t 23)), none⟩, 9, false, []⟩, ⟨⟨(some 25), (.bsl 1 [(.int .i64 0), (.int .i64 0), (.int .i64 0), (.int .i64 0), (.int .i64 0), (.int .i64 0)] [(0, 6, (.t 24))]), none⟩, 10, false, []⟩, ⟨⟨(some 26), (.app 6 48 (.t 16) (.t 25)), none⟩, 11, true, []⟩, ⟨⟨(some 27), (.fa 3 (.t 5)), none⟩, 12, false, []⟩, ⟨⟨none, (.st 1 (.t 27) (.t 26)), none⟩, 13, true, []⟩]))
           (.region [⟨(some 13), (.mov (.t 6)), none⟩, ⟨(some 14), (.bin .add (.t 13) (.c (.int .i64 1))), none⟩, ⟨(some 6), (.mov (.t 14)), none⟩]))))))
      (.seq
       (.region [⟨(some 28), (.ld true 4 (.t 5)), none⟩, ⟨none, (.st 4 (.t 4) (.t 28)), none⟩])
       .ret)))))
def r70 : List AOp := [(.ld true 4 (.t 4))]
theorem ok70 : FnOk Try.prog 70 Try.f70.ntmps a70 r70 := ⟨Try.f70, Try.func70, by kernel_rfl, by kernel_rfl, by kernel_rfl, fun asv w => by simp⟩

/-- layover/layoverlaw01.fewest -/
def a45 : ACode :=
  (.seq
   (.region [⟨(some 2), (.box (.t 0)), none⟩, ⟨(some 4), (.new [(.int .i64 0), (.int .i64 0), (.int .i64 0)]), none⟩, ⟨(some 5), (.mov (.c (.bool false))), none⟩])
   (.seq
    (.region [⟨(some 6), (.new [(.int .i64 0), (.int .i64 0), (.int .i64 0)]), none⟩])
    (.seq
     (.seq
      (.region [⟨(some 7), (.mov (.c (.int .i64 0))), none⟩])
      (.block 0
       (.loop
        (.seq
         (.seq
          (.region [⟨(some 10), (.mov (.t 7)), none⟩, ⟨(some 11), (.bin .lss (.t 10) (.c (.int .i64 3))), none⟩])
          (.cond (.t 11)
           .skip
           (.exit 0)))
         (.seq
          (.block 1
           (.seq
            (.draw 13 [⟨⟨(some 15), (.ld true 4 (.t 2)), none⟩, 0, false, []⟩, ⟨⟨(some 16), (.ld true 4 (.t 2)), none⟩, 1, false, []⟩, ⟨⟨(some 17), (.mov (.t 7)), none⟩, 2, false, []⟩, ⟨⟨(some 18), (.mov (.t 1)), none⟩, 3, false, []⟩, ⟨⟨(some 19), (.call (.c (.func (.func 31) #[] #[])) [(.t 16), (.t 17), (.t 18)]), none⟩, 4, true, [0]⟩, ⟨⟨(some 20), (.call (.c (.func (.func 70) #[] #[])) [(.t 15), (.t 19)]), none⟩, 5, true, []⟩, ⟨⟨(some 21), (.call (.c (.func (.func 19) #[] #[])) [(.t 20)]), none⟩, 6, true, []⟩, ⟨⟨(some 22), (.call (.c (.func (.func 26) #[] #[])) [(.t 21)]), none⟩, 7, true, []⟩, ⟨⟨(some 14), (.mov (.t 22)), none⟩, 8, false, []⟩, ⟨⟨(some 23), (.ext (.t 14) 0), none⟩, 9, false, []⟩, ⟨⟨(some 24), (.ext (.t 14) 1), none⟩, 10, false, []⟩, ⟨⟨(some 8), (.mov (.t 23)), none⟩, 11, false, []⟩, ⟨⟨(some 9), (.mov (.t 24)), none⟩, 12, false, []⟩])
            (.seq
             (.seq
              (.region [⟨(some 25), (.mov (.t 9)), none⟩, ⟨(some 26), (.bin .neq (.t 25) (.c (.int .i64 0))), none⟩])
              (.cond (.t 26)
               (.seq
                (.region [⟨(some 27), (.ld true 3 (.t 6)), none⟩, ⟨none, (.st 3 (.t 4) (.t 27)), none⟩, ⟨(some 5), (.mov (.c (.bool false))), none⟩])
                .ret)
               .skip))
             (.region [⟨(some 28), (.mov (.t 7)), none⟩, ⟨(some 29), (.mov (.t 8)), none⟩, ⟨(some 30), (.len (.t 29)), none⟩, ⟨(some 31), (.iar 3 1 (.t 6) (.t 28)), none⟩, ⟨none, (.st 1 (.t 31) (.t 30)), none⟩]))))
          (.region [⟨(some 12), (.mov (.t 7)), none⟩, ⟨(some 13), (.bin .add (.t 12) (.c (.int .i64 1))), none⟩, ⟨(some 7), (.mov (.t 13)), none⟩]))))))
     (.seq
      (.region [⟨(some 32), (.ld true 3 (.t 6)), none⟩, ⟨none, (.st 3 (.t 4) (.t 32)), none⟩, ⟨(some 5), (.mov (.c (.bool true))), none⟩])
      .ret))))
def r45 : List AOp := [(.ld true 3 (.t 4)), (.mov (.t 5))]
theorem ok45 : FnOk Try.prog 45 Try.f45.ntmps a45 r45 := ⟨Try.f45, Try.func45, by kernel_rfl, by kernel_rfl, by kernel_rfl, fun asv w => by simp⟩

end Go.Proofs.Ytnbkclhjpekkcaa

/-
  Timetables in which the same trips follow each other, and slices of trips that are appended to an empty one.
-/
namespace Go.Proofs.Ytnbkclhjpekkcaa
open Go Go.Ab

section
variable {T X : Tab} (hn : X.trips.length = T.trips.length) (hm : ∀ i j, X.mayN i j = T.mayN i j)
include hn hm
theorem same_followers : X.followers = T.followers := by
  unfold Tab.followers
  rw [hn]
  congr 1; funext i; congr 2; funext j; exact hm i j
omit hm in
theorem same_num (x : Int) : X.num x = T.num x := by simp only [Tab.num, hn]
theorem same_cut (bs : List (List Int)) : isCutL X bs = isCutL T bs := by
  have h1 : ∀ b d k, tripStep X b d k = tripStep T b d k := fun b d k => by simp only [tripStep, hm]
  have h2 : blockStep X = blockStep T := by
    funext d b
    have : X.num = T.num := funext (same_num hn)
    have h3 : tripStep X b = tripStep T b := by funext d k; exact h1 b d k
    simp only [blockStep, this, h3]
  simp only [isCutL, h2, hn]
theorem same_most : X.most = T.most := by simp only [Tab.most, same_followers hn hm, hn]
end

theorem trips_one (xs : List Tr) : (xs.flatMap Tr.cells).all one = true := by
  simp only [List.all_eq_true, List.mem_flatMap]
  rintro v ⟨x, _, hv⟩
  simp only [Tr.cells, List.mem_cons, List.not_mem_nil, or_false] at hv
  rcases hv with rfl | rfl | rfl | rfl | rfl | rfl <;> rfl
theorem trips_cells (xs : List Tr) : (xs.flatMap Tr.cells).length = xs.length * 6 := by
  induction xs with
  | nil => rfl
  | cons x xs ih => simp only [List.flatMap_cons, List.length_append, ih, List.length_cons]; simp [Tr.cells]; omega

/-- A slice of trips is appended to an empty one. -/
theorem fapp_clone {A : Heap} {s : Value} {xs : List Tr} {m n nx : Nat} {R : Value → Heap → Prop} (hm : A.get m = .cells true [] 0) (hs : TripsAt A s xs) (hl : xs.length ≤ 2 ^ 20) (_hnx : n < nx)
    (K : ∀ cap B, xs.length ≤ cap → B.get n = .cells true (xs.flatMap Tr.cells) (cap * 6) → B.next = nx → (∀ q, q ≠ n → q ≠ m → B.get q = A.get q) → R (.slice (some ⟨n, 0, none⟩) xs.length cap) B) : @fapp (baseOf A 6 (.slice (some ⟨m, 0, none⟩) 0 0)) (slCells A 6 s) 6 48 A n nx ⟨R⟩ := by
  refine ⟨0, [], some m, 0, xs.length, xs.flatMap Tr.cells, by simp [baseOf, hm], hs.1.1, trips_one xs, by omega, ?_⟩
  rw [if_neg (by simp)]
  intro cap hcap
  have := K cap (appHeap A n nx (some m) (xs.flatMap Tr.cells) (cap * 6)) (by omega) (by simp [appHeap]) rfl (fun q h1 h2 => by simp [appHeap, h1, h2])
  simpa using this

/-- A trip that starts later. -/
def Tr.later (d : Int) (x : Tr) : Tr := { x with start := x.start + d }
def laterTo (d : Int) (xs : List Tr) (m : Nat) : List Tr := (xs.take m).map (Tr.later d) ++ xs.drop m
theorem laterTo_length {d : Int} {xs : List Tr} {m : Nat} : (laterTo d xs m).length = xs.length := by simp [laterTo]; omega
theorem laterTo_zero {d : Int} {xs : List Tr} : laterTo d xs 0 = xs := by simp [laterTo]
theorem laterTo_all {d : Int} {xs : List Tr} : laterTo d xs xs.length = xs.map (Tr.later d) := by simp [laterTo]
theorem laterTo_split {d : Int} {xs : List Tr} {m : Nat} (hm : m < xs.length) : laterTo d xs m = (xs.take m).map (Tr.later d) ++ xs[m] :: xs.drop (m + 1) := by
  simp only [laterTo]; rw [List.drop_eq_getElem_cons hm]
theorem laterTo_next {d : Int} {xs : List Tr} {m : Nat} (hm : m < xs.length) : laterTo d xs (m + 1) = (xs.take m).map (Tr.later d) ++ xs[m].later d :: xs.drop (m + 1) := by
  simp only [laterTo]; rw [List.take_succ_eq_append_getElem hm]; simp only [List.map_append, List.map_cons, List.map_nil, List.append_assoc, List.singleton_append]
theorem laterTo_at {d : Int} {xs : List Tr} {m : Nat} (hm : m < xs.length) : ((laterTo d xs m).flatMap Tr.cells)[m * 6 + 2]? = some (.int .i64 xs[m].start) := by
  have hl : (((xs.take m).map (Tr.later d)).flatMap Tr.cells).length = m * 6 := by rw [trips_cells]; simp; omega
  rw [laterTo_split hm, List.flatMap_append, List.getElem?_append_right (by omega), hl, List.flatMap_cons]
  simp [Tr.cells]
theorem laterTo_wr {d : Int} {xs : List Tr} {m : Nat} (hm : m < xs.length) : wrL ((laterTo d xs m).flatMap Tr.cells) (m * 6 + 2) [.int .i64 (xs[m].start + d)] = (laterTo d xs (m + 1)).flatMap Tr.cells := by
  have hl : (((xs.take m).map (Tr.later d)).flatMap Tr.cells).length = m * 6 := by rw [trips_cells]; simp; omega
  rw [laterTo_split hm, laterTo_next hm, List.flatMap_append, List.flatMap_append, List.flatMap_cons, List.flatMap_cons]
  generalize ((xs.take m).map (Tr.later d)).flatMap Tr.cells = A at hl
  have h1 : A.take (m * 6 + 2) = A := List.take_of_length_le (by omega)
  have h2 : A.drop (m * 6 + 3) = [] := List.drop_of_length_le (by omega)
  have e1 : m * 6 + 2 - m * 6 = 2 := by omega
  have e2 : m * 6 + 3 - m * 6 = 3 := by omega
  have e3 : m * 6 + 2 + [Value.int .i64 (xs[m].start + d)].length = m * 6 + 3 := rfl
  simp only [wrL, Tr.cells, Tr.later]
  rw [e3, List.take_append, List.drop_append, h1, h2, hl, e1, e2]
  simp

def laterT (T : Tab) (d : Int) : Tab := { T with trips := T.trips.map (Tr.later d) }
theorem laterT_len {T : Tab} {d : Int} : (laterT T d).trips.length = T.trips.length := by simp [laterT]
theorem laterT_may {T : Tab} {d : Int} (i j : Nat) : (laterT T d).mayN i j = T.mayN i j := by
  simp only [Tab.mayN, laterT, List.getElem?_map]
  cases T.trips[i]? with
  | none => rfl
  | some x =>
    cases T.trips[j]? with
    | none => rfl
    | some y =>
      simp only [Option.map_some]
      have he : (x.later d = y.later d) ↔ x = y := by
        constructor
        · intro h
          cases x; cases y
          simp only [Tr.later, Tr.mk.injEq] at h ⊢
          omega
        · rintro rfl; rfl
      have hw : ∀ m, Tab.wait { T with trips := T.trips.map (Tr.later d) } (x.later d) (y.later d) m = T.wait x y m := by
        intro m
        simp only [Tab.wait, Tab.ready, Tab.road, Tr.later]
        omega
      simp only [Tab.may, he, hw]
      rfl
theorem laterT_thin {T : Tab} {d : Int} : thin (laterT T d) = thin T := by simp only [thin, laterT, List.length_map]; rfl

end Go.Proofs.Ytnbkclhjpekkcaa

/-
  Some trips of a timetable alone, and the kinds of a timetable: how many may be led.
-/
namespace Go.Proofs.Ytnbkclhjpekkcaa

def Tab.mostL (T : Tab) (looked : List Bool) : Nat := ledSize T.trips.length (joinL T.followers looked T.trips.length)

theorem most_all (T : Tab) : T.most = T.mostL (upTo T.trips.length) := rfl
theorem mostL_cov {T : Tab} (hfew : T.trips.length ≤ 12) (looked : List Bool) : ∃ a b : Nat → Bool, Cov (T.mayL looked) T.trips.length a b ∧ cntN T.trips.length a + cntN T.trips.length b ≤ T.mostL looked :=
  (joinL_mat (looked := looked) (followers_ok hfew) T.trips.length (Nat.le_refl _)).cov
theorem mostL_le {T : Tab} (hfew : T.trips.length ≤ 12) {looked : List Bool} {a b : Nat → Bool} (hc : Cov (T.mayL looked) T.trips.length a b) : T.mostL looked ≤ cntN T.trips.length a + cntN T.trips.length b :=
  (joinL_mat (looked := looked) (followers_ok hfew) T.trips.length (Nat.le_refl _)).pm.le_cov hc

def noTr : Tr := ⟨0, 0, 0, 0, 0, 0⟩
/-- Some trips alone. -/
def onlyT (T : Tab) (l : List Int) : Tab := { T with trips := l.map fun x => T.trips[x.toNat]?.getD noTr }
theorem onlyT_len {T : Tab} {l : List Int} : (onlyT T l).trips.length = l.length := by simp only [onlyT, List.length_map]

/-- The number at a place of a list, and the place of a number. -/
def sel (l : List Int) (i : Nat) : Nat := (l[i]?.getD 0).toNat

theorem numsOf_bound {n : Nat} {f : Nat → Bool} : (numsOf n f).length ≤ n := by rw [numsOf_length]; exact cntN_le

theorem sel_lt {n : Nat} {f : Nat → Bool} {i : Nat} (hi : i < (numsOf n f).length) : sel (numsOf n f) i < n ∧ f (sel (numsOf n f) i) = true := by
  obtain ⟨k, h1, h2, h3⟩ := numsOf_mem.1 (List.getElem_mem hi)
  have : sel (numsOf n f) i = k := by simp only [sel, List.getElem?_eq_getElem hi, Option.getD_some, h3]; simp
  rw [this]; exact ⟨h1, h2⟩

theorem sel_idx {f : Nat → Bool} {x : Nat} : ∀ {n : Nat}, x < n → f x = true → cntN x f < (numsOf n f).length ∧ sel (numsOf n f) (cntN x f) = x
  | 0, h, _ => by omega
  | n + 1, h, hf => by
    by_cases e : x = n
    · subst e
      have hl := numsOf_length (n := x) (f := f)
      rw [numsOf_succ, if_pos hf]
      refine ⟨by simp only [List.length_append, List.length_singleton]; omega, ?_⟩
      simp only [sel]
      rw [List.getElem?_append_right (by omega), hl]
      simp
    · obtain ⟨h1, h2⟩ := sel_idx (n := n) (by omega) hf
      rw [numsOf_succ]
      split
      · refine ⟨by simp only [List.length_append, List.length_singleton]; omega, ?_⟩
        simp only [sel] at h2 ⊢
        rw [List.getElem?_append_left h1]
        exact h2
      · exact ⟨h1, h2⟩

theorem cnt_sel {f g : Nat → Bool} : ∀ {n : Nat}, cntN (numsOf n f).length (fun i => g (sel (numsOf n f) i)) = cntN n (fun x => f x && g x)
  | 0 => by simp [numsOf, cntN]
  | n + 1 => by
    rw [cntN_succ (n := n), ← cnt_sel (n := n), numsOf_succ]
    cases hf : f n
    · simp
    · have hc : cntN (numsOf n f).length (fun i => g (sel (numsOf n f ++ [(n : Int)]) i)) = cntN (numsOf n f).length (fun i => g (sel (numsOf n f) i)) := cntN_congr fun k hk => by
        simp only [sel]; rw [List.getElem?_append_left hk]
      have hl : (numsOf n f ++ [(n : Int)]).length = (numsOf n f).length + 1 := by simp
      have hs : sel (numsOf n f ++ [(n : Int)]) (numsOf n f).length = n := by simp [sel]
      simp only [if_true, hl, cntN_succ, hc, hs, Bool.true_and]

theorem only_may {T : Tab} {f : Nat → Bool} {i j : Nat} (hi : i < (numsOf T.trips.length f).length) (hj : j < (numsOf T.trips.length f).length) :
    (onlyT T (numsOf T.trips.length f)).mayN i j = T.mayN (sel (numsOf T.trips.length f) i) (sel (numsOf T.trips.length f) j) := by
  have h1 := (sel_lt hi).1
  have h2 := (sel_lt hj).1
  have e1 : (onlyT T (numsOf T.trips.length f)).trips[i]? = some (T.trips[sel (numsOf T.trips.length f) i]) := by
    simp only [onlyT, List.getElem?_map, List.getElem?_eq_getElem hi, Option.map_some, Option.some.injEq]
    have : sel (numsOf T.trips.length f) i = ((numsOf T.trips.length f)[i]).toNat := by simp only [sel, List.getElem?_eq_getElem hi, Option.getD_some]
    rw [← this, List.getElem?_eq_getElem h1]; rfl
  have e2 : (onlyT T (numsOf T.trips.length f)).trips[j]? = some (T.trips[sel (numsOf T.trips.length f) j]) := by
    simp only [onlyT, List.getElem?_map, List.getElem?_eq_getElem hj, Option.map_some, Option.some.injEq]
    have : sel (numsOf T.trips.length f) j = ((numsOf T.trips.length f)[j]).toNat := by simp only [sel, List.getElem?_eq_getElem hj, Option.getD_some]
    rw [← this, List.getElem?_eq_getElem h2]; rfl
  rw [Tab.mayN_eq h1 h2]
  simp only [Tab.mayN, e1, e2]
  rfl

/-- Of some trips alone as many may be led as among those that are looked at. -/
theorem only_most {T : Tab} (hfew : T.trips.length ≤ 12) {f : Nat → Bool} {looked : List Bool} (hlk : ∀ i, i < T.trips.length → looked[i]?.getD false = f i) : (onlyT T (numsOf T.trips.length f)).most = T.mostL looked := by
  have hlen := onlyT_len (T := T) (l := numsOf T.trips.length f)
  have hb := numsOf_bound (n := T.trips.length) (f := f)
  have hfewX : (onlyT T (numsOf T.trips.length f)).trips.length ≤ 12 := by omega
  apply Nat.le_antisymm
  · obtain ⟨a, b, hc, hs⟩ := mostL_cov hfew looked
    have hcX : Cov (onlyT T (numsOf T.trips.length f)).mayN (onlyT T (numsOf T.trips.length f)).trips.length (fun i => a (sel (numsOf T.trips.length f) i)) (fun i => b (sel (numsOf T.trips.length f) i)) := by
      intro i j hi hj he
      rw [hlen] at hi hj
      rw [only_may hi hj] at he
      obtain ⟨h1, h2⟩ := sel_lt hi
      obtain ⟨h3, h4⟩ := sel_lt hj
      refine hc _ _ h1 h3 ?_
      simp only [Tab.mayL, hlk _ h1, hlk _ h3, h2, h4, he, Bool.and_self]
    have h5 := pm_most hfewX hcX
    rw [hlen, cnt_sel, cnt_sel] at h5
    have h6 : cntN T.trips.length (fun x => f x && a x) ≤ cntN T.trips.length a := cntN_mono fun k _ hk => by simp at hk; exact hk.2
    have h7 : cntN T.trips.length (fun x => f x && b x) ≤ cntN T.trips.length b := cntN_mono fun k _ hk => by simp at hk; exact hk.2
    omega
  · obtain ⟨a, b, hc, hs⟩ := mostL_cov hfewX (upTo (onlyT T (numsOf T.trips.length f)).trips.length)
    rw [most_all]
    refine Nat.le_trans (mostL_le hfew (a := fun x => f x && a (cntN x f)) (b := fun x => f x && b (cntN x f)) ?_) (Nat.le_trans (Nat.le_of_eq ?_) hs)
    · intro i j hi hj he
      simp only [Tab.mayL, hlk _ hi, hlk _ hj, Bool.and_eq_true] at he
      obtain ⟨⟨f1, f2⟩, hm⟩ := he
      obtain ⟨i1, i2⟩ := sel_idx hi f1
      obtain ⟨j1, j2⟩ := sel_idx hj f2
      have := hc (cntN i f) (cntN j f) (by omega) (by omega) (by rw [mayL_upTo hfewX (by omega) (by omega), only_may i1 j1, i2, j2]; exact hm)
      simpa [f1, f2] using this
    · have hk : ∀ g : Nat → Bool, cntN T.trips.length (fun x => f x && g (cntN x f)) = cntN (numsOf T.trips.length f).length g := fun g => by
        rw [← cnt_sel (g := fun x => g (cntN x f))]
        refine cntN_congr fun k hk => ?_
        obtain ⟨s1, s2⟩ := sel_lt hk
        obtain ⟨s3, s4⟩ := sel_idx s1 s2
        have hp := List.pairwise_iff_getElem.1 (numsOf_rise (n := T.trips.length) (f := f))
        have e : cntN (sel (numsOf T.trips.length f) k) f = k := by
          have h1 : sel (numsOf T.trips.length f) (cntN (sel (numsOf T.trips.length f) k) f) = sel (numsOf T.trips.length f) k := s4
          generalize cntN (sel (numsOf T.trips.length f) k) f = q at h1 s3
          have hq := numsOf_mem.1 (List.getElem_mem s3)
          have hk' := numsOf_mem.1 (List.getElem_mem hk)
          obtain ⟨u, _, _, hu⟩ := hq
          obtain ⟨w, _, _, hw⟩ := hk'
          simp only [sel, List.getElem?_eq_getElem hk, List.getElem?_eq_getElem s3, Option.getD_some] at h1
          rcases Nat.lt_trichotomy q k with h | h | h
          · have := hp q k s3 hk h; omega
          · exact h
          · have := hp k q hk s3 h; omega
        simp only [e]
      rw [hk a, hk b, hlen]

theorem only_valid {T : Tab} (hT : Valid T) {f : Nat → Bool} : Valid (onlyT T (numsOf T.trips.length f)) where
  few := by rw [onlyT_len]; exact Nat.le_trans numsOf_bound hT.few
  places := hT.places
  trips := by
    simp only [onlyT, List.all_map, List.all_eq_true, Function.comp]
    intro x hx
    obtain ⟨k, h1, _, rfl⟩ := numsOf_mem.1 hx
    have := List.all_eq_true.1 hT.trips _ (List.getElem_mem h1)
    simpa [h1] using this
theorem only_thin {T : Tab} {f : Nat → Bool} (h : thin T = true) : thin (onlyT T (numsOf T.trips.length f)) = true := by
  simp only [thin, Bool.and_eq_true, decide_eq_true_eq] at h ⊢
  refine ⟨h.1, ?_⟩
  rw [onlyT_len]
  exact Nat.le_trans numsOf_bound h.2

/-- The fewest buses for some trips alone. -/
theorem only_cut {T : Tab} (hT : Valid T) {f : Nat → Bool} {looked : List Bool} (hlk : ∀ i, i < T.trips.length → looked[i]?.getD false = f i) : (cutL (onlyT T (numsOf T.trips.length f))).length + T.mostL looked = cntN T.trips.length f := by
  have h := cutL_size (only_valid hT (f := f))
  rw [only_most hT.few hlk, onlyT_len, numsOf_length] at h
  exact h

end Go.Proofs.Ytnbkclhjpekkcaa

/-
  The contract of what gives the trips of a kind that are not in a list.
-/
namespace Go.Proofs.Ytnbkclhjpekkcaa
open Go Go.Ab

def kindN (T : Tab) (i : Nat) : Int := (T.trips[i]?.getD noTr).kind
def okAll (T : Tab) (kind : Int) (w : List Int) (i : Nat) : Bool := (decide (kind < 0) || decide (kindN T i = kind)) && !decide ((i : Int) ∈ w)
def allL (T : Tab) (kind : Int) (w : List Int) : List Int := numsOf T.trips.length (okAll T kind w)

theorem all_spec {e s wv : Value} {T : Tab} {kind : Int} {w : List Int} {H : Heap} (h : TabAt H e s T) (hfew : T.trips.length ≤ 2 ^ 20) (hw : IntsAt H wv w) : AFun Try.prog 31 [tabV T e s, .int .i64 kind, wv] H (fun r B => OwnSl B (H.next + 1) r ((allL T kind w).map (.int .i64)) ∧ Ge H B) := by
  refine AFun.mk ok31 hm (Nat.le_of_ble_eq_true rfl) ?_
  have h63 := hw.2
  simp [a31, r31]
  refine floop_intro (fun z => z.d = [] ∧ Ge H z.H ∧ H.next + 1 ≤ z.H.next ∧ z.t 1 = .int .i64 kind ∧ z.t 2 = wv ∧ z.t 3 = .pointer (some ⟨H.next, 0, none⟩) ∧ z.H.get H.next = .cells true [.int .i64 T.places, .int .i64 T.layover, e, s] 4 ∧
    ∃ i : Nat, i ≤ T.trips.length ∧ z.t 8 = .int .i64 i ∧ OwnSl z.H (H.next + 1) (z.t 7) ((numsOf i (okAll T kind w)).map (.int .i64))) (fun z => T.trips.length - (intOf (z.t 8)).toNat) ?_ ?_
  · exact ⟨rfl, by simp, by simp, by simp, by simp, by simp, by simp, 0, by simp, by simp, .inl ⟨by simp, by simp [numsOf]⟩⟩
  rintro ⟨t, _, A⟩ ⟨rfl, g, hn, t1, t2, t3, b0, i, hi, t8, hO⟩
  dsimp only at g hn t1 t2 t3 b0 t8 hO
  simp [t3, t8, b0, h.trips.lenV]
  refine fcond_intro (fun hc => ?_) (fun hc => ?_)
  · have hi' : i < T.trips.length := by simpa using hc
    obtain ⟨n1, o1, f1, l1, _, f2⟩ := (h.trips.ge g).at hi'
    have f5 := f2 5 (by omega)
    simp [Tr.cells] at f5
    have hkd : kindN T i = T.trips[i].kind := by simp [kindN, hi']
    have hmem : ∀ m (hm : m < w.length), decide ((i : Int) ∈ w.take (m + 1)) = (decide ((i : Int) ∈ w.take m) || decide (w[m] = (i : Int))) := fun m hm => by
      rw [List.take_succ_eq_append_getElem hm]
      simp only [List.mem_append, List.mem_singleton, Bool.decide_or]
      congr 1
      simp [eq_comm]
    by_cases hk : kind < 0
    all_goals
      simp [t1, t3, t8, b0, f1, f5, hk]
      refine floop_intro (fun z => z.d = [] ∧ z.H = A ∧ z.t 1 = .int .i64 kind ∧ z.t 2 = wv ∧ z.t 3 = .pointer (some ⟨H.next, 0, none⟩) ∧ z.t 8 = .int .i64 i ∧ z.t 7 = t 7 ∧ ∃ m : Nat, m ≤ w.length ∧ z.t 10 = .int .i64 m ∧ z.t 9 = .bool ((decide (kind < 0) || decide (kindN T i = kind)) && !decide ((i : Int) ∈ w.take m))) (fun z => w.length - (intOf (z.t 10)).toNat) ?_ ?_
      · exact ⟨rfl, rfl, by simp [t1], by simp [t2], by simp [t3], by simp [t8], by simp, 0, by simp, by simp, by simp [hk, hkd]⟩
      rintro ⟨u, _, A'⟩ ⟨rfl, hA', u1, u2, u3, u8, u7, m, hm, u10, u9⟩
      dsimp only at hA' u1 u2 u3 u8 u7 u10 u9
      subst hA'
      simp [u2, u10, hw.lenV]
      refine fcond_intro (fun hc => ?_) (fun hc => ?_)
      · have hm' : m < w.length := by simpa using hc
        obtain ⟨q, e1, e2⟩ := (hw.ge g).at hm'
        have hmm := hmem m hm'
        generalize hd : (decide (kind < 0) || decide (kindN T i = kind)) = b9 at u9
        cases b9
        · simp at u9
          simp [u2, u8, u9, u10, add_in (x := m) (y := 1) (by omega) (by omega)]
          exact ⟨⟨u1, u3, u7, m + 1, by omega, by omega⟩, by omega⟩
        · simp only [Bool.true_and] at u9
          generalize decide ((i : Int) ∈ w.take m) = b2 at u9 hmm
          cases b2
          · simp at u9
            simp [u2, u8, u9, u10, e1, e2, add_in (x := m) (y := 1) (by omega) (by omega)]
            simp at hmm
            exact ⟨⟨u1, u3, u7, m + 1, by omega, by omega, hmm.symm⟩, by omega⟩
          · simp at u9
            simp [u2, u8, u9, u10, add_in (x := m) (y := 1) (by omega) (by omega)]
            simp only [Bool.true_or, decide_eq_true_eq] at hmm
            exact ⟨⟨u1, u3, u7, m + 1, by omega, by omega, hmm⟩, by omega⟩
      · have hm' : m = w.length := by simp at hc; omega
        subst hm'
        rw [List.take_length] at u9
        have hok : okAll T kind w i = ((decide (kind < 0) || decide (kindN T i = kind)) && !decide ((i : Int) ∈ w)) := rfl
        rw [← hok] at u9
        have hs : numsOf (i + 1) (okAll T kind w) = if okAll T kind w i then numsOf i (okAll T kind w) ++ [(i : Int)] else numsOf i (okAll T kind w) := numsOf_succ
        generalize okAll T kind w i = b9 at u9 hs
        cases b9
        · simp [u9, u8, add_in (x := i) (y := 1) (by omega) (by omega)]
          simp at hs
          exact ⟨⟨g, by omega, u1, u2, u3, b0, i + 1, by omega, by omega, by rw [hs, u7]; exact hO⟩, by first | omega | (simp [t8]; omega)⟩
        · simp [u9, u8, u7]
          simp at hs
          have gN : Ge A' (A'.new (.cells true [.int .i64 i] 1)) := Ge.new _ _
          have hll := numsOf_bound (n := i) (f := okAll T kind w)
          refine fapp_own (lo := H.next + 1) (hO.ge gN) (slCells_new (x := .int .i64 i) (rw := true) (c := 1) (by simp)) rfl (by simp; omega) (by omega) (Nat.le_refl _) (by omega) (by simp; omega) fun u' D k1 k2 k3 k4 => ?_
          have hD : ∀ q, q < H.next + 1 → D.get q = A'.get q := fun q hq => by
            rw [k4 q (by simp; omega) (fun e => by have := (hO.names e).1; omega), gN.get q (by omega)]
          have := g.next
          simp [u8, add_in (x := i) (y := 1) (by omega) (by omega)]
          exact ⟨⟨⟨by omega, fun q hq => by rw [hD q (by omega), g.get q hq]⟩, by omega, u1, u2, u3, by rw [hD _ (by omega), b0], i + 1, by omega, by omega, by rw [hs]; simpa using k1⟩, by first | omega | (simp [t8]; omega)⟩
  · have hi' : i = T.trips.length := by simp at hc; omega
    subst hi'
    simp
    exact ⟨by simpa [allL] using hO, g⟩

end Go.Proofs.Ytnbkclhjpekkcaa

/-
  The contract of what lays a timetable with some of its trips alone.
-/
namespace Go.Proofs.Ytnbkclhjpekkcaa
open Go Go.Ab

theorem onlyT_take {T : Tab} {l : List Int} {i : Nat} (hi : i < l.length) (hx : (l[i]).toNat < T.trips.length) : (onlyT T (l.take (i + 1))).trips.flatMap Tr.cells = (onlyT T (l.take i)).trips.flatMap Tr.cells ++ T.trips[(l[i]).toNat].cells := by
  simp only [onlyT]
  rw [List.take_succ_eq_append_getElem hi, List.map_append, List.flatMap_append]
  simp [hx]

theorem only_spec {e s lv : Value} {T : Tab} {l : List Int} {H : Heap} (h : TabAt H e s T) (hl : IntsAt H lv l) (hx : ∀ x ∈ l, 0 ≤ x ∧ x.toNat < T.trips.length) (hlen : l.length ≤ 2 ^ 20) : AFun Try.prog 70 [tabV T e s, lv] H (fun r B => (∃ s', r = tabV T e s' ∧ TabAt B e s' (onlyT T l)) ∧ Ge H B) := by
  refine AFun.mk ok70 hm (Nat.le_of_ble_eq_true rfl) ?_
  have he := h.empty.one
  have hs := h.trips.one
  simp [a70, r70, he, hs]
  refine floop_intro (fun z => z.d = [] ∧ Ge H z.H ∧ H.next + 3 ≤ z.H.next ∧ z.t 1 = lv ∧ z.t 2 = .pointer (some ⟨H.next, 0, none⟩) ∧ z.t 4 = .pointer (some ⟨H.next + 1, 0, none⟩) ∧ z.t 5 = .pointer (some ⟨H.next + 2, 0, none⟩) ∧ z.H.get H.next = .cells true [.int .i64 T.places, .int .i64 T.layover, e, s] 4 ∧
    z.H.get (H.next + 1) = .cells true [.int .i64 0, .int .i64 0, .slice none 0 0, .slice none 0 0] 4 ∧
    ∃ (i : Nat) (s' : Value), i ≤ l.length ∧ z.t 6 = .int .i64 i ∧ z.H.get (H.next + 2) = .cells true [.int .i64 T.places, .int .i64 T.layover, e, s'] 4 ∧ OwnS z.H (H.next + 3) 6 s' i ((onlyT T (l.take i)).trips.flatMap Tr.cells)) (fun z => l.length - (intOf (z.t 6)).toNat) ?_ ?_
  · refine ⟨rfl, ?_, by simp, by simp, by simp, by simp, by simp, by simp, by simp, 0, .slice none 0 0, by simp, by simp, by simp, .inl ⟨rfl, rfl, by simp [onlyT]⟩⟩
    refine Ge.setNew (Ge.setNew (Ge.newOf (Ge.newOf (Ge.new _ _) _) _) (by omega) _) (by omega) _
  rintro ⟨t, _, A⟩ ⟨rfl, gA, hn, t1, t2, t4, t5, b0, b1, i, s', hi, t6, b2, hO⟩
  dsimp only at gA hn t1 t2 t4 t5 b0 b1 t6 b2 hO
  simp [t1, t6, hl.lenV]
  refine fcond_intro (fun hc => ?_) (fun hc => ?_)
  · have hi' : i < l.length := by simpa using hc
    obtain ⟨x0, x1⟩ := hx _ (List.getElem_mem hi')
    obtain ⟨q, e1, e2⟩ := (hl.ge (gA.grow 14)).at hi'
    obtain ⟨n1, o1, f1, l1, f2, _⟩ := (h.trips.ge gA).atI x0 x1
    simp [t1, t2, t5, t6, b0, b2, e1, e2, f1, f2, Tr.val]
    have gA2 : Ge A (({ get := A.get, next := A.next + 14 } : Heap).set (A.next + 10) (.cells true T.trips[l[i].toNat].cells 6)) := Ge.setNew (Ge.more A 14) (by omega) _
    refine fapp_ownS' (lo := H.next + 3) (len := i) (xs := T.trips[l[i].toNat].cells) (hO.ge gA2) ?_ rfl rfl (by omega) (by omega) (by omega) (by omega) fun u C k1 k2 k3 k4 => ?_
    · simp [slCells, rdL, Tr.cells]
    have hgA := gA.next
    have hC : ∀ m, m < H.next + 3 → C.get m = A.get m := fun m hm => by
      have e1 : m ≠ A.next + 10 := by omega
      rw [k4 m (by omega) (fun e => by have := (hO.names e).1; omega)]
      simp [e1]
    have c2 := (hC (H.next + 2) (by omega)).trans b2
    have hu := k1.one
    have ou := one_cells hu
    simp [t5, c2, hu, ou, t6, add_in (x := i) (y := 1) (by omega) (by omega)]
    have n0 : H.next ≠ H.next + 2 := by omega
    have n1' : H.next + 1 ≠ H.next + 2 := by omega
    refine ⟨⟨Ge.setNew ⟨by omega, fun m hm => by rw [hC m (by omega), gA.get m hm]⟩ (by omega) _, by omega, t1, t2, t4, by rw [hC _ (by omega), b0], by rw [hC _ (by omega), b1], i + 1, by omega, by omega, ?_⟩, by omega⟩
    rw [onlyT_take hi' x1]
    refine k1.keep (by simp) fun m hm => ?_
    have := (k1.names hm).1
    have e1 : m ≠ H.next + 2 := by omega
    simp [e1]
  · have hi' : i = l.length := by simp at hc; omega
    subst hi'
    rw [List.take_length] at hO
    have hs' := hO.one
    have hb := onlyT_len (T := T) (l := l)
    have os' := one_cells hs'
    have oe := one_cells he
    simp [t4, t5, b1, b2, he, hs']
    refine ⟨⟨h.empty.ge (Ge.setNew gA (by omega) _), ⟨?_, by omega⟩⟩, Ge.setNew gA (by omega) _⟩
    have hk := hO.keep (B := A.set (H.next + 1) (.cells true [.int .i64 T.places, .int .i64 T.layover, e, s'] 4)) (by simp) fun m hm => by
      have := (hO.names hm).1
      have e1 : m ≠ H.next + 1 := by omega
      simp [e1]
    rw [hb]
    exact hk.slr

end Go.Proofs.Ytnbkclhjpekkcaa

/-
  The contract of what gives the fewest buses of each kind, by the program.
-/
namespace Go.Proofs.Ytnbkclhjpekkcaa
open Go Go.Ab

def fewK (T : Tab) (w : List Int) (k : Nat) : Nat := (cutL (onlyT T (allL T k w))).length
def fewTo (T : Tab) (w : List Int) (k : Nat) : List Value := (List.range 3).map fun j => .int .i64 (if j < k then (fewK T w j : Int) else 0)

theorem allL_ok {T : Tab} {kind : Int} {w : List Int} : ∀ x ∈ allL T kind w, 0 ≤ x ∧ x.toNat < T.trips.length := by
  intro x hx
  obtain ⟨k, h1, _, rfl⟩ := numsOf_mem.1 hx
  exact ⟨by omega, by simpa using h1⟩

theorem fewTo_next {T : Tab} {w : List Int} {k : Nat} (hk : k < 3) : wrL (fewTo T w k) k [.int .i64 (fewK T w k)] = fewTo T w (k + 1) := by
  rcases (by omega : k = 0 ∨ k = 1 ∨ k = 2) with rfl | rfl | rfl <;> simp [fewTo, wrL, List.range_succ]

theorem fewestS_spec {e s wv : Value} {T : Tab} {w : List Int} {H : Heap} (h : TabAt H e s T) (hT : Valid T) (hth : thin T = true) (hw : IntsAt H wv w) : AFun Try.prog 45 [tabV T e s, wv] H (fun r B => r = .tuple #[.agg #[.int .i64 (fewK T w 0), .int .i64 (fewK T w 1), .int .i64 (fewK T w 2)], .bool true] ∧ Ge H B) := by
  refine AFun.mk ok45 hm (Nat.le_of_ble_eq_true rfl) ?_
  have hfew := hT.few
  simp [a45, r45]
  refine floop_intro (fun z => z.d = [] ∧ Ge H z.H ∧ H.next + 3 ≤ z.H.next ∧ z.t 1 = wv ∧ z.t 2 = .pointer (some ⟨H.next, 0, none⟩) ∧ z.t 4 = .pointer (some ⟨H.next + 1, 0, none⟩) ∧ z.t 6 = .pointer (some ⟨H.next + 2, 0, none⟩) ∧ z.H.get H.next = .cells true [.int .i64 T.places, .int .i64 T.layover, e, s] 4 ∧
    z.H.get (H.next + 1) = .cells true [.int .i64 0, .int .i64 0, .int .i64 0] 3 ∧ ∃ k : Nat, k ≤ 3 ∧ z.t 7 = .int .i64 k ∧ z.H.get (H.next + 2) = .cells true (fewTo T w k) 3) (fun z => 3 - (intOf (z.t 7)).toNat) ?_ ?_
  · exact ⟨rfl, ((Ge.new _ _).newOf _).newOf _, by simp, by simp, by simp, by simp, by simp, by simp, by simp, 0, by simp, by simp, by simp [fewTo, List.range_succ]⟩
  rintro ⟨t, _, A⟩ ⟨rfl, gA, hn, t1, t2, t4, t6, b0, b1, k, hk, t7, b2⟩
  dsimp only at gA hn t1 t2 t4 t6 b0 b1 t7 b2
  simp [t7]
  refine fcond_intro (fun hc => ?_) (fun hc => ?_)
  · have hk' : k < 3 := by simp at hc; omega
    simp [t1, t2, t7, b0]
    refine fcall_fun (all_spec (h.ge (gA.grow 13)) (by omega) (hw.ge (gA.grow 13))) ?_
    rintro v1 H1 ⟨hO, g1⟩
    have n1 := g1.next
    simp at n1
    have G1 := (Ge.more A 13).trans g1
    have hlen : (allL T k w).length ≤ 12 := Nat.le_trans numsOf_bound hfew
    have hi1 : IntsAt H1 v1 (allL T k w) := ⟨by simpa using hO.slr, by omega⟩
    have d0 := G1.got (by omega) b0
    simp [t2, d0]
    refine fcall_fun (only_spec (h.ge (gA.trans G1)) hi1 allL_ok (by omega)) ?_
    rintro _ H2 ⟨⟨s2, rfl, u2⟩, g2⟩
    simp
    have hvX : tabV (onlyT T (allL T k w)) e s2 = tabV T e s2 := rfl
    have htb := table_spec u2 (only_thin hth)
    rw [hvX] at htb
    refine fcall_fun htb ?_
    rintro _ H3 ⟨⟨e3, s3, rfl, u3⟩, g3⟩
    simp
    refine fcall_fun (cut_spec u3) ?_
    rintro _ H4 ⟨g4, _, hcut⟩
    obtain ⟨cv, rfl, hcv⟩ := hcut (checkT_zero.2 (only_valid hT))
    have G4 := G1.trans ((g2.trans g3).trans g4)
    have n4 := G4.next
    have c0 := G4.got (by omega) b0
    have c1 := G4.got (by omega) b1
    have c2 := G4.got (by omega) b2
    have hI : iarV 3 1 (.pointer (some ⟨H.next + 2, 0, none⟩)) (.int .i64 k) = some (.pointer (some ⟨H.next + 2, k, none⟩)) := by
      rw [iarV_in (by omega) (by omega)]; simp
    have hwr := fewTo_next (T := T) (w := w) hk'
    have hfl : (fewTo T w k).length = 3 := by simp [fewTo]
    simp only [fewK] at hwr
    generalize fewTo T w k = cs at c2 hwr hfl
    have hk3 : k + 1 ≤ 3 := hk'
    simp [t6, t7, hI, c2, hcv.lenV, hwr, hfl, hk3, add_in (x := k) (y := 1) (by omega) (by omega)]
    exact ⟨⟨Ge.setNew (gA.trans G4) (by omega) _, by omega, t1, t2, t4, c0, c1, k + 1, by omega, by omega, rfl⟩, by omega⟩
  · have hk' : k = 3 := by simp at hc; omega
    subst hk'
    have e3 : fewTo T w 3 = [.int .i64 (fewK T w 0), .int .i64 (fewK T w 1), .int .i64 (fewK T w 2)] := by simp [fewTo, List.range_succ]
    rw [e3] at b2
    simp [t4, t6, b1, b2]
    exact Ge.setNew gA (by omega) _

end Go.Proofs.Ytnbkclhjpekkcaa

/-
  The kinds of a timetable: as many may be led as in each alone.
-/
namespace Go.Proofs.Ytnbkclhjpekkcaa

theorem cnt_or {n : Nat} {f g : Nat → Bool} : cntN n (fun x => f x || g x) ≤ cntN n f + cntN n g := by
  rw [cntN_split (f := fun x => f x || g x) f]
  refine Nat.add_le_add (cntN_mono fun k _ hk => ?_) (cntN_mono fun k _ hk => ?_)
  · simp at hk; exact hk.2
  · simp at hk; simpa [hk.2] using hk.1

/-- Which trips are of a kind, as a choice. -/
def maskK (T : Tab) (k : Int) : List Bool := (List.range 12).map fun i => decide (i < T.trips.length) && decide (kindN T i = k)
theorem maskK_at {T : Tab} {k : Int} {i : Nat} (hi : i < 12) : (maskK T k)[i]?.getD false = (decide (i < T.trips.length) && decide (kindN T i = k)) := by simp [maskK, hi]

theorem may_kind2 {T : Tab} {i j : Nat} (hi : i < T.trips.length) (hj : j < T.trips.length) (h : T.mayN i j = true) : kindN T i = kindN T j := by
  rw [Tab.mayN_eq hi hj] at h
  simp only [Tab.may, Bool.and_eq_true, Bool.not_eq_true', Bool.or_eq_false_iff, Bool.not_eq_false'] at h
  have := of_decide_eq_true h.1.2
  simpa [kindN, hi, hj] using this

theorem kindN_three {T : Tab} (hT : Valid T) {i : Nat} (hi : i < T.trips.length) : kindN T i = 0 ∨ kindN T i = 1 ∨ kindN T i = 2 := by
  have := hT.trip (List.getElem_mem hi)
  simp only [kindN, hi, List.getElem?_eq_getElem, Option.getD_some]
  omega

theorem kinds_most {T : Tab} (hT : Valid T) : T.mostL (maskK T 0) + T.mostL (maskK T 1) + T.mostL (maskK T 2) = T.most := by
  have hfew := hT.few
  have hlk : ∀ (k : Int) (i : Nat), i < T.trips.length → (maskK T k)[i]?.getD false = decide (kindN T i = k) := fun k i hi => by
    rw [maskK_at (by omega)]; simp [hi]
  apply Nat.le_antisymm
  · obtain ⟨a, b, hc, hs⟩ := mostL_cov hfew (upTo T.trips.length)
    have hk : ∀ k : Int, T.mostL (maskK T k) ≤ cntN T.trips.length (fun x => a x && decide (kindN T x = k)) + cntN T.trips.length (fun x => b x && decide (kindN T x = k)) := fun k => by
      refine mostL_le hfew fun i j hi hj he => ?_
      simp only [Tab.mayL, hlk k i hi, hlk k j hj, Bool.and_eq_true, decide_eq_true_eq] at he
      have := hc i j hi hj (by rw [mayL_upTo hfew hi hj]; exact he.2)
      simpa [he.1.1, he.1.2] using this
    have hsum : ∀ f : Nat → Bool, cntN T.trips.length (fun x => f x && decide (kindN T x = 0)) + cntN T.trips.length (fun x => f x && decide (kindN T x = 1)) + cntN T.trips.length (fun x => f x && decide (kindN T x = 2)) ≤ cntN T.trips.length f := fun f => by
      have h1 := cntN_split (n := T.trips.length) (f := f) (fun x => decide (kindN T x = 0))
      have h2 := cntN_split (n := T.trips.length) (f := fun x => f x && !decide (kindN T x = 0)) (fun x => decide (kindN T x = 1))
      have h3 : cntN T.trips.length (fun x => f x && decide (kindN T x = 1)) ≤ cntN T.trips.length (fun x => (f x && !decide (kindN T x = 0)) && decide (kindN T x = 1)) := cntN_mono fun x _ hx => by
        simp at hx; simp [hx]
      have h4 : cntN T.trips.length (fun x => f x && decide (kindN T x = 2)) ≤ cntN T.trips.length (fun x => (f x && !decide (kindN T x = 0)) && !decide (kindN T x = 1)) := cntN_mono fun x _ hx => by
        simp at hx; simp [hx]
      omega
    have h0 := hk 0
    have h1 := hk 1
    have h2 := hk 2
    have ha := hsum a
    have hb := hsum b
    rw [most_all]
    have hm : T.mostL (upTo T.trips.length) = cntN T.trips.length a + cntN T.trips.length b := Nat.le_antisymm (mostL_le hfew hc) hs
    omega
  · obtain ⟨a0, b0, c0, s0⟩ := mostL_cov hfew (maskK T 0)
    obtain ⟨a1, b1, c1, s1⟩ := mostL_cov hfew (maskK T 1)
    obtain ⟨a2, b2, c2, s2⟩ := mostL_cov hfew (maskK T 2)
    rw [most_all]
    have h := mostL_le hfew (looked := upTo T.trips.length) (a := fun x => (a0 x || a1 x) || a2 x) (b := fun x => (b0 x || b1 x) || b2 x) (fun i j hi hj he => by
      rw [mayL_upTo hfew hi hj] at he
      have hk := may_kind2 hi hj he
      have hin : ∀ k : Int, kindN T i = k → T.mayL (maskK T k) i j = true := fun k h => by
        simp only [Tab.mayL, hlk k i hi, hlk k j hj, ← hk, h, he, decide_true, Bool.and_self]
      rcases kindN_three hT hi with h | h | h
      · rcases c0 i j hi hj (hin _ h) with q | q <;> simp [q]
      · rcases c1 i j hi hj (hin _ h) with q | q <;> simp [q]
      · rcases c2 i j hi hj (hin _ h) with q | q <;> simp [q])
    have q1 := cnt_or (n := T.trips.length) (f := fun x => a0 x || a1 x) (g := a2)
    have q2 := cnt_or (n := T.trips.length) (f := a0) (g := a1)
    have q3 := cnt_or (n := T.trips.length) (f := fun x => b0 x || b1 x) (g := b2)
    have q4 := cnt_or (n := T.trips.length) (f := b0) (g := b1)
    omega

theorem kinds_count {T : Tab} (hT : Valid T) : cntN T.trips.length (okAll T 0 []) + cntN T.trips.length (okAll T 1 []) + cntN T.trips.length (okAll T 2 []) = T.trips.length := by
  have hf : ∀ k : Int, 0 ≤ k → cntN T.trips.length (okAll T k []) = cntN T.trips.length (fun x => decide (kindN T x = k)) := fun k hk => cntN_congr fun x _ => by
    have hk' : ¬ k < 0 := by omega
    simp [okAll, hk']
  rw [hf 0 (by omega), hf 1 (by omega), hf 2 (by omega)]
  have h0 : cntN T.trips.length (fun _ => true) = T.trips.length := by
    unfold cntN; rw [List.filter_eq_self.2 (fun _ _ => rfl)]; simp
  have h1 := cntN_split (n := T.trips.length) (f := fun _ => true) (fun x => decide (kindN T x = 0))
  have h2 := cntN_split (n := T.trips.length) (f := fun x => true && !decide (kindN T x = 0)) (fun x => decide (kindN T x = 1))
  have h3 : cntN T.trips.length (fun x => true && decide (kindN T x = 0)) = cntN T.trips.length (fun x => decide (kindN T x = 0)) := cntN_congr fun x _ => by simp
  have h4 : cntN T.trips.length (fun x => (true && !decide (kindN T x = 0)) && decide (kindN T x = 1)) = cntN T.trips.length (fun x => decide (kindN T x = 1)) := cntN_congr fun x _ => by
    by_cases e : kindN T x = 1 <;> simp [e]
  have h5 : cntN T.trips.length (fun x => (true && !decide (kindN T x = 0)) && !decide (kindN T x = 1)) = cntN T.trips.length (fun x => decide (kindN T x = 2)) := cntN_congr fun x hx => by
    rcases kindN_three hT hx with e | e | e <;> simp [e]
  omega

/-- The fewest buses are the sum of those of the kinds. -/
theorem kinds_cut {T : Tab} (hT : Valid T) : fewK T [] 0 + fewK T [] 1 + fewK T [] 2 = (cutL T).length := by
  have hk : ∀ k : Nat, fewK T [] k + T.mostL (maskK T k) = cntN T.trips.length (okAll T k []) := fun k =>
    only_cut hT fun i hi => by
      rw [maskK_at (by have := hT.few; omega)]
      have hk' : ¬ (k : Int) < 0 := by omega
      simp [okAll, hi, hk']
  have h0 := hk 0
  have h1 := hk 1
  have h2 := hk 2
  have h3 := kinds_most hT
  have h4 := kinds_count hT
  have h5 := cutL_size hT
  simp only [Int.cast_ofNat_Int] at h0 h1 h2
  have e1 : ((1 : Nat) : Int) = 1 := rfl
  have e2 : ((2 : Nat) : Int) = 2 := rfl
  omega

end Go.Proofs.Ytnbkclhjpekkcaa

/-
  The fewest blocks by trying: the mathematics of the reference's search.
-/
namespace Go.Proofs.Ytnbkclhjpekkcaa

def fewStep (T : Tab) (x : Int) (tk : List Bool) (F : List Bool → Nat) (best : Nat) (k : Int) : Nat :=
  if !(tk[k.toNat]?.getD false) && T.mayN x.toNat k.toNat then min best (F (tk.set k.toNat true)) else best

def fewR (T : Tab) (l : List Int) : List Int → List Bool → Nat
  | [], _ => 0
  | x :: rest, tk => l.foldl (fewStep T x tk (fewR T l rest)) (1 + fewR T l rest tk)

theorem step_le {T : Tab} {x k : Int} {tk : List Bool} {F : List Bool → Nat} {b : Nat} : fewStep T x tk F b k ≤ b := by
  unfold fewStep; split
  · exact Nat.min_le_left _ _
  · exact Nat.le_refl _
theorem fold_le {T : Tab} {x : Int} {tk : List Bool} {F : List Bool → Nat} : ∀ {l : List Int} {b : Nat}, l.foldl (fewStep T x tk F) b ≤ b
  | [], _ => Nat.le_refl _
  | _k :: l, _b => Nat.le_trans (fold_le (l := l)) step_le
theorem fold_le_at {T : Tab} {x k : Int} {tk : List Bool} {F : List Bool → Nat} (h1 : tk[k.toNat]?.getD false = false) (h2 : T.mayN x.toNat k.toNat = true) : ∀ {l : List Int} {b : Nat}, k ∈ l → l.foldl (fewStep T x tk F) b ≤ F (tk.set k.toNat true)
  | [], _, h => by cases h
  | y :: l, b, h => by
    rcases List.mem_cons.1 h with rfl | h
    · refine Nat.le_trans (fold_le (l := l)) ?_
      unfold fewStep
      simp only [h1, h2, Bool.not_false, Bool.and_self, if_true]
      exact Nat.min_le_right _ _
    · have := fold_le_at (F := F) h1 h2 (l := l) (b := fewStep T x tk F b y) h
      exact this
theorem fold_is {T : Tab} {x : Int} {tk : List Bool} {F : List Bool → Nat} : ∀ {l : List Int} {b : Nat}, l.foldl (fewStep T x tk F) b = b ∨ ∃ k ∈ l, tk[k.toNat]?.getD false = false ∧ T.mayN x.toNat k.toNat = true ∧ l.foldl (fewStep T x tk F) b = F (tk.set k.toNat true)
  | [], b => .inl rfl
  | y :: l, b => by
    simp only [List.foldl_cons]
    rcases fold_is (l := l) (b := fewStep T x tk F b y) (T := T) (x := x) (tk := tk) (F := F) with h | ⟨k, h1, h2, h3, h4⟩
    · rw [h]
      unfold fewStep
      split
      · rename_i hc
        simp only [Bool.and_eq_true, Bool.not_eq_true'] at hc
        rcases Nat.le_total b (F (tk.set y.toNat true)) with hm | hm
        · exact .inl (Nat.min_eq_left hm)
        · exact .inr ⟨y, List.mem_cons_self, hc.1, hc.2, Nat.min_eq_right hm⟩
      · exact .inl rfl
    · exact .inr ⟨k, List.mem_cons_of_mem _ h1, h2, h3, h4⟩

theorem fewR_le {T : Tab} {l : List Int} : ∀ (rest : List Int) (tk : List Bool), fewR T l rest tk ≤ rest.length
  | [], _ => Nat.le_refl _
  | x :: rest, tk => by
    have h1 := fold_le (T := T) (x := x) (tk := tk) (F := fewR T l rest) (l := l) (b := 1 + fewR T l rest tk)
    have h2 := fewR_le (T := T) rest tk (l := l)
    simp only [fewR, List.length_cons]
    omega

/-- Who is followed by whom. -/
structure Src (T : Tab) (l rest : List Int) (tk : List Bool) (q : Int → Option Int) : Prop where
  to : ∀ x ∈ rest, ∀ k, q x = some k → k ∈ l ∧ tk[k.toNat]?.getD false = false ∧ T.mayN x.toNat k.toNat = true
  inj : ∀ x ∈ rest, ∀ y ∈ rest, ∀ k, q x = some k → q y = some k → x = y

variable {T : Tab} {l : List Int}

theorem fewR_low (hl : ∀ x ∈ l, 0 ≤ x) {q : Int → Option Int} : ∀ (rest : List Int) (tk : List Bool), rest.Nodup → Src T l rest tk q → fewR T l rest tk + rest.countP (fun x => (q x).isSome) ≤ rest.length
  | [], _, _, _ => by simp [fewR]
  | x :: rest, tk, hn, h => by
    rw [List.nodup_cons] at hn
    rw [List.countP_cons]
    cases hq : q x with
    | none =>
      have ih := fewR_low hl rest tk hn.2 ⟨fun y hy => h.to y (List.mem_cons_of_mem _ hy), fun y hy z hz => h.inj y (List.mem_cons_of_mem _ hy) z (List.mem_cons_of_mem _ hz)⟩
      have h1 := fold_le (T := T) (x := x) (tk := tk) (F := fewR T l rest) (l := l) (b := 1 + fewR T l rest tk)
      simp only [fewR, List.length_cons, Option.isSome_none, Bool.false_eq_true, if_false]
      omega
    | some k =>
      obtain ⟨k1, k2, k3⟩ := h.to x List.mem_cons_self k hq
      have ih := fewR_low hl rest (tk.set k.toNat true) hn.2 ⟨fun y hy k' hk' => by
        obtain ⟨j1, j2, j3⟩ := h.to y (List.mem_cons_of_mem _ hy) k' hk'
        refine ⟨j1, ?_, j3⟩
        have hne : k'.toNat ≠ k.toNat := fun e => by
          have e2 : k' = k := by have := hl _ j1; have := hl _ k1; omega
          subst e2
          have := h.inj x List.mem_cons_self y (List.mem_cons_of_mem _ hy) k' hq hk'
          subst this
          exact hn.1 hy
        rw [List.getElem?_set_ne (Ne.symm hne)]; exact j2, fun y hy z hz => h.inj y (List.mem_cons_of_mem _ hy) z (List.mem_cons_of_mem _ hz)⟩
      have h1 := fold_le_at (T := T) (x := x) (tk := tk) (F := fewR T l rest) (b := 1 + fewR T l rest tk) k2 k3 k1
      simp only [fewR, List.length_cons, Option.isSome_some, if_true]
      omega

theorem fewR_is (hl : ∀ x ∈ l, 0 ≤ x) : ∀ (rest : List Int) (tk : List Bool), rest.Nodup → (∀ x ∈ l, x.toNat < tk.length) → ∃ q, Src T l rest tk q ∧ fewR T l rest tk + rest.countP (fun x => (q x).isSome) = rest.length
  | [], _, _, _ => ⟨fun _ => none, ⟨fun x hx => (by cases hx), fun x hx => (by cases hx)⟩, by simp [fewR]⟩
  | x :: rest, tk, hn, hlen => by
    rw [List.nodup_cons] at hn
    rcases fold_is (T := T) (x := x) (tk := tk) (F := fewR T l rest) (l := l) (b := 1 + fewR T l rest tk) with h | ⟨k, h1, h2, h3, h4⟩
    · obtain ⟨q, hq, hs⟩ := fewR_is hl rest tk hn.2 hlen
      have hne : ∀ y ∈ rest, y ≠ x := fun y hy e => hn.1 (e ▸ hy)
      have hc : rest.countP (fun y => ((if y = x then none else q y : Option Int)).isSome) = rest.countP (fun y => (q y).isSome) := List.countP_congr fun y hy => by simp [hne y hy]
      refine ⟨fun y => if y = x then none else q y, ⟨fun y hy k hk => ?_, fun y hy z hz k hky hkz => ?_⟩, ?_⟩
      · split at hk
        · cases hk
        · rename_i e
          exact hq.to y ((List.mem_cons.1 hy).resolve_left e) k hk
      · split at hky
        · cases hky
        · split at hkz
          · cases hkz
          · rename_i e1 e2
            exact hq.inj y ((List.mem_cons.1 hy).resolve_left e1) z ((List.mem_cons.1 hz).resolve_left e2) k hky hkz
      · rw [List.countP_cons, hc]
        simp only [fewR, h, List.length_cons, if_true, Option.isSome_none, Bool.false_eq_true, if_false]
        omega
    · obtain ⟨q, hq, hs⟩ := fewR_is hl rest (tk.set k.toNat true) hn.2 (fun y hy => by rw [List.length_set]; exact hlen y hy)
      have hne : ∀ y ∈ rest, y ≠ x := fun y hy e => hn.1 (e ▸ hy)
      have hc : rest.countP (fun y => ((if y = x then some k else q y : Option Int)).isSome) = rest.countP (fun y => (q y).isSome) := List.countP_congr fun y hy => by simp [hne y hy]
      have hnk : ∀ y ∈ rest, q y ≠ some k := fun y hy e => by
        have := (hq.to y hy k e).2.1
        rw [List.getElem?_set_self (hlen k h1)] at this
        cases this
      refine ⟨fun y => if y = x then some k else q y, ⟨fun y hy k' hk => ?_, fun y hy z hz k' hky hkz => ?_⟩, ?_⟩
      · split at hk
        · rename_i e; subst e; cases hk; exact ⟨h1, h2, h3⟩
        · rename_i e
          obtain ⟨j1, j2, j3⟩ := hq.to y ((List.mem_cons.1 hy).resolve_left e) k' hk
          refine ⟨j1, ?_, j3⟩
          by_cases e2 : k'.toNat = k.toNat
          · rw [e2]; exact h2
          · rwa [List.getElem?_set_ne (Ne.symm e2)] at j2
      · split at hky
        · split at hkz
          · rename_i e1 e2; rw [e1, e2]
          · rename_i e1 e2
            cases hky
            exact absurd hkz (hnk z ((List.mem_cons.1 hz).resolve_left e2))
        · split at hkz
          · rename_i e1 e2
            cases hkz
            exact absurd hky (hnk y ((List.mem_cons.1 hy).resolve_left e1))
          · rename_i e1 e2
            exact hq.inj y ((List.mem_cons.1 hy).resolve_left e1) z ((List.mem_cons.1 hz).resolve_left e2) k' hky hkz
      · rw [List.countP_cons, hc]
        simp only [fewR, h4, List.length_cons, if_true, Option.isSome_some]
        omega

end Go.Proofs.Ytnbkclhjpekkcaa

/-
  The reference's search finds the fewest.
-/
namespace Go.Proofs.Ytnbkclhjpekkcaa

theorem numsOf_nodup {n : Nat} {f : Nat → Bool} : (numsOf n f).Nodup := numsOf_rise.imp fun hab => by omega

theorem countP_nums {n : Nat} {f : Nat → Bool} {g : Int → Bool} : (numsOf n f).countP g = cntN n (fun x => f x && g (x : Int)) := by
  induction n with
  | zero => simp [numsOf, cntN]
  | succ n ih =>
    rw [numsOf_succ, cntN_succ, ← ih]
    cases hf : f n
    · simp
    · simp [List.countP_append, List.countP_cons]

theorem fewR_most {T : Tab} (hT : Valid T) {f : Nat → Bool} {looked tk : List Bool} (hlk : ∀ i, i < T.trips.length → looked[i]?.getD false = f i) (htk : tk = List.replicate T.trips.length false) :
    fewR T (numsOf T.trips.length f) (numsOf T.trips.length f) tk + T.mostL looked = cntN T.trips.length f := by
  have hfew := hT.few
  have hl0 : ∀ x ∈ numsOf T.trips.length f, 0 ≤ x := fun x hx => by
    obtain ⟨k, _, _, rfl⟩ := numsOf_mem.1 hx; omega
  have htf : ∀ i : Nat, tk[i]?.getD false = false := fun i => by
    rw [htk, List.getElem?_replicate]; split <;> rfl
  have hlen : ∀ x ∈ numsOf T.trips.length f, x.toNat < tk.length := fun x hx => by
    obtain ⟨k, h1, _, rfl⟩ := numsOf_mem.1 hx
    rw [htk, List.length_replicate]; simpa using h1
  rw [← numsOf_length]
  apply Nat.le_antisymm
  · -- as many are followed as are led
    have hM := joinL_mat (looked := looked) (followers_ok hfew) T.trips.length (Nat.le_refl _)
    have hmost : T.mostL looked = ledSize T.trips.length (joinL T.followers looked T.trips.length) := rfl
    generalize joinL T.followers looked T.trips.length = led at hM hmost
    have hpm := hM.pm
    have hq : Src T (numsOf T.trips.length f) (numsOf T.trips.length f) tk (fun x => if (turnL led)[x.toNat]?.getD (-1) = -1 then none else some ((turnL led)[x.toNat]?.getD (-1))) := by
      refine ⟨fun x hx k hk => ?_, fun x hx y hy k hkx hky => ?_⟩
      · split at hk
        · cases hk
        · rename_i hne
          have hkk := Option.some.inj hk
          obtain ⟨i, h1, h2, rfl⟩ := numsOf_mem.1 hx
          obtain ⟨k0, k1⟩ := turn_led hT hM (by omega) hkk (by rw [← hkk]; exact hne)
          have hp := ledP_of (i := i) k1
          have hkn : k.toNat < T.trips.length := by
            have hok := turn_ok hT hM
            have hl := (left_next hT hok (x := (i : Int)) (by omega) (by simpa using h1)).2
            rw [hkk] at hl
            exact (hl.resolve_left (by rw [← hkk]; exact hne)).2
          obtain ⟨_, h4⟩ := hpm.edge _ _ hkn hp
          simp only [Tab.mayL, Bool.and_eq_true] at h4
          refine ⟨numsOf_mem.2 ⟨k.toNat, hkn, ?_, by omega⟩, htf _, by simpa using h4.2⟩
          rw [← hlk _ hkn]; exact h4.1.2
      · split at hkx
        · cases hkx
        · split at hky
          · cases hky
          · rename_i e1 e2
            have q1 := Option.some.inj hkx
            have q2 := Option.some.inj hky
            obtain ⟨_, k1⟩ := turn_led hT hM (hl0 x hx) q1 (by rw [← q1]; exact e1)
            obtain ⟨_, k2⟩ := turn_led hT hM (hl0 y hy) q2 (by rw [← q2]; exact e2)
            rw [k1] at k2
            exact Option.some.inj k2
    have h := fewR_low hl0 _ _ numsOf_nodup hq
    rw [countP_nums] at h
    have hc : T.mostL looked ≤ cntN T.trips.length (fun x => f x && ((fun x : Int => if (turnL led)[x.toNat]?.getD (-1) = -1 then none else some ((turnL led)[x.toNat]?.getD (-1))) (x : Int)).isSome) := by
      rw [hmost]
      refine cntN_inj (fun j => (led[j]?.getD 0).toNat) (fun j hj he => ?_) (fun j k hj hk hej hek he => ?_)
      · obtain ⟨i, hi⟩ := Option.isSome_iff_exists.1 he
        obtain ⟨h1, h2⟩ := hpm.edge j i hj hi
        have hs := ledP_some hi
        have hn := led_turn hT hM (y := (i : Int)) (x := (j : Int)) (by omega) (by omega) (by simpa using hs)
        simp only [Tab.mayL, Bool.and_eq_true] at h2
        simp at hn
        rw [hs]
        refine ⟨by simpa using h1, ?_⟩
        have hfi : f i = true := by rw [← hlk _ h1]; exact h2.1.1
        simp [hfi, hn]
      · obtain ⟨i, hi⟩ := Option.isSome_iff_exists.1 hej
        obtain ⟨i', hi'⟩ := Option.isSome_iff_exists.1 hek
        have hs := ledP_some hi
        have hs' := ledP_some hi'
        rw [hs, hs'] at he
        simp at he
        subst he
        exact hpm.inj j k i hj hk hi hi'
    dsimp only at hc
    omega
  · -- no more are followed than a cover has
    obtain ⟨q, hq, hs⟩ := fewR_is (T := T) hl0 _ tk numsOf_nodup hlen
    obtain ⟨a, b, hc, hab⟩ := mostL_cov hfew looked
    rw [countP_nums] at hs
    have h1 := cntN_split (n := T.trips.length) (f := fun x => f x && (q (x : Int)).isSome) a
    have h2 : cntN T.trips.length (fun x => (f x && (q (x : Int)).isSome) && a x) ≤ cntN T.trips.length a := cntN_mono fun x _ hx => by simp at hx; exact hx.2
    have h3 : cntN T.trips.length (fun x => (f x && (q (x : Int)).isSome) && !a x) ≤ cntN T.trips.length b := by
      refine cntN_inj (fun x => ((q (x : Int)).getD 0).toNat) (fun x hx he => ?_) (fun x y hx hy hex hey he => ?_)
      · simp only [Bool.and_eq_true, Bool.not_eq_true'] at he
        obtain ⟨k, hk⟩ := Option.isSome_iff_exists.1 he.1.2
        obtain ⟨m1, _, m3⟩ := hq.to x (numsOf_mem.2 ⟨x, hx, he.1.1, rfl⟩) k hk
        obtain ⟨k', k1, k2, rfl⟩ := numsOf_mem.1 m1
        rw [hk]
        simp at m3
        have := hc x k' hx k1 (by simp only [Tab.mayL, hlk _ hx, hlk _ k1, he.1.1, k2, m3, Bool.and_self])
        refine ⟨by simpa using k1, ?_⟩
        have := this.resolve_left (by rw [he.2]; simp)
        simpa using this
      · simp only [Bool.and_eq_true, Bool.not_eq_true'] at hex hey
        obtain ⟨k, hk⟩ := Option.isSome_iff_exists.1 hex.1.2
        obtain ⟨m, hm⟩ := Option.isSome_iff_exists.1 hey.1.2
        have u1 := numsOf_mem.2 ⟨x, hx, hex.1.1, rfl⟩
        have u2 := numsOf_mem.2 ⟨y, hy, hey.1.1, rfl⟩
        have g1 := hl0 _ (hq.to x u1 k hk).1
        have g2 := hl0 _ (hq.to y u2 m hm).1
        rw [hk, hm] at he
        simp at he
        have e : k = m := by omega
        subst e
        have := hq.inj x u1 y u2 k hk hm
        omega
    omega

end Go.Proofs.Ytnbkclhjpekkcaa
