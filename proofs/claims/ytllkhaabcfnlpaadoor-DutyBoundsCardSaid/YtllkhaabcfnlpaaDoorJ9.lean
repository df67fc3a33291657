/-
  Joined texts of a calculus of abstract memory, of the program's code in it, and of contracts.
-/
import Derived.Test.YtllkhaabcfnlpaaDoorJ5
import Derived.Test.YtllkhaabcfnlpaaDoorChecked
import Derived.KernelRfl
/-
  The code of functions of the package, as the calculus has it.
-/
namespace Go.Proofs.YtllkhaabcfnlpaaDoor
open Go Go.Ab

/-- layover/duty.every[layover/duty.set] -/
def a102 : ACode :=
  (.seq
   (.region [⟨(some 4), (.mov (.c (.bool false))), none⟩])
   (.seq
    (.seq
     (.region [⟨(some 7), (.mov (.t 0)), none⟩, ⟨(some 8), (.len (.t 7)), none⟩, ⟨(some 9), (.mov (.c (.int .i64 0))), none⟩])
     (.block 0
      (.loop
       (.seq
        (.region [⟨(some 10), (.bin .lss (.t 9) (.t 8)), none⟩])
        (.seq
         (.cond (.t 10)
          .skip
          (.exit 0))
         (.seq
          (.block 1
           (.seq
            (.region [⟨(some 11), (.isl 1 (.t 7) (.t 9)), none⟩, ⟨(some 12), (.ld false 1 (.t 11)), none⟩, ⟨(some 6), (.mov (.t 12)), none⟩])
            (.seq
             (.region [⟨(some 13), (.mov (.t 1)), none⟩, ⟨(some 14), (.mov (.t 6)), none⟩, ⟨(some 15), (.call (.t 13) [(.t 14)]), none⟩, ⟨(some 16), (.not (.t 15)), none⟩])
             (.cond (.t 16)
              (.seq
               (.region [⟨(some 4), (.mov (.c (.bool false))), none⟩])
               .ret)
              .skip))))
          (.region [⟨(some 17), (.bin .add (.t 9) (.c (.int .i64 1))), none⟩, ⟨(some 9), (.mov (.t 17)), none⟩])))))))
    (.seq
     (.region [⟨(some 4), (.mov (.c (.bool true))), none⟩])
     .ret)))
def r102 : List AOp := [(.mov (.t 4))]
theorem ok102 : FnOk Tryd.prog 102 Tryd.f102.ntmps a102 r102 := ⟨Tryd.f102, Tryd.func102, by kernel_rfl, by kernel_rfl, by kernel_rfl, fun asv w => by simp⟩

/-- (layover/duty.planned).isFair$1 -/
def a103 : ACode :=
  (.seq
   (.region [⟨(some 3), (.mov (.c (.bool false))), none⟩])
   (.seq
    (.region [⟨(some 4), (.mov (.c (.int .i64 0))), none⟩])
    (.seq
     (.seq
      (.region [⟨(some 7), (.mov (.t 0)), none⟩, ⟨(some 8), (.call (.c (.func (.func 73) #[] #[])) [(.t 7)]), none⟩, ⟨(some 9), (.len (.t 8)), none⟩, ⟨(some 10), (.mov (.c (.int .i64 0))), none⟩])
      (.block 0
       (.loop
        (.seq
         (.region [⟨(some 11), (.bin .lss (.t 10) (.t 9)), none⟩])
         (.seq
          (.cond (.t 11)
           .skip
           (.exit 0))
          (.seq
           (.block 1
            (.seq
             (.region [⟨(some 12), (.isl 1 (.t 8) (.t 10)), none⟩, ⟨(some 13), (.ld false 1 (.t 12)), none⟩, ⟨(some 6), (.mov (.t 13)), none⟩])
             (.region [⟨(some 14), (.mov (.t 4)), none⟩, ⟨(some 15), (.ld false 1 (.t 1)), none⟩, ⟨(some 16), (.mov (.t 6)), none⟩, ⟨(some 17), (.isl 1 (.t 15) (.t 16)), none⟩, ⟨(some 18), (.ld false 1 (.t 17)), none⟩, ⟨(some 19), (.bin .add (.t 14) (.t 18)), none⟩, ⟨(some 4), (.mov (.t 19)), none⟩])))
           (.region [⟨(some 20), (.bin .add (.t 10) (.c (.int .i64 1))), none⟩, ⟨(some 10), (.mov (.t 20)), none⟩])))))))
     (.seq
      (.region [⟨(some 21), (.mov (.t 4)), none⟩, ⟨(some 22), (.bin .leq (.t 21) (.c (.int .i64 1000))), none⟩, ⟨(some 3), (.mov (.t 22)), none⟩])
      .ret))))
def r103 : List AOp := [(.mov (.t 3))]
theorem ok103 : FnOk Tryd.prog 103 Tryd.f103.ntmps a103 r103 := ⟨Tryd.f103, Tryd.func103, by kernel_rfl, by kernel_rfl, by kernel_rfl, fun asv w => by simp⟩

/-- (layover/duty.planned).best$1 -/
def a104 : ACode :=
  (.seq
   (.region [⟨(some 6), (.new [(.int .u64 0), (.int .i64 0), (.int .i64 0), (.bool false)]), none⟩])
   (.seq
    (.seq
     (.region [⟨(some 15), (.ld false 1 (.t 1)), none⟩, ⟨(some 16), (.mov (.t 0)), none⟩, ⟨(some 17), (.lkp 102 (.agg #[(.int .u64 0), (.int .i64 0), (.int .i64 0), (.bool false)]) (.t 15) (.t 16)), none⟩, ⟨(some 14), (.mov (.t 17)), none⟩, ⟨(some 18), (.ext (.t 14) 0), none⟩, ⟨(some 19), (.ext (.t 14) 1), none⟩, ⟨(some 7), (.new [(.int .u64 0), (.int .i64 0), (.int .i64 0), (.bool false)]), none⟩, ⟨none, (.st 4 (.t 7) (.t 18)), none⟩, ⟨(some 8), (.mov (.t 19)), none⟩])
     (.seq
      (.region [⟨(some 20), (.mov (.t 8)), none⟩])
      (.cond (.t 20)
       (.seq
        (.region [⟨(some 21), (.ld true 4 (.t 7)), none⟩, ⟨none, (.st 4 (.t 6) (.t 21)), none⟩])
        .ret)
       .skip)))
    (.seq
     (.region [⟨(some 9), (.new [(.int .u64 0), (.int .i64 0), (.int .i64 0), (.bool false)]), none⟩])
     (.seq
      (.seq
       (.draw 6 [⟨⟨(some 22), (.ld false 1 (.t 2)), none⟩, 0, false, []⟩, ⟨⟨(some 23), (.mov (.t 0)), none⟩, 1, false, []⟩, ⟨⟨(some 27), (.mov (.c (.int .i64 0))), none⟩, 5, false, []⟩, ⟨⟨(some 24), (.call (.c (.func (.func 100) #[] #[])) [(.t 23)]), none⟩, 2, true, [0]⟩, ⟨⟨(some 25), (.lk1 102 (.slice none 0 0) (.t 22) (.t 24)), none⟩, 3, false, []⟩, ⟨⟨(some 26), (.len (.t 25)), none⟩, 4, false, []⟩])
       (.block 0
        (.loop
         (.seq
          (.region [⟨(some 28), (.bin .lss (.t 27) (.t 26)), none⟩])
          (.seq
           (.cond (.t 28)
            .skip
            (.exit 0))
           (.seq
            (.block 1
             (.seq
              (.region [⟨(some 29), (.isl 1 (.t 25) (.t 27)), none⟩, ⟨(some 30), (.ld false 1 (.t 29)), none⟩, ⟨(some 11), (.mov (.t 30)), none⟩])
              (.seq
               (.seq
                (.region [⟨(some 31), (.mov (.t 11)), none⟩, ⟨(some 32), (.mov (.t 0)), none⟩, ⟨(some 33), (.gen 62 ⟨(some 33), (.binOp .andNot 102 (.tmp 31) (.tmp 32) 102), 102, "plan.go:54", #[{ on := 0, ground := Go.Ground.data }, { on := 1, ground := Go.Ground.data }], none⟩), none⟩, ⟨(some 34), (.bin .neq (.t 33) (.c (.int .u64 0))), none⟩])
                (.cond (.t 34)
                 (.exit 1)
                 .skip))
               (.seq
                (.region [⟨(some 35), (.ld false 1 (.t 3)), none⟩, ⟨(some 36), (.mov (.t 0)), none⟩, ⟨(some 37), (.mov (.t 11)), none⟩, ⟨(some 38), (.gen 62 ⟨(some 38), (.binOp .andNot 102 (.tmp 36) (.tmp 37) 102), 102, "plan.go:57", #[{ on := 1, ground := Go.Ground.data }, { on := 2, ground := Go.Ground.data }], none⟩), none⟩, ⟨(some 39), (.call (.t 35) [(.t 38)]), none⟩, ⟨(some 12), (.new [(.int .u64 0), (.int .i64 0), (.int .i64 0), (.bool false)]), none⟩, ⟨none, (.st 4 (.t 12) (.t 39)), none⟩])
                (.seq
                 (.region [⟨(some 40), (.mov (.t 11)), none⟩, ⟨(some 41), (.fa 1 (.t 12)), none⟩, ⟨(some 42), (.ld false 1 (.t 41)), none⟩, ⟨(some 43), (.bin .add (.t 42) (.c (.int .i64 1))), none⟩, ⟨(some 44), (.fa 2 (.t 12)), none⟩, ⟨(some 45), (.ld false 1 (.t 44)), none⟩, ⟨(some 46), (.ld false 1 (.t 4)), none⟩, ⟨(some 47), (.mov (.t 11)), none⟩, ⟨(some 48), (.lk1 102 (.int .i64 0) (.t 46) (.t 47)), none⟩, ⟨(some 49), (.bin .add (.t 45) (.t 48)), none⟩, ⟨(some 50), (.fa 3 (.t 12)), none⟩, ⟨(some 51), (.ld false 1 (.t 50)), none⟩, ⟨(some 52), (.bld [(.int .u64 0), (.int .i64 0), (.int .i64 0), (.bool false)] [(0, 1, (.t 40)), (1, 1, (.t 43)), (2, 1, (.t 49)), (3, 1, (.t 51))]), none⟩, ⟨(some 13), (.new [(.int .u64 0), (.int .i64 0), (.int .i64 0), (.bool false)]), none⟩, ⟨none, (.st 4 (.t 13) (.t 52)), none⟩])
                 (.seq
                  (.region [⟨(some 53), (.ld true 4 (.t 13)), none⟩, ⟨(some 54), (.ld true 4 (.t 9)), none⟩, ⟨(some 55), (.call (.c (.func (.func 105) #[] #[])) [(.t 53), (.t 54)]), none⟩])
                  (.cond (.t 55)
                   (.region [⟨(some 56), (.ld true 4 (.t 13)), none⟩, ⟨none, (.st 4 (.t 9) (.t 56)), none⟩])
                   .skip)))))))
            (.region [⟨(some 57), (.bin .add (.t 27) (.c (.int .i64 1))), none⟩, ⟨(some 27), (.mov (.t 57)), none⟩])))))))
      (.seq
       (.region [⟨(some 58), (.ld false 1 (.t 1)), none⟩, ⟨(some 59), (.mov (.t 0)), none⟩, ⟨(some 60), (.ld true 4 (.t 9)), none⟩, ⟨none, (.mup 102 (.t 58) (.t 59) (.t 60)), none⟩])
       (.seq
        (.region [⟨(some 61), (.ld true 4 (.t 9)), none⟩, ⟨none, (.st 4 (.t 6) (.t 61)), none⟩])
        .ret))))))
def r104 : List AOp := [(.ld true 4 (.t 6))]
theorem ok104 : FnOk Tryd.prog 104 Tryd.f104.ntmps a104 r104 := ⟨Tryd.f104, Tryd.func104, by kernel_rfl, by kernel_rfl, by kernel_rfl, fun asv w => by simp⟩

/-- (layover/duty.choice).isBetter -/
def a105 : ACode :=
  (.seq
   (.region [⟨(some 2), (.box (.t 0)), none⟩, ⟨(some 3), (.box (.t 1)), none⟩, ⟨(some 4), (.mov (.c (.bool false))), none⟩])
   (.seq
    (.block 0
     (.seq
      (.region [⟨(some 6), (.fa 3 (.t 2)), none⟩, ⟨(some 7), (.ld false 1 (.t 6)), none⟩, ⟨(some 8), (.not (.t 7)), none⟩, ⟨(some 9), (.mov (.t 8)), none⟩, ⟨(some 10), (.fa 3 (.t 3)), (some (9, false))⟩, ⟨(some 11), (.ld false 1 (.t 10)), (some (9, false))⟩, ⟨(some 12), (.not (.t 11)), (some (9, false))⟩, ⟨(some 13), (.pick (.t 9) (.c (.bool true)) (.t 12)), none⟩, ⟨(some 5), (.mov (.t 13)), none⟩])
      (.cond (.t 5)
       (.seq
        (.region [⟨(some 14), (.fa 3 (.t 2)), none⟩, ⟨(some 15), (.ld false 1 (.t 14)), none⟩, ⟨(some 4), (.mov (.t 15)), none⟩])
        .ret)
       (.seq
        (.region [⟨(some 17), (.fa 1 (.t 2)), none⟩, ⟨(some 18), (.ld false 1 (.t 17)), none⟩, ⟨(some 19), (.fa 1 (.t 3)), none⟩, ⟨(some 20), (.ld false 1 (.t 19)), none⟩, ⟨(some 21), (.bin .neq (.t 18) (.t 20)), none⟩, ⟨(some 16), (.mov (.t 21)), none⟩])
        (.cond (.t 16)
         (.seq
          (.region [⟨(some 22), (.fa 1 (.t 2)), none⟩, ⟨(some 23), (.ld false 1 (.t 22)), none⟩, ⟨(some 24), (.fa 1 (.t 3)), none⟩, ⟨(some 25), (.ld false 1 (.t 24)), none⟩, ⟨(some 26), (.bin .lss (.t 23) (.t 25)), none⟩, ⟨(some 4), (.mov (.t 26)), none⟩])
          .ret)
         .skip)))))
    (.seq
     (.region [⟨(some 27), (.fa 2 (.t 2)), none⟩, ⟨(some 28), (.ld false 1 (.t 27)), none⟩, ⟨(some 29), (.fa 2 (.t 3)), none⟩, ⟨(some 30), (.ld false 1 (.t 29)), none⟩, ⟨(some 31), (.bin .lss (.t 28) (.t 30)), none⟩, ⟨(some 4), (.mov (.t 31)), none⟩])
     .ret)))
def r105 : List AOp := [(.mov (.t 4))]
theorem ok105 : FnOk Tryd.prog 105 Tryd.f105.ntmps a105 r105 := ⟨Tryd.f105, Tryd.func105, by kernel_rfl, by kernel_rfl, by kernel_rfl, fun asv w => by simp⟩

/-- layover/duty.plan -/
def a106 : ACode :=
  (.seq
   (.region [⟨(some 4), (.mov (.c (.slice none 0 0))), none⟩])
   (.seq
    (.region [⟨(some 7), (.bsl 0 [] []), none⟩, ⟨(some 5), (.mov (.t 7)), none⟩])
    (.seq
     (.seq
      (.region [⟨(some 8), (.mov (.t 0)), none⟩, ⟨(some 6), (.mov (.t 8)), none⟩])
      (.block 0
       (.loop
        (.seq
         (.seq
          (.region [⟨(some 9), (.mov (.t 1)), none⟩, ⟨(some 10), (.mov (.t 6)), none⟩, ⟨(some 11), (.lk1 102 (.agg #[(.int .u64 0), (.int .i64 0), (.int .i64 0), (.bool false)]) (.t 9) (.t 10)), none⟩, ⟨(some 12), (.fld false 0 1 (.t 11)), none⟩, ⟨(some 13), (.bin .neq (.t 12) (.c (.int .u64 0))), none⟩])
          (.cond (.t 13)
           .skip
           (.exit 0)))
         (.seq
          (.block 1
           (.region [⟨(some 20), (.mov (.t 5)), none⟩, ⟨(some 21), (.mov (.t 1)), none⟩, ⟨(some 22), (.mov (.t 6)), none⟩, ⟨(some 23), (.lk1 102 (.agg #[(.int .u64 0), (.int .i64 0), (.int .i64 0), (.bool false)]) (.t 21) (.t 22)), none⟩, ⟨(some 24), (.fld false 0 1 (.t 23)), none⟩, ⟨(some 25), (.call (.c (.func (.func 73) #[] #[])) [(.t 24)]), none⟩, ⟨(some 26), (.bsl 1 [(.slice none 0 0)] [(0, 1, (.t 25))]), none⟩, ⟨(some 27), (.app 1 24 (.t 20) (.t 26)), none⟩, ⟨(some 5), (.mov (.t 27)), none⟩]))
          (.region [⟨(some 14), (.mov (.t 6)), none⟩, ⟨(some 15), (.mov (.t 1)), none⟩, ⟨(some 16), (.mov (.t 6)), none⟩, ⟨(some 17), (.lk1 102 (.agg #[(.int .u64 0), (.int .i64 0), (.int .i64 0), (.bool false)]) (.t 15) (.t 16)), none⟩, ⟨(some 18), (.fld false 0 1 (.t 17)), none⟩, ⟨(some 19), (.gen 29 ⟨(some 19), (.binOp .andNot 102 (.tmp 14) (.tmp 18) 102), 102, "plan.go:73", #[{ on := 0, ground := Go.Ground.data }, { on := 4, ground := Go.Ground.data }], none⟩), none⟩, ⟨(some 6), (.mov (.t 19)), none⟩]))))))
     (.seq
      (.region [⟨(some 28), (.mov (.t 5)), none⟩, ⟨(some 4), (.mov (.t 28)), none⟩])
      .ret))))
def r106 : List AOp := [(.mov (.t 4))]
theorem ok106 : FnOk Tryd.prog 106 Tryd.f106.ntmps a106 r106 := ⟨Tryd.f106, Tryd.func106, by kernel_rfl, by kernel_rfl, by kernel_rfl, fun asv w => by simp⟩

/-- layover/duty.every[[]int] -/
def a107 : ACode :=
  (.seq
   (.region [⟨(some 4), (.mov (.c (.bool false))), none⟩])
   (.seq
    (.seq
     (.region [⟨(some 7), (.mov (.t 0)), none⟩, ⟨(some 8), (.len (.t 7)), none⟩, ⟨(some 9), (.mov (.c (.int .i64 0))), none⟩])
     (.block 0
      (.loop
       (.seq
        (.region [⟨(some 10), (.bin .lss (.t 9) (.t 8)), none⟩])
        (.seq
         (.cond (.t 10)
          .skip
          (.exit 0))
         (.seq
          (.block 1
           (.seq
            (.region [⟨(some 11), (.isl 1 (.t 7) (.t 9)), none⟩, ⟨(some 12), (.ld false 1 (.t 11)), none⟩, ⟨(some 6), (.mov (.t 12)), none⟩])
            (.seq
             (.region [⟨(some 13), (.mov (.t 1)), none⟩, ⟨(some 14), (.mov (.t 6)), none⟩, ⟨(some 15), (.call (.t 13) [(.t 14)]), none⟩, ⟨(some 16), (.not (.t 15)), none⟩])
             (.cond (.t 16)
              (.seq
               (.region [⟨(some 4), (.mov (.c (.bool false))), none⟩])
               .ret)
              .skip))))
          (.region [⟨(some 17), (.bin .add (.t 9) (.c (.int .i64 1))), none⟩, ⟨(some 9), (.mov (.t 17)), none⟩])))))))
    (.seq
     (.region [⟨(some 4), (.mov (.c (.bool true))), none⟩])
     .ret)))
def r107 : List AOp := [(.mov (.t 4))]
theorem ok107 : FnOk Tryd.prog 107 Tryd.f107.ntmps a107 r107 := ⟨Tryd.f107, Tryd.func107, by kernel_rfl, by kernel_rfl, by kernel_rfl, fun asv w => by simp⟩

/-- (layover/duty.planned).isPlan$1 -/
def a108 : ACode :=
  (.seq
   (.region [⟨(some 4), (.mov (.c (.bool false))), none⟩])
   (.seq
    (.region [⟨(some 8), (.ld true 13 (.t 1)), none⟩, ⟨(some 9), (.mov (.t 0)), none⟩, ⟨(some 10), (.call (.c (.func (.func 90) #[] #[])) [(.t 8), (.t 9)]), none⟩, ⟨(some 7), (.mov (.t 10)), none⟩, ⟨(some 11), (.ext (.t 7) 0), none⟩, ⟨(some 12), (.ext (.t 7) 1), none⟩, ⟨(some 5), (.mov (.t 11)), none⟩, ⟨(some 6), (.mov (.t 12)), none⟩])
    (.seq
     (.region [⟨(some 13), (.mov (.t 6)), none⟩, ⟨(some 14), (.mov (.t 13)), none⟩, ⟨(some 15), (.mov (.t 5)), (some (14, true))⟩, ⟨(some 16), (.ld false 1 (.t 2)), (some (14, true))⟩, ⟨(some 17), (.gen 29 ⟨(some 17), (.binOp .andNot 102 (.tmp 15) (.tmp 16) 102), 102, "plan.go:85", #[{ on := 2, ground := Go.Ground.data }, { on := 3, ground := Go.Ground.data }, { on := 1, ground := Go.Ground.guard }], (some (1, true))⟩), (some (14, true))⟩, ⟨(some 18), (.bin .eql (.t 17) (.c (.int .u64 0))), (some (14, true))⟩, ⟨(some 19), (.pick (.t 14) (.t 18) (.c (.bool false))), none⟩, ⟨(some 20), (.mov (.t 19)), none⟩, ⟨(some 21), (.ld true 13 (.t 1)), (some (20, true))⟩, ⟨(some 22), (.mov (.t 5)), (some (20, true))⟩, ⟨(some 23), (.call (.c (.func (.func 61) #[] #[])) [(.t 21), (.t 22)]), (some (20, true))⟩, ⟨(some 24), (.pick (.t 20) (.t 23) (.c (.bool false))), none⟩, ⟨(some 6), (.mov (.t 24)), none⟩])
     (.seq
      (.region [⟨(some 25), (.ld false 1 (.t 2)), none⟩, ⟨(some 26), (.mov (.t 5)), none⟩, ⟨(some 27), (.gen 29 ⟨(some 27), (.binOp .andNot 102 (.tmp 25) (.tmp 26) 102), 102, "plan.go:86", #[{ on := 0, ground := Go.Ground.data }, { on := 1, ground := Go.Ground.data }], none⟩), none⟩, ⟨none, (.st 1 (.t 2) (.t 27)), none⟩])
      (.seq
       (.region [⟨(some 28), (.mov (.t 6)), none⟩, ⟨(some 4), (.mov (.t 28)), none⟩])
       .ret)))))
def r108 : List AOp := [(.mov (.t 4))]
theorem ok108 : FnOk Tryd.prog 108 Tryd.f108.ntmps a108 r108 := ⟨Tryd.f108, Tryd.func108, by kernel_rfl, by kernel_rfl, by kernel_rfl, fun asv w => by simp⟩

/-- (layover/duty.planned).segmentsOf$1 -/
def a109 : ACode :=
  (.seq
   (.region [⟨(some 5), (.mov (.c (.bool false))), none⟩])
   (.seq
    (.seq
     (.region [⟨(some 6), (.mov (.t 0)), none⟩, ⟨(some 7), (.ld false 1 (.t 1)), none⟩, ⟨(some 8), (.bin .add (.t 7) (.c (.int .i64 1))), none⟩, ⟨(some 9), (.fa 10 (.t 2)), none⟩, ⟨(some 10), (.ld false 1 (.t 9)), none⟩, ⟨(some 11), (.len (.t 10)), none⟩, ⟨(some 12), (.bin .sub (.t 11) (.c (.int .i64 1))), none⟩, ⟨(some 13), (.call (.c (.func (.func 86) #[] #[])) [(.t 6), (.t 8), (.t 12)]), none⟩, ⟨(some 14), (.not (.t 13)), none⟩])
     (.cond (.t 14)
      (.seq
       (.region [⟨(some 5), (.mov (.c (.bool false))), none⟩])
       .ret)
      .skip))
    (.seq
     (.draw 5 [⟨⟨(some 15), (.ld false 1 (.t 3)), none⟩, 0, false, []⟩, ⟨⟨(some 16), (.mov (.t 0)), none⟩, 1, false, []⟩, ⟨⟨(some 17), (.call (.c (.func (.func 97) #[] #[])) [(.t 16)]), none⟩, 2, true, [0]⟩, ⟨⟨(some 18), (.gen 20 ⟨(some 18), (.binOp .or 102 (.tmp 15) (.tmp 17) 102), 102, "planned.go:73", #[{ on := 0, ground := Go.Ground.data }, { on := 2, ground := Go.Ground.data }], none⟩), none⟩, 3, false, []⟩, ⟨⟨none, (.st 1 (.t 3) (.t 18)), none⟩, 4, true, []⟩])
     (.seq
      (.region [⟨(some 19), (.mov (.t 0)), none⟩, ⟨none, (.st 1 (.t 1) (.t 19)), none⟩])
      (.seq
       (.region [⟨(some 5), (.mov (.c (.bool true))), none⟩])
       .ret)))))
def r109 : List AOp := [(.mov (.t 5))]
theorem ok109 : FnOk Tryd.prog 109 Tryd.f109.ntmps a109 r109 := ⟨Tryd.f109, Tryd.func109, by kernel_rfl, by kernel_rfl, by kernel_rfl, fun asv w => by simp⟩

/-- (layover/duty.planned).pieces -/
def a110 : ACode :=
  (.seq
   (.region [⟨(some 2), (.box (.t 0)), none⟩, ⟨(some 3), (.box (.t 1)), none⟩, ⟨(some 4), (.mov (.c .nilFunc)), none⟩])
   (.seq
    (.region [⟨(some 5), (.fn (.func 122) [] [(.t 3), (.t 2)]), none⟩, ⟨(some 4), (.mov (.t 5)), none⟩])
    .ret))
def r110 : List AOp := [(.mov (.t 4))]
theorem ok110 : FnOk Tryd.prog 110 Tryd.f110.ntmps a110 r110 := ⟨Tryd.f110, Tryd.func110, by kernel_rfl, by kernel_rfl, by kernel_rfl, fun asv w => by simp⟩

/-- (layover/duty.planned).minute -/
def a111 : ACode :=
  (.seq
   (.region [⟨(some 3), (.box (.t 0)), none⟩, ⟨(some 4), (.box (.t 1)), none⟩, ⟨(some 6), (.mov (.c (.int .i64 0))), none⟩])
   (.seq
    (.draw 13 [⟨⟨(some 7), (.fa 11 (.t 3)), none⟩, 0, false, []⟩, ⟨⟨(some 8), (.ld false 1 (.t 7)), none⟩, 1, false, []⟩, ⟨⟨(some 9), (.fa 0 (.t 4)), none⟩, 2, false, []⟩, ⟨⟨(some 10), (.ld false 1 (.t 9)), none⟩, 3, false, []⟩, ⟨⟨(some 11), (.isl 1 (.t 8) (.t 10)), none⟩, 4, false, []⟩, ⟨⟨(some 12), (.ld false 1 (.t 11)), none⟩, 5, false, []⟩, ⟨⟨(some 13), (.fa 1 (.t 4)), none⟩, 6, false, []⟩, ⟨⟨(some 14), (.ld false 1 (.t 13)), none⟩, 7, false, []⟩, ⟨⟨(some 15), (.mov (.t 2)), none⟩, 8, false, []⟩, ⟨⟨(some 16), (.isl 2 (.t 12) (.t 14)), none⟩, 9, false, []⟩, ⟨⟨(some 17), (.iar 2 1 (.t 16) (.t 15)), none⟩, 10, false, []⟩, ⟨⟨(some 18), (.ld false 1 (.t 17)), none⟩, 11, false, []⟩, ⟨⟨(some 6), (.mov (.t 18)), none⟩, 12, false, []⟩])
    .ret))
def r111 : List AOp := [(.mov (.t 6))]
theorem ok111 : FnOk Tryd.prog 111 Tryd.f111.ntmps a111 r111 := ⟨Tryd.f111, Tryd.func111, by kernel_rfl, by kernel_rfl, by kernel_rfl, fun asv w => by simp⟩

/-- (layover/duty.planned).walk -/
def a112 : ACode :=
  (.seq
   (.region [⟨(some 3), (.box (.t 0)), none⟩, ⟨(some 4), (.box (.t 1)), none⟩, ⟨(some 5), (.box (.t 2)), none⟩, ⟨(some 6), (.mov (.c (.int .i64 0))), none⟩])
   (.seq
    (.draw 16 [⟨⟨(some 7), (.fa 0 (.t 3)), none⟩, 0, false, []⟩, ⟨⟨(some 8), (.fa 9 (.t 7)), none⟩, 1, false, []⟩, ⟨⟨(some 9), (.ld false 1 (.t 8)), none⟩, 2, false, []⟩, ⟨⟨(some 10), (.ld true 13 (.t 3)), none⟩, 3, false, []⟩, ⟨⟨(some 11), (.ld true 2 (.t 4)), none⟩, 4, false, []⟩, ⟨⟨(some 16), (.ld true 13 (.t 3)), none⟩, 9, false, []⟩, ⟨⟨(some 17), (.ld true 2 (.t 5)), none⟩, 10, false, []⟩, ⟨⟨(some 12), (.call (.c (.func (.func 126) #[] #[])) [(.t 10), (.t 11)]), none⟩, 5, true, [10, 9, 2]⟩, ⟨⟨(some 13), (.fld false 0 1 (.t 12)), none⟩, 6, false, []⟩, ⟨⟨(some 14), (.isl 1 (.t 9) (.t 13)), none⟩, 7, false, []⟩, ⟨⟨(some 15), (.ld false 1 (.t 14)), none⟩, 8, false, []⟩, ⟨⟨(some 18), (.call (.c (.func (.func 126) #[] #[])) [(.t 16), (.t 17)]), none⟩, 11, true, [8, 2]⟩, ⟨⟨(some 19), (.fld false 0 1 (.t 18)), none⟩, 12, false, []⟩, ⟨⟨(some 20), (.isl 1 (.t 15) (.t 19)), none⟩, 13, false, []⟩, ⟨⟨(some 21), (.ld false 1 (.t 20)), none⟩, 14, false, []⟩, ⟨⟨(some 6), (.mov (.t 21)), none⟩, 15, false, []⟩])
    .ret))
def r112 : List AOp := [(.mov (.t 6))]
theorem ok112 : FnOk Tryd.prog 112 Tryd.f112.ntmps a112 r112 := ⟨Tryd.f112, Tryd.func112, by kernel_rfl, by kernel_rfl, by kernel_rfl, fun asv w => by simp⟩

/-- (layover/duty.planned).lasts -/
def a113 : ACode :=
  (.seq
   (.region [⟨(some 3), (.box (.t 0)), none⟩, ⟨(some 4), (.box (.t 1)), none⟩, ⟨(some 5), (.box (.t 2)), none⟩, ⟨(some 6), (.mov (.c (.int .i64 0))), none⟩])
   (.seq
    (.draw 8 [⟨⟨(some 7), (.ld true 13 (.t 3)), none⟩, 0, false, []⟩, ⟨⟨(some 8), (.ld true 2 (.t 5)), none⟩, 1, false, []⟩, ⟨⟨(some 10), (.ld true 13 (.t 3)), none⟩, 3, false, []⟩, ⟨⟨(some 11), (.ld true 2 (.t 4)), none⟩, 4, false, []⟩, ⟨⟨(some 9), (.call (.c (.func (.func 111) #[] #[])) [(.t 7), (.t 8), (.c (.int .i64 1))]), none⟩, 2, true, [4, 3]⟩, ⟨⟨(some 12), (.call (.c (.func (.func 111) #[] #[])) [(.t 10), (.t 11), (.c (.int .i64 0))]), none⟩, 5, true, []⟩, ⟨⟨(some 13), (.bin .sub (.t 9) (.t 12)), none⟩, 6, false, []⟩, ⟨⟨(some 6), (.mov (.t 13)), none⟩, 7, false, []⟩])
    .ret))
def r113 : List AOp := [(.mov (.t 6))]
theorem ok113 : FnOk Tryd.prog 113 Tryd.f113.ntmps a113 r113 := ⟨Tryd.f113, Tryd.func113, by kernel_rfl, by kernel_rfl, by kernel_rfl, fun asv w => by simp⟩

/-- (layover/duty.Law).allowsPieces -/
def a114 : ACode :=
  (.seq
   (.region [⟨(some 2), (.box (.t 0)), none⟩, ⟨(some 3), (.box (.t 1)), none⟩, ⟨(some 4), (.mov (.c (.bool false))), none⟩])
   (.seq
    (.region [⟨(some 5), (.fa 4 (.t 3)), none⟩, ⟨(some 6), (.ld false 1 (.t 5)), none⟩, ⟨(some 7), (.len (.t 6)), none⟩, ⟨(some 8), (.fa 7 (.t 2)), none⟩, ⟨(some 9), (.ld false 1 (.t 8)), none⟩, ⟨(some 10), (.bin .leq (.t 7) (.t 9)), none⟩, ⟨(some 4), (.mov (.t 10)), none⟩])
    .ret))
def r114 : List AOp := [(.mov (.t 4))]
theorem ok114 : FnOk Tryd.prog 114 Tryd.f114.ntmps a114 r114 := ⟨Tryd.f114, Tryd.func114, by kernel_rfl, by kernel_rfl, by kernel_rfl, fun asv w => by simp⟩

/-- (layover/duty.Law).allowsEachPiece -/
def a115 : ACode :=
  (.seq
   (.region [⟨(some 2), (.box (.t 0)), none⟩, ⟨(some 3), (.box (.t 1)), none⟩, ⟨(some 4), (.mov (.c (.bool false))), none⟩])
   (.seq
    (.draw 7 [⟨⟨(some 5), (.fa 4 (.t 3)), none⟩, 0, false, []⟩, ⟨⟨(some 6), (.ld false 1 (.t 5)), none⟩, 1, false, []⟩, ⟨⟨(some 8), (.fa 0 (.t 2)), none⟩, 3, false, []⟩, ⟨⟨(some 9), (.ld false 1 (.t 8)), none⟩, 4, false, []⟩, ⟨⟨(some 7), (.call (.c (.func (.func 91) #[] #[])) [(.t 6)]), none⟩, 2, true, [4]⟩, ⟨⟨(some 10), (.bin .leq (.t 7) (.t 9)), none⟩, 5, false, []⟩, ⟨⟨(some 4), (.mov (.t 10)), none⟩, 6, false, []⟩])
    .ret))
def r115 : List AOp := [(.mov (.t 4))]
theorem ok115 : FnOk Tryd.prog 115 Tryd.f115.ntmps a115 r115 := ⟨Tryd.f115, Tryd.func115, by kernel_rfl, by kernel_rfl, by kernel_rfl, fun asv w => by simp⟩

/-- (layover/duty.Law).allowsDrive -/
def a116 : ACode :=
  (.seq
   (.region [⟨(some 2), (.box (.t 0)), none⟩, ⟨(some 3), (.box (.t 1)), none⟩, ⟨(some 4), (.mov (.c (.bool false))), none⟩])
   (.seq
    (.region [⟨(some 5), (.fa 0 (.t 3)), none⟩, ⟨(some 6), (.fa 0 (.t 5)), none⟩, ⟨(some 7), (.ld false 1 (.t 6)), none⟩, ⟨(some 8), (.fa 1 (.t 2)), none⟩, ⟨(some 9), (.ld false 1 (.t 8)), none⟩, ⟨(some 10), (.bin .leq (.t 7) (.t 9)), none⟩, ⟨(some 4), (.mov (.t 10)), none⟩])
    .ret))
def r116 : List AOp := [(.mov (.t 4))]
theorem ok116 : FnOk Tryd.prog 116 Tryd.f116.ntmps a116 r116 := ⟨Tryd.f116, Tryd.func116, by kernel_rfl, by kernel_rfl, by kernel_rfl, fun asv w => by simp⟩

/-- (layover/duty.Law).allowsBreaks -/
def a117 : ACode :=
  (.seq
   (.region [⟨(some 2), (.box (.t 0)), none⟩, ⟨(some 3), (.box (.t 1)), none⟩, ⟨(some 4), (.mov (.c (.bool false))), none⟩])
   (.seq
    (.region [⟨(some 5), (.fa 5 (.t 3)), none⟩, ⟨(some 6), (.ld false 1 (.t 5)), none⟩, ⟨(some 7), (.fn (.func 127) [] [(.t 2)]), none⟩, ⟨(some 8), (.call (.c (.func (.func 75) #[] #[])) [(.t 6), (.t 7)]), none⟩, ⟨(some 4), (.mov (.t 8)), none⟩])
    .ret))
def r117 : List AOp := [(.mov (.t 4))]
theorem ok117 : FnOk Tryd.prog 117 Tryd.f117.ntmps a117 r117 := ⟨Tryd.f117, Tryd.func117, by kernel_rfl, by kernel_rfl, by kernel_rfl, fun asv w => by simp⟩

/-- (layover/duty.Law).allowsSpread -/
def a118 : ACode :=
  (.seq
   (.region [⟨(some 2), (.box (.t 0)), none⟩, ⟨(some 3), (.box (.t 1)), none⟩, ⟨(some 4), (.mov (.c (.bool false))), none⟩])
   (.seq
    (.region [⟨(some 5), (.fa 0 (.t 3)), none⟩, ⟨(some 6), (.fa 1 (.t 5)), none⟩, ⟨(some 7), (.ld false 1 (.t 6)), none⟩, ⟨(some 8), (.fa 2 (.t 2)), none⟩, ⟨(some 9), (.ld false 1 (.t 8)), none⟩, ⟨(some 10), (.bin .leq (.t 7) (.t 9)), none⟩, ⟨(some 4), (.mov (.t 10)), none⟩])
    .ret))
def r118 : List AOp := [(.mov (.t 4))]
theorem ok118 : FnOk Tryd.prog 118 Tryd.f118.ntmps a118 r118 := ⟨Tryd.f118, Tryd.func118, by kernel_rfl, by kernel_rfl, by kernel_rfl, fun asv w => by simp⟩

/-- (layover/duty.planned).dutiesThat -/
def a119 : ACode :=
  (.seq
   (.region [⟨(some 2), (.box (.t 0)), none⟩, ⟨(some 4), (.mov (.c (.slice none 0 0))), none⟩])
   (.seq
    (.region [⟨(some 5), (.mov (.c (.slice none 0 0))), none⟩])
    (.seq
     (.seq
      (.region [⟨(some 6), (.mov (.c (.int .u64 1))), none⟩])
      (.block 0
       (.loop
        (.seq
         (.seq
          (.region [⟨(some 7), (.mov (.t 6)), none⟩, ⟨(some 8), (.ld true 13 (.t 2)), none⟩, ⟨(some 9), (.call (.c (.func (.func 98) #[] #[])) [(.t 8)]), none⟩, ⟨(some 10), (.bin .leq (.t 7) (.t 9)), none⟩])
          (.cond (.t 10)
           .skip
           (.exit 0)))
         (.seq
          (.block 1
           (.seq
            (.region [⟨(some 13), (.mov (.t 1)), none⟩, ⟨(some 14), (.mov (.t 6)), none⟩, ⟨(some 15), (.call (.t 13) [(.t 14)]), none⟩])
            (.cond (.t 15)
             (.region [⟨(some 16), (.mov (.t 5)), none⟩, ⟨(some 17), (.mov (.t 6)), none⟩, ⟨(some 18), (.bsl 1 [(.int .u64 0)] [(0, 1, (.t 17))]), none⟩, ⟨(some 19), (.app 1 8 (.t 16) (.t 18)), none⟩, ⟨(some 5), (.mov (.t 19)), none⟩])
             .skip)))
          (.region [⟨(some 11), (.mov (.t 6)), none⟩, ⟨(some 12), (.bin .add (.t 11) (.c (.int .u64 1))), none⟩, ⟨(some 6), (.mov (.t 12)), none⟩]))))))
     (.seq
      (.region [⟨(some 20), (.mov (.t 5)), none⟩, ⟨(some 4), (.mov (.t 20)), none⟩])
      .ret))))
def r119 : List AOp := [(.mov (.t 4))]
theorem ok119 : FnOk Tryd.prog 119 Tryd.f119.ntmps a119 r119 := ⟨Tryd.f119, Tryd.func119, by kernel_rfl, by kernel_rfl, by kernel_rfl, fun asv w => by simp⟩

/-- math/bits.TrailingZeros32 -/
def a120 : ACode :=
  (.seq
   (.region [⟨(some 2), (.mov (.c (.int .i64 0))), none⟩])
   (.seq
    (.seq
     (.region [⟨(some 3), (.mov (.t 0)), none⟩, ⟨(some 4), (.bin .eql (.t 3) (.c (.int .u32 0))), none⟩])
     (.cond (.t 4)
      (.seq
       (.region [⟨(some 2), (.mov (.c (.int .i64 32))), none⟩])
       .ret)
      .skip))
    (.seq
     (.region [⟨(some 5), (.mov (.t 0)), none⟩, ⟨(some 6), (.mov (.t 0)), none⟩, ⟨(some 7), (.gen 14 ⟨(some 7), (.unOp .neg 172 (.tmp 6)), 172, "bits.go:86", #[{ on := 1, ground := Go.Ground.data }], none⟩), none⟩, ⟨(some 8), (.gen 14 ⟨(some 8), (.binOp .and 172 (.tmp 5) (.tmp 7) 172), 172, "bits.go:86", #[{ on := 0, ground := Go.Ground.data }, { on := 2, ground := Go.Ground.data }], none⟩), none⟩, ⟨(some 9), (.bin .mul (.t 8) (.c (.int .u32 125613361))), none⟩, ⟨(some 10), (.gen 14 ⟨(some 10), (.binOp .shr 172 (.tmp 9) (.const (.int .u64 27)) 76), 172, "bits.go:86", #[{ on := 4, ground := Go.Ground.data }], none⟩), none⟩, ⟨(some 11), (.iar 32 1 (.c (.pointer (some ⟨0, 0, none⟩))) (.t 10)), none⟩, ⟨(some 12), (.ld false 1 (.t 11)), none⟩, ⟨(some 13), (.cvi .i64 (.t 12)), none⟩, ⟨(some 2), (.mov (.t 13)), none⟩])
     .ret)))
def r120 : List AOp := [(.mov (.t 2))]
theorem ok120 : FnOk Tryd.prog 120 Tryd.f120.ntmps a120 r120 := ⟨Tryd.f120, Tryd.func120, by kernel_rfl, by kernel_rfl, by kernel_rfl, fun asv w => by simp⟩

/-- math/bits.TrailingZeros64 -/
def a121 : ACode :=
  (.seq
   (.region [⟨(some 2), (.mov (.c (.int .i64 0))), none⟩])
   (.seq
    (.seq
     (.region [⟨(some 3), (.mov (.t 0)), none⟩, ⟨(some 4), (.bin .eql (.t 3) (.c (.int .u64 0))), none⟩])
     (.cond (.t 4)
      (.seq
       (.region [⟨(some 2), (.mov (.c (.int .i64 64))), none⟩])
       .ret)
      .skip))
    (.seq
     (.region [⟨(some 5), (.mov (.t 0)), none⟩, ⟨(some 6), (.mov (.t 0)), none⟩, ⟨(some 7), (.gen 14 ⟨(some 7), (.unOp .neg 174 (.tmp 6)), 174, "bits.go:105", #[{ on := 1, ground := Go.Ground.data }], none⟩), none⟩, ⟨(some 8), (.gen 14 ⟨(some 8), (.binOp .and 174 (.tmp 5) (.tmp 7) 174), 174, "bits.go:105", #[{ on := 0, ground := Go.Ground.data }, { on := 2, ground := Go.Ground.data }], none⟩), none⟩, ⟨(some 9), (.bin .mul (.t 8) (.c (.int .u64 285870213051353865))), none⟩, ⟨(some 10), (.gen 14 ⟨(some 10), (.binOp .shr 174 (.tmp 9) (.const (.int .u64 58)) 76), 174, "bits.go:105", #[{ on := 4, ground := Go.Ground.data }], none⟩), none⟩, ⟨(some 11), (.iar 64 1 (.c (.pointer (some ⟨1, 0, none⟩))) (.t 10)), none⟩, ⟨(some 12), (.ld false 1 (.t 11)), none⟩, ⟨(some 13), (.cvi .i64 (.t 12)), none⟩, ⟨(some 2), (.mov (.t 13)), none⟩])
     .ret)))
def r121 : List AOp := [(.mov (.t 2))]
theorem ok121 : FnOk Tryd.prog 121 Tryd.f121.ntmps a121 r121 := ⟨Tryd.f121, Tryd.func121, by kernel_rfl, by kernel_rfl, by kernel_rfl, fun asv w => by simp⟩

/-- (layover/duty.planned).pieces$1 -/
def a122 : ACode :=
  (.seq
   (.region [⟨(some 4), (.mov (.c (.slice none 0 0))), none⟩])
   (.seq
    (.seq
     (.region [⟨(some 9), (.ld false 1 (.t 1)), none⟩, ⟨(some 5), (.mov (.t 9)), none⟩])
     (.block 0
      (.loop
       (.seq
        (.seq
         (.region [⟨(some 10), (.mov (.t 5)), none⟩, ⟨(some 11), (.bin .neq (.t 10) (.c (.int .u64 0))), none⟩])
         (.cond (.t 11)
          .skip
          (.exit 0)))
        (.block 1
         (.seq
          (.region [⟨(some 12), (.ld true 13 (.t 2)), none⟩, ⟨(some 13), (.mov (.t 5)), none⟩, ⟨(some 14), (.call (.c (.func (.func 123) #[] #[])) [(.t 12), (.t 13)]), none⟩, ⟨(some 6), (.new [(.int .u64 0), (.int .i64 0), (.int .i64 0), (.int .i64 0), (.int .i64 0)]), none⟩, ⟨none, (.st 5 (.t 6) (.t 14)), none⟩])
          (.seq
           (.region [⟨(some 15), (.mov (.t 4)), none⟩, ⟨(some 16), (.ld true 5 (.t 6)), none⟩, ⟨(some 17), (.bsl 1 [(.int .u64 0), (.int .i64 0), (.int .i64 0), (.int .i64 0), (.int .i64 0)] [(0, 5, (.t 16))]), none⟩, ⟨(some 18), (.app 5 40 (.t 15) (.t 17)), none⟩, ⟨(some 4), (.mov (.t 18)), none⟩])
           (.region [⟨(some 19), (.mov (.t 5)), none⟩, ⟨(some 20), (.fa 0 (.t 6)), none⟩, ⟨(some 21), (.ld false 1 (.t 20)), none⟩, ⟨(some 22), (.gen 37 ⟨(some 22), (.binOp .andNot 102 (.tmp 19) (.tmp 21) 102), 102, "piece.go:65", #[{ on := 0, ground := Go.Ground.data }, { on := 2, ground := Go.Ground.data }], none⟩), none⟩, ⟨(some 5), (.mov (.t 22)), none⟩]))))))))
    (.seq
     (.region [⟨(some 23), (.mov (.t 4)), none⟩, ⟨(some 24), (.fn (.func 125) [] [(.t 2)]), none⟩, ⟨(some 25), (.call (.c (.func (.func 124) #[] #[])) [(.t 23), (.t 24)]), none⟩])
     (.seq
      (.region [⟨(some 26), (.mov (.t 4)), none⟩, ⟨(some 27), (.len (.t 26)), none⟩, ⟨(some 28), (.mov (.c (.int .i64 0))), none⟩])
      (.block 2
       (.loop
        (.seq
         (.region [⟨(some 29), (.bin .lss (.t 28) (.t 27)), none⟩])
         (.seq
          (.cond (.t 29)
           .skip
           (.exit 2))
          (.seq
           (.block 3
            (.seq
             (.region [⟨(some 30), (.isl 5 (.t 26) (.t 28)), none⟩, ⟨(some 31), (.ld true 5 (.t 30)), none⟩, ⟨(some 8), (.new [(.int .u64 0), (.int .i64 0), (.int .i64 0), (.int .i64 0), (.int .i64 0)]), none⟩, ⟨none, (.st 5 (.t 8) (.t 31)), none⟩])
             (.seq
              (.region [⟨(some 32), (.mov (.t 0)), none⟩, ⟨(some 33), (.ld true 5 (.t 8)), none⟩, ⟨(some 34), (.call (.t 32) [(.t 33)]), none⟩, ⟨(some 35), (.not (.t 34)), none⟩])
              (.cond (.t 35)
               .ret
               .skip))))
           (.region [⟨(some 36), (.bin .add (.t 28) (.c (.int .i64 1))), none⟩, ⟨(some 28), (.mov (.t 36)), none⟩]))))))))))
def r122 : List AOp := []
theorem ok122 : FnOk Tryd.prog 122 Tryd.f122.ntmps a122 r122 := ⟨Tryd.f122, Tryd.func122, by kernel_rfl, by kernel_rfl, by kernel_rfl, fun asv w => by simp⟩

/-- (layover/duty.planned).firstPiece -/
def a123 : ACode :=
  (.seq
   (.region [⟨(some 2), (.box (.t 0)), none⟩, ⟨(some 4), (.new [(.int .u64 0), (.int .i64 0), (.int .i64 0), (.int .i64 0), (.int .i64 0)]), none⟩])
   (.seq
    (.region [⟨(some 5), (.new [(.int .u64 0), (.int .i64 0), (.int .i64 0), (.int .i64 0), (.int .i64 0)]), none⟩])
    (.seq
     .skip
     (.seq
      (.seq
       (.region [⟨(some 8), (.fa 10 (.t 2)), none⟩, ⟨(some 9), (.ld false 1 (.t 8)), none⟩, ⟨(some 10), (.len (.t 9)), none⟩, ⟨(some 11), (.mov (.c (.int .i64 0))), none⟩])
       (.block 0
        (.loop
         (.seq
          (.region [⟨(some 12), (.bin .lss (.t 11) (.t 10)), none⟩])
          (.seq
           (.cond (.t 12)
            .skip
            (.exit 0))
           (.seq
            (.block 1
             (.seq
              (.region [⟨(some 13), (.mov (.t 11)), none⟩, ⟨(some 14), (.isl 5 (.t 9) (.t 11)), none⟩, ⟨(some 15), (.ld true 5 (.t 14)), none⟩, ⟨(some 7), (.new [(.int .u64 0), (.int .i64 0), (.int .i64 0), (.int .i64 0), (.int .i64 0)]), none⟩, ⟨(some 6), (.mov (.t 13)), none⟩, ⟨none, (.st 5 (.t 7) (.t 15)), none⟩])
              (.block 2
               (.seq
                (.region [⟨(some 26), (.mov (.t 1)), none⟩, ⟨(some 27), (.mov (.t 6)), none⟩, ⟨(some 28), (.call (.c (.func (.func 128) #[] #[])) [(.t 26), (.t 27)]), none⟩, ⟨(some 29), (.not (.t 28)), none⟩, ⟨(some 25), (.mov (.t 29)), none⟩])
                (.cond (.t 25)
                 (.exit 1)
                 (.seq
                  (.region [⟨(some 31), (.ld true 5 (.t 5)), none⟩, ⟨(some 32), (.bld [(.int .u64 0), (.int .i64 0), (.int .i64 0), (.int .i64 0), (.int .i64 0)] []), none⟩, ⟨(some 33), (.gen 43 ⟨(some 33), (.binOp .eql 149 (.tmp 31) (.tmp 32) 149), 4, "piece.go:45", #[{ on := 0, ground := Go.Ground.data }, { on := 1, ground := Go.Ground.data }], none⟩), none⟩, ⟨(some 30), (.mov (.t 33)), none⟩])
                  (.cond (.t 30)
                   (.region [⟨(some 34), (.ld true 5 (.t 7)), none⟩, ⟨none, (.st 5 (.t 5) (.t 34)), none⟩])
                   (.seq
                    (.region [⟨(some 36), (.fa 3 (.t 5)), none⟩, ⟨(some 37), (.ld true 2 (.t 36)), none⟩, ⟨(some 38), (.fa 1 (.t 7)), none⟩, ⟨(some 39), (.ld true 2 (.t 38)), none⟩, ⟨(some 40), (.gen 43 ⟨(some 40), (.binOp .neq 147 (.tmp 37) (.tmp 39) 147), 4, "piece.go:47", #[{ on := 1, ground := Go.Ground.data }, { on := 3, ground := Go.Ground.data }], none⟩), none⟩, ⟨(some 35), (.mov (.t 40)), none⟩])
                    (.cond (.t 35)
                     (.exit 0)
                     (.seq
                      (.region [⟨(some 16), (.fa 0 (.t 5)), none⟩, ⟨(some 17), (.ld false 1 (.t 16)), none⟩, ⟨(some 18), (.fa 0 (.t 7)), none⟩, ⟨(some 19), (.ld false 1 (.t 18)), none⟩, ⟨(some 20), (.gen 43 ⟨(some 20), (.binOp .or 102 (.tmp 17) (.tmp 19) 102), 102, "piece.go:50", #[{ on := 1, ground := Go.Ground.data }, { on := 3, ground := Go.Ground.data }], none⟩), none⟩, ⟨(some 21), (.fa 0 (.t 5)), none⟩, ⟨none, (.st 1 (.t 21) (.t 20)), none⟩])
                      (.region [⟨(some 22), (.fa 3 (.t 7)), none⟩, ⟨(some 23), (.ld true 2 (.t 22)), none⟩, ⟨(some 24), (.fa 3 (.t 5)), none⟩, ⟨none, (.st 2 (.t 24) (.t 23)), none⟩])))))))))))
            (.region [⟨(some 41), (.bin .add (.t 11) (.c (.int .i64 1))), none⟩, ⟨(some 11), (.mov (.t 41)), none⟩])))))))
      (.seq
       (.region [⟨(some 42), (.ld true 5 (.t 5)), none⟩, ⟨none, (.st 5 (.t 4) (.t 42)), none⟩])
       .ret)))))
def r123 : List AOp := [(.ld true 5 (.t 4))]
theorem ok123 : FnOk Tryd.prog 123 Tryd.f123.ntmps a123 r123 := ⟨Tryd.f123, Tryd.func123, by kernel_rfl, by kernel_rfl, by kernel_rfl, fun asv w => by simp⟩

/-- slices.SortStableFunc[[]layover/duty.piece,layover/duty.piece] -/
def a124 : ACode :=
  (.region [⟨(some 4), (.mov (.t 0)), none⟩, ⟨(some 5), (.mov (.t 0)), none⟩, ⟨(some 6), (.len (.t 5)), none⟩, ⟨(some 7), (.mov (.t 1)), none⟩, ⟨(some 8), (.call (.c (.func (.func 129) #[] #[])) [(.t 4), (.t 6), (.t 7)]), none⟩])
def r124 : List AOp := []
theorem ok124 : FnOk Tryd.prog 124 Tryd.f124.ntmps a124 r124 := ⟨Tryd.f124, Tryd.func124, by kernel_rfl, by kernel_rfl, by kernel_rfl, fun asv w => by simp⟩

/-- (layover/duty.planned).pieces$1$1 -/
def a125 : ACode :=
  (.seq
   (.region [⟨(some 3), (.box (.t 0)), none⟩, ⟨(some 4), (.box (.t 1)), none⟩, ⟨(some 5), (.mov (.c (.int .i64 0))), none⟩])
   (.seq
    (.draw 14 [⟨⟨(some 6), (.ld true 13 (.t 2)), none⟩, 0, false, []⟩, ⟨⟨(some 7), (.fa 1 (.t 3)), none⟩, 1, false, []⟩, ⟨⟨(some 8), (.ld true 2 (.t 7)), none⟩, 2, false, []⟩, ⟨⟨(some 12), (.ld true 13 (.t 2)), none⟩, 6, false, []⟩, ⟨⟨(some 13), (.fa 1 (.t 4)), none⟩, 7, false, []⟩, ⟨⟨(some 14), (.ld true 2 (.t 13)), none⟩, 8, false, []⟩, ⟨⟨(some 9), (.call (.c (.func (.func 126) #[] #[])) [(.t 6), (.t 8)]), none⟩, 3, true, [8, 6]⟩, ⟨⟨(some 10), (.fld true 1 2 (.t 9)), none⟩, 4, false, []⟩, ⟨⟨(some 11), (.fld false 0 1 (.t 10)), none⟩, 5, false, []⟩, ⟨⟨(some 15), (.call (.c (.func (.func 126) #[] #[])) [(.t 12), (.t 14)]), none⟩, 9, true, []⟩, ⟨⟨(some 16), (.fld true 1 2 (.t 15)), none⟩, 10, false, []⟩, ⟨⟨(some 17), (.fld false 0 1 (.t 16)), none⟩, 11, false, []⟩, ⟨⟨(some 18), (.bin .sub (.t 11) (.t 17)), none⟩, 12, false, []⟩, ⟨⟨(some 5), (.mov (.t 18)), none⟩, 13, false, []⟩])
    .ret))
def r125 : List AOp := [(.mov (.t 5))]
theorem ok125 : FnOk Tryd.prog 125 Tryd.f125.ntmps a125 r125 := ⟨Tryd.f125, Tryd.func125, by kernel_rfl, by kernel_rfl, by kernel_rfl, fun asv w => by simp⟩

/-- (layover/duty.planned).relief -/
def a126 : ACode :=
  (.seq
   (.region [⟨(some 2), (.box (.t 0)), none⟩, ⟨(some 3), (.box (.t 1)), none⟩, ⟨(some 4), (.new [(.int .i64 0), (.int .i64 0), (.int .i64 0)]), none⟩])
   (.seq
    (.draw 12 [⟨⟨(some 5), (.fa 0 (.t 2)), none⟩, 0, false, []⟩, ⟨⟨(some 6), (.fa 8 (.t 5)), none⟩, 1, false, []⟩, ⟨⟨(some 7), (.ld false 1 (.t 6)), none⟩, 2, false, []⟩, ⟨⟨(some 8), (.fa 0 (.t 3)), none⟩, 3, false, []⟩, ⟨⟨(some 9), (.ld false 1 (.t 8)), none⟩, 4, false, []⟩, ⟨⟨(some 10), (.isl 1 (.t 7) (.t 9)), none⟩, 5, false, []⟩, ⟨⟨(some 11), (.ld false 1 (.t 10)), none⟩, 6, false, []⟩, ⟨⟨(some 12), (.fa 1 (.t 3)), none⟩, 7, false, []⟩, ⟨⟨(some 13), (.ld false 1 (.t 12)), none⟩, 8, false, []⟩, ⟨⟨(some 14), (.isl 3 (.t 11) (.t 13)), none⟩, 9, false, []⟩, ⟨⟨(some 15), (.ld true 3 (.t 14)), none⟩, 10, false, []⟩, ⟨⟨none, (.st 3 (.t 4) (.t 15)), none⟩, 11, true, []⟩])
    .ret))
def r126 : List AOp := [(.ld true 3 (.t 4))]
theorem ok126 : FnOk Tryd.prog 126 Tryd.f126.ntmps a126 r126 := ⟨Tryd.f126, Tryd.func126, by kernel_rfl, by kernel_rfl, by kernel_rfl, fun asv w => by simp⟩

/-- (layover/duty.Law).allowsBreaks$1 -/
def a127 : ACode :=
  (.seq
   (.region [⟨(some 3), (.mov (.c (.bool false))), none⟩])
   (.seq
    (.region [⟨(some 4), (.mov (.t 0)), none⟩, ⟨(some 5), (.fa 3 (.t 1)), none⟩, ⟨(some 6), (.ld false 1 (.t 5)), none⟩, ⟨(some 7), (.bin .geq (.t 4) (.t 6)), none⟩, ⟨(some 3), (.mov (.t 7)), none⟩])
    .ret))
def r127 : List AOp := [(.mov (.t 3))]
theorem ok127 : FnOk Tryd.prog 127 Tryd.f127.ntmps a127 r127 := ⟨Tryd.f127, Tryd.func127, by kernel_rfl, by kernel_rfl, by kernel_rfl, fun asv w => by simp⟩

/-- (layover/duty.set).has -/
def a128 : ACode :=
  (.seq
   (.region [⟨(some 4), (.mov (.c (.bool false))), none⟩])
   (.seq
    (.region [⟨(some 5), (.mov (.t 0)), none⟩, ⟨(some 6), (.mov (.t 1)), none⟩, ⟨(some 7), (.call (.c (.func (.func 97) #[] #[])) [(.t 6)]), none⟩, ⟨(some 8), (.gen 10 ⟨(some 8), (.binOp .and 102 (.tmp 5) (.tmp 7) 102), 102, "piece.go:14", #[{ on := 0, ground := Go.Ground.data }, { on := 2, ground := Go.Ground.data }], none⟩), none⟩, ⟨(some 9), (.bin .neq (.t 8) (.c (.int .u64 0))), none⟩, ⟨(some 4), (.mov (.t 9)), none⟩])
    .ret))
def r128 : List AOp := [(.mov (.t 4))]
theorem ok128 : FnOk Tryd.prog 128 Tryd.f128.ntmps a128 r128 := ⟨Tryd.f128, Tryd.func128, by kernel_rfl, by kernel_rfl, by kernel_rfl, fun asv w => by simp⟩

/-- slices.stableCmpFunc[layover/duty.piece] -/
def a129 : ACode :=
  (.seq
   (.region [⟨(some 6), (.mov (.c (.int .i64 20))), none⟩])
   (.seq
    (.region [⟨(some 10), (.mov (.t 6)), none⟩, ⟨(some 7), (.mov (.c (.int .i64 0))), none⟩, ⟨(some 8), (.mov (.t 10)), none⟩])
    (.seq
     (.block 0
      (.loop
       (.seq
        (.seq
         (.region [⟨(some 11), (.mov (.t 8)), none⟩, ⟨(some 12), (.mov (.t 1)), none⟩, ⟨(some 13), (.bin .leq (.t 11) (.t 12)), none⟩])
         (.cond (.t 13)
          .skip
          (.exit 0)))
        (.block 1
         (.seq
          (.region [⟨(some 14), (.mov (.t 0)), none⟩, ⟨(some 15), (.mov (.t 7)), none⟩, ⟨(some 16), (.mov (.t 8)), none⟩, ⟨(some 17), (.mov (.t 2)), none⟩, ⟨(some 18), (.call (.c (.func (.func 130) #[] #[])) [(.t 14), (.t 15), (.t 16), (.t 17)]), none⟩])
          (.seq
           (.region [⟨(some 19), (.mov (.t 8)), none⟩, ⟨(some 7), (.mov (.t 19)), none⟩])
           (.region [⟨(some 20), (.mov (.t 8)), none⟩, ⟨(some 21), (.mov (.t 6)), none⟩, ⟨(some 22), (.bin .add (.t 20) (.t 21)), none⟩, ⟨(some 8), (.mov (.t 22)), none⟩])))))))
     (.seq
      (.region [⟨(some 23), (.mov (.t 0)), none⟩, ⟨(some 24), (.mov (.t 7)), none⟩, ⟨(some 25), (.mov (.t 1)), none⟩, ⟨(some 26), (.mov (.t 2)), none⟩, ⟨(some 27), (.call (.c (.func (.func 130) #[] #[])) [(.t 23), (.t 24), (.t 25), (.t 26)]), none⟩])
      (.block 2
       (.loop
        (.seq
         (.seq
          (.region [⟨(some 28), (.mov (.t 6)), none⟩, ⟨(some 29), (.mov (.t 1)), none⟩, ⟨(some 30), (.bin .lss (.t 28) (.t 29)), none⟩])
          (.cond (.t 30)
           .skip
           (.exit 2)))
         (.block 3
          (.seq
           (.region [⟨(some 31), (.mov (.t 6)), none⟩, ⟨(some 32), (.bin .mul (.c (.int .i64 2)) (.t 31)), none⟩, ⟨(some 7), (.mov (.c (.int .i64 0))), none⟩, ⟨(some 8), (.mov (.t 32)), none⟩])
           (.seq
            (.block 4
             (.loop
              (.seq
               (.seq
                (.region [⟨(some 33), (.mov (.t 8)), none⟩, ⟨(some 34), (.mov (.t 1)), none⟩, ⟨(some 35), (.bin .leq (.t 33) (.t 34)), none⟩])
                (.cond (.t 35)
                 .skip
                 (.exit 4)))
               (.block 5
                (.seq
                 (.region [⟨(some 36), (.mov (.t 0)), none⟩, ⟨(some 37), (.mov (.t 7)), none⟩, ⟨(some 38), (.mov (.t 7)), none⟩, ⟨(some 39), (.mov (.t 6)), none⟩, ⟨(some 40), (.bin .add (.t 38) (.t 39)), none⟩, ⟨(some 41), (.mov (.t 8)), none⟩, ⟨(some 42), (.mov (.t 2)), none⟩, ⟨(some 43), (.call (.c (.func (.func 131) #[] #[])) [(.t 36), (.t 37), (.t 40), (.t 41), (.t 42)]), none⟩])
                 (.seq
                  (.region [⟨(some 44), (.mov (.t 8)), none⟩, ⟨(some 7), (.mov (.t 44)), none⟩])
                  (.region [⟨(some 45), (.mov (.t 8)), none⟩, ⟨(some 46), (.mov (.t 6)), none⟩, ⟨(some 47), (.bin .mul (.c (.int .i64 2)) (.t 46)), none⟩, ⟨(some 48), (.bin .add (.t 45) (.t 47)), none⟩, ⟨(some 8), (.mov (.t 48)), none⟩])))))))
            (.seq
             (.seq
              (.region [⟨(some 49), (.mov (.t 7)), none⟩, ⟨(some 50), (.mov (.t 6)), none⟩, ⟨(some 51), (.bin .add (.t 49) (.t 50)), none⟩, ⟨(some 9), (.mov (.t 51)), none⟩])
              (.seq
               (.region [⟨(some 52), (.mov (.t 9)), none⟩, ⟨(some 53), (.mov (.t 1)), none⟩, ⟨(some 54), (.bin .lss (.t 52) (.t 53)), none⟩])
               (.cond (.t 54)
                (.region [⟨(some 55), (.mov (.t 0)), none⟩, ⟨(some 56), (.mov (.t 7)), none⟩, ⟨(some 57), (.mov (.t 9)), none⟩, ⟨(some 58), (.mov (.t 1)), none⟩, ⟨(some 59), (.mov (.t 2)), none⟩, ⟨(some 60), (.call (.c (.func (.func 131) #[] #[])) [(.t 55), (.t 56), (.t 57), (.t 58), (.t 59)]), none⟩])
                .skip)))
             (.region [⟨(some 61), (.mov (.t 6)), none⟩, ⟨(some 62), (.bin .mul (.t 61) (.c (.int .i64 2))), none⟩, ⟨(some 6), (.mov (.t 62)), none⟩]))))))))))))
def r129 : List AOp := []
theorem ok129 : FnOk Tryd.prog 129 Tryd.f129.ntmps a129 r129 := ⟨Tryd.f129, Tryd.func129, by kernel_rfl, by kernel_rfl, by kernel_rfl, fun asv w => by simp⟩

/-- slices.insertionSortCmpFunc[layover/duty.piece] -/
def a130 : ACode :=
  (.seq
   (.region [⟨(some 10), (.mov (.t 1)), none⟩, ⟨(some 11), (.bin .add (.t 10) (.c (.int .i64 1))), none⟩, ⟨(some 8), (.mov (.t 11)), none⟩])
   (.block 0
    (.loop
     (.seq
      (.seq
       (.region [⟨(some 12), (.mov (.t 8)), none⟩, ⟨(some 13), (.mov (.t 2)), none⟩, ⟨(some 14), (.bin .lss (.t 12) (.t 13)), none⟩])
       (.cond (.t 14)
        .skip
        (.exit 0)))
      (.seq
       (.block 1
        (.seq
         (.region [⟨(some 17), (.mov (.t 8)), none⟩, ⟨(some 9), (.mov (.t 17)), none⟩])
         (.block 2
          (.loop
           (.seq
            (.seq
             (.draw 17 [⟨⟨(some 18), (.mov (.t 9)), none⟩, 0, false, []⟩, ⟨⟨(some 19), (.mov (.t 1)), none⟩, 1, false, []⟩, ⟨⟨(some 20), (.bin .gtr (.t 18) (.t 19)), none⟩, 2, false, []⟩, ⟨⟨(some 21), (.mov (.t 20)), none⟩, 3, false, []⟩, ⟨⟨(some 22), (.mov (.t 3)), (some (21, true))⟩, 4, false, []⟩, ⟨⟨(some 23), (.mov (.t 0)), (some (21, true))⟩, 5, false, []⟩, ⟨⟨(some 24), (.mov (.t 9)), (some (21, true))⟩, 6, false, []⟩, ⟨⟨(some 25), (.isl 5 (.t 23) (.t 24)), (some (21, true))⟩, 7, false, []⟩, ⟨⟨(some 26), (.ld true 5 (.t 25)), (some (21, true))⟩, 8, false, []⟩, ⟨⟨(some 27), (.mov (.t 0)), (some (21, true))⟩, 9, false, []⟩, ⟨⟨(some 28), (.mov (.t 9)), (some (21, true))⟩, 10, false, []⟩, ⟨⟨(some 29), (.bin .sub (.t 28) (.c (.int .i64 1))), (some (21, true))⟩, 11, false, []⟩, ⟨⟨(some 30), (.isl 5 (.t 27) (.t 29)), (some (21, true))⟩, 12, false, []⟩, ⟨⟨(some 31), (.ld true 5 (.t 30)), (some (21, true))⟩, 13, false, []⟩, ⟨⟨(some 32), (.call (.t 22) [(.t 26), (.t 31)]), (some (21, true))⟩, 14, true, []⟩, ⟨⟨(some 33), (.bin .lss (.t 32) (.c (.int .i64 0))), (some (21, true))⟩, 15, false, []⟩, ⟨⟨(some 34), (.pick (.t 21) (.t 33) (.c (.bool false))), none⟩, 16, false, []⟩])
             (.cond (.t 34)
              .skip
              (.exit 2)))
            (.seq
             (.block 3
              (.draw 18 [⟨⟨(some 37), (.mov (.t 0)), none⟩, 0, false, []⟩, ⟨⟨(some 38), (.mov (.t 9)), none⟩, 1, false, []⟩, ⟨⟨(some 39), (.mov (.t 0)), none⟩, 2, false, []⟩, ⟨⟨(some 40), (.mov (.t 9)), none⟩, 3, false, []⟩, ⟨⟨(some 41), (.bin .sub (.t 40) (.c (.int .i64 1))), none⟩, 4, false, []⟩, ⟨⟨(some 42), (.mov (.t 0)), none⟩, 5, false, []⟩, ⟨⟨(some 43), (.mov (.t 9)), none⟩, 6, false, []⟩, ⟨⟨(some 44), (.bin .sub (.t 43) (.c (.int .i64 1))), none⟩, 7, false, []⟩, ⟨⟨(some 45), (.isl 5 (.t 42) (.t 44)), none⟩, 8, false, []⟩, ⟨⟨(some 46), (.ld true 5 (.t 45)), none⟩, 9, false, []⟩, ⟨⟨(some 47), (.mov (.t 0)), none⟩, 10, false, []⟩, ⟨⟨(some 48), (.mov (.t 9)), none⟩, 11, false, []⟩, ⟨⟨(some 49), (.isl 5 (.t 47) (.t 48)), none⟩, 12, false, []⟩, ⟨⟨(some 50), (.ld true 5 (.t 49)), none⟩, 13, false, []⟩, ⟨⟨(some 51), (.isl 5 (.t 37) (.t 38)), none⟩, 14, false, []⟩, ⟨⟨none, (.st 5 (.t 51) (.t 46)), none⟩, 15, true, []⟩, ⟨⟨(some 52), (.isl 5 (.t 39) (.t 41)), none⟩, 16, false, []⟩, ⟨⟨none, (.st 5 (.t 52) (.t 50)), none⟩, 17, true, []⟩]))
             (.region [⟨(some 35), (.mov (.t 9)), none⟩, ⟨(some 36), (.bin .sub (.t 35) (.c (.int .i64 1))), none⟩, ⟨(some 9), (.mov (.t 36)), none⟩])))))))
       (.region [⟨(some 15), (.mov (.t 8)), none⟩, ⟨(some 16), (.bin .add (.t 15) (.c (.int .i64 1))), none⟩, ⟨(some 8), (.mov (.t 16)), none⟩]))))))
def r130 : List AOp := []
theorem ok130 : FnOk Tryd.prog 130 Tryd.f130.ntmps a130 r130 := ⟨Tryd.f130, Tryd.func130, by kernel_rfl, by kernel_rfl, by kernel_rfl, fun asv w => by simp⟩

/-- slices.symMergeCmpFunc[layover/duty.piece] -/
def a131 : ACode :=
  (.seq
   (.seq
    (.region [⟨(some 25), (.mov (.t 2)), none⟩, ⟨(some 26), (.mov (.t 1)), none⟩, ⟨(some 27), (.bin .sub (.t 25) (.t 26)), none⟩, ⟨(some 28), (.bin .eql (.t 27) (.c (.int .i64 1))), none⟩])
    (.cond (.t 28)
     (.seq
      (.region [⟨(some 29), (.mov (.t 2)), none⟩, ⟨(some 10), (.mov (.t 29)), none⟩])
      (.seq
       (.region [⟨(some 30), (.mov (.t 3)), none⟩, ⟨(some 11), (.mov (.t 30)), none⟩])
       (.seq
        (.block 0
         (.loop
          (.seq
           (.seq
            (.region [⟨(some 31), (.mov (.t 10)), none⟩, ⟨(some 32), (.mov (.t 11)), none⟩, ⟨(some 33), (.bin .lss (.t 31) (.t 32)), none⟩])
            (.cond (.t 33)
             .skip
             (.exit 0)))
           (.block 1
            (.seq
             (.region [⟨(some 34), (.mov (.t 10)), none⟩, ⟨(some 35), (.mov (.t 11)), none⟩, ⟨(some 36), (.bin .add (.t 34) (.t 35)), none⟩, ⟨(some 37), (.cvi .u64 (.t 36)), none⟩, ⟨(some 38), (.gen 220 ⟨(some 38), (.binOp .shr 76 (.tmp 37) (.const (.int .u64 1)) 76), 76, "zsortanyfunc.go:389", #[{ on := 3, ground := Go.Ground.data }], none⟩), none⟩, ⟨(some 39), (.cvi .i64 (.t 38)), none⟩, ⟨(some 12), (.mov (.t 39)), none⟩])
             (.seq
              (.draw 11 [⟨⟨(some 40), (.mov (.t 4)), none⟩, 0, false, []⟩, ⟨⟨(some 41), (.mov (.t 0)), none⟩, 1, false, []⟩, ⟨⟨(some 42), (.mov (.t 12)), none⟩, 2, false, []⟩, ⟨⟨(some 43), (.isl 5 (.t 41) (.t 42)), none⟩, 3, false, []⟩, ⟨⟨(some 44), (.ld true 5 (.t 43)), none⟩, 4, false, []⟩, ⟨⟨(some 45), (.mov (.t 0)), none⟩, 5, false, []⟩, ⟨⟨(some 46), (.mov (.t 1)), none⟩, 6, false, []⟩, ⟨⟨(some 47), (.isl 5 (.t 45) (.t 46)), none⟩, 7, false, []⟩, ⟨⟨(some 48), (.ld true 5 (.t 47)), none⟩, 8, false, []⟩, ⟨⟨(some 49), (.call (.t 40) [(.t 44), (.t 48)]), none⟩, 9, true, []⟩, ⟨⟨(some 50), (.bin .lss (.t 49) (.c (.int .i64 0))), none⟩, 10, false, []⟩])
              (.cond (.t 50)
               (.region [⟨(some 51), (.mov (.t 12)), none⟩, ⟨(some 52), (.bin .add (.t 51) (.c (.int .i64 1))), none⟩, ⟨(some 10), (.mov (.t 52)), none⟩])
               (.region [⟨(some 53), (.mov (.t 12)), none⟩, ⟨(some 11), (.mov (.t 53)), none⟩]))))))))
        (.seq
         (.seq
          (.region [⟨(some 54), (.mov (.t 1)), none⟩, ⟨(some 13), (.mov (.t 54)), none⟩])
          (.block 2
           (.loop
            (.seq
             (.seq
              (.region [⟨(some 55), (.mov (.t 13)), none⟩, ⟨(some 56), (.mov (.t 10)), none⟩, ⟨(some 57), (.bin .sub (.t 56) (.c (.int .i64 1))), none⟩, ⟨(some 58), (.bin .lss (.t 55) (.t 57)), none⟩])
              (.cond (.t 58)
               .skip
               (.exit 2)))
             (.seq
              (.block 3
               (.draw 18 [⟨⟨(some 61), (.mov (.t 0)), none⟩, 0, false, []⟩, ⟨⟨(some 62), (.mov (.t 13)), none⟩, 1, false, []⟩, ⟨⟨(some 63), (.mov (.t 0)), none⟩, 2, false, []⟩, ⟨⟨(some 64), (.mov (.t 13)), none⟩, 3, false, []⟩, ⟨⟨(some 65), (.bin .add (.t 64) (.c (.int .i64 1))), none⟩, 4, false, []⟩, ⟨⟨(some 66), (.mov (.t 0)), none⟩, 5, false, []⟩, ⟨⟨(some 67), (.mov (.t 13)), none⟩, 6, false, []⟩, ⟨⟨(some 68), (.bin .add (.t 67) (.c (.int .i64 1))), none⟩, 7, false, []⟩, ⟨⟨(some 69), (.isl 5 (.t 66) (.t 68)), none⟩, 8, false, []⟩, ⟨⟨(some 70), (.ld true 5 (.t 69)), none⟩, 9, false, []⟩, ⟨⟨(some 71), (.mov (.t 0)), none⟩, 10, false, []⟩, ⟨⟨(some 72), (.mov (.t 13)), none⟩, 11, false, []⟩, ⟨⟨(some 73), (.isl 5 (.t 71) (.t 72)), none⟩, 12, false, []⟩, ⟨⟨(some 74), (.ld true 5 (.t 73)), none⟩, 13, false, []⟩, ⟨⟨(some 75), (.isl 5 (.t 61) (.t 62)), none⟩, 14, false, []⟩, ⟨⟨none, (.st 5 (.t 75) (.t 70)), none⟩, 15, true, []⟩, ⟨⟨(some 76), (.isl 5 (.t 63) (.t 65)), none⟩, 16, false, []⟩, ⟨⟨none, (.st 5 (.t 76) (.t 74)), none⟩, 17, true, []⟩]))
              (.region [⟨(some 59), (.mov (.t 13)), none⟩, ⟨(some 60), (.bin .add (.t 59) (.c (.int .i64 1))), none⟩, ⟨(some 13), (.mov (.t 60)), none⟩]))))))
         .ret))))
     .skip))
   (.seq
    (.seq
     (.region [⟨(some 77), (.mov (.t 3)), none⟩, ⟨(some 78), (.mov (.t 2)), none⟩, ⟨(some 79), (.bin .sub (.t 77) (.t 78)), none⟩, ⟨(some 80), (.bin .eql (.t 79) (.c (.int .i64 1))), none⟩])
     (.cond (.t 80)
      (.seq
       (.region [⟨(some 81), (.mov (.t 1)), none⟩, ⟨(some 14), (.mov (.t 81)), none⟩])
       (.seq
        (.region [⟨(some 82), (.mov (.t 2)), none⟩, ⟨(some 15), (.mov (.t 82)), none⟩])
        (.seq
         (.block 4
          (.loop
           (.seq
            (.seq
             (.region [⟨(some 83), (.mov (.t 14)), none⟩, ⟨(some 84), (.mov (.t 15)), none⟩, ⟨(some 85), (.bin .lss (.t 83) (.t 84)), none⟩])
             (.cond (.t 85)
              .skip
              (.exit 4)))
            (.block 5
             (.seq
              (.region [⟨(some 86), (.mov (.t 14)), none⟩, ⟨(some 87), (.mov (.t 15)), none⟩, ⟨(some 88), (.bin .add (.t 86) (.t 87)), none⟩, ⟨(some 89), (.cvi .u64 (.t 88)), none⟩, ⟨(some 90), (.gen 220 ⟨(some 90), (.binOp .shr 76 (.tmp 89) (.const (.int .u64 1)) 76), 76, "zsortanyfunc.go:413", #[{ on := 3, ground := Go.Ground.data }], none⟩), none⟩, ⟨(some 91), (.cvi .i64 (.t 90)), none⟩, ⟨(some 16), (.mov (.t 91)), none⟩])
              (.seq
               (.draw 12 [⟨⟨(some 92), (.mov (.t 4)), none⟩, 0, false, []⟩, ⟨⟨(some 93), (.mov (.t 0)), none⟩, 1, false, []⟩, ⟨⟨(some 94), (.mov (.t 2)), none⟩, 2, false, []⟩, ⟨⟨(some 95), (.isl 5 (.t 93) (.t 94)), none⟩, 3, false, []⟩, ⟨⟨(some 96), (.ld true 5 (.t 95)), none⟩, 4, false, []⟩, ⟨⟨(some 97), (.mov (.t 0)), none⟩, 5, false, []⟩, ⟨⟨(some 98), (.mov (.t 16)), none⟩, 6, false, []⟩, ⟨⟨(some 99), (.isl 5 (.t 97) (.t 98)), none⟩, 7, false, []⟩, ⟨⟨(some 100), (.ld true 5 (.t 99)), none⟩, 8, false, []⟩, ⟨⟨(some 101), (.call (.t 92) [(.t 96), (.t 100)]), none⟩, 9, true, []⟩, ⟨⟨(some 102), (.bin .lss (.t 101) (.c (.int .i64 0))), none⟩, 10, false, []⟩, ⟨⟨(some 103), (.not (.t 102)), none⟩, 11, false, []⟩])
               (.cond (.t 103)
                (.region [⟨(some 104), (.mov (.t 16)), none⟩, ⟨(some 105), (.bin .add (.t 104) (.c (.int .i64 1))), none⟩, ⟨(some 14), (.mov (.t 105)), none⟩])
                (.region [⟨(some 106), (.mov (.t 16)), none⟩, ⟨(some 15), (.mov (.t 106)), none⟩]))))))))
         (.seq
          (.seq
           (.region [⟨(some 107), (.mov (.t 2)), none⟩, ⟨(some 17), (.mov (.t 107)), none⟩])
           (.block 6
            (.loop
             (.seq
              (.seq
               (.region [⟨(some 108), (.mov (.t 17)), none⟩, ⟨(some 109), (.mov (.t 14)), none⟩, ⟨(some 110), (.bin .gtr (.t 108) (.t 109)), none⟩])
               (.cond (.t 110)
                .skip
                (.exit 6)))
              (.seq
               (.block 7
                (.draw 18 [⟨⟨(some 113), (.mov (.t 0)), none⟩, 0, false, []⟩, ⟨⟨(some 114), (.mov (.t 17)), none⟩, 1, false, []⟩, ⟨⟨(some 115), (.mov (.t 0)), none⟩, 2, false, []⟩, ⟨⟨(some 116), (.mov (.t 17)), none⟩, 3, false, []⟩, ⟨⟨(some 117), (.bin .sub (.t 116) (.c (.int .i64 1))), none⟩, 4, false, []⟩, ⟨⟨(some 118), (.mov (.t 0)), none⟩, 5, false, []⟩, ⟨⟨(some 119), (.mov (.t 17)), none⟩, 6, false, []⟩, ⟨⟨(some 120), (.bin .sub (.t 119) (.c (.int .i64 1))), none⟩, 7, false, []⟩, ⟨⟨(some 121), (.isl 5 (.t 118) (.t 120)), none⟩, 8, false, []⟩, ⟨⟨(some 122), (.ld true 5 (.t 121)), none⟩, 9, false, []⟩, ⟨⟨(some 123), (.mov (.t 0)), none⟩, 10, false, []⟩, ⟨⟨(some 124), (.mov (.t 17)), none⟩, 11, false, []⟩, ⟨⟨(some 125), (.isl 5 (.t 123) (.t 124)), none⟩, 12, false, []⟩, ⟨⟨(some 126), (.ld true 5 (.t 125)), none⟩, 13, false, []⟩, ⟨⟨(some 127), (.isl 5 (.t 113) (.t 114)), none⟩, 14, false, []⟩, ⟨⟨none, (.st 5 (.t 127) (.t 122)), none⟩, 15, true, []⟩, ⟨⟨(some 128), (.isl 5 (.t 115) (.t 117)), none⟩, 16, false, []⟩, ⟨⟨none, (.st 5 (.t 128) (.t 126)), none⟩, 17, true, []⟩]))
               (.region [⟨(some 111), (.mov (.t 17)), none⟩, ⟨(some 112), (.bin .sub (.t 111) (.c (.int .i64 1))), none⟩, ⟨(some 17), (.mov (.t 112)), none⟩]))))))
          .ret))))
      .skip))
    (.seq
     (.region [⟨(some 129), (.mov (.t 1)), none⟩, ⟨(some 130), (.mov (.t 3)), none⟩, ⟨(some 131), (.bin .add (.t 129) (.t 130)), none⟩, ⟨(some 132), (.cvi .u64 (.t 131)), none⟩, ⟨(some 133), (.gen 220 ⟨(some 133), (.binOp .shr 76 (.tmp 132) (.const (.int .u64 1)) 76), 76, "zsortanyfunc.go:427", #[{ on := 3, ground := Go.Ground.data }], none⟩), none⟩, ⟨(some 134), (.cvi .i64 (.t 133)), none⟩, ⟨(some 18), (.mov (.t 134)), none⟩])
     (.seq
      (.region [⟨(some 135), (.mov (.t 18)), none⟩, ⟨(some 136), (.mov (.t 2)), none⟩, ⟨(some 137), (.bin .add (.t 135) (.t 136)), none⟩, ⟨(some 19), (.mov (.t 137)), none⟩])
      (.seq
       (.region [⟨(some 20), (.mov (.c (.int .i64 0))), none⟩, ⟨(some 21), (.mov (.c (.int .i64 0))), none⟩])
       (.seq
        (.seq
         (.region [⟨(some 138), (.mov (.t 2)), none⟩, ⟨(some 139), (.mov (.t 18)), none⟩, ⟨(some 140), (.bin .gtr (.t 138) (.t 139)), none⟩])
         (.cond (.t 140)
          (.seq
           (.region [⟨(some 141), (.mov (.t 19)), none⟩, ⟨(some 142), (.mov (.t 3)), none⟩, ⟨(some 143), (.bin .sub (.t 141) (.t 142)), none⟩, ⟨(some 20), (.mov (.t 143)), none⟩])
           (.region [⟨(some 144), (.mov (.t 18)), none⟩, ⟨(some 21), (.mov (.t 144)), none⟩]))
          (.seq
           (.region [⟨(some 145), (.mov (.t 1)), none⟩, ⟨(some 20), (.mov (.t 145)), none⟩])
           (.region [⟨(some 146), (.mov (.t 2)), none⟩, ⟨(some 21), (.mov (.t 146)), none⟩]))))
        (.seq
         (.region [⟨(some 147), (.mov (.t 19)), none⟩, ⟨(some 148), (.bin .sub (.t 147) (.c (.int .i64 1))), none⟩, ⟨(some 22), (.mov (.t 148)), none⟩])
         (.seq
          (.block 8
           (.loop
            (.seq
             (.seq
              (.region [⟨(some 149), (.mov (.t 20)), none⟩, ⟨(some 150), (.mov (.t 21)), none⟩, ⟨(some 151), (.bin .lss (.t 149) (.t 150)), none⟩])
              (.cond (.t 151)
               .skip
               (.exit 8)))
             (.block 9
              (.seq
               (.region [⟨(some 152), (.mov (.t 20)), none⟩, ⟨(some 153), (.mov (.t 21)), none⟩, ⟨(some 154), (.bin .add (.t 152) (.t 153)), none⟩, ⟨(some 155), (.cvi .u64 (.t 154)), none⟩, ⟨(some 156), (.gen 220 ⟨(some 156), (.binOp .shr 76 (.tmp 155) (.const (.int .u64 1)) 76), 76, "zsortanyfunc.go:440", #[{ on := 3, ground := Go.Ground.data }], none⟩), none⟩, ⟨(some 157), (.cvi .i64 (.t 156)), none⟩, ⟨(some 23), (.mov (.t 157)), none⟩])
               (.seq
                (.draw 14 [⟨⟨(some 158), (.mov (.t 4)), none⟩, 0, false, []⟩, ⟨⟨(some 159), (.mov (.t 0)), none⟩, 1, false, []⟩, ⟨⟨(some 160), (.mov (.t 22)), none⟩, 2, false, []⟩, ⟨⟨(some 161), (.mov (.t 23)), none⟩, 3, false, []⟩, ⟨⟨(some 162), (.bin .sub (.t 160) (.t 161)), none⟩, 4, false, []⟩, ⟨⟨(some 163), (.isl 5 (.t 159) (.t 162)), none⟩, 5, false, []⟩, ⟨⟨(some 164), (.ld true 5 (.t 163)), none⟩, 6, false, []⟩, ⟨⟨(some 165), (.mov (.t 0)), none⟩, 7, false, []⟩, ⟨⟨(some 166), (.mov (.t 23)), none⟩, 8, false, []⟩, ⟨⟨(some 167), (.isl 5 (.t 165) (.t 166)), none⟩, 9, false, []⟩, ⟨⟨(some 168), (.ld true 5 (.t 167)), none⟩, 10, false, []⟩, ⟨⟨(some 169), (.call (.t 158) [(.t 164), (.t 168)]), none⟩, 11, true, []⟩, ⟨⟨(some 170), (.bin .lss (.t 169) (.c (.int .i64 0))), none⟩, 12, false, []⟩, ⟨⟨(some 171), (.not (.t 170)), none⟩, 13, false, []⟩])
                (.cond (.t 171)
                 (.region [⟨(some 172), (.mov (.t 23)), none⟩, ⟨(some 173), (.bin .add (.t 172) (.c (.int .i64 1))), none⟩, ⟨(some 20), (.mov (.t 173)), none⟩])
                 (.region [⟨(some 174), (.mov (.t 23)), none⟩, ⟨(some 21), (.mov (.t 174)), none⟩]))))))))
          (.seq
           (.region [⟨(some 175), (.mov (.t 19)), none⟩, ⟨(some 176), (.mov (.t 20)), none⟩, ⟨(some 177), (.bin .sub (.t 175) (.t 176)), none⟩, ⟨(some 24), (.mov (.t 177)), none⟩])
           (.seq
            (.seq
             (.region [⟨(some 178), (.mov (.t 20)), none⟩, ⟨(some 179), (.mov (.t 2)), none⟩, ⟨(some 180), (.bin .lss (.t 178) (.t 179)), none⟩, ⟨(some 181), (.mov (.t 180)), none⟩, ⟨(some 182), (.mov (.t 2)), (some (181, true))⟩, ⟨(some 183), (.mov (.t 24)), (some (181, true))⟩, ⟨(some 184), (.bin .lss (.t 182) (.t 183)), (some (181, true))⟩, ⟨(some 185), (.pick (.t 181) (.t 184) (.c (.bool false))), none⟩])
             (.cond (.t 185)
              (.region [⟨(some 186), (.mov (.t 0)), none⟩, ⟨(some 187), (.mov (.t 20)), none⟩, ⟨(some 188), (.mov (.t 2)), none⟩, ⟨(some 189), (.mov (.t 24)), none⟩, ⟨(some 190), (.mov (.t 4)), none⟩, ⟨(some 191), (.call (.c (.func (.func 132) #[] #[])) [(.t 186), (.t 187), (.t 188), (.t 189), (.t 190)]), none⟩])
              .skip))
            (.seq
             (.seq
              (.region [⟨(some 192), (.mov (.t 1)), none⟩, ⟨(some 193), (.mov (.t 20)), none⟩, ⟨(some 194), (.bin .lss (.t 192) (.t 193)), none⟩, ⟨(some 195), (.mov (.t 194)), none⟩, ⟨(some 196), (.mov (.t 20)), (some (195, true))⟩, ⟨(some 197), (.mov (.t 18)), (some (195, true))⟩, ⟨(some 198), (.bin .lss (.t 196) (.t 197)), (some (195, true))⟩, ⟨(some 199), (.pick (.t 195) (.t 198) (.c (.bool false))), none⟩])
              (.cond (.t 199)
               (.region [⟨(some 200), (.mov (.t 0)), none⟩, ⟨(some 201), (.mov (.t 1)), none⟩, ⟨(some 202), (.mov (.t 20)), none⟩, ⟨(some 203), (.mov (.t 18)), none⟩, ⟨(some 204), (.mov (.t 4)), none⟩, ⟨(some 205), (.call (.c (.func (.func 131) #[] #[])) [(.t 200), (.t 201), (.t 202), (.t 203), (.t 204)]), none⟩])
               .skip))
             (.seq
              (.region [⟨(some 206), (.mov (.t 18)), none⟩, ⟨(some 207), (.mov (.t 24)), none⟩, ⟨(some 208), (.bin .lss (.t 206) (.t 207)), none⟩, ⟨(some 209), (.mov (.t 208)), none⟩, ⟨(some 210), (.mov (.t 24)), (some (209, true))⟩, ⟨(some 211), (.mov (.t 3)), (some (209, true))⟩, ⟨(some 212), (.bin .lss (.t 210) (.t 211)), (some (209, true))⟩, ⟨(some 213), (.pick (.t 209) (.t 212) (.c (.bool false))), none⟩])
              (.cond (.t 213)
               (.region [⟨(some 214), (.mov (.t 0)), none⟩, ⟨(some 215), (.mov (.t 18)), none⟩, ⟨(some 216), (.mov (.t 24)), none⟩, ⟨(some 217), (.mov (.t 3)), none⟩, ⟨(some 218), (.mov (.t 4)), none⟩, ⟨(some 219), (.call (.c (.func (.func 131) #[] #[])) [(.t 214), (.t 215), (.t 216), (.t 217), (.t 218)]), none⟩])
               .skip)))))))))))))
def r131 : List AOp := []
theorem ok131 : FnOk Tryd.prog 131 Tryd.f131.ntmps a131 r131 := ⟨Tryd.f131, Tryd.func131, by kernel_rfl, by kernel_rfl, by kernel_rfl, fun asv w => by simp⟩

/-- slices.rotateCmpFunc[layover/duty.piece] -/
def a132 : ACode :=
  (.seq
   (.region [⟨(some 12), (.mov (.t 2)), none⟩, ⟨(some 13), (.mov (.t 1)), none⟩, ⟨(some 14), (.bin .sub (.t 12) (.t 13)), none⟩, ⟨(some 10), (.mov (.t 14)), none⟩])
   (.seq
    (.region [⟨(some 15), (.mov (.t 3)), none⟩, ⟨(some 16), (.mov (.t 2)), none⟩, ⟨(some 17), (.bin .sub (.t 15) (.t 16)), none⟩, ⟨(some 11), (.mov (.t 17)), none⟩])
    (.seq
     (.block 0
      (.loop
       (.seq
        (.seq
         (.region [⟨(some 18), (.mov (.t 10)), none⟩, ⟨(some 19), (.mov (.t 11)), none⟩, ⟨(some 20), (.bin .neq (.t 18) (.t 19)), none⟩])
         (.cond (.t 20)
          .skip
          (.exit 0)))
        (.block 1
         (.seq
          (.region [⟨(some 21), (.mov (.t 10)), none⟩, ⟨(some 22), (.mov (.t 11)), none⟩, ⟨(some 23), (.bin .gtr (.t 21) (.t 22)), none⟩])
          (.cond (.t 23)
           (.seq
            (.region [⟨(some 24), (.mov (.t 0)), none⟩, ⟨(some 25), (.mov (.t 2)), none⟩, ⟨(some 26), (.mov (.t 10)), none⟩, ⟨(some 27), (.bin .sub (.t 25) (.t 26)), none⟩, ⟨(some 28), (.mov (.t 2)), none⟩, ⟨(some 29), (.mov (.t 11)), none⟩, ⟨(some 30), (.mov (.t 4)), none⟩, ⟨(some 31), (.call (.c (.func (.func 133) #[] #[])) [(.t 24), (.t 27), (.t 28), (.t 29), (.t 30)]), none⟩])
            (.region [⟨(some 32), (.mov (.t 10)), none⟩, ⟨(some 33), (.mov (.t 11)), none⟩, ⟨(some 34), (.bin .sub (.t 32) (.t 33)), none⟩, ⟨(some 10), (.mov (.t 34)), none⟩]))
           (.seq
            (.region [⟨(some 35), (.mov (.t 0)), none⟩, ⟨(some 36), (.mov (.t 2)), none⟩, ⟨(some 37), (.mov (.t 10)), none⟩, ⟨(some 38), (.bin .sub (.t 36) (.t 37)), none⟩, ⟨(some 39), (.mov (.t 2)), none⟩, ⟨(some 40), (.mov (.t 11)), none⟩, ⟨(some 41), (.bin .add (.t 39) (.t 40)), none⟩, ⟨(some 42), (.mov (.t 10)), none⟩, ⟨(some 43), (.bin .sub (.t 41) (.t 42)), none⟩, ⟨(some 44), (.mov (.t 10)), none⟩, ⟨(some 45), (.mov (.t 4)), none⟩, ⟨(some 46), (.call (.c (.func (.func 133) #[] #[])) [(.t 35), (.t 38), (.t 43), (.t 44), (.t 45)]), none⟩])
            (.region [⟨(some 47), (.mov (.t 11)), none⟩, ⟨(some 48), (.mov (.t 10)), none⟩, ⟨(some 49), (.bin .sub (.t 47) (.t 48)), none⟩, ⟨(some 11), (.mov (.t 49)), none⟩]))))))))
     (.region [⟨(some 50), (.mov (.t 0)), none⟩, ⟨(some 51), (.mov (.t 2)), none⟩, ⟨(some 52), (.mov (.t 10)), none⟩, ⟨(some 53), (.bin .sub (.t 51) (.t 52)), none⟩, ⟨(some 54), (.mov (.t 2)), none⟩, ⟨(some 55), (.mov (.t 10)), none⟩, ⟨(some 56), (.mov (.t 4)), none⟩, ⟨(some 57), (.call (.c (.func (.func 133) #[] #[])) [(.t 50), (.t 53), (.t 54), (.t 55), (.t 56)]), none⟩]))))
def r132 : List AOp := []
theorem ok132 : FnOk Tryd.prog 132 Tryd.f132.ntmps a132 r132 := ⟨Tryd.f132, Tryd.func132, by kernel_rfl, by kernel_rfl, by kernel_rfl, fun asv w => by simp⟩

/-- slices.swapRangeCmpFunc[layover/duty.piece] -/
def a133 : ACode :=
  (.seq
   (.region [⟨(some 10), (.mov (.c (.int .i64 0))), none⟩])
   (.block 0
    (.loop
     (.seq
      (.seq
       (.region [⟨(some 11), (.mov (.t 10)), none⟩, ⟨(some 12), (.mov (.t 3)), none⟩, ⟨(some 13), (.bin .lss (.t 11) (.t 12)), none⟩])
       (.cond (.t 13)
        .skip
        (.exit 0)))
      (.seq
       (.block 1
        (.draw 24 [⟨⟨(some 16), (.mov (.t 0)), none⟩, 0, false, []⟩, ⟨⟨(some 17), (.mov (.t 1)), none⟩, 1, false, []⟩, ⟨⟨(some 18), (.mov (.t 10)), none⟩, 2, false, []⟩, ⟨⟨(some 19), (.bin .add (.t 17) (.t 18)), none⟩, 3, false, []⟩, ⟨⟨(some 20), (.mov (.t 0)), none⟩, 4, false, []⟩, ⟨⟨(some 21), (.mov (.t 2)), none⟩, 5, false, []⟩, ⟨⟨(some 22), (.mov (.t 10)), none⟩, 6, false, []⟩, ⟨⟨(some 23), (.bin .add (.t 21) (.t 22)), none⟩, 7, false, []⟩, ⟨⟨(some 24), (.mov (.t 0)), none⟩, 8, false, []⟩, ⟨⟨(some 25), (.mov (.t 2)), none⟩, 9, false, []⟩, ⟨⟨(some 26), (.mov (.t 10)), none⟩, 10, false, []⟩, ⟨⟨(some 27), (.bin .add (.t 25) (.t 26)), none⟩, 11, false, []⟩, ⟨⟨(some 28), (.isl 5 (.t 24) (.t 27)), none⟩, 12, false, []⟩, ⟨⟨(some 29), (.ld true 5 (.t 28)), none⟩, 13, false, []⟩, ⟨⟨(some 30), (.mov (.t 0)), none⟩, 14, false, []⟩, ⟨⟨(some 31), (.mov (.t 1)), none⟩, 15, false, []⟩, ⟨⟨(some 32), (.mov (.t 10)), none⟩, 16, false, []⟩, ⟨⟨(some 33), (.bin .add (.t 31) (.t 32)), none⟩, 17, false, []⟩, ⟨⟨(some 34), (.isl 5 (.t 30) (.t 33)), none⟩, 18, false, []⟩, ⟨⟨(some 35), (.ld true 5 (.t 34)), none⟩, 19, false, []⟩, ⟨⟨(some 36), (.isl 5 (.t 16) (.t 19)), none⟩, 20, false, []⟩, ⟨⟨none, (.st 5 (.t 36) (.t 29)), none⟩, 21, true, []⟩, ⟨⟨(some 37), (.isl 5 (.t 20) (.t 23)), none⟩, 22, false, []⟩, ⟨⟨none, (.st 5 (.t 37) (.t 35)), none⟩, 23, true, []⟩]))
       (.region [⟨(some 14), (.mov (.t 10)), none⟩, ⟨(some 15), (.bin .add (.t 14) (.c (.int .i64 1))), none⟩, ⟨(some 10), (.mov (.t 15)), none⟩]))))))
def r133 : List AOp := []
theorem ok133 : FnOk Tryd.prog 133 Tryd.f133.ntmps a133 r133 := ⟨Tryd.f133, Tryd.func133, by kernel_rfl, by kernel_rfl, by kernel_rfl, fun asv w => by simp⟩

end Go.Proofs.YtllkhaabcfnlpaaDoor
