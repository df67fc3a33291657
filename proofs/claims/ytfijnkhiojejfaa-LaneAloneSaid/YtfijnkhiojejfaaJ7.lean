/-
  Joined texts of a calculus of abstract memory, of the program's code in it, and of contracts.
-/
import Derived.Test.YtfijnkhiojejfaaJ5
import Derived.KernelRfl
import Derived.Test.YtfijnkhiojejfaaChecked
namespace Go.Proofs.Ytfijnkhiojejfaa
open Go Go.Ab

def a16 : ACode :=
 (.seq
 (.region [⟨some 1, .box (.t 0), none⟩, ⟨some 2, .mov (.c (.bool false)), none⟩])
 (.seq
 (.region [⟨some 3, .fa 0 (.t 1), none⟩, ⟨some 4, .ld false 1 (.t 3), none⟩, ⟨some 5, .len (.t 4), none⟩, ⟨some 6, .bin .leq (.t 5) (.c (.int .i64 6)), none⟩, ⟨some 7, .mov (.t 6), none⟩, ⟨some 8, .fa 1 (.t 1), (some (7, true))⟩, ⟨some 9, .ld false 1 (.t 8), (some (7, true))⟩, ⟨some 10, .len (.t 9), (some (7, true))⟩, ⟨some 11, .bin .leq (.t 10) (.c (.int .i64 12)), (some (7, true))⟩, ⟨some 12, .pick (.t 7) (.t 11) (.c (.bool false)), none⟩, ⟨some 2, .mov (.t 12), none⟩])
 .ret))
def r16 : List AOp := [(.mov (.t 2))]
theorem ok16 : FnOk Try.prog 16 Try.f16.ntmps a16 r16 := ⟨Try.f16, Try.func16, by kernel_rfl, by kernel_rfl, by kernel_rfl, fun asv w => by simp⟩

def a17 : ACode :=
 (.seq
 (.region [⟨some 0, .mov (.c (.bool false)), none⟩])
 (.seq
 (.region [⟨some 11, .call (.c (.func (.func 40) #[] #[])) [], none⟩, ⟨some 12, .bsl 4 [(.int .i64 0), (.int .i64 0), (.int .i64 0), (.int .i64 0)] [(0, 1, (.c (.int .i64 0))), (1, 1, (.c (.int .i64 0))), (2, 1, (.c (.int .i64 1))), (3, 1, (.c (.int .i64 1)))], none⟩, ⟨some 13, .bsl 4 [(.int .i64 0), (.int .i64 0), (.int .i64 0), (.int .i64 0)] [(0, 1, (.c (.int .i64 0))), (1, 1, (.c (.int .i64 1))), (2, 1, (.c (.int .i64 2))), (3, 1, (.c (.int .i64 3)))], none⟩, ⟨some 14, .call (.c (.func (.func 24) #[] #[])) [(.t 11), (.t 12), (.t 13), (.c (.slice none 0 0))], none⟩, ⟨some 10, .mov (.t 14), none⟩, ⟨some 15, .ext (.t 10) 0, none⟩, ⟨some 16, .ext (.t 10) 1, none⟩, ⟨some 1, .mov (.t 15), none⟩, ⟨some 2, .mov (.t 16), none⟩])
 (.seq
 (.region [⟨some 18, .call (.c (.func (.func 40) #[] #[])) [], none⟩, ⟨some 19, .bsl 4 [(.int .i64 0), (.int .i64 0), (.int .i64 0), (.int .i64 0)] [(0, 1, (.c (.int .i64 0))), (1, 1, (.c (.int .i64 1))), (2, 1, (.c (.int .i64 1))), (3, 1, (.c (.int .i64 0)))], none⟩, ⟨some 20, .call (.c (.func (.func 31) #[] #[])) [(.t 18), (.t 19)], none⟩, ⟨some 17, .mov (.t 20), none⟩, ⟨some 21, .ext (.t 17) 0, none⟩, ⟨some 22, .ext (.t 17) 1, none⟩, ⟨some 23, .ext (.t 17) 2, none⟩, ⟨some 24, .ext (.t 17) 3, none⟩, ⟨some 3, .mov (.t 21), none⟩, ⟨some 4, .mov (.t 22), none⟩, ⟨some 5, .mov (.t 23), none⟩, ⟨some 6, .mov (.t 24), none⟩])
 (.seq
 (.region [⟨some 26, .call (.c (.func (.func 40) #[] #[])) [], none⟩, ⟨some 27, .call (.c (.func (.func 38) #[] #[])) [(.t 26)], none⟩, ⟨some 25, .mov (.t 27), none⟩, ⟨some 28, .ext (.t 25) 0, none⟩, ⟨some 29, .ext (.t 25) 1, none⟩, ⟨some 30, .ext (.t 25) 2, none⟩, ⟨some 7, .mov (.t 28), none⟩, ⟨some 8, .mov (.t 29), none⟩, ⟨some 9, .mov (.t 30), none⟩])
 (.seq
 (.region [⟨some 31, .mov (.t 2), none⟩, ⟨some 32, .bin .eql (.t 31) (.c (.int .i64 0)), none⟩, ⟨some 33, .mov (.t 32), none⟩, ⟨some 34, .mov (.t 1), (some (33, true))⟩, ⟨some 35, .bsl 2 [(.int .i64 0), (.int .i64 0)] [(0, 1, (.c (.int .i64 0))), (1, 1, (.c (.int .i64 2)))], (some (33, true))⟩, ⟨some 36, .call (.c (.func (.func 26) #[] #[])) [(.t 34), (.t 35)], (some (33, true))⟩, ⟨some 37, .pick (.t 33) (.t 36) (.c (.bool false)), none⟩, ⟨some 38, .mov (.t 37), none⟩, ⟨some 39, .mov (.t 6), (some (38, true))⟩, ⟨some 40, .bin .eql (.t 39) (.c (.int .i64 0)), (some (38, true))⟩, ⟨some 41, .pick (.t 38) (.t 40) (.c (.bool false)), none⟩, ⟨some 42, .mov (.t 41), none⟩, ⟨some 43, .mov (.t 5), (some (42, true))⟩, ⟨some 44, .bin .eql (.t 43) (.c (.int .i64 2)), (some (42, true))⟩, ⟨some 45, .pick (.t 42) (.t 44) (.c (.bool false)), none⟩, ⟨some 46, .mov (.t 45), none⟩, ⟨some 47, .mov (.t 9), (some (46, true))⟩, ⟨some 48, .bin .eql (.t 47) (.c (.int .i64 0)), (some (46, true))⟩, ⟨some 49, .pick (.t 46) (.t 48) (.c (.bool false)), none⟩, ⟨some 50, .mov (.t 49), none⟩, ⟨some 51, .mov (.t 8), (some (50, true))⟩, ⟨some 52, .bin .eql (.t 51) (.c (.int .i64 2)), (some (50, true))⟩, ⟨some 53, .pick (.t 50) (.t 52) (.c (.bool false)), none⟩, ⟨some 54, .mov (.t 53), none⟩, ⟨some 55, .mov (.t 7), (some (54, true))⟩, ⟨some 56, .bsl 4 [(.int .i64 0), (.int .i64 0), (.int .i64 0), (.int .i64 0)] [(0, 1, (.c (.int .i64 0))), (1, 1, (.c (.int .i64 0))), (2, 1, (.c (.int .i64 1))), (3, 1, (.c (.int .i64 1)))], (some (54, true))⟩, ⟨some 57, .call (.c (.func (.func 26) #[] #[])) [(.t 55), (.t 56)], (some (54, true))⟩, ⟨some 58, .pick (.t 54) (.t 57) (.c (.bool false)), none⟩, ⟨some 0, .mov (.t 58), none⟩])
 .ret)))))
def r17 : List AOp := [(.mov (.t 0))]
theorem ok17 : FnOk Try.prog 17 Try.f17.ntmps a17 r17 := ⟨Try.f17, Try.func17, by kernel_rfl, by kernel_rfl, by kernel_rfl, fun asv w => by simp⟩

def a19 : ACode :=
 (.seq
 (.region [⟨some 1, .box (.t 0), none⟩, ⟨some 2, .mov (.c (.int .i64 0)), none⟩])
 (.seq
 (.block 0
 (.seq
 (.seq
 (.region [⟨some 4, .fa 0 (.t 1), none⟩, ⟨some 5, .ld false 1 (.t 4), none⟩, ⟨some 6, .len (.t 5), none⟩, ⟨some 7, .bin .gtr (.t 6) (.c (.int .i64 3)), none⟩, ⟨some 3, .mov (.t 7), none⟩])
 (.cond (.t 3)
 .skip
 (.region [⟨some 8, .fa 1 (.t 1), none⟩, ⟨some 9, .ld false 1 (.t 8), none⟩, ⟨some 10, .len (.t 9), none⟩, ⟨some 11, .bin .gtr (.t 10) (.c (.int .i64 8)), none⟩, ⟨some 3, .mov (.t 11), none⟩])))
 (.cond (.t 3)
 (.seq
 (.region [⟨some 2, .mov (.c (.int .i64 3)), none⟩])
 .ret)
 (.seq
 (.seq
 (.region [⟨some 13, .fa 0 (.t 1), none⟩, ⟨some 14, .ld false 1 (.t 13), none⟩, ⟨some 15, .len (.t 14), none⟩, ⟨some 16, .bin .eql (.t 15) (.c (.int .i64 0)), none⟩, ⟨some 12, .mov (.t 16), none⟩])
 (.cond (.t 12)
 .skip
 (.seq
 (.region [⟨some 17, .fa 0 (.t 1), none⟩, ⟨some 18, .ld false 1 (.t 17), none⟩, ⟨some 19, .call (.c (.func (.func 48) #[] #[])) [(.t 18), (.c (.func (.func 49) #[] #[]))], none⟩, ⟨some 20, .not (.t 19), none⟩, ⟨some 12, .mov (.t 20), none⟩])
 (.cond (.t 12)
 .skip
 (.seq
 (.region [⟨some 21, .fa 1 (.t 1), none⟩, ⟨some 22, .ld false 1 (.t 21), none⟩, ⟨some 23, .call (.c (.func (.func 50) #[] #[])) [(.t 22), (.c (.func (.func 51) #[] #[]))], none⟩, ⟨some 24, .not (.t 23), none⟩, ⟨some 12, .mov (.t 24), none⟩])
 (.cond (.t 12)
 .skip
 (.seq
 (.region [⟨some 25, .ld true 3 (.t 1), none⟩, ⟨some 26, .call (.c (.func (.func 53) #[] #[])) [(.t 25)], none⟩, ⟨some 27, .call (.c (.func (.func 52) #[] #[])) [(.t 26)], none⟩, ⟨some 28, .not (.t 27), none⟩, ⟨some 12, .mov (.t 28), none⟩])
 (.cond (.t 12)
 .skip
 (.region [⟨some 29, .fa 2 (.t 1), none⟩, ⟨some 30, .ld false 1 (.t 29), none⟩, ⟨some 31, .call (.c (.func (.func 54) #[] #[])) [(.t 30), (.c (.int .i64 0)), (.c (.int .i64 2))], none⟩, ⟨some 32, .not (.t 31), none⟩, ⟨some 12, .mov (.t 32), none⟩])))))))))
 (.cond (.t 12)
 (.seq
 (.region [⟨some 2, .mov (.c (.int .i64 1)), none⟩])
 .ret)
 .skip)))))
 (.seq
 (.region [⟨some 2, .mov (.c (.int .i64 0)), none⟩])
 .ret)))
def r19 : List AOp := [(.mov (.t 2))]
theorem ok19 : FnOk Try.prog 19 Try.f19.ntmps a19 r19 := ⟨Try.f19, Try.func19, by kernel_rfl, by kernel_rfl, by kernel_rfl, fun asv w => by simp⟩

def a20 : ACode :=
 (.seq
 (.region [⟨some 1, .box (.t 0), none⟩, ⟨some 2, .new [(.slice none 0 0), (.slice none 0 0), (.int .i64 0)], none⟩])
 (.seq
 (.draw 8 [⟨⟨some 6, .fa 0 (.t 1), none⟩, 0, false, []⟩, ⟨⟨some 7, .ld false 1 (.t 6), none⟩, 1, false, []⟩, ⟨⟨some 9, .fa 2 (.t 1), none⟩, 3, false, []⟩, ⟨⟨some 10, .ld false 1 (.t 9), none⟩, 4, false, []⟩, ⟨⟨some 3, .new [(.slice none 0 0), (.slice none 0 0), (.int .i64 0)], none⟩, 6, false, []⟩, ⟨⟨some 8, .call (.c (.func (.func 22) #[] #[])) [(.t 7)], none⟩, 2, true, [4]⟩, ⟨⟨some 11, .bld [(.slice none 0 0), (.slice none 0 0), (.int .i64 0)] [(0, 1, (.t 8)), (2, 1, (.t 10))], none⟩, 5, false, []⟩, ⟨⟨none, .st 3 (.t 3) (.t 11), none⟩, 7, true, []⟩])
 (.seq
 (.seq
 (.region [⟨some 4, .mov (.c (.int .i64 0)), none⟩])
 (.block 0
 (.loop
 (.seq
 (.seq
 (.region [⟨some 12, .mov (.t 4), none⟩, ⟨some 13, .fa 1 (.t 1), none⟩, ⟨some 14, .ld false 1 (.t 13), none⟩, ⟨some 15, .len (.t 14), none⟩, ⟨some 16, .bin .lss (.t 12) (.t 15), none⟩])
 (.cond (.t 16)
 .skip
 (.exit 0)))
 (.seq
 (.block 1
 (.seq
 (.region [⟨some 19, .fa 1 (.t 1), none⟩, ⟨some 20, .ld false 1 (.t 19), none⟩, ⟨some 21, .mov (.t 4), none⟩, ⟨some 22, .isl 3 (.t 20) (.t 21), none⟩, ⟨some 23, .ld true 3 (.t 22), none⟩, ⟨some 5, .new [(.int .i64 0), (.int .i64 0), (.int .i64 0)], none⟩, ⟨none, .st 3 (.t 5) (.t 23), none⟩])
 (.region [⟨some 24, .fa 1 (.t 3), none⟩, ⟨some 25, .ld false 1 (.t 24), none⟩, ⟨some 26, .fa 0 (.t 5), none⟩, ⟨some 27, .ld false 1 (.t 26), none⟩, ⟨some 28, .fa 1 (.t 5), none⟩, ⟨some 29, .ld false 1 (.t 28), none⟩, ⟨some 30, .fa 2 (.t 5), none⟩, ⟨some 31, .ld false 1 (.t 30), none⟩, ⟨some 32, .bld [(.int .i64 0), (.int .i64 0), (.int .i64 0)] [(0, 1, (.t 27)), (1, 1, (.t 29)), (2, 1, (.t 31))], none⟩, ⟨some 33, .bsl 1 [(.int .i64 0), (.int .i64 0), (.int .i64 0)] [(0, 3, (.t 32))], none⟩, ⟨some 34, .app 3 24 (.t 25) (.t 33), none⟩, ⟨some 35, .fa 1 (.t 3), none⟩, ⟨none, .st 1 (.t 35) (.t 34), none⟩])))
 (.region [⟨some 17, .mov (.t 4), none⟩, ⟨some 18, .bin .add (.t 17) (.c (.int .i64 1)), none⟩, ⟨some 4, .mov (.t 18), none⟩]))))))
 (.seq
 (.region [⟨some 36, .ld true 3 (.t 3), none⟩, ⟨none, .st 3 (.t 2) (.t 36), none⟩])
 .ret))))
def r20 : List AOp := [(.ld true 3 (.t 2))]
theorem ok20 : FnOk Try.prog 20 Try.f20.ntmps a20 r20 := ⟨Try.f20, Try.func20, by kernel_rfl, by kernel_rfl, by kernel_rfl, fun asv w => by simp⟩

def a22 : ACode :=
 (.seq
 (.region [⟨some 2, .mov (.c (.slice none 0 0)), none⟩])
 (.seq
 (.region [⟨some 3, .mov (.t 0), none⟩, ⟨some 4, .app 1 8 (.c (.slice none 0 0)) (.t 3), none⟩, ⟨some 2, .mov (.t 4), none⟩])
 .ret))
def r22 : List AOp := [(.mov (.t 2))]
theorem ok22 : FnOk Try.prog 22 Try.f22.ntmps a22 r22 := ⟨Try.f22, Try.func22, by kernel_rfl, by kernel_rfl, by kernel_rfl, fun asv w => by simp⟩

def a24 : ACode :=
 (.seq
 (.region [⟨some 4, .box (.t 0), none⟩, ⟨some 8, .mov (.c (.slice none 0 0)), none⟩, ⟨some 9, .mov (.c (.int .i64 0)), none⟩])
 (.seq
 (.seq
 (.region [⟨some 11, .ld true 3 (.t 4), none⟩, ⟨some 12, .mov (.t 1), none⟩, ⟨some 13, .mov (.t 2), none⟩, ⟨some 14, .mov (.t 3), none⟩, ⟨some 15, .call (.c (.func (.func 57) #[] #[])) [(.t 11), (.t 12), (.t 13), (.t 14)], none⟩, ⟨some 10, .mov (.t 15), none⟩])
 (.seq
 (.region [⟨some 16, .mov (.t 10), none⟩, ⟨some 17, .bin .neq (.t 16) (.c (.int .i64 0)), none⟩])
 (.cond (.t 17)
 (.seq
 (.region [⟨some 18, .mov (.t 10), none⟩, ⟨some 8, .mov (.c (.slice none 0 0)), none⟩, ⟨some 9, .mov (.t 18), none⟩])
 .ret)
 .skip)))
 (.seq
 (.draw 10 [⟨⟨some 19, .ld true 3 (.t 4), none⟩, 0, false, []⟩, ⟨⟨some 20, .mov (.t 1), none⟩, 1, false, []⟩, ⟨⟨some 21, .mov (.t 2), none⟩, 2, false, []⟩, ⟨⟨some 23, .mov (.t 3), none⟩, 4, false, []⟩, ⟨⟨some 22, .call (.c (.func (.func 59) #[] #[])) [(.t 21)], none⟩, 3, true, [0]⟩, ⟨⟨some 24, .call (.c (.func (.func 60) #[] #[])) [(.t 23)], none⟩, 5, true, [0]⟩, ⟨⟨some 25, .call (.c (.func (.func 58) #[] #[])) [(.t 19), (.t 20), (.t 22), (.t 24)], none⟩, 6, true, []⟩, ⟨⟨some 26, .call (.c (.func (.func 61) #[] #[])) [(.t 25)], none⟩, 7, true, []⟩, ⟨⟨some 8, .mov (.t 26), none⟩, 8, false, []⟩, ⟨⟨some 9, .mov (.c (.int .i64 0)), none⟩, 9, false, []⟩])
 .ret)))
def r24 : List AOp := [(.mov (.t 8)), (.mov (.t 9))]
theorem ok24 : FnOk Try.prog 24 Try.f24.ntmps a24 r24 := ⟨Try.f24, Try.func24, by kernel_rfl, by kernel_rfl, by kernel_rfl, fun asv w => by simp⟩

def a26 : ACode :=
 (.seq
 (.region [⟨some 4, .mov (.c (.bool false)), none⟩])
 (.seq
 (.seq
 (.region [⟨some 6, .mov (.t 0), none⟩, ⟨some 7, .len (.t 6), none⟩, ⟨some 8, .mov (.t 1), none⟩, ⟨some 9, .len (.t 8), none⟩, ⟨some 10, .bin .neq (.t 7) (.t 9), none⟩])
 (.cond (.t 10)
 (.seq
 (.region [⟨some 4, .mov (.c (.bool false)), none⟩])
 .ret)
 .skip))
 (.seq
 (.seq
 (.region [⟨some 5, .mov (.c (.int .i64 0)), none⟩])
 (.block 0
 (.loop
 (.seq
 (.seq
 (.region [⟨some 11, .mov (.t 5), none⟩, ⟨some 12, .mov (.t 0), none⟩, ⟨some 13, .len (.t 12), none⟩, ⟨some 14, .bin .lss (.t 11) (.t 13), none⟩])
 (.cond (.t 14)
 .skip
 (.exit 0)))
 (.seq
 (.block 1
 (.seq
 (.draw 9 [⟨⟨some 17, .mov (.t 0), none⟩, 0, false, []⟩, ⟨⟨some 18, .mov (.t 5), none⟩, 1, false, []⟩, ⟨⟨some 19, .isl 1 (.t 17) (.t 18), none⟩, 2, false, []⟩, ⟨⟨some 20, .ld false 1 (.t 19), none⟩, 3, false, []⟩, ⟨⟨some 21, .mov (.t 1), none⟩, 4, false, []⟩, ⟨⟨some 22, .mov (.t 5), none⟩, 5, false, []⟩, ⟨⟨some 23, .isl 1 (.t 21) (.t 22), none⟩, 6, false, []⟩, ⟨⟨some 24, .ld false 1 (.t 23), none⟩, 7, false, []⟩, ⟨⟨some 25, .bin .neq (.t 20) (.t 24), none⟩, 8, false, []⟩])
 (.cond (.t 25)
 (.seq
 (.region [⟨some 4, .mov (.c (.bool false)), none⟩])
 .ret)
 .skip)))
 (.region [⟨some 15, .mov (.t 5), none⟩, ⟨some 16, .bin .add (.t 15) (.c (.int .i64 1)), none⟩, ⟨some 5, .mov (.t 16), none⟩]))))))
 (.seq
 (.region [⟨some 4, .mov (.c (.bool true)), none⟩])
 .ret))))
def r26 : List AOp := [(.mov (.t 4))]
theorem ok26 : FnOk Try.prog 26 Try.f26.ntmps a26 r26 := ⟨Try.f26, Try.func26, by kernel_rfl, by kernel_rfl, by kernel_rfl, fun asv w => by simp⟩

def a31 : ACode :=
 (.seq
 (.region [⟨some 2, .box (.t 0), none⟩, ⟨some 4, .mov (.c (.slice none 0 0)), none⟩, ⟨some 5, .mov (.c (.slice none 0 0)), none⟩, ⟨some 6, .mov (.c (.int .i64 0)), none⟩, ⟨some 7, .mov (.c (.int .i64 0)), none⟩])
 (.seq
 (.seq
 (.region [⟨some 11, .ld true 3 (.t 2), none⟩, ⟨some 12, .mov (.t 1), none⟩, ⟨some 13, .call (.c (.func (.func 63) #[] #[])) [(.t 11), (.t 12)], none⟩, ⟨some 8, .mov (.t 13), none⟩])
 (.seq
 (.region [⟨some 14, .mov (.t 8), none⟩, ⟨some 15, .bin .neq (.t 14) (.c (.int .i64 0)), none⟩])
 (.cond (.t 15)
 (.seq
 (.region [⟨some 16, .mov (.t 8), none⟩, ⟨some 4, .mov (.c (.slice none 0 0)), none⟩, ⟨some 5, .mov (.c (.slice none 0 0)), none⟩, ⟨some 6, .mov (.c (.int .i64 0)), none⟩, ⟨some 7, .mov (.t 16), none⟩])
 .ret)
 .skip)))
 (.seq
 (.region [⟨some 17, .ld true 3 (.t 2), none⟩, ⟨some 18, .call (.c (.func (.func 64) #[] #[])) [(.t 17)], none⟩, ⟨some 19, .mov (.t 1), none⟩, ⟨some 20, .call (.c (.func (.func 65) #[] #[])) [(.t 18), (.t 19)], none⟩, ⟨some 9, .new [(.int .i64 0), (.int .i64 0), (.int .i64 0), (.int .i64 0), (.int .i64 0), (.int .i64 0), (.int .i64 0), (.int .i64 0), (.int .i64 0), (.bool false), (.bool false), (.bool false), (.bool false), (.bool false), (.bool false), (.bool false), (.bool false)], none⟩, ⟨none, .st 17 (.t 9) (.t 20), none⟩])
 (.seq
 (.region [⟨some 21, .ld true 3 (.t 2), none⟩, ⟨some 22, .mov (.t 1), none⟩, ⟨some 23, .fa 1 (.t 9), none⟩, ⟨some 24, .ld true 8 (.t 23), none⟩, ⟨some 25, .fa 9 (.t 9), none⟩, ⟨some 26, .ld true 8 (.t 25), none⟩, ⟨some 27, .call (.c (.func (.func 58) #[] #[])) [(.t 21), (.t 22), (.t 24), (.t 26)], none⟩, ⟨some 10, .new [(.slice none 0 0), (.slice none 0 0), (.int .i64 0), (.int .i64 0), (.int .i64 0), (.int .i64 0), (.int .i64 0), (.int .i64 0), (.int .i64 0), (.int .i64 0), (.int .i64 0), (.int .i64 0), (.int .i64 0), (.int .i64 0), (.int .i64 0), (.int .i64 0), (.int .i64 0), (.int .i64 0), (.int .i64 0), (.bool false), (.bool false), (.bool false), (.bool false), (.bool false), (.bool false), (.bool false), (.bool false)], none⟩, ⟨none, .st 27 (.t 10) (.t 27), none⟩])
 (.seq
 (.draw 10 [⟨⟨some 28, .ld true 27 (.t 10), none⟩, 0, false, []⟩, ⟨⟨some 30, .ld true 27 (.t 10), none⟩, 2, false, []⟩, ⟨⟨some 32, .fa 0 (.t 9), none⟩, 4, false, []⟩, ⟨⟨some 33, .ld false 1 (.t 32), none⟩, 5, false, []⟩, ⟨⟨some 29, .call (.c (.func (.func 66) #[] #[])) [(.t 28)], none⟩, 1, true, [5, 2]⟩, ⟨⟨some 31, .call (.c (.func (.func 67) #[] #[])) [(.t 30)], none⟩, 3, true, [5]⟩, ⟨⟨some 4, .mov (.t 29), none⟩, 6, false, []⟩, ⟨⟨some 5, .mov (.t 31), none⟩, 7, false, []⟩, ⟨⟨some 6, .mov (.t 33), none⟩, 8, false, []⟩, ⟨⟨some 7, .mov (.c (.int .i64 0)), none⟩, 9, false, []⟩])
 .ret)))))
def r31 : List AOp := [(.mov (.t 4)), (.mov (.t 5)), (.mov (.t 6)), (.mov (.t 7))]
theorem ok31 : FnOk Try.prog 31 Try.f31.ntmps a31 r31 := ⟨Try.f31, Try.func31, by kernel_rfl, by kernel_rfl, by kernel_rfl, fun asv w => by simp⟩

def a37 : ACode :=
 (.seq
 (.region [⟨some 1, .box (.t 0), none⟩, ⟨some 2, .mov (.c (.int .i64 0)), none⟩])
 (.seq
 (.seq
 (.region [⟨some 7, .fa 0 (.t 1), none⟩, ⟨some 8, .ld false 1 (.t 7), none⟩, ⟨some 9, .len (.t 8), none⟩, ⟨some 10, .bin .gtr (.t 9) (.c (.int .i64 3)), none⟩, ⟨some 11, .mov (.t 10), none⟩, ⟨some 12, .fa 1 (.t 1), (some (11, false))⟩, ⟨some 13, .ld false 1 (.t 12), (some (11, false))⟩, ⟨some 14, .len (.t 13), (some (11, false))⟩, ⟨some 15, .bin .gtr (.t 14) (.c (.int .i64 8)), (some (11, false))⟩, ⟨some 16, .pick (.t 11) (.c (.bool true)) (.t 15), none⟩])
 (.cond (.t 16)
 (.seq
 (.region [⟨some 2, .mov (.c (.int .i64 3)), none⟩])
 .ret)
 .skip))
 (.seq
 (.seq
 (.region [⟨some 17, .fa 0 (.t 1), none⟩, ⟨some 18, .ld false 1 (.t 17), none⟩, ⟨some 19, .len (.t 18), none⟩, ⟨some 20, .bin .lss (.t 19) (.c (.int .i64 1)), none⟩, ⟨some 21, .mov (.t 20), none⟩, ⟨some 22, .fa 2 (.t 1), (some (21, false))⟩, ⟨some 23, .ld false 1 (.t 22), (some (21, false))⟩, ⟨some 24, .call (.c (.func (.func 46) #[] #[])) [(.t 23), (.c (.int .i64 0)), (.c (.int .i64 2))], (some (21, false))⟩, ⟨some 25, .not (.t 24), (some (21, false))⟩, ⟨some 26, .pick (.t 21) (.c (.bool true)) (.t 25), none⟩])
 (.cond (.t 26)
 (.seq
 (.region [⟨some 2, .mov (.c (.int .i64 1)), none⟩])
 .ret)
 .skip))
 (.seq
 (.seq
 (.region [⟨some 3, .mov (.c (.int .i64 0)), none⟩])
 (.block 0
 (.loop
 (.seq
 (.seq
 (.region [⟨some 27, .mov (.t 3), none⟩, ⟨some 28, .fa 0 (.t 1), none⟩, ⟨some 29, .ld false 1 (.t 28), none⟩, ⟨some 30, .len (.t 29), none⟩, ⟨some 31, .bin .lss (.t 27) (.t 30), none⟩])
 (.cond (.t 31)
 .skip
 (.exit 0)))
 (.seq
 (.block 1
 (.seq
 (.region [⟨some 34, .fa 0 (.t 1), none⟩, ⟨some 35, .ld false 1 (.t 34), none⟩, ⟨some 36, .mov (.t 3), none⟩, ⟨some 37, .isl 1 (.t 35) (.t 36), none⟩, ⟨some 38, .ld false 1 (.t 37), none⟩, ⟨some 39, .call (.c (.func (.func 46) #[] #[])) [(.t 38), (.c (.int .i64 0)), (.c (.int .i64 8))], none⟩, ⟨some 40, .not (.t 39), none⟩])
 (.cond (.t 40)
 (.seq
 (.region [⟨some 2, .mov (.c (.int .i64 1)), none⟩])
 .ret)
 .skip)))
 (.region [⟨some 32, .mov (.t 3), none⟩, ⟨some 33, .bin .add (.t 32) (.c (.int .i64 1)), none⟩, ⟨some 3, .mov (.t 33), none⟩]))))))
 (.seq
 (.seq
 (.region [⟨some 4, .mov (.c (.int .i64 0)), none⟩])
 (.block 2
 (.loop
 (.seq
 (.seq
 (.region [⟨some 41, .mov (.t 4), none⟩, ⟨some 42, .fa 1 (.t 1), none⟩, ⟨some 43, .ld false 1 (.t 42), none⟩, ⟨some 44, .len (.t 43), none⟩, ⟨some 45, .bin .lss (.t 41) (.t 44), none⟩])
 (.cond (.t 45)
 .skip
 (.exit 2)))
 (.seq
 (.block 3
 (.seq
 (.region [⟨some 48, .fa 1 (.t 1), none⟩, ⟨some 49, .ld false 1 (.t 48), none⟩, ⟨some 50, .mov (.t 4), none⟩, ⟨some 51, .isl 3 (.t 49) (.t 50), none⟩, ⟨some 52, .ld true 3 (.t 51), none⟩, ⟨some 5, .new [(.int .i64 0), (.int .i64 0), (.int .i64 0)], none⟩, ⟨none, .st 3 (.t 5) (.t 52), none⟩])
 (.seq
 (.seq
 (.region [⟨some 53, .fa 0 (.t 5), none⟩, ⟨some 54, .ld false 1 (.t 53), none⟩, ⟨some 55, .fa 1 (.t 5), none⟩, ⟨some 56, .ld false 1 (.t 55), none⟩, ⟨some 57, .call (.c (.func (.func 46) #[] #[])) [(.t 54), (.c (.int .i64 0)), (.t 56)], none⟩, ⟨some 58, .not (.t 57), none⟩, ⟨some 59, .mov (.t 58), none⟩, ⟨some 60, .fa 1 (.t 5), (some (59, false))⟩, ⟨some 61, .ld false 1 (.t 60), (some (59, false))⟩, ⟨some 62, .bin .gtr (.t 61) (.c (.int .i64 2000)), (some (59, false))⟩, ⟨some 63, .pick (.t 59) (.c (.bool true)) (.t 62), none⟩, ⟨some 64, .mov (.t 63), none⟩, ⟨some 65, .fa 2 (.t 5), (some (64, false))⟩, ⟨some 66, .ld false 1 (.t 65), (some (64, false))⟩, ⟨some 67, .call (.c (.func (.func 46) #[] #[])) [(.t 66), (.c (.int .i64 0)), (.c (.int .i64 2000))], (some (64, false))⟩, ⟨some 68, .not (.t 67), (some (64, false))⟩, ⟨some 69, .pick (.t 64) (.c (.bool true)) (.t 68), none⟩])
 (.cond (.t 69)
 (.seq
 (.region [⟨some 2, .mov (.c (.int .i64 1)), none⟩])
 .ret)
 .skip))
 (.seq
 (.region [⟨some 6, .mov (.c (.int .i64 0)), none⟩])
 (.block 4
 (.loop
 (.seq
 (.seq
 (.region [⟨some 70, .mov (.t 6), none⟩, ⟨some 71, .mov (.t 4), none⟩, ⟨some 72, .bin .lss (.t 70) (.t 71), none⟩])
 (.cond (.t 72)
 .skip
 (.exit 4)))
 (.seq
 (.block 5
 (.seq
 (.draw 9 [⟨⟨some 75, .fa 1 (.t 1), none⟩, 0, false, []⟩, ⟨⟨some 76, .ld false 1 (.t 75), none⟩, 1, false, []⟩, ⟨⟨some 77, .mov (.t 6), none⟩, 2, false, []⟩, ⟨⟨some 78, .isl 3 (.t 76) (.t 77), none⟩, 3, false, []⟩, ⟨⟨some 79, .fa 2 (.t 78), none⟩, 4, false, []⟩, ⟨⟨some 80, .ld false 1 (.t 79), none⟩, 5, false, []⟩, ⟨⟨some 81, .fa 2 (.t 5), none⟩, 6, false, []⟩, ⟨⟨some 82, .ld false 1 (.t 81), none⟩, 7, false, []⟩, ⟨⟨some 83, .bin .eql (.t 80) (.t 82), none⟩, 8, false, []⟩])
 (.cond (.t 83)
 (.seq
 (.region [⟨some 2, .mov (.c (.int .i64 1)), none⟩])
 .ret)
 .skip)))
 (.region [⟨some 73, .mov (.t 6), none⟩, ⟨some 74, .bin .add (.t 73) (.c (.int .i64 1)), none⟩, ⟨some 6, .mov (.t 74), none⟩])))))))))
 (.region [⟨some 46, .mov (.t 4), none⟩, ⟨some 47, .bin .add (.t 46) (.c (.int .i64 1)), none⟩, ⟨some 4, .mov (.t 47), none⟩]))))))
 (.seq
 (.region [⟨some 2, .mov (.c (.int .i64 0)), none⟩])
 .ret))))))
def r37 : List AOp := [(.mov (.t 2))]
theorem ok37 : FnOk Try.prog 37 Try.f37.ntmps a37 r37 := ⟨Try.f37, Try.func37, by kernel_rfl, by kernel_rfl, by kernel_rfl, fun asv w => by simp⟩

def a38 : ACode :=
 (.seq
 (.region [⟨some 1, .box (.t 0), none⟩, ⟨some 2, .mov (.c (.slice none 0 0)), none⟩, ⟨some 3, .mov (.c (.int .i64 0)), none⟩, ⟨some 4, .mov (.c (.int .i64 0)), none⟩])
 (.seq
 (.seq
 (.region [⟨some 6, .ld true 3 (.t 1), none⟩, ⟨some 7, .call (.c (.func (.func 19) #[] #[])) [(.t 6)], none⟩, ⟨some 5, .mov (.t 7), none⟩])
 (.seq
 (.region [⟨some 8, .mov (.t 5), none⟩, ⟨some 9, .bin .neq (.t 8) (.c (.int .i64 0)), none⟩])
 (.cond (.t 9)
 (.seq
 (.region [⟨some 10, .mov (.t 5), none⟩, ⟨some 2, .mov (.c (.slice none 0 0)), none⟩, ⟨some 3, .mov (.c (.int .i64 0)), none⟩, ⟨some 4, .mov (.t 10), none⟩])
 .ret)
 .skip)))
 (.seq
 (.seq
 (.region [⟨some 11, .ld true 3 (.t 1), none⟩, ⟨some 12, .call (.c (.func (.func 68) #[] #[])) [(.t 11)], none⟩, ⟨some 13, .not (.t 12), none⟩])
 (.cond (.t 13)
 (.seq
 (.region [⟨some 2, .mov (.c (.slice none 0 0)), none⟩, ⟨some 3, .mov (.c (.int .i64 0)), none⟩, ⟨some 4, .mov (.c (.int .i64 9)), none⟩])
 .ret)
 .skip))
 (.seq
 (.region [⟨some 15, .ld true 3 (.t 1), none⟩, ⟨some 16, .call (.c (.func (.func 64) #[] #[])) [(.t 15)], none⟩, ⟨some 17, .call (.c (.func (.func 69) #[] #[])) [(.t 16)], none⟩, ⟨some 14, .mov (.t 17), none⟩, ⟨some 18, .ext (.t 14) 0, none⟩, ⟨some 19, .ext (.t 14) 1, none⟩, ⟨some 2, .mov (.t 18), none⟩, ⟨some 3, .mov (.t 19), none⟩])
 (.seq
 (.region [⟨some 20, .mov (.t 2), none⟩, ⟨some 21, .mov (.t 3), none⟩, ⟨some 2, .mov (.t 20), none⟩, ⟨some 3, .mov (.t 21), none⟩, ⟨some 4, .mov (.c (.int .i64 0)), none⟩])
 .ret)))))
def r38 : List AOp := [(.mov (.t 2)), (.mov (.t 3)), (.mov (.t 4))]
theorem ok38 : FnOk Try.prog 38 Try.f38.ntmps a38 r38 := ⟨Try.f38, Try.func38, by kernel_rfl, by kernel_rfl, by kernel_rfl, fun asv w => by simp⟩

def a40 : ACode :=
 (.seq
 (.region [⟨some 0, .new [(.slice none 0 0), (.slice none 0 0), (.int .i64 0)], none⟩])
 (.seq
 (.region [⟨some 1, .bsl 2 [(.int .i64 0), (.int .i64 0)] [(0, 1, (.c (.int .i64 2))), (1, 1, (.c (.int .i64 2)))], none⟩, ⟨some 2, .bld [(.int .i64 0), (.int .i64 0), (.int .i64 0)] [(0, 1, (.c (.int .i64 100))), (1, 1, (.c (.int .i64 120))), (2, 1, (.c (.int .i64 40)))], none⟩, ⟨some 3, .bld [(.int .i64 0), (.int .i64 0), (.int .i64 0)] [(0, 1, (.c (.int .i64 110))), (1, 1, (.c (.int .i64 130))), (2, 1, (.c (.int .i64 20)))], none⟩, ⟨some 4, .bld [(.int .i64 0), (.int .i64 0), (.int .i64 0)] [(0, 1, (.c (.int .i64 125))), (1, 1, (.c (.int .i64 140))), (2, 1, (.c (.int .i64 30)))], none⟩, ⟨some 5, .bld [(.int .i64 0), (.int .i64 0), (.int .i64 0)] [(0, 1, (.c (.int .i64 150))), (1, 1, (.c (.int .i64 160))), (2, 1, (.c (.int .i64 10)))], none⟩, ⟨some 6, .bsl 4 [(.int .i64 0), (.int .i64 0), (.int .i64 0), (.int .i64 0), (.int .i64 0), (.int .i64 0), (.int .i64 0), (.int .i64 0), (.int .i64 0), (.int .i64 0), (.int .i64 0), (.int .i64 0)] [(0, 3, (.t 2)), (3, 3, (.t 3)), (6, 3, (.t 4)), (9, 3, (.t 5))], none⟩, ⟨some 7, .bld [(.slice none 0 0), (.slice none 0 0), (.int .i64 0)] [(0, 1, (.t 1)), (1, 1, (.t 6))], none⟩, ⟨none, .st 3 (.t 0) (.t 7), none⟩])
 .ret))
def r40 : List AOp := [(.ld true 3 (.t 0))]
theorem ok40 : FnOk Try.prog 40 Try.f40.ntmps a40 r40 := ⟨Try.f40, Try.func40, by kernel_rfl, by kernel_rfl, by kernel_rfl, fun asv w => by simp⟩

def a41 : ACode :=
 (.seq
 (.region [⟨some 1, .box (.t 0), none⟩, ⟨some 2, .mov (.c (.bool false)), none⟩])
 (.seq
 (.region [⟨some 3, .ld true 3 (.t 1), none⟩, ⟨some 4, .call (.c (.func (.func 16) #[] #[])) [(.t 3)], none⟩, ⟨some 5, .mov (.t 4), none⟩, ⟨some 6, .ld true 3 (.t 1), (some (5, true))⟩, ⟨some 7, .call (.c (.func (.func 37) #[] #[])) [(.t 6)], (some (5, true))⟩, ⟨some 8, .bin .eql (.t 7) (.c (.int .i64 0)), (some (5, true))⟩, ⟨some 9, .pick (.t 5) (.t 8) (.c (.bool false)), none⟩, ⟨some 2, .mov (.t 9), none⟩])
 .ret))
def r41 : List AOp := [(.mov (.t 2))]
theorem ok41 : FnOk Try.prog 41 Try.f41.ntmps a41 r41 := ⟨Try.f41, Try.func41, by kernel_rfl, by kernel_rfl, by kernel_rfl, fun asv w => by simp⟩

def a42 : ACode :=
 (.seq
 (.region [⟨some 2, .box (.t 0), none⟩, ⟨some 4, .mov (.c (.slice none 0 0)), none⟩])
 (.seq
 (.region [⟨some 5, .mov (.c (.slice none 0 0)), none⟩, ⟨some 6, .mov (.c (.slice none 0 0)), none⟩])
 (.seq
 (.seq
 (.region [⟨some 7, .mov (.c (.int .i64 0)), none⟩])
 (.block 0
 (.loop
 (.seq
 (.seq
 (.region [⟨some 12, .mov (.t 7), none⟩, ⟨some 13, .fa 1 (.t 2), none⟩, ⟨some 14, .ld false 1 (.t 13), none⟩, ⟨some 15, .len (.t 14), none⟩, ⟨some 16, .bin .lss (.t 12) (.t 15), none⟩])
 (.cond (.t 16)
 .skip
 (.exit 0)))
 (.seq
 (.block 1
 (.seq
 (.region [⟨some 19, .fa 1 (.t 2), none⟩, ⟨some 20, .ld false 1 (.t 19), none⟩, ⟨some 21, .mov (.t 7), none⟩, ⟨some 22, .isl 3 (.t 20) (.t 21), none⟩, ⟨some 23, .ld true 3 (.t 22), none⟩, ⟨some 8, .new [(.int .i64 0), (.int .i64 0), (.int .i64 0)], none⟩, ⟨none, .st 3 (.t 8) (.t 23), none⟩])
 (.seq
 (.region [⟨some 24, .mov (.t 1), none⟩, ⟨some 25, .mov (.t 7), none⟩, ⟨some 26, .call (.c (.func (.func 70) #[] #[])) [(.t 24), (.t 25)], none⟩, ⟨some 9, .mov (.t 26), none⟩])
 (.seq
 (.draw 13 [⟨⟨some 27, .fa 0 (.t 8), none⟩, 0, false, []⟩, ⟨⟨some 28, .ld false 1 (.t 27), none⟩, 1, false, []⟩, ⟨⟨some 29, .mov (.t 9), none⟩, 2, false, []⟩, ⟨⟨some 30, .bin .quo (.t 29) (.c (.int .i64 3)), none⟩, 3, false, []⟩, ⟨⟨some 31, .fa 1 (.t 8), none⟩, 4, false, []⟩, ⟨⟨some 32, .ld false 1 (.t 31), none⟩, 5, false, []⟩, ⟨⟨some 33, .fa 0 (.t 8), none⟩, 6, false, []⟩, ⟨⟨some 34, .ld false 1 (.t 33), none⟩, 7, false, []⟩, ⟨⟨some 35, .bin .sub (.t 32) (.t 34), none⟩, 8, false, []⟩, ⟨⟨some 36, .bin .add (.t 35) (.c (.int .i64 1)), none⟩, 9, false, []⟩, ⟨⟨some 37, .bin .rem (.t 30) (.t 36), none⟩, 10, false, []⟩, ⟨⟨some 38, .bin .add (.t 28) (.t 37), none⟩, 11, false, []⟩, ⟨⟨some 10, .mov (.t 38), none⟩, 12, false, []⟩])
 (.seq
 (.seq
 (.region [⟨some 39, .mov (.t 9), none⟩, ⟨some 40, .bin .rem (.t 39) (.c (.int .i64 3)), none⟩])
 (.block 2
 (.seq
 (.region [⟨some 42, .bin .eql (.t 40) (.c (.int .i64 0)), none⟩, ⟨some 41, .mov (.t 42), none⟩])
 (.cond (.t 41)
 (.region [⟨some 43, .fa 0 (.t 8), none⟩, ⟨some 44, .ld false 1 (.t 43), none⟩, ⟨some 10, .mov (.t 44), none⟩])
 (.seq
 (.region [⟨some 46, .bin .eql (.t 40) (.c (.int .i64 1)), none⟩, ⟨some 45, .mov (.t 46), none⟩])
 (.cond (.t 45)
 (.region [⟨some 47, .fa 1 (.t 8), none⟩, ⟨some 48, .ld false 1 (.t 47), none⟩, ⟨some 10, .mov (.t 48), none⟩])
 .skip))))))
 (.seq
 (.region [⟨some 49, .mov (.t 5), none⟩, ⟨some 50, .mov (.t 7), none⟩, ⟨some 51, .bsl 1 [(.int .i64 0)] [(0, 1, (.t 50))], none⟩, ⟨some 52, .app 1 8 (.t 49) (.t 51), none⟩, ⟨some 53, .mov (.t 6), none⟩, ⟨some 54, .mov (.t 10), none⟩, ⟨some 55, .bin .mul (.c (.int .i64 2)) (.t 54), none⟩, ⟨some 56, .mov (.t 1), none⟩, ⟨some 57, .mov (.t 7), none⟩, ⟨some 58, .bin .mul (.c (.int .i64 2)) (.t 57), none⟩, ⟨some 59, .bin .add (.t 58) (.c (.int .i64 1)), none⟩, ⟨some 60, .call (.c (.func (.func 70) #[] #[])) [(.t 56), (.t 59)], none⟩, ⟨some 61, .bin .rem (.t 60) (.c (.int .i64 2)), none⟩, ⟨some 62, .bin .add (.t 55) (.t 61), none⟩, ⟨some 63, .bsl 1 [(.int .i64 0)] [(0, 1, (.t 62))], none⟩, ⟨some 64, .app 1 8 (.t 53) (.t 63), none⟩, ⟨some 5, .mov (.t 52), none⟩, ⟨some 6, .mov (.t 64), none⟩])
 (.seq
 (.region [⟨some 65, .mov (.t 7), none⟩, ⟨some 11, .mov (.t 65), none⟩])
 (.block 3
 (.loop
 (.seq
 (.seq
 (.draw 14 [⟨⟨some 66, .mov (.t 11), none⟩, 0, false, []⟩, ⟨⟨some 67, .bin .gtr (.t 66) (.c (.int .i64 0)), none⟩, 1, false, []⟩, ⟨⟨some 68, .mov (.t 67), none⟩, 2, false, []⟩, ⟨⟨some 69, .mov (.t 6), (some (68, true))⟩, 3, false, []⟩, ⟨⟨some 70, .mov (.t 11), (some (68, true))⟩, 4, false, []⟩, ⟨⟨some 71, .isl 1 (.t 69) (.t 70), (some (68, true))⟩, 5, false, []⟩, ⟨⟨some 72, .ld false 1 (.t 71), (some (68, true))⟩, 6, false, []⟩, ⟨⟨some 73, .mov (.t 6), (some (68, true))⟩, 7, false, []⟩, ⟨⟨some 74, .mov (.t 11), (some (68, true))⟩, 8, false, []⟩, ⟨⟨some 75, .bin .sub (.t 74) (.c (.int .i64 1)), (some (68, true))⟩, 9, false, []⟩, ⟨⟨some 76, .isl 1 (.t 73) (.t 75), (some (68, true))⟩, 10, false, []⟩, ⟨⟨some 77, .ld false 1 (.t 76), (some (68, true))⟩, 11, false, []⟩, ⟨⟨some 78, .bin .lss (.t 72) (.t 77), (some (68, true))⟩, 12, false, []⟩, ⟨⟨some 79, .pick (.t 68) (.t 78) (.c (.bool false)), none⟩, 13, false, []⟩])
 (.cond (.t 79)
 .skip
 (.exit 3)))
 (.seq
 (.block 4
 (.seq
 (.draw 18 [⟨⟨some 82, .mov (.t 5), none⟩, 0, false, []⟩, ⟨⟨some 83, .mov (.t 11), none⟩, 1, false, []⟩, ⟨⟨some 84, .mov (.t 5), none⟩, 2, false, []⟩, ⟨⟨some 85, .mov (.t 11), none⟩, 3, false, []⟩, ⟨⟨some 86, .bin .sub (.t 85) (.c (.int .i64 1)), none⟩, 4, false, []⟩, ⟨⟨some 87, .mov (.t 5), none⟩, 5, false, []⟩, ⟨⟨some 88, .mov (.t 11), none⟩, 6, false, []⟩, ⟨⟨some 89, .bin .sub (.t 88) (.c (.int .i64 1)), none⟩, 7, false, []⟩, ⟨⟨some 90, .isl 1 (.t 87) (.t 89), none⟩, 8, false, []⟩, ⟨⟨some 91, .ld false 1 (.t 90), none⟩, 9, false, []⟩, ⟨⟨some 92, .mov (.t 5), none⟩, 10, false, []⟩, ⟨⟨some 93, .mov (.t 11), none⟩, 11, false, []⟩, ⟨⟨some 94, .isl 1 (.t 92) (.t 93), none⟩, 12, false, []⟩, ⟨⟨some 95, .ld false 1 (.t 94), none⟩, 13, false, []⟩, ⟨⟨some 96, .isl 1 (.t 82) (.t 83), none⟩, 14, false, []⟩, ⟨⟨none, .st 1 (.t 96) (.t 91), none⟩, 15, true, []⟩, ⟨⟨some 97, .isl 1 (.t 84) (.t 86), none⟩, 16, false, []⟩, ⟨⟨none, .st 1 (.t 97) (.t 95), none⟩, 17, true, []⟩])
 (.draw 18 [⟨⟨some 98, .mov (.t 6), none⟩, 0, false, []⟩, ⟨⟨some 99, .mov (.t 11), none⟩, 1, false, []⟩, ⟨⟨some 100, .mov (.t 6), none⟩, 2, false, []⟩, ⟨⟨some 101, .mov (.t 11), none⟩, 3, false, []⟩, ⟨⟨some 102, .bin .sub (.t 101) (.c (.int .i64 1)), none⟩, 4, false, []⟩, ⟨⟨some 103, .mov (.t 6), none⟩, 5, false, []⟩, ⟨⟨some 104, .mov (.t 11), none⟩, 6, false, []⟩, ⟨⟨some 105, .bin .sub (.t 104) (.c (.int .i64 1)), none⟩, 7, false, []⟩, ⟨⟨some 106, .isl 1 (.t 103) (.t 105), none⟩, 8, false, []⟩, ⟨⟨some 107, .ld false 1 (.t 106), none⟩, 9, false, []⟩, ⟨⟨some 108, .mov (.t 6), none⟩, 10, false, []⟩, ⟨⟨some 109, .mov (.t 11), none⟩, 11, false, []⟩, ⟨⟨some 110, .isl 1 (.t 108) (.t 109), none⟩, 12, false, []⟩, ⟨⟨some 111, .ld false 1 (.t 110), none⟩, 13, false, []⟩, ⟨⟨some 112, .isl 1 (.t 98) (.t 99), none⟩, 14, false, []⟩, ⟨⟨none, .st 1 (.t 112) (.t 107), none⟩, 15, true, []⟩, ⟨⟨some 113, .isl 1 (.t 100) (.t 102), none⟩, 16, false, []⟩, ⟨⟨none, .st 1 (.t 113) (.t 111), none⟩, 17, true, []⟩])))
 (.region [⟨some 80, .mov (.t 11), none⟩, ⟨some 81, .bin .sub (.t 80) (.c (.int .i64 1)), none⟩, ⟨some 11, .mov (.t 81), none⟩]))))))))))))
 (.region [⟨some 17, .mov (.t 7), none⟩, ⟨some 18, .bin .add (.t 17) (.c (.int .i64 1)), none⟩, ⟨some 7, .mov (.t 18), none⟩]))))))
 (.seq
 (.region [⟨some 114, .mov (.t 5), none⟩, ⟨some 4, .mov (.t 114), none⟩])
 .ret))))
def r42 : List AOp := [(.mov (.t 4))]
theorem ok42 : FnOk Try.prog 42 Try.f42.ntmps a42 r42 := ⟨Try.f42, Try.func42, by kernel_rfl, by kernel_rfl, by kernel_rfl, fun asv w => by simp⟩

def a43 : ACode :=
 (.seq
 (.region [⟨some 2, .box (.t 0), none⟩, ⟨some 4, .mov (.c (.slice none 0 0)), none⟩])
 (.seq
 (.region [⟨some 5, .mov (.c (.slice none 0 0)), none⟩])
 (.seq
 (.seq
 (.region [⟨some 6, .mov (.c (.int .i64 0)), none⟩])
 (.block 0
 (.loop
 (.seq
 (.seq
 (.region [⟨some 7, .mov (.t 6), none⟩, ⟨some 8, .fa 1 (.t 2), none⟩, ⟨some 9, .ld false 1 (.t 8), none⟩, ⟨some 10, .len (.t 9), none⟩, ⟨some 11, .bin .lss (.t 7) (.t 10), none⟩])
 (.cond (.t 11)
 .skip
 (.exit 0)))
 (.seq
 (.block 1
 (.seq
 (.region [⟨some 14, .mov (.t 5), none⟩, ⟨some 15, .len (.t 14), none⟩, ⟨some 16, .fa 2 (.t 2), none⟩, ⟨some 17, .ld false 1 (.t 16), none⟩, ⟨some 18, .bin .lss (.t 15) (.t 17), none⟩, ⟨some 19, .mov (.t 18), none⟩, ⟨some 20, .mov (.t 1), (some (19, true))⟩, ⟨some 21, .mov (.t 6), (some (19, true))⟩, ⟨some 22, .bin .mul (.c (.int .i64 3)) (.t 21), (some (19, true))⟩, ⟨some 23, .bin .add (.t 22) (.c (.int .i64 2)), (some (19, true))⟩, ⟨some 24, .call (.c (.func (.func 70) #[] #[])) [(.t 20), (.t 23)], (some (19, true))⟩, ⟨some 25, .bin .rem (.t 24) (.c (.int .i64 4)), (some (19, true))⟩, ⟨some 26, .bin .eql (.t 25) (.c (.int .i64 0)), (some (19, true))⟩, ⟨some 27, .pick (.t 19) (.t 26) (.c (.bool false)), none⟩])
 (.cond (.t 27)
 (.region [⟨some 28, .mov (.t 5), none⟩, ⟨some 29, .mov (.t 6), none⟩, ⟨some 30, .bsl 1 [(.int .i64 0)] [(0, 1, (.t 29))], none⟩, ⟨some 31, .app 1 8 (.t 28) (.t 30), none⟩, ⟨some 5, .mov (.t 31), none⟩])
 .skip)))
 (.region [⟨some 12, .mov (.t 6), none⟩, ⟨some 13, .bin .add (.t 12) (.c (.int .i64 1)), none⟩, ⟨some 6, .mov (.t 13), none⟩]))))))
 (.seq
 (.region [⟨some 32, .mov (.t 5), none⟩, ⟨some 4, .mov (.t 32), none⟩])
 .ret))))
def r43 : List AOp := [(.mov (.t 4))]
theorem ok43 : FnOk Try.prog 43 Try.f43.ntmps a43 r43 := ⟨Try.f43, Try.func43, by kernel_rfl, by kernel_rfl, by kernel_rfl, fun asv w => by simp⟩

def a44 : ACode :=
 (.seq
 (.region [⟨some 2, .box (.t 0), none⟩, ⟨some 4, .mov (.c (.slice none 0 0)), none⟩, ⟨some 5, .mov (.c (.bool false)), none⟩])
 (.seq
 (.region [⟨some 6, .mov (.c (.slice none 0 0)), none⟩])
 (.seq
 (.region [⟨some 11, .fa 0 (.t 2), none⟩, ⟨some 12, .ld false 1 (.t 11), none⟩, ⟨some 13, .len (.t 12), none⟩, ⟨some 14, .mks 1 8 [(.int .i64 0)] (.t 13) (.t 13), none⟩, ⟨some 7, .mov (.t 14), none⟩])
 (.seq
 (.seq
 (.region [⟨some 8, .mov (.c (.int .i64 0)), none⟩])
 (.block 0
 (.loop
 (.seq
 (.seq
 (.region [⟨some 15, .mov (.t 8), none⟩, ⟨some 16, .fa 1 (.t 2), none⟩, ⟨some 17, .ld false 1 (.t 16), none⟩, ⟨some 18, .len (.t 17), none⟩, ⟨some 19, .bin .lss (.t 15) (.t 18), none⟩])
 (.cond (.t 19)
 .skip
 (.exit 0)))
 (.seq
 (.block 1
 (.seq
 (.draw 10 [⟨⟨some 22, .mov (.t 1), none⟩, 0, false, []⟩, ⟨⟨some 23, .mov (.t 8), none⟩, 1, false, []⟩, ⟨⟨some 24, .bin .mul (.c (.int .i64 5)) (.t 23), none⟩, 2, false, []⟩, ⟨⟨some 25, .bin .add (.t 24) (.c (.int .i64 1)), none⟩, 3, false, []⟩, ⟨⟨some 27, .fa 0 (.t 2), none⟩, 5, false, []⟩, ⟨⟨some 28, .ld false 1 (.t 27), none⟩, 6, false, []⟩, ⟨⟨some 29, .len (.t 28), none⟩, 7, false, []⟩, ⟨⟨some 26, .call (.c (.func (.func 70) #[] #[])) [(.t 22), (.t 25)], none⟩, 4, true, [6]⟩, ⟨⟨some 30, .bin .rem (.t 26) (.t 29), none⟩, 8, false, []⟩, ⟨⟨some 9, .mov (.t 30), none⟩, 9, false, []⟩])
 (.seq
 (.seq
 (.region [⟨some 10, .mov (.c (.int .i64 0)), none⟩])
 (.block 2
 (.loop
 (.seq
 (.seq
 (.draw 17 [⟨⟨some 31, .mov (.t 10), none⟩, 0, false, []⟩, ⟨⟨some 32, .fa 0 (.t 2), none⟩, 1, false, []⟩, ⟨⟨some 33, .ld false 1 (.t 32), none⟩, 2, false, []⟩, ⟨⟨some 34, .len (.t 33), none⟩, 3, false, []⟩, ⟨⟨some 35, .bin .lss (.t 31) (.t 34), none⟩, 4, false, []⟩, ⟨⟨some 36, .mov (.t 35), none⟩, 5, false, []⟩, ⟨⟨some 37, .mov (.t 7), (some (36, true))⟩, 6, false, []⟩, ⟨⟨some 38, .mov (.t 9), (some (36, true))⟩, 7, false, []⟩, ⟨⟨some 39, .isl 1 (.t 37) (.t 38), (some (36, true))⟩, 8, false, []⟩, ⟨⟨some 40, .ld false 1 (.t 39), (some (36, true))⟩, 9, false, []⟩, ⟨⟨some 41, .fa 0 (.t 2), (some (36, true))⟩, 10, false, []⟩, ⟨⟨some 42, .ld false 1 (.t 41), (some (36, true))⟩, 11, false, []⟩, ⟨⟨some 43, .mov (.t 9), (some (36, true))⟩, 12, false, []⟩, ⟨⟨some 44, .isl 1 (.t 42) (.t 43), (some (36, true))⟩, 13, false, []⟩, ⟨⟨some 45, .ld false 1 (.t 44), (some (36, true))⟩, 14, false, []⟩, ⟨⟨some 46, .bin .geq (.t 40) (.t 45), (some (36, true))⟩, 15, false, []⟩, ⟨⟨some 47, .pick (.t 36) (.t 46) (.c (.bool false)), none⟩, 16, false, []⟩])
 (.cond (.t 47)
 .skip
 (.exit 2)))
 (.seq
 (.block 3
 (.region [⟨some 50, .mov (.t 9), none⟩, ⟨some 51, .bin .add (.t 50) (.c (.int .i64 1)), none⟩, ⟨some 52, .fa 0 (.t 2), none⟩, ⟨some 53, .ld false 1 (.t 52), none⟩, ⟨some 54, .len (.t 53), none⟩, ⟨some 55, .bin .rem (.t 51) (.t 54), none⟩, ⟨some 9, .mov (.t 55), none⟩]))
 (.region [⟨some 48, .mov (.t 10), none⟩, ⟨some 49, .bin .add (.t 48) (.c (.int .i64 1)), none⟩, ⟨some 10, .mov (.t 49), none⟩]))))))
 (.seq
 (.seq
 (.draw 10 [⟨⟨some 56, .mov (.t 7), none⟩, 0, false, []⟩, ⟨⟨some 57, .mov (.t 9), none⟩, 1, false, []⟩, ⟨⟨some 58, .isl 1 (.t 56) (.t 57), none⟩, 2, false, []⟩, ⟨⟨some 59, .ld false 1 (.t 58), none⟩, 3, false, []⟩, ⟨⟨some 60, .fa 0 (.t 2), none⟩, 4, false, []⟩, ⟨⟨some 61, .ld false 1 (.t 60), none⟩, 5, false, []⟩, ⟨⟨some 62, .mov (.t 9), none⟩, 6, false, []⟩, ⟨⟨some 63, .isl 1 (.t 61) (.t 62), none⟩, 7, false, []⟩, ⟨⟨some 64, .ld false 1 (.t 63), none⟩, 8, false, []⟩, ⟨⟨some 65, .bin .geq (.t 59) (.t 64), none⟩, 9, false, []⟩])
 (.cond (.t 65)
 (.seq
 (.region [⟨some 4, .mov (.c (.slice none 0 0)), none⟩, ⟨some 5, .mov (.c (.bool false)), none⟩])
 .ret)
 .skip))
 (.seq
 (.region [⟨some 66, .mov (.t 7), none⟩, ⟨some 67, .mov (.t 9), none⟩, ⟨some 68, .isl 1 (.t 66) (.t 67), none⟩, ⟨some 69, .ld false 1 (.t 68), none⟩, ⟨some 70, .bin .add (.t 69) (.c (.int .i64 1)), none⟩, ⟨some 71, .isl 1 (.t 66) (.t 67), none⟩, ⟨none, .st 1 (.t 71) (.t 70), none⟩])
 (.region [⟨some 72, .mov (.t 6), none⟩, ⟨some 73, .mov (.t 9), none⟩, ⟨some 74, .bsl 1 [(.int .i64 0)] [(0, 1, (.t 73))], none⟩, ⟨some 75, .app 1 8 (.t 72) (.t 74), none⟩, ⟨some 6, .mov (.t 75), none⟩]))))))
 (.region [⟨some 20, .mov (.t 8), none⟩, ⟨some 21, .bin .add (.t 20) (.c (.int .i64 1)), none⟩, ⟨some 8, .mov (.t 21), none⟩]))))))
 (.seq
 (.region [⟨some 76, .mov (.t 6), none⟩, ⟨some 4, .mov (.t 76), none⟩, ⟨some 5, .mov (.c (.bool true)), none⟩])
 .ret)))))
def r44 : List AOp := [(.mov (.t 4)), (.mov (.t 5))]
theorem ok44 : FnOk Try.prog 44 Try.f44.ntmps a44 r44 := ⟨Try.f44, Try.func44, by kernel_rfl, by kernel_rfl, by kernel_rfl, fun asv w => by simp⟩

def a46 : ACode :=
 (.seq
 (.region [⟨some 6, .mov (.c (.bool false)), none⟩])
 (.seq
 (.region [⟨some 7, .mov (.t 0), none⟩, ⟨some 8, .mov (.t 1), none⟩, ⟨some 9, .bin .geq (.t 7) (.t 8), none⟩, ⟨some 10, .mov (.t 9), none⟩, ⟨some 11, .mov (.t 0), (some (10, true))⟩, ⟨some 12, .mov (.t 2), (some (10, true))⟩, ⟨some 13, .bin .leq (.t 11) (.t 12), (some (10, true))⟩, ⟨some 14, .pick (.t 10) (.t 13) (.c (.bool false)), none⟩, ⟨some 6, .mov (.t 14), none⟩])
 .ret))
def r46 : List AOp := [(.mov (.t 6))]
theorem ok46 : FnOk Try.prog 46 Try.f46.ntmps a46 r46 := ⟨Try.f46, Try.func46, by kernel_rfl, by kernel_rfl, by kernel_rfl, fun asv w => by simp⟩

def a47 : ACode :=
 (.seq
 (.region [⟨some 4, .mov (.c (.int .i64 0)), none⟩])
 (.seq
 (.seq
 (.region [⟨some 5, .mov (.c (.int .i64 0)), none⟩])
 (.block 0
 (.loop
 (.seq
 (.seq
 (.region [⟨some 6, .mov (.t 5), none⟩, ⟨some 7, .mov (.t 0), none⟩, ⟨some 8, .len (.t 7), none⟩, ⟨some 9, .bin .lss (.t 6) (.t 8), none⟩])
 (.cond (.t 9)
 .skip
 (.exit 0)))
 (.seq
 (.block 1
 (.seq
 (.region [⟨some 12, .mov (.t 0), none⟩, ⟨some 13, .mov (.t 5), none⟩, ⟨some 14, .isl 1 (.t 12) (.t 13), none⟩, ⟨some 15, .ld false 1 (.t 14), none⟩, ⟨some 16, .mov (.t 1), none⟩, ⟨some 17, .bin .eql (.t 15) (.t 16), none⟩])
 (.cond (.t 17)
 (.seq
 (.region [⟨some 18, .mov (.t 5), none⟩, ⟨some 4, .mov (.t 18), none⟩])
 .ret)
 .skip)))
 (.region [⟨some 10, .mov (.t 5), none⟩, ⟨some 11, .bin .add (.t 10) (.c (.int .i64 1)), none⟩, ⟨some 5, .mov (.t 11), none⟩]))))))
 (.seq
 (.region [⟨some 4, .mov (.c (.int .i64 (-1))), none⟩])
 .ret)))
def r47 : List AOp := [(.mov (.t 4))]
theorem ok47 : FnOk Try.prog 47 Try.f47.ntmps a47 r47 := ⟨Try.f47, Try.func47, by kernel_rfl, by kernel_rfl, by kernel_rfl, fun asv w => by simp⟩

def a48 : ACode :=
 (.seq
 (.region [⟨some 4, .mov (.c (.bool false)), none⟩])
 (.seq
 (.seq
 (.region [⟨some 7, .mov (.t 0), none⟩, ⟨some 8, .len (.t 7), none⟩, ⟨some 9, .mov (.c (.int .i64 0)), none⟩])
 (.block 0
 (.loop
 (.seq
 (.region [⟨some 10, .bin .lss (.t 9) (.t 8), none⟩])
 (.seq
 (.cond (.t 10)
 .skip
 (.exit 0))
 (.seq
 (.block 1
 (.seq
 (.region [⟨some 11, .isl 1 (.t 7) (.t 9), none⟩, ⟨some 12, .ld false 1 (.t 11), none⟩, ⟨some 6, .mov (.t 12), none⟩])
 (.seq
 (.region [⟨some 13, .mov (.t 1), none⟩, ⟨some 14, .mov (.t 6), none⟩, ⟨some 15, .call (.t 13) [(.t 14)], none⟩, ⟨some 16, .not (.t 15), none⟩])
 (.cond (.t 16)
 (.seq
 (.region [⟨some 4, .mov (.c (.bool false)), none⟩])
 .ret)
 .skip))))
 (.region [⟨some 17, .bin .add (.t 9) (.c (.int .i64 1)), none⟩, ⟨some 9, .mov (.t 17), none⟩])))))))
 (.seq
 (.region [⟨some 4, .mov (.c (.bool true)), none⟩])
 .ret)))
def r48 : List AOp := [(.mov (.t 4))]
theorem ok48 : FnOk Try.prog 48 Try.f48.ntmps a48 r48 := ⟨Try.f48, Try.func48, by kernel_rfl, by kernel_rfl, by kernel_rfl, fun asv w => by simp⟩

def a49 : ACode :=
 (.seq
 (.region [⟨some 2, .mov (.c (.bool false)), none⟩])
 (.seq
 (.region [⟨some 3, .mov (.t 0), none⟩, ⟨some 4, .call (.c (.func (.func 54) #[] #[])) [(.t 3), (.c (.int .i64 0)), (.c (.int .i64 8))], none⟩, ⟨some 2, .mov (.t 4), none⟩])
 .ret))
def r49 : List AOp := [(.mov (.t 2))]
theorem ok49 : FnOk Try.prog 49 Try.f49.ntmps a49 r49 := ⟨Try.f49, Try.func49, by kernel_rfl, by kernel_rfl, by kernel_rfl, fun asv w => by simp⟩

def a50 : ACode :=
 (.seq
 (.region [⟨some 4, .mov (.c (.bool false)), none⟩])
 (.seq
 (.seq
 (.region [⟨some 7, .mov (.t 0), none⟩, ⟨some 8, .len (.t 7), none⟩, ⟨some 9, .mov (.c (.int .i64 0)), none⟩])
 (.block 0
 (.loop
 (.seq
 (.region [⟨some 10, .bin .lss (.t 9) (.t 8), none⟩])
 (.seq
 (.cond (.t 10)
 .skip
 (.exit 0))
 (.seq
 (.block 1
 (.seq
 (.region [⟨some 11, .isl 3 (.t 7) (.t 9), none⟩, ⟨some 12, .ld true 3 (.t 11), none⟩, ⟨some 6, .new [(.int .i64 0), (.int .i64 0), (.int .i64 0)], none⟩, ⟨none, .st 3 (.t 6) (.t 12), none⟩])
 (.seq
 (.region [⟨some 13, .mov (.t 1), none⟩, ⟨some 14, .ld true 3 (.t 6), none⟩, ⟨some 15, .call (.t 13) [(.t 14)], none⟩, ⟨some 16, .not (.t 15), none⟩])
 (.cond (.t 16)
 (.seq
 (.region [⟨some 4, .mov (.c (.bool false)), none⟩])
 .ret)
 .skip))))
 (.region [⟨some 17, .bin .add (.t 9) (.c (.int .i64 1)), none⟩, ⟨some 9, .mov (.t 17), none⟩])))))))
 (.seq
 (.region [⟨some 4, .mov (.c (.bool true)), none⟩])
 .ret)))
def r50 : List AOp := [(.mov (.t 4))]
theorem ok50 : FnOk Try.prog 50 Try.f50.ntmps a50 r50 := ⟨Try.f50, Try.func50, by kernel_rfl, by kernel_rfl, by kernel_rfl, fun asv w => by simp⟩

def a51 : ACode :=
 (.seq
 (.region [⟨some 1, .box (.t 0), none⟩, ⟨some 2, .mov (.c (.bool false)), none⟩])
 (.seq
 (.region [⟨some 3, .fa 0 (.t 1), none⟩, ⟨some 4, .ld false 1 (.t 3), none⟩, ⟨some 5, .fa 1 (.t 1), none⟩, ⟨some 6, .ld false 1 (.t 5), none⟩, ⟨some 7, .call (.c (.func (.func 54) #[] #[])) [(.t 4), (.c (.int .i64 0)), (.t 6)], none⟩, ⟨some 8, .mov (.t 7), none⟩, ⟨some 9, .fa 1 (.t 1), (some (8, true))⟩, ⟨some 10, .ld false 1 (.t 9), (some (8, true))⟩, ⟨some 11, .bin .leq (.t 10) (.c (.int .i64 2000)), (some (8, true))⟩, ⟨some 12, .pick (.t 8) (.t 11) (.c (.bool false)), none⟩, ⟨some 13, .mov (.t 12), none⟩, ⟨some 14, .fa 2 (.t 1), (some (13, true))⟩, ⟨some 15, .ld false 1 (.t 14), (some (13, true))⟩, ⟨some 16, .call (.c (.func (.func 54) #[] #[])) [(.t 15), (.c (.int .i64 0)), (.c (.int .i64 2000))], (some (13, true))⟩, ⟨some 17, .pick (.t 13) (.t 16) (.c (.bool false)), none⟩, ⟨some 2, .mov (.t 17), none⟩])
 .ret))
def r51 : List AOp := [(.mov (.t 2))]
theorem ok51 : FnOk Try.prog 51 Try.f51.ntmps a51 r51 := ⟨Try.f51, Try.func51, by kernel_rfl, by kernel_rfl, by kernel_rfl, fun asv w => by simp⟩

def a52 : ACode :=
 (.seq
 (.region [⟨some 2, .mov (.c (.bool false)), none⟩])
 (.seq
 (.region [⟨some 4, .mkm, none⟩, ⟨some 3, .new [(.map none)], none⟩, ⟨none, .st 1 (.t 3) (.t 4), none⟩])
 (.seq
 (.region [⟨some 5, .mov (.t 0), none⟩, ⟨some 6, .fn (.func 71) [] [(.t 3)], none⟩, ⟨some 7, .call (.c (.func (.func 48) #[] #[])) [(.t 5), (.t 6)], none⟩, ⟨some 2, .mov (.t 7), none⟩])
 .ret)))
def r52 : List AOp := [(.mov (.t 2))]
theorem ok52 : FnOk Try.prog 52 Try.f52.ntmps a52 r52 := ⟨Try.f52, Try.func52, by kernel_rfl, by kernel_rfl, by kernel_rfl, fun asv w => by simp⟩

def a53 : ACode :=
 (.seq
 (.region [⟨some 1, .box (.t 0), none⟩, ⟨some 2, .mov (.c (.slice none 0 0)), none⟩])
 (.seq
 (.region [⟨some 3, .mov (.c (.slice none 0 0)), none⟩])
 (.seq
 (.seq
 (.region [⟨some 6, .fa 1 (.t 1), none⟩, ⟨some 7, .ld false 1 (.t 6), none⟩, ⟨some 8, .len (.t 7), none⟩, ⟨some 9, .mov (.c (.int .i64 0)), none⟩])
 (.block 0
 (.loop
 (.seq
 (.region [⟨some 10, .bin .lss (.t 9) (.t 8), none⟩])
 (.seq
 (.cond (.t 10)
 .skip
 (.exit 0))
 (.seq
 (.block 1
 (.seq
 (.region [⟨some 11, .isl 3 (.t 7) (.t 9), none⟩, ⟨some 12, .ld true 3 (.t 11), none⟩, ⟨some 5, .new [(.int .i64 0), (.int .i64 0), (.int .i64 0)], none⟩, ⟨none, .st 3 (.t 5) (.t 12), none⟩])
 (.region [⟨some 13, .mov (.t 3), none⟩, ⟨some 14, .fa 2 (.t 5), none⟩, ⟨some 15, .ld false 1 (.t 14), none⟩, ⟨some 16, .bsl 1 [(.int .i64 0)] [(0, 1, (.t 15))], none⟩, ⟨some 17, .app 1 8 (.t 13) (.t 16), none⟩, ⟨some 3, .mov (.t 17), none⟩])))
 (.region [⟨some 18, .bin .add (.t 9) (.c (.int .i64 1)), none⟩, ⟨some 9, .mov (.t 18), none⟩])))))))
 (.seq
 (.region [⟨some 19, .mov (.t 3), none⟩, ⟨some 2, .mov (.t 19), none⟩])
 .ret))))
def r53 : List AOp := [(.mov (.t 2))]
theorem ok53 : FnOk Try.prog 53 Try.f53.ntmps a53 r53 := ⟨Try.f53, Try.func53, by kernel_rfl, by kernel_rfl, by kernel_rfl, fun asv w => by simp⟩

def a54 : ACode :=
 (.seq
 (.region [⟨some 6, .mov (.c (.bool false)), none⟩])
 (.seq
 (.region [⟨some 7, .mov (.t 1), none⟩, ⟨some 8, .mov (.t 0), none⟩, ⟨some 9, .bin .leq (.t 7) (.t 8), none⟩, ⟨some 10, .mov (.t 9), none⟩, ⟨some 11, .mov (.t 0), (some (10, true))⟩, ⟨some 12, .mov (.t 2), (some (10, true))⟩, ⟨some 13, .bin .leq (.t 11) (.t 12), (some (10, true))⟩, ⟨some 14, .pick (.t 10) (.t 13) (.c (.bool false)), none⟩, ⟨some 6, .mov (.t 14), none⟩])
 .ret))
def r54 : List AOp := [(.mov (.t 6))]
theorem ok54 : FnOk Try.prog 54 Try.f54.ntmps a54 r54 := ⟨Try.f54, Try.func54, by kernel_rfl, by kernel_rfl, by kernel_rfl, fun asv w => by simp⟩

def a55 : ACode :=
 (.seq
 (.region [⟨some 2, .box (.t 0), none⟩, ⟨some 4, .mov (.c (.bool false)), none⟩])
 (.seq
 (.seq
 (.region [⟨some 9, .mov (.t 1), none⟩, ⟨some 10, .len (.t 9), none⟩, ⟨some 11, .fa 1 (.t 2), none⟩, ⟨some 12, .ld false 1 (.t 11), none⟩, ⟨some 13, .len (.t 12), none⟩, ⟨some 14, .bin .neq (.t 10) (.t 13), none⟩, ⟨some 15, .mov (.t 14), none⟩, ⟨some 16, .mov (.t 1), (some (15, false))⟩, ⟨some 17, .ld true 3 (.t 2), (some (15, false))⟩, ⟨some 18, .fn (.func 72) [(.t 17)] [], (some (15, false))⟩, ⟨some 19, .call (.c (.func (.func 48) #[] #[])) [(.t 16), (.t 18)], (some (15, false))⟩, ⟨some 20, .not (.t 19), (some (15, false))⟩, ⟨some 21, .pick (.t 15) (.c (.bool true)) (.t 20), none⟩, ⟨some 22, .mov (.t 21), none⟩, ⟨some 23, .mov (.t 1), (some (22, false))⟩, ⟨some 24, .call (.c (.func (.func 52) #[] #[])) [(.t 23)], (some (22, false))⟩, ⟨some 25, .not (.t 24), (some (22, false))⟩, ⟨some 26, .pick (.t 22) (.c (.bool true)) (.t 25), none⟩])
 (.cond (.t 26)
 (.seq
 (.region [⟨some 4, .mov (.c (.bool false)), none⟩])
 .ret)
 .skip))
 (.seq
 (.region [⟨some 27, .call (.c (.func (.func 73) #[] #[])) [], none⟩, ⟨some 5, .new [.nilFunc, .nilFunc], none⟩, ⟨none, .st 2 (.t 5) (.t 27), none⟩])
 (.seq
 (.seq
 (.region [⟨some 28, .mov (.t 1), none⟩, ⟨some 29, .len (.t 28), none⟩, ⟨some 30, .mov (.c (.int .i64 0)), none⟩])
 (.block 0
 (.loop
 (.seq
 (.region [⟨some 31, .bin .lss (.t 30) (.t 29), none⟩])
 (.seq
 (.cond (.t 31)
 .skip
 (.exit 0))
 (.seq
 (.block 1
 (.seq
 (.region [⟨some 32, .mov (.t 30), none⟩, ⟨some 33, .isl 1 (.t 28) (.t 30), none⟩, ⟨some 34, .ld false 1 (.t 33), none⟩, ⟨some 7, .new [(.int .i64 0)], none⟩, ⟨some 6, .mov (.t 32), none⟩, ⟨none, .st 1 (.t 7) (.t 34), none⟩])
 (.seq
 (.region [⟨some 35, .fn (.func 74) [] [(.t 5), (.t 2), (.t 7)], none⟩, ⟨some 8, .mov (.t 35), none⟩])
 (.seq
 (.region [⟨some 36, .mov (.t 1), none⟩, ⟨some 37, .mov (.t 6), none⟩, ⟨some 38, .bin .add (.t 37) (.c (.int .i64 1)), none⟩, ⟨some 39, .sl 1 (.t 36) (some (.t 38)) none, none⟩, ⟨some 40, .mov (.t 8), none⟩, ⟨some 41, .call (.c (.func (.func 48) #[] #[])) [(.t 39), (.t 40)], none⟩, ⟨some 42, .not (.t 41), none⟩])
 (.cond (.t 42)
 (.seq
 (.region [⟨some 4, .mov (.c (.bool false)), none⟩])
 .ret)
 .skip)))))
 (.region [⟨some 43, .bin .add (.t 30) (.c (.int .i64 1)), none⟩, ⟨some 30, .mov (.t 43), none⟩])))))))
 (.seq
 (.region [⟨some 4, .mov (.c (.bool true)), none⟩])
 .ret)))))
def r55 : List AOp := [(.mov (.t 4))]
theorem ok55 : FnOk Try.prog 55 Try.f55.ntmps a55 r55 := ⟨Try.f55, Try.func55, by kernel_rfl, by kernel_rfl, by kernel_rfl, fun asv w => by simp⟩

def a57 : ACode :=
 (.seq
 (.region [⟨some 4, .box (.t 0), none⟩, ⟨some 8, .mov (.c (.int .i64 0)), none⟩])
 (.seq
 (.seq
 (.region [⟨some 10, .ld true 3 (.t 4), none⟩, ⟨some 11, .mov (.t 1), none⟩, ⟨some 12, .call (.c (.func (.func 63) #[] #[])) [(.t 10), (.t 11)], none⟩, ⟨some 9, .mov (.t 12), none⟩])
 (.seq
 (.region [⟨some 13, .mov (.t 9), none⟩, ⟨some 14, .bin .neq (.t 13) (.c (.int .i64 0)), none⟩])
 (.cond (.t 14)
 (.seq
 (.region [⟨some 15, .mov (.t 9), none⟩, ⟨some 8, .mov (.t 15), none⟩])
 .ret)
 .skip)))
 (.seq
 (.seq
 (.region [⟨some 16, .ld true 3 (.t 4), none⟩, ⟨some 17, .mov (.t 2), none⟩, ⟨some 18, .call (.c (.func (.func 55) #[] #[])) [(.t 16), (.t 17)], none⟩, ⟨some 19, .not (.t 18), none⟩, ⟨some 20, .mov (.t 19), none⟩, ⟨some 21, .ld true 3 (.t 4), (some (20, false))⟩, ⟨some 22, .mov (.t 3), (some (20, false))⟩, ⟨some 23, .call (.c (.func (.func 75) #[] #[])) [(.t 21), (.t 22)], (some (20, false))⟩, ⟨some 24, .not (.t 23), (some (20, false))⟩, ⟨some 25, .pick (.t 20) (.c (.bool true)) (.t 24), none⟩])
 (.cond (.t 25)
 (.seq
 (.region [⟨some 8, .mov (.c (.int .i64 2)), none⟩])
 .ret)
 .skip))
 (.seq
 (.region [⟨some 8, .mov (.c (.int .i64 0)), none⟩])
 .ret))))
def r57 : List AOp := [(.mov (.t 8))]
theorem ok57 : FnOk Try.prog 57 Try.f57.ntmps a57 r57 := ⟨Try.f57, Try.func57, by kernel_rfl, by kernel_rfl, by kernel_rfl, fun asv w => by simp⟩

def a58 : ACode :=
 (.seq
 (.region [⟨some 4, .box (.t 0), none⟩, ⟨some 6, .box (.t 2), none⟩, ⟨some 7, .box (.t 3), none⟩, ⟨some 8, .new [(.slice none 0 0), (.slice none 0 0), (.int .i64 0), (.int .i64 0), (.int .i64 0), (.int .i64 0), (.int .i64 0), (.int .i64 0), (.int .i64 0), (.int .i64 0), (.int .i64 0), (.int .i64 0), (.int .i64 0), (.int .i64 0), (.int .i64 0), (.int .i64 0), (.int .i64 0), (.int .i64 0), (.int .i64 0), (.bool false), (.bool false), (.bool false), (.bool false), (.bool false), (.bool false), (.bool false), (.bool false)], none⟩])
 (.seq
 (.region [⟨some 12, .ld true 3 (.t 4), none⟩, ⟨some 13, .ld true 8 (.t 7), none⟩, ⟨some 14, .bld [(.slice none 0 0), (.slice none 0 0), (.int .i64 0), (.int .i64 0), (.int .i64 0), (.int .i64 0), (.int .i64 0), (.int .i64 0), (.int .i64 0), (.int .i64 0), (.int .i64 0), (.int .i64 0), (.int .i64 0), (.int .i64 0), (.int .i64 0), (.int .i64 0), (.int .i64 0), (.int .i64 0), (.int .i64 0), (.bool false), (.bool false), (.bool false), (.bool false), (.bool false), (.bool false), (.bool false), (.bool false)] [(0, 3, (.t 12)), (19, 8, (.t 13))], none⟩, ⟨some 9, .new [(.slice none 0 0), (.slice none 0 0), (.int .i64 0), (.int .i64 0), (.int .i64 0), (.int .i64 0), (.int .i64 0), (.int .i64 0), (.int .i64 0), (.int .i64 0), (.int .i64 0), (.int .i64 0), (.int .i64 0), (.int .i64 0), (.int .i64 0), (.int .i64 0), (.int .i64 0), (.int .i64 0), (.int .i64 0), (.bool false), (.bool false), (.bool false), (.bool false), (.bool false), (.bool false), (.bool false), (.bool false)], none⟩, ⟨none, .st 27 (.t 9) (.t 14), none⟩])
 (.seq
 (.seq
 (.region [⟨some 15, .mov (.t 1), none⟩, ⟨some 16, .len (.t 15), none⟩, ⟨some 17, .mov (.c (.int .i64 0)), none⟩])
 (.block 0
 (.loop
 (.seq
 (.region [⟨some 18, .bin .lss (.t 17) (.t 16), none⟩])
 (.seq
 (.cond (.t 18)
 .skip
 (.exit 0))
 (.seq
 (.block 1
 (.seq
 (.region [⟨some 19, .mov (.t 17), none⟩, ⟨some 20, .isl 1 (.t 15) (.t 17), none⟩, ⟨some 21, .ld false 1 (.t 20), none⟩, ⟨some 10, .mov (.t 19), none⟩, ⟨some 11, .mov (.t 21), none⟩])
 (.region [⟨some 22, .mov (.t 10), none⟩, ⟨some 23, .mov (.t 11), none⟩, ⟨some 24, .mov (.t 10), none⟩, ⟨some 25, .iar 8 1 (.t 6) (.t 24), none⟩, ⟨some 26, .ld false 1 (.t 25), none⟩, ⟨some 27, .bld [(.int .i64 0), (.int .i64 0)] [(0, 1, (.t 23)), (1, 1, (.t 26))], none⟩, ⟨some 28, .fa 3 (.t 9), none⟩, ⟨some 29, .iar 8 2 (.t 28) (.t 22), none⟩, ⟨none, .st 2 (.t 29) (.t 27), none⟩])))
 (.region [⟨some 30, .bin .add (.t 17) (.c (.int .i64 1)), none⟩, ⟨some 17, .mov (.t 30), none⟩])))))))
 (.seq
 (.region [⟨some 31, .ld true 27 (.t 9), none⟩, ⟨none, .st 27 (.t 8) (.t 31), none⟩])
 .ret))))
def r58 : List AOp := [(.ld true 27 (.t 8))]
theorem ok58 : FnOk Try.prog 58 Try.f58.ntmps a58 r58 := ⟨Try.f58, Try.func58, by kernel_rfl, by kernel_rfl, by kernel_rfl, fun asv w => by simp⟩

def a59 : ACode :=
 (.seq
 (.region [⟨some 2, .new [(.int .i64 0), (.int .i64 0), (.int .i64 0), (.int .i64 0), (.int .i64 0), (.int .i64 0), (.int .i64 0), (.int .i64 0)], none⟩])
 (.seq
 (.region [⟨some 3, .new [(.int .i64 0), (.int .i64 0), (.int .i64 0), (.int .i64 0), (.int .i64 0), (.int .i64 0), (.int .i64 0), (.int .i64 0)], none⟩])
 (.seq
 (.seq
 (.region [⟨some 6, .mov (.t 0), none⟩, ⟨some 7, .len (.t 6), none⟩, ⟨some 8, .mov (.c (.int .i64 0)), none⟩])
 (.block 0
 (.loop
 (.seq
 (.region [⟨some 9, .bin .lss (.t 8) (.t 7), none⟩])
 (.seq
 (.cond (.t 9)
 .skip
 (.exit 0))
 (.seq
 (.block 1
 (.seq
 (.region [⟨some 10, .mov (.t 8), none⟩, ⟨some 11, .isl 1 (.t 6) (.t 8), none⟩, ⟨some 12, .ld false 1 (.t 11), none⟩, ⟨some 4, .mov (.t 10), none⟩, ⟨some 5, .mov (.t 12), none⟩])
 (.region [⟨some 13, .mov (.t 5), none⟩, ⟨some 14, .mov (.t 4), none⟩, ⟨some 15, .iar 8 1 (.t 3) (.t 13), none⟩, ⟨none, .st 1 (.t 15) (.t 14), none⟩])))
 (.region [⟨some 16, .bin .add (.t 8) (.c (.int .i64 1)), none⟩, ⟨some 8, .mov (.t 16), none⟩])))))))
 (.seq
 (.region [⟨some 17, .ld true 8 (.t 3), none⟩, ⟨none, .st 8 (.t 2) (.t 17), none⟩])
 .ret))))
def r59 : List AOp := [(.ld true 8 (.t 2))]
theorem ok59 : FnOk Try.prog 59 Try.f59.ntmps a59 r59 := ⟨Try.f59, Try.func59, by kernel_rfl, by kernel_rfl, by kernel_rfl, fun asv w => by simp⟩

def a60 : ACode :=
 (.seq
 (.region [⟨some 2, .new [(.bool false), (.bool false), (.bool false), (.bool false), (.bool false), (.bool false), (.bool false), (.bool false)], none⟩])
 (.seq
 (.region [⟨some 3, .new [(.bool false), (.bool false), (.bool false), (.bool false), (.bool false), (.bool false), (.bool false), (.bool false)], none⟩])
 (.seq
 (.seq
 (.region [⟨some 6, .mov (.t 0), none⟩, ⟨some 7, .len (.t 6), none⟩, ⟨some 8, .mov (.c (.int .i64 0)), none⟩])
 (.block 0
 (.loop
 (.seq
 (.region [⟨some 9, .bin .lss (.t 8) (.t 7), none⟩])
 (.seq
 (.cond (.t 9)
 .skip
 (.exit 0))
 (.seq
 (.block 1
 (.seq
 (.region [⟨some 10, .isl 1 (.t 6) (.t 8), none⟩, ⟨some 11, .ld false 1 (.t 10), none⟩, ⟨some 5, .mov (.t 11), none⟩])
 (.region [⟨some 12, .mov (.t 5), none⟩, ⟨some 13, .iar 8 1 (.t 3) (.t 12), none⟩, ⟨none, .st 1 (.t 13) (.c (.bool true)), none⟩])))
 (.region [⟨some 14, .bin .add (.t 8) (.c (.int .i64 1)), none⟩, ⟨some 8, .mov (.t 14), none⟩])))))))
 (.seq
 (.region [⟨some 15, .ld true 8 (.t 3), none⟩, ⟨none, .st 8 (.t 2) (.t 15), none⟩])
 .ret))))
def r60 : List AOp := [(.ld true 8 (.t 2))]
theorem ok60 : FnOk Try.prog 60 Try.f60.ntmps a60 r60 := ⟨Try.f60, Try.func60, by kernel_rfl, by kernel_rfl, by kernel_rfl, fun asv w => by simp⟩

def a61 : ACode :=
 (.seq
 (.region [⟨some 1, .box (.t 0), none⟩, ⟨some 2, .mov (.c (.slice none 0 0)), none⟩])
 (.seq
 (.region [⟨some 3, .ld true 27 (.t 1), none⟩, ⟨some 4, .ld true 27 (.t 1), none⟩, ⟨some 5, .fn (.func 77) [(.t 4)] [], none⟩, ⟨some 6, .call (.c (.func (.func 76) #[] #[])) [(.t 3), (.t 5)], none⟩, ⟨some 2, .mov (.t 6), none⟩])
 .ret))
def r61 : List AOp := [(.mov (.t 2))]
theorem ok61 : FnOk Try.prog 61 Try.f61.ntmps a61 r61 := ⟨Try.f61, Try.func61, by kernel_rfl, by kernel_rfl, by kernel_rfl, fun asv w => by simp⟩

def a63 : ACode :=
 (.seq
 (.region [⟨some 2, .box (.t 0), none⟩, ⟨some 4, .mov (.c (.int .i64 0)), none⟩])
 (.seq
 (.seq
 (.region [⟨some 6, .ld true 3 (.t 2), none⟩, ⟨some 7, .call (.c (.func (.func 19) #[] #[])) [(.t 6)], none⟩, ⟨some 5, .mov (.t 7), none⟩])
 (.seq
 (.region [⟨some 8, .mov (.t 5), none⟩, ⟨some 9, .bin .neq (.t 8) (.c (.int .i64 0)), none⟩])
 (.cond (.t 9)
 (.seq
 (.region [⟨some 10, .mov (.t 5), none⟩, ⟨some 4, .mov (.t 10), none⟩])
 .ret)
 .skip)))
 (.seq
 (.seq
 (.region [⟨some 11, .ld true 3 (.t 2), none⟩, ⟨some 12, .mov (.t 1), none⟩, ⟨some 13, .call (.c (.func (.func 80) #[] #[])) [(.t 11), (.t 12)], none⟩, ⟨some 14, .not (.t 13), none⟩])
 (.cond (.t 14)
 (.seq
 (.region [⟨some 4, .mov (.c (.int .i64 2)), none⟩])
 .ret)
 .skip))
 (.seq
 (.region [⟨some 4, .mov (.c (.int .i64 0)), none⟩])
 .ret))))
def r63 : List AOp := [(.mov (.t 4))]
theorem ok63 : FnOk Try.prog 63 Try.f63.ntmps a63 r63 := ⟨Try.f63, Try.func63, by kernel_rfl, by kernel_rfl, by kernel_rfl, fun asv w => by simp⟩

def a64 : ACode :=
 (.seq
 (.region [⟨some 1, .box (.t 0), none⟩, ⟨some 2, .new [(.slice none 0 0), (.slice none 0 0), (.int .i64 0), .nilFunc, .nilFunc, (.map none)], none⟩])
 (.seq
 (.draw 5 [⟨⟨some 3, .ld true 3 (.t 1), none⟩, 0, false, []⟩, ⟨⟨some 5, .mkm, none⟩, 2, false, []⟩, ⟨⟨some 4, .call (.c (.func (.func 73) #[] #[])) [], none⟩, 1, true, [0]⟩, ⟨⟨some 6, .bld [(.slice none 0 0), (.slice none 0 0), (.int .i64 0), .nilFunc, .nilFunc, (.map none)] [(0, 3, (.t 3)), (3, 2, (.t 4)), (5, 1, (.t 5))], none⟩, 3, false, []⟩, ⟨⟨none, .st 6 (.t 2) (.t 6), none⟩, 4, true, []⟩])
 .ret))
def r64 : List AOp := [(.ld true 6 (.t 2))]
theorem ok64 : FnOk Try.prog 64 Try.f64.ntmps a64 r64 := ⟨Try.f64, Try.func64, by kernel_rfl, by kernel_rfl, by kernel_rfl, fun asv w => by simp⟩

def a65 : ACode :=
 (.seq
 (.region [⟨some 2, .box (.t 0), none⟩, ⟨some 3, .box (.t 1), none⟩, ⟨some 4, .new [(.int .i64 0), (.int .i64 0), (.int .i64 0), (.int .i64 0), (.int .i64 0), (.int .i64 0), (.int .i64 0), (.int .i64 0), (.int .i64 0), (.bool false), (.bool false), (.bool false), (.bool false), (.bool false), (.bool false), (.bool false), (.bool false)], none⟩])
 (.seq
 (.region [⟨some 5, .new [.nilFunc], none⟩])
 (.seq
 (.region [⟨some 6, .fn (.func 81) [] [(.t 2), (.t 3), (.t 5)], none⟩, ⟨none, .st 1 (.t 5) (.t 6), none⟩])
 (.seq
 (.region [⟨some 7, .ld false 1 (.t 5), none⟩, ⟨some 8, .fa 0 (.t 2), none⟩, ⟨some 9, .fa 2 (.t 8), none⟩, ⟨some 10, .ld false 1 (.t 9), none⟩, ⟨some 11, .call (.t 7) [(.c (.int .i64 0)), (.t 10)], none⟩, ⟨none, .st 17 (.t 4) (.t 11), none⟩])
 .ret))))
def r65 : List AOp := [(.ld true 17 (.t 4))]
theorem ok65 : FnOk Try.prog 65 Try.f65.ntmps a65 r65 := ⟨Try.f65, Try.func65, by kernel_rfl, by kernel_rfl, by kernel_rfl, fun asv w => by simp⟩

def a66 : ACode :=
 (.seq
 (.region [⟨some 1, .box (.t 0), none⟩, ⟨some 2, .mov (.c (.slice none 0 0)), none⟩])
 (.seq
 (.region [⟨some 4, .fn (.func 86) [] [(.t 1)], none⟩, ⟨some 3, .mov (.t 4), none⟩])
 (.seq
 (.region [⟨some 5, .ld true 27 (.t 1), none⟩, ⟨some 6, .ld true 27 (.t 1), none⟩, ⟨some 7, .fn (.func 88) [(.t 6)] [], none⟩, ⟨some 8, .mov (.t 3), none⟩, ⟨some 9, .bsl 2 [.nilFunc, .nilFunc] [(0, 1, (.t 7)), (1, 1, (.t 8))], none⟩, ⟨some 10, .call (.c (.func (.func 87) #[] #[])) [(.t 5), (.t 9)], none⟩, ⟨some 2, .mov (.t 10), none⟩])
 .ret)))
def r66 : List AOp := [(.mov (.t 2))]
theorem ok66 : FnOk Try.prog 66 Try.f66.ntmps a66 r66 := ⟨Try.f66, Try.func66, by kernel_rfl, by kernel_rfl, by kernel_rfl, fun asv w => by simp⟩

def a67 : ACode :=
 (.seq
 (.region [⟨some 1, .box (.t 0), none⟩, ⟨some 2, .mov (.c (.slice none 0 0)), none⟩])
 (.seq
 (.region [⟨some 3, .ld true 27 (.t 1), none⟩, ⟨some 4, .ld true 27 (.t 1), none⟩, ⟨some 5, .fn (.func 89) [(.t 4)] [], none⟩, ⟨some 6, .call (.c (.func (.func 76) #[] #[])) [(.t 3), (.t 5)], none⟩, ⟨some 2, .mov (.t 6), none⟩])
 .ret))
def r67 : List AOp := [(.mov (.t 2))]
theorem ok67 : FnOk Try.prog 67 Try.f67.ntmps a67 r67 := ⟨Try.f67, Try.func67, by kernel_rfl, by kernel_rfl, by kernel_rfl, fun asv w => by simp⟩

def a68 : ACode :=
 (.seq
 (.region [⟨some 1, .box (.t 0), none⟩, ⟨some 2, .mov (.c (.bool false)), none⟩])
 (.seq
 (.region [⟨some 3, .mov (.c (.int .i64 0)), none⟩])
 (.seq
 (.seq
 (.region [⟨some 6, .fa 0 (.t 1), none⟩, ⟨some 7, .ld false 1 (.t 6), none⟩, ⟨some 8, .len (.t 7), none⟩, ⟨some 9, .mov (.c (.int .i64 0)), none⟩])
 (.block 0
 (.loop
 (.seq
 (.region [⟨some 10, .bin .lss (.t 9) (.t 8), none⟩])
 (.seq
 (.cond (.t 10)
 .skip
 (.exit 0))
 (.seq
 (.block 1
 (.seq
 (.region [⟨some 11, .isl 1 (.t 7) (.t 9), none⟩, ⟨some 12, .ld false 1 (.t 11), none⟩, ⟨some 5, .mov (.t 12), none⟩])
 (.region [⟨some 13, .mov (.t 3), none⟩, ⟨some 14, .mov (.t 5), none⟩, ⟨some 15, .bin .add (.t 13) (.t 14), none⟩, ⟨some 3, .mov (.t 15), none⟩])))
 (.region [⟨some 16, .bin .add (.t 9) (.c (.int .i64 1)), none⟩, ⟨some 9, .mov (.t 16), none⟩])))))))
 (.seq
 (.region [⟨some 17, .mov (.t 3), none⟩, ⟨some 18, .fa 1 (.t 1), none⟩, ⟨some 19, .ld false 1 (.t 18), none⟩, ⟨some 20, .len (.t 19), none⟩, ⟨some 21, .bin .geq (.t 17) (.t 20), none⟩, ⟨some 2, .mov (.t 21), none⟩])
 .ret))))
def r68 : List AOp := [(.mov (.t 2))]
theorem ok68 : FnOk Try.prog 68 Try.f68.ntmps a68 r68 := ⟨Try.f68, Try.func68, by kernel_rfl, by kernel_rfl, by kernel_rfl, fun asv w => by simp⟩

def a69 : ACode :=
 (.seq
 (.region [⟨some 1, .box (.t 0), none⟩, ⟨some 2, .new [(.slice none 0 0)], none⟩, ⟨some 3, .new [(.int .i64 0)], none⟩])
 (.seq
 (.region [⟨some 7, .fa 0 (.t 1), none⟩, ⟨some 8, .fa 1 (.t 7), none⟩, ⟨some 9, .ld false 1 (.t 8), none⟩, ⟨some 10, .len (.t 9), none⟩, ⟨some 11, .bin .add (.t 10) (.c (.int .i64 1)), none⟩, ⟨none, .st 1 (.t 3) (.t 11), none⟩])
 (.seq
 (.region [⟨some 12, .fa 0 (.t 1), none⟩, ⟨some 13, .fa 1 (.t 12), none⟩, ⟨some 14, .ld false 1 (.t 13), none⟩, ⟨some 15, .len (.t 14), none⟩, ⟨some 16, .mks 1 8 [(.int .i64 0)] (.t 15) (.t 15), none⟩, ⟨some 4, .new [(.slice none 0 0)], none⟩, ⟨none, .st 1 (.t 4) (.t 16), none⟩])
 (.seq
 (.region [⟨some 17, .fa 0 (.t 1), none⟩, ⟨some 18, .fa 0 (.t 17), none⟩, ⟨some 19, .ld false 1 (.t 18), none⟩, ⟨some 20, .call (.c (.func (.func 90) #[] #[])) [(.t 19)], none⟩, ⟨some 5, .new [(.slice none 0 0)], none⟩, ⟨none, .st 1 (.t 5) (.t 20), none⟩])
 (.seq
 (.region [⟨some 6, .new [.nilFunc], none⟩])
 (.seq
 (.region [⟨some 21, .fn (.func 91) [] [(.t 4), (.t 1), (.t 3), (.t 2), (.t 5), (.t 6)], none⟩, ⟨none, .st 1 (.t 6) (.t 21), none⟩])
 (.seq
 (.region [⟨some 22, .ld false 1 (.t 6), none⟩, ⟨some 23, .call (.t 22) [(.c (.int .i64 0))], none⟩])
 (.seq
 (.draw 4 [⟨⟨some 24, .ld false 1 (.t 2), none⟩, 0, false, []⟩, ⟨⟨some 25, .ld false 1 (.t 3), none⟩, 1, false, []⟩, ⟨⟨none, .st 1 (.t 2) (.t 24), none⟩, 2, true, [1]⟩, ⟨⟨none, .st 1 (.t 3) (.t 25), none⟩, 3, true, []⟩])
 .ret))))))))
def r69 : List AOp := [(.ld false 1 (.t 2)), (.ld false 1 (.t 3))]
theorem ok69 : FnOk Try.prog 69 Try.f69.ntmps a69 r69 := ⟨Try.f69, Try.func69, by kernel_rfl, by kernel_rfl, by kernel_rfl, fun asv w => by simp⟩

def a70 : ACode :=
 (.seq
 (.region [⟨some 4, .mov (.c (.int .i64 0)), none⟩])
 (.seq
 (.seq
 (.region [⟨some 5, .mov (.t 0), none⟩, ⟨some 6, .len (.t 5), none⟩, ⟨some 7, .bin .eql (.t 6) (.c (.int .i64 0)), none⟩])
 (.cond (.t 7)
 (.seq
 (.region [⟨some 4, .mov (.c (.int .i64 0)), none⟩])
 .ret)
 .skip))
 (.seq
 (.region [⟨some 8, .mov (.t 0), none⟩, ⟨some 9, .mov (.t 1), none⟩, ⟨some 10, .mov (.t 0), none⟩, ⟨some 11, .len (.t 10), none⟩, ⟨some 12, .bin .rem (.t 9) (.t 11), none⟩, ⟨some 13, .isl 1 (.t 8) (.t 12), none⟩, ⟨some 14, .ld false 1 (.t 13), none⟩, ⟨some 15, .cvi .i64 (.t 14), none⟩, ⟨some 4, .mov (.t 15), none⟩])
 .ret)))
def r70 : List AOp := [(.mov (.t 4))]
theorem ok70 : FnOk Try.prog 70 Try.f70.ntmps a70 r70 := ⟨Try.f70, Try.func70, by kernel_rfl, by kernel_rfl, by kernel_rfl, fun asv w => by simp⟩

def a71 : ACode :=
 (.seq
 (.region [⟨some 3, .mov (.c (.bool false)), none⟩])
 (.seq
 (.region [⟨some 5, .ld false 1 (.t 1), none⟩, ⟨some 6, .mov (.t 0), none⟩, ⟨some 7, .lk1 3 (.bool false) (.t 5) (.t 6), none⟩, ⟨some 4, .mov (.t 7), none⟩])
 (.seq
 (.region [⟨some 8, .ld false 1 (.t 1), none⟩, ⟨some 9, .mov (.t 0), none⟩, ⟨none, .mup 3 (.t 8) (.t 9) (.c (.bool true)), none⟩])
 (.seq
 (.region [⟨some 10, .mov (.t 4), none⟩, ⟨some 11, .not (.t 10), none⟩, ⟨some 3, .mov (.t 11), none⟩])
 .ret))))
def r71 : List AOp := [(.mov (.t 3))]
theorem ok71 : FnOk Try.prog 71 Try.f71.ntmps a71 r71 := ⟨Try.f71, Try.func71, by kernel_rfl, by kernel_rfl, by kernel_rfl, fun asv w => by simp⟩

def a72 : ACode :=
 (.seq
 (.region [⟨some 2, .box (.t 0), none⟩, ⟨some 4, .mov (.c (.bool false)), none⟩])
 (.seq
 (.region [⟨some 5, .mov (.t 1), none⟩, ⟨some 6, .fa 1 (.t 2), none⟩, ⟨some 7, .ld false 1 (.t 6), none⟩, ⟨some 8, .len (.t 7), none⟩, ⟨some 9, .bin .sub (.t 8) (.c (.int .i64 1)), none⟩, ⟨some 10, .call (.c (.func (.func 54) #[] #[])) [(.t 5), (.c (.int .i64 0)), (.t 9)], none⟩, ⟨some 4, .mov (.t 10), none⟩])
 .ret))
def r72 : List AOp := [(.mov (.t 4))]
theorem ok72 : FnOk Try.prog 72 Try.f72.ntmps a72 r72 := ⟨Try.f72, Try.func72, by kernel_rfl, by kernel_rfl, by kernel_rfl, fun asv w => by simp⟩

def a73 : ACode :=
 (.seq
 (.region [⟨some 0, .new [.nilFunc, .nilFunc], none⟩])
 (.seq
 (.region [⟨some 1, .bld [.nilFunc, .nilFunc] [(0, 1, (.c (.func (.func 92) #[] #[]))), (1, 1, (.c (.func (.func 93) #[] #[])))], none⟩, ⟨none, .st 2 (.t 0) (.t 1), none⟩])
 .ret))
def r73 : List AOp := [(.ld true 2 (.t 0))]
theorem ok73 : FnOk Try.prog 73 Try.f73.ntmps a73 r73 := ⟨Try.f73, Try.func73, by kernel_rfl, by kernel_rfl, by kernel_rfl, fun asv w => by simp⟩

def a74 : ACode :=
 (.seq
 (.region [⟨some 5, .mov (.c (.bool false)), none⟩])
 (.seq
 (.draw 14 [⟨⟨some 6, .fa 0 (.t 1), none⟩, 0, false, []⟩, ⟨⟨some 7, .ld false 1 (.t 6), none⟩, 1, false, []⟩, ⟨⟨some 8, .fa 1 (.t 2), none⟩, 2, false, []⟩, ⟨⟨some 9, .ld false 1 (.t 8), none⟩, 3, false, []⟩, ⟨⟨some 10, .ld false 1 (.t 3), none⟩, 4, false, []⟩, ⟨⟨some 11, .isl 3 (.t 9) (.t 10), none⟩, 5, false, []⟩, ⟨⟨some 12, .ld true 3 (.t 11), none⟩, 6, false, []⟩, ⟨⟨some 13, .fa 1 (.t 2), none⟩, 7, false, []⟩, ⟨⟨some 14, .ld false 1 (.t 13), none⟩, 8, false, []⟩, ⟨⟨some 15, .mov (.t 0), none⟩, 9, false, []⟩, ⟨⟨some 16, .isl 3 (.t 14) (.t 15), none⟩, 10, false, []⟩, ⟨⟨some 17, .ld true 3 (.t 16), none⟩, 11, false, []⟩, ⟨⟨some 18, .call (.t 7) [(.t 12), (.t 17)], none⟩, 12, true, []⟩, ⟨⟨some 5, .mov (.t 18), none⟩, 13, false, []⟩])
 .ret))
def r74 : List AOp := [(.mov (.t 5))]
theorem ok74 : FnOk Try.prog 74 Try.f74.ntmps a74 r74 := ⟨Try.f74, Try.func74, by kernel_rfl, by kernel_rfl, by kernel_rfl, fun asv w => by simp⟩

def a75 : ACode :=
 (.seq
 (.region [⟨some 2, .box (.t 0), none⟩, ⟨some 4, .mov (.c (.bool false)), none⟩])
 (.seq
 (.region [⟨some 5, .mov (.t 1), none⟩, ⟨some 6, .len (.t 5), none⟩, ⟨some 7, .fa 2 (.t 2), none⟩, ⟨some 8, .ld false 1 (.t 7), none⟩, ⟨some 9, .bin .leq (.t 6) (.t 8), none⟩, ⟨some 10, .mov (.t 9), none⟩, ⟨some 11, .mov (.t 1), (some (10, true))⟩, ⟨some 12, .ld true 3 (.t 2), (some (10, true))⟩, ⟨some 13, .fn (.func 72) [(.t 12)] [], (some (10, true))⟩, ⟨some 14, .call (.c (.func (.func 48) #[] #[])) [(.t 11), (.t 13)], (some (10, true))⟩, ⟨some 15, .pick (.t 10) (.t 14) (.c (.bool false)), none⟩, ⟨some 16, .mov (.t 15), none⟩, ⟨some 17, .mov (.t 1), (some (16, true))⟩, ⟨some 18, .call (.c (.func (.func 94) #[] #[])) [(.t 17)], (some (16, true))⟩, ⟨some 19, .pick (.t 16) (.t 18) (.c (.bool false)), none⟩, ⟨some 4, .mov (.t 19), none⟩])
 .ret))
def r75 : List AOp := [(.mov (.t 4))]
theorem ok75 : FnOk Try.prog 75 Try.f75.ntmps a75 r75 := ⟨Try.f75, Try.func75, by kernel_rfl, by kernel_rfl, by kernel_rfl, fun asv w => by simp⟩

def a76 : ACode :=
 (.seq
 (.region [⟨some 2, .box (.t 0), none⟩, ⟨some 4, .mov (.c (.slice none 0 0)), none⟩])
 (.seq
 (.region [⟨some 7, .bsl 0 [] [], none⟩, ⟨some 5, .mov (.t 7), none⟩])
 (.seq
 (.seq
 (.region [⟨some 8, .fa 0 (.t 2), none⟩, ⟨some 9, .fa 1 (.t 8), none⟩, ⟨some 10, .ld false 1 (.t 9), none⟩, ⟨some 11, .len (.t 10), none⟩, ⟨some 12, .mov (.c (.int .i64 0)), none⟩])
 (.block 0
 (.loop
 (.seq
 (.region [⟨some 13, .bin .lss (.t 12) (.t 11), none⟩])
 (.seq
 (.cond (.t 13)
 .skip
 (.exit 0))
 (.seq
 (.block 1
 (.seq
 (.region [⟨some 14, .mov (.t 12), none⟩, ⟨some 6, .mov (.t 14), none⟩])
 (.seq
 (.region [⟨some 15, .mov (.t 1), none⟩, ⟨some 16, .mov (.t 6), none⟩, ⟨some 17, .call (.t 15) [(.t 16)], none⟩])
 (.cond (.t 17)
 (.region [⟨some 18, .mov (.t 5), none⟩, ⟨some 19, .mov (.t 6), none⟩, ⟨some 20, .bsl 1 [(.int .i64 0)] [(0, 1, (.t 19))], none⟩, ⟨some 21, .app 1 8 (.t 18) (.t 20), none⟩, ⟨some 5, .mov (.t 21), none⟩])
 .skip))))
 (.region [⟨some 22, .bin .add (.t 12) (.c (.int .i64 1)), none⟩, ⟨some 12, .mov (.t 22), none⟩])))))))
 (.seq
 (.region [⟨some 23, .mov (.t 5), none⟩, ⟨some 4, .mov (.t 23), none⟩])
 .ret))))
def r76 : List AOp := [(.mov (.t 4))]
theorem ok76 : FnOk Try.prog 76 Try.f76.ntmps a76 r76 := ⟨Try.f76, Try.func76, by kernel_rfl, by kernel_rfl, by kernel_rfl, fun asv w => by simp⟩

noncomputable def c77x0 : Code := (rfN Try.f77.body 0).1
noncomputable def c77y0 : Code := (rfN Try.f77.body 0).2
noncomputable def a77x0 : ACode :=
  (.region [⟨(some 7), (.mov (.t 15)), none⟩])
theorem ok77x0 : ccode Try.prog 28 (cdraw Try.prog 28) c77x0 = some a77x0 := by kernel_rfl
def a77y0 : ACode :=
 (.block 1
 (.block 2
 (.seq
 (.region [⟨some 17, .mov (.t 7), none⟩, ⟨some 18, .ld false 1 (.t 3), none⟩, ⟨some 19, .bin .eql (.t 17) (.t 18), none⟩, ⟨some 16, .mov (.t 19), none⟩])
 (.cond (.t 16)
 (.exit 0)
 (.seq
 (.draw 7 [⟨⟨some 21, .ld false 1 (.t 5), none⟩, 0, false, []⟩, ⟨⟨some 22, .mov (.t 7), none⟩, 1, false, []⟩, ⟨⟨some 23, .fa 3 (.t 2), none⟩, 2, false, []⟩, ⟨⟨some 24, .iar 8 2 (.t 23) (.t 22), none⟩, 3, false, []⟩, ⟨⟨some 25, .ld true 2 (.t 24), none⟩, 4, false, []⟩, ⟨⟨some 26, .call (.t 21) [(.t 25)], none⟩, 5, true, []⟩, ⟨⟨some 20, .mov (.t 26), none⟩, 6, false, []⟩])
 (.cond (.t 20)
 (.seq
 (.region [⟨none, .st 1 (.t 6) (.c (.bool true)), none⟩])
 (.exit 0))
 .skip))))))
theorem ok77y0 : ccode Try.prog 28 (cdraw Try.prog 28) c77y0 = some a77y0 := by kernel_rfl
noncomputable def a77 : ACode :=
  (.seq
   (.region [⟨(some 2), (.box (.t 0)), none⟩, ⟨(some 3), (.box (.t 1)), none⟩, ⟨(some 4), (.mov (.c (.bool false))), none⟩])
   (.seq
    (.region [⟨(some 8), (.ld false 1 (.t 3)), none⟩, ⟨(some 9), (.fa 3 (.t 2)), none⟩, ⟨(some 10), (.iar 8 2 (.t 9) (.t 8)), none⟩, ⟨(some 11), (.ld true 2 (.t 10)), none⟩, ⟨(some 12), (.fn (.func 79) [(.t 11)] []), none⟩, ⟨(some 5), (.new [.nilFunc]), none⟩, ⟨none, (.st 1 (.t 5) (.t 12)), none⟩])
    (.seq
     (.region [⟨(some 6), (.new [(.bool false)]), none⟩, ⟨none, (.st 1 (.t 6) (.c (.bool false))), none⟩])
     (.seq
      .skip
      (.seq
       (.seq
        (.region [⟨(some 13), (.ld true 27 (.t 2)), none⟩, ⟨(some 14), (.call (.c (.func (.func 78) #[] #[])) [(.t 13)]), none⟩])
        (.block 0
         (.rangeF (.t 14) #[15] c77x0 c77y0 a77x0 a77y0)))
       (.seq
        (.region [⟨(some 27), (.ld false 1 (.t 6)), none⟩, ⟨(some 4), (.mov (.t 27)), none⟩])
        .ret))))))
def r77 : List AOp := [(.mov (.t 4))]
theorem ok77 : FnOk Try.prog 77 Try.f77.ntmps a77 r77 := ⟨Try.f77, Try.func77, by kernel_rfl, by kernel_rfl, by kernel_rfl, fun asv w => by simp⟩

def a78 : ACode :=
 (.seq
 (.region [⟨some 1, .box (.t 0), none⟩, ⟨some 2, .mov (.c .nilFunc), none⟩])
 (.seq
 (.region [⟨some 3, .fn (.func 95) [] [(.t 1)], none⟩, ⟨some 2, .mov (.t 3), none⟩])
 .ret))
def r78 : List AOp := [(.mov (.t 2))]
theorem ok78 : FnOk Try.prog 78 Try.f78.ntmps a78 r78 := ⟨Try.f78, Try.func78, by kernel_rfl, by kernel_rfl, by kernel_rfl, fun asv w => by simp⟩

def a79 : ACode :=
 (.seq
 (.region [⟨some 2, .box (.t 0), none⟩, ⟨some 3, .box (.t 1), none⟩, ⟨some 4, .mov (.c (.bool false)), none⟩])
 (.seq
 (.region [⟨some 5, .fa 0 (.t 2), none⟩, ⟨some 6, .ld false 1 (.t 5), none⟩, ⟨some 7, .fa 0 (.t 3), none⟩, ⟨some 8, .ld false 1 (.t 7), none⟩, ⟨some 9, .bin .eql (.t 6) (.t 8), none⟩, ⟨some 10, .mov (.t 9), none⟩, ⟨some 11, .fa 1 (.t 2), (some (10, true))⟩, ⟨some 12, .ld false 1 (.t 11), (some (10, true))⟩, ⟨some 13, .fa 1 (.t 3), (some (10, true))⟩, ⟨some 14, .ld false 1 (.t 13), (some (10, true))⟩, ⟨some 15, .bin .lss (.t 12) (.t 14), (some (10, true))⟩, ⟨some 16, .pick (.t 10) (.t 15) (.c (.bool false)), none⟩, ⟨some 4, .mov (.t 16), none⟩])
 .ret))
def r79 : List AOp := [(.mov (.t 4))]
theorem ok79 : FnOk Try.prog 79 Try.f79.ntmps a79 r79 := ⟨Try.f79, Try.func79, by kernel_rfl, by kernel_rfl, by kernel_rfl, fun asv w => by simp⟩

def a80 : ACode :=
 (.seq
 (.region [⟨some 2, .box (.t 0), none⟩, ⟨some 4, .mov (.c (.bool false)), none⟩])
 (.seq
 (.seq
 (.region [⟨some 10, .mov (.t 1), none⟩, ⟨some 11, .len (.t 10), none⟩, ⟨some 12, .fa 1 (.t 2), none⟩, ⟨some 13, .ld false 1 (.t 12), none⟩, ⟨some 14, .len (.t 13), none⟩, ⟨some 15, .bin .neq (.t 11) (.t 14), none⟩, ⟨some 16, .mov (.t 15), none⟩, ⟨some 17, .mov (.t 1), (some (16, false))⟩, ⟨some 18, .ld true 3 (.t 2), (some (16, false))⟩, ⟨some 19, .fn (.func 97) [(.t 18)] [], (some (16, false))⟩, ⟨some 20, .call (.c (.func (.func 48) #[] #[])) [(.t 17), (.t 19)], (some (16, false))⟩, ⟨some 21, .not (.t 20), (some (16, false))⟩, ⟨some 22, .pick (.t 16) (.c (.bool true)) (.t 21), none⟩])
 (.cond (.t 22)
 (.seq
 (.region [⟨some 4, .mov (.c (.bool false)), none⟩])
 .ret)
 .skip))
 (.seq
 (.region [⟨some 5, .new [(.int .i64 0), (.int .i64 0), (.int .i64 0)], none⟩])
 (.seq
 (.seq
 (.region [⟨some 23, .mov (.t 1), none⟩, ⟨some 24, .len (.t 23), none⟩, ⟨some 25, .mov (.c (.int .i64 0)), none⟩])
 (.block 0
 (.loop
 (.seq
 (.region [⟨some 26, .bin .lss (.t 25) (.t 24), none⟩])
 (.seq
 (.cond (.t 26)
 .skip
 (.exit 0))
 (.seq
 (.block 1
 (.seq
 (.region [⟨some 27, .isl 1 (.t 23) (.t 25), none⟩, ⟨some 28, .ld false 1 (.t 27), none⟩, ⟨some 7, .mov (.t 28), none⟩])
 (.region [⟨some 29, .mov (.t 7), none⟩, ⟨some 30, .iar 3 1 (.t 5) (.t 29), none⟩, ⟨some 31, .ld false 1 (.t 30), none⟩, ⟨some 32, .bin .add (.t 31) (.c (.int .i64 1)), none⟩, ⟨some 33, .iar 3 1 (.t 5) (.t 29), none⟩, ⟨none, .st 1 (.t 33) (.t 32), none⟩])))
 (.region [⟨some 34, .bin .add (.t 25) (.c (.int .i64 1)), none⟩, ⟨some 25, .mov (.t 34), none⟩])))))))
 (.seq
 (.seq
 (.region [⟨some 35, .fa 0 (.t 2), none⟩, ⟨some 36, .ld false 1 (.t 35), none⟩, ⟨some 37, .len (.t 36), none⟩, ⟨some 38, .mov (.c (.int .i64 0)), none⟩])
 (.block 2
 (.loop
 (.seq
 (.region [⟨some 39, .bin .lss (.t 38) (.t 37), none⟩])
 (.seq
 (.cond (.t 39)
 .skip
 (.exit 2))
 (.seq
 (.block 3
 (.seq
 (.region [⟨some 40, .mov (.t 38), none⟩, ⟨some 41, .isl 1 (.t 36) (.t 38), none⟩, ⟨some 42, .ld false 1 (.t 41), none⟩, ⟨some 8, .mov (.t 40), none⟩, ⟨some 9, .mov (.t 42), none⟩])
 (.seq
 (.region [⟨some 43, .mov (.t 8), none⟩, ⟨some 44, .iar 3 1 (.t 5) (.t 43), none⟩, ⟨some 45, .ld false 1 (.t 44), none⟩, ⟨some 46, .mov (.t 9), none⟩, ⟨some 47, .bin .gtr (.t 45) (.t 46), none⟩])
 (.cond (.t 47)
 (.seq
 (.region [⟨some 4, .mov (.c (.bool false)), none⟩])
 .ret)
 .skip))))
 (.region [⟨some 48, .bin .add (.t 38) (.c (.int .i64 1)), none⟩, ⟨some 38, .mov (.t 48), none⟩])))))))
 (.seq
 (.region [⟨some 4, .mov (.c (.bool true)), none⟩])
 .ret))))))
def r80 : List AOp := [(.mov (.t 4))]
theorem ok80 : FnOk Try.prog 80 Try.f80.ntmps a80 r80 := ⟨Try.f80, Try.func80, by kernel_rfl, by kernel_rfl, by kernel_rfl, fun asv w => by simp⟩

def a81 : ACode :=
 (.seq
 (.region [⟨some 7, .new [(.int .i64 0), (.int .i64 0), (.int .i64 0), (.int .i64 0), (.int .i64 0), (.int .i64 0), (.int .i64 0), (.int .i64 0), (.int .i64 0), (.bool false), (.bool false), (.bool false), (.bool false), (.bool false), (.bool false), (.bool false), (.bool false)], none⟩])
 (.seq
 (.seq
 (.region [⟨some 12, .mov (.t 0), none⟩, ⟨some 13, .fa 0 (.t 2), none⟩, ⟨some 14, .fa 0 (.t 13), none⟩, ⟨some 15, .ld false 1 (.t 14), none⟩, ⟨some 16, .len (.t 15), none⟩, ⟨some 17, .bin .eql (.t 12) (.t 16), none⟩])
 (.cond (.t 17)
 (.seq
 (.region [⟨some 18, .bld [(.int .i64 0), (.int .i64 0), (.int .i64 0), (.int .i64 0), (.int .i64 0), (.int .i64 0), (.int .i64 0), (.int .i64 0), (.int .i64 0), (.bool false), (.bool false), (.bool false), (.bool false), (.bool false), (.bool false), (.bool false), (.bool false)] [], none⟩, ⟨none, .st 17 (.t 7) (.t 18), none⟩])
 .ret)
 .skip))
 (.seq
 (.region [⟨some 19, .ld false 1 (.t 3), none⟩, ⟨some 20, .mov (.t 0), none⟩, ⟨some 21, .call (.c (.func (.func 82) #[] #[])) [(.t 19), (.t 20)], none⟩, ⟨some 8, .new [(.bool false), (.bool false), (.bool false), (.bool false), (.bool false), (.bool false), (.bool false), (.bool false)], none⟩, ⟨none, .st 8 (.t 8) (.t 21), none⟩])
 (.seq
 (.region [⟨some 22, .bld [(.int .i64 0), (.int .i64 0), (.int .i64 0), (.int .i64 0), (.int .i64 0), (.int .i64 0), (.int .i64 0), (.int .i64 0), (.int .i64 0), (.bool false), (.bool false), (.bool false), (.bool false), (.bool false), (.bool false), (.bool false), (.bool false)] [(0, 1, (.c (.int .i64 (-1))))], none⟩, ⟨some 9, .new [(.int .i64 0), (.int .i64 0), (.int .i64 0), (.int .i64 0), (.int .i64 0), (.int .i64 0), (.int .i64 0), (.int .i64 0), (.int .i64 0), (.bool false), (.bool false), (.bool false), (.bool false), (.bool false), (.bool false), (.bool false), (.bool false)], none⟩, ⟨none, .st 17 (.t 9) (.t 22), none⟩])
 (.seq
 (.seq
 (.region [⟨some 23, .mov (.t 1), none⟩, ⟨some 24, .bin .add (.t 23) (.c (.int .i64 1)), none⟩, ⟨some 25, .mov (.c (.int .i64 0)), none⟩])
 (.block 0
 (.loop
 (.seq
 (.region [⟨some 26, .bin .lss (.t 25) (.t 24), none⟩])
 (.seq
 (.cond (.t 26)
 .skip
 (.exit 0))
 (.seq
 (.block 1
 (.seq
 (.region [⟨some 27, .mov (.t 25), none⟩, ⟨some 10, .mov (.t 27), none⟩])
 (.seq
 (.region [⟨some 28, .ld true 6 (.t 2), none⟩, ⟨some 29, .ld true 8 (.t 8), none⟩, ⟨some 30, .mov (.t 10), none⟩, ⟨some 31, .bld [(.bool false), (.bool false), (.bool false), (.bool false), (.bool false), (.bool false), (.bool false), (.bool false), (.int .i64 0), (.int .i64 0)] [(0, 8, (.t 29)), (8, 1, (.c (.int .i64 2001))), (9, 1, (.t 30))], none⟩, ⟨some 32, .call (.c (.func (.func 83) #[] #[])) [(.t 28), (.t 31)], none⟩, ⟨some 11, .new [(.int .i64 0), (.int .i64 0), (.int .i64 0), (.int .i64 0), (.int .i64 0), (.int .i64 0), (.int .i64 0), (.int .i64 0), (.int .i64 0), (.bool false), (.bool false), (.bool false), (.bool false), (.bool false), (.bool false), (.bool false), (.bool false)], none⟩, ⟨none, .st 17 (.t 11) (.t 32), none⟩])
 (.draw 12 [⟨⟨some 33, .ld true 17 (.t 9), none⟩, 0, false, []⟩, ⟨⟨some 34, .ld true 17 (.t 11), none⟩, 1, false, []⟩, ⟨⟨some 35, .ld false 1 (.t 4), none⟩, 2, false, []⟩, ⟨⟨some 36, .mov (.t 0), none⟩, 3, false, []⟩, ⟨⟨some 37, .bin .add (.t 36) (.c (.int .i64 1)), none⟩, 4, false, []⟩, ⟨⟨some 38, .mov (.t 1), none⟩, 5, false, []⟩, ⟨⟨some 39, .mov (.t 10), none⟩, 6, false, []⟩, ⟨⟨some 40, .bin .sub (.t 38) (.t 39), none⟩, 7, false, []⟩, ⟨⟨some 41, .call (.t 35) [(.t 37), (.t 40)], none⟩, 8, true, [1, 0]⟩, ⟨⟨some 42, .call (.c (.func (.func 85) #[] #[])) [(.t 34), (.t 41)], none⟩, 9, true, [0]⟩, ⟨⟨some 43, .call (.c (.func (.func 84) #[] #[])) [(.t 33), (.t 42)], none⟩, 10, true, []⟩, ⟨⟨none, .st 17 (.t 9) (.t 43), none⟩, 11, true, []⟩]))))
 (.region [⟨some 44, .bin .add (.t 25) (.c (.int .i64 1)), none⟩, ⟨some 25, .mov (.t 44), none⟩])))))))
 (.seq
 (.region [⟨some 45, .ld true 17 (.t 9), none⟩, ⟨none, .st 17 (.t 7) (.t 45), none⟩])
 .ret))))))
def r81 : List AOp := [(.ld true 17 (.t 7))]
theorem ok81 : FnOk Try.prog 81 Try.f81.ntmps a81 r81 := ⟨Try.f81, Try.func81, by kernel_rfl, by kernel_rfl, by kernel_rfl, fun asv w => by simp⟩

def a82 : ACode :=
 (.seq
 (.region [⟨some 4, .new [(.bool false), (.bool false), (.bool false), (.bool false), (.bool false), (.bool false), (.bool false), (.bool false)], none⟩])
 (.seq
 (.region [⟨some 5, .new [(.bool false), (.bool false), (.bool false), (.bool false), (.bool false), (.bool false), (.bool false), (.bool false)], none⟩])
 (.seq
 (.seq
 (.region [⟨some 8, .mov (.t 0), none⟩, ⟨some 9, .len (.t 8), none⟩, ⟨some 10, .mov (.c (.int .i64 0)), none⟩])
 (.block 0
 (.loop
 (.seq
 (.region [⟨some 11, .bin .lss (.t 10) (.t 9), none⟩])
 (.seq
 (.cond (.t 11)
 .skip
 (.exit 0))
 (.seq
 (.block 1
 (.seq
 (.region [⟨some 12, .mov (.t 10), none⟩, ⟨some 13, .isl 1 (.t 8) (.t 10), none⟩, ⟨some 14, .ld false 1 (.t 13), none⟩, ⟨some 6, .mov (.t 12), none⟩, ⟨some 7, .mov (.t 14), none⟩])
 (.region [⟨some 15, .mov (.t 6), none⟩, ⟨some 16, .mov (.t 7), none⟩, ⟨some 17, .mov (.t 1), none⟩, ⟨some 18, .bin .eql (.t 16) (.t 17), none⟩, ⟨some 19, .iar 8 1 (.t 5) (.t 15), none⟩, ⟨none, .st 1 (.t 19) (.t 18), none⟩])))
 (.region [⟨some 20, .bin .add (.t 10) (.c (.int .i64 1)), none⟩, ⟨some 10, .mov (.t 20), none⟩])))))))
 (.seq
 (.region [⟨some 21, .ld true 8 (.t 5), none⟩, ⟨none, .st 8 (.t 4) (.t 21), none⟩])
 .ret))))
def r82 : List AOp := [(.ld true 8 (.t 4))]
theorem ok82 : FnOk Try.prog 82 Try.f82.ntmps a82 r82 := ⟨Try.f82, Try.func82, by kernel_rfl, by kernel_rfl, by kernel_rfl, fun asv w => by simp⟩

noncomputable def c83x0 : Code := (rfN Try.f83.body 0).1
noncomputable def c83y0 : Code := (rfN Try.f83.body 0).2
noncomputable def a83x0 : ACode :=
  (.region [⟨(some 8), (.mov (.t 28)), none⟩])
theorem ok83x0 : ccode Try.prog 56 (cdraw Try.prog 56) c83x0 = some a83x0 := by kernel_rfl
def a83y0 : ACode :=
 (.block 1
 (.seq
 (.draw 14 [⟨⟨some 29, .ld true 17 (.t 7), none⟩, 0, false, []⟩, ⟨⟨some 30, .ld true 6 (.t 2), none⟩, 1, false, []⟩, ⟨⟨some 31, .ld true 10 (.t 3), none⟩, 2, false, []⟩, ⟨⟨some 32, .mov (.t 8), none⟩, 3, false, []⟩, ⟨⟨some 33, .fa 0 (.t 2), none⟩, 4, false, []⟩, ⟨⟨some 34, .fa 1 (.t 33), none⟩, 5, false, []⟩, ⟨⟨some 35, .ld false 1 (.t 34), none⟩, 6, false, []⟩, ⟨⟨some 36, .mov (.t 8), none⟩, 7, false, []⟩, ⟨⟨some 37, .isl 3 (.t 35) (.t 36), none⟩, 8, false, []⟩, ⟨⟨some 38, .fa 2 (.t 37), none⟩, 9, false, []⟩, ⟨⟨some 39, .ld false 1 (.t 38), none⟩, 10, false, []⟩, ⟨⟨some 40, .call (.c (.func (.func 99) #[] #[])) [(.t 30), (.t 31), (.t 32), (.t 39)], none⟩, 11, true, [0]⟩, ⟨⟨some 41, .call (.c (.func (.func 84) #[] #[])) [(.t 29), (.t 40)], none⟩, 12, true, []⟩, ⟨⟨none, .st 17 (.t 7) (.t 41), none⟩, 13, true, []⟩])
 (.seq
 (.region [⟨some 42, .fa 9 (.t 3), none⟩, ⟨some 43, .ld false 1 (.t 42), none⟩, ⟨some 44, .bin .gtr (.t 43) (.c (.int .i64 0)), none⟩])
 (.cond (.t 44)
 (.draw 7 [⟨⟨some 45, .ld true 17 (.t 7), none⟩, 0, false, []⟩, ⟨⟨some 46, .ld true 6 (.t 2), none⟩, 1, false, []⟩, ⟨⟨some 47, .ld true 10 (.t 3), none⟩, 2, false, []⟩, ⟨⟨some 48, .mov (.t 8), none⟩, 3, false, []⟩, ⟨⟨some 49, .call (.c (.func (.func 99) #[] #[])) [(.t 46), (.t 47), (.t 48), (.c (.int .i64 2001))], none⟩, 4, true, [0]⟩, ⟨⟨some 50, .call (.c (.func (.func 84) #[] #[])) [(.t 45), (.t 49)], none⟩, 5, true, []⟩, ⟨⟨none, .st 17 (.t 7) (.t 50), none⟩, 6, true, []⟩])
 .skip))))
theorem ok83y0 : ccode Try.prog 56 (cdraw Try.prog 56) c83y0 = some a83y0 := by kernel_rfl
noncomputable def a83 : ACode :=
  (.seq
   (.region [⟨(some 2), (.box (.t 0)), none⟩, ⟨(some 3), (.box (.t 1)), none⟩, ⟨(some 4), (.new [(.int .i64 0), (.int .i64 0), (.int .i64 0), (.int .i64 0), (.int .i64 0), (.int .i64 0), (.int .i64 0), (.int .i64 0), (.int .i64 0), (.bool false), (.bool false), (.bool false), (.bool false), (.bool false), (.bool false), (.bool false), (.bool false)]), none⟩])
   (.seq
    (.seq
     (.region [⟨(some 9), (.fa 0 (.t 3)), none⟩, ⟨(some 10), (.ld true 8 (.t 9)), none⟩, ⟨(some 11), (.bld [(.bool false), (.bool false), (.bool false), (.bool false), (.bool false), (.bool false), (.bool false), (.bool false)] []), none⟩, ⟨(some 12), (.gen 56 ⟨(some 12), (.binOp .eql 88 (.tmp 10) (.tmp 11) 88), 4, "search.go:86", #[{ on := 1, ground := Go.Ground.data }, { on := 2, ground := Go.Ground.data }], none⟩), none⟩])
     (.cond (.t 12)
      (.seq
       (.region [⟨(some 13), (.bld [(.int .i64 0), (.int .i64 0), (.int .i64 0), (.int .i64 0), (.int .i64 0), (.int .i64 0), (.int .i64 0), (.int .i64 0), (.int .i64 0), (.bool false), (.bool false), (.bool false), (.bool false), (.bool false), (.bool false), (.bool false), (.bool false)] []), none⟩, ⟨none, (.st 17 (.t 4) (.t 13)), none⟩])
       .ret)
      .skip))
    (.seq
     (.seq
      (.region [⟨(some 15), (.fa 5 (.t 2)), none⟩, ⟨(some 16), (.ld false 1 (.t 15)), none⟩, ⟨(some 17), (.ld true 10 (.t 3)), none⟩, ⟨(some 18), (.lkp 121 (.agg #[(.int .i64 0), (.int .i64 0), (.int .i64 0), (.int .i64 0), (.int .i64 0), (.int .i64 0), (.int .i64 0), (.int .i64 0), (.int .i64 0), (.bool false), (.bool false), (.bool false), (.bool false), (.bool false), (.bool false), (.bool false), (.bool false)]) (.t 16) (.t 17)), none⟩, ⟨(some 14), (.mov (.t 18)), none⟩, ⟨(some 19), (.ext (.t 14) 0), none⟩, ⟨(some 20), (.ext (.t 14) 1), none⟩, ⟨(some 5), (.new [(.int .i64 0), (.int .i64 0), (.int .i64 0), (.int .i64 0), (.int .i64 0), (.int .i64 0), (.int .i64 0), (.int .i64 0), (.int .i64 0), (.bool false), (.bool false), (.bool false), (.bool false), (.bool false), (.bool false), (.bool false), (.bool false)]), none⟩, ⟨none, (.st 17 (.t 5) (.t 19)), none⟩, ⟨(some 6), (.mov (.t 20)), none⟩])
      (.seq
       (.region [⟨(some 21), (.mov (.t 6)), none⟩])
       (.cond (.t 21)
        (.seq
         (.region [⟨(some 22), (.ld true 17 (.t 5)), none⟩, ⟨none, (.st 17 (.t 4) (.t 22)), none⟩])
         .ret)
        .skip)))
     (.seq
      (.region [⟨(some 23), (.bld [(.int .i64 0), (.int .i64 0), (.int .i64 0), (.int .i64 0), (.int .i64 0), (.int .i64 0), (.int .i64 0), (.int .i64 0), (.int .i64 0), (.bool false), (.bool false), (.bool false), (.bool false), (.bool false), (.bool false), (.bool false), (.bool false)] [(0, 1, (.c (.int .i64 (-1))))]), none⟩, ⟨(some 7), (.new [(.int .i64 0), (.int .i64 0), (.int .i64 0), (.int .i64 0), (.int .i64 0), (.int .i64 0), (.int .i64 0), (.int .i64 0), (.int .i64 0), (.bool false), (.bool false), (.bool false), (.bool false), (.bool false), (.bool false), (.bool false), (.bool false)]), none⟩, ⟨none, (.st 17 (.t 7) (.t 23)), none⟩])
      (.seq
       (.seq
        (.region [⟨(some 24), (.ld true 6 (.t 2)), none⟩, ⟨(some 25), (.fa 0 (.t 3)), none⟩, ⟨(some 26), (.ld true 8 (.t 25)), none⟩, ⟨(some 27), (.call (.c (.func (.func 98) #[] #[])) [(.t 24), (.t 26)]), none⟩])
        (.block 0
         (.rangeF (.t 27) #[28] c83x0 c83y0 a83x0 a83y0)))
       (.seq
        (.region [⟨(some 51), (.fa 5 (.t 2)), none⟩, ⟨(some 52), (.ld false 1 (.t 51)), none⟩, ⟨(some 53), (.ld true 10 (.t 3)), none⟩, ⟨(some 54), (.ld true 17 (.t 7)), none⟩, ⟨none, (.mup 121 (.t 52) (.t 53) (.t 54)), none⟩])
        (.seq
         (.region [⟨(some 55), (.ld true 17 (.t 7)), none⟩, ⟨none, (.st 17 (.t 4) (.t 55)), none⟩])
         .ret)))))))
def r83 : List AOp := [(.ld true 17 (.t 4))]
theorem ok83 : FnOk Try.prog 83 Try.f83.ntmps a83 r83 := ⟨Try.f83, Try.func83, by kernel_rfl, by kernel_rfl, by kernel_rfl, fun asv w => by simp⟩

def a84 : ACode :=
 (.seq
 (.region [⟨some 2, .box (.t 0), none⟩, ⟨some 3, .box (.t 1), none⟩, ⟨some 4, .new [(.int .i64 0), (.int .i64 0), (.int .i64 0), (.int .i64 0), (.int .i64 0), (.int .i64 0), (.int .i64 0), (.int .i64 0), (.int .i64 0), (.bool false), (.bool false), (.bool false), (.bool false), (.bool false), (.bool false), (.bool false), (.bool false)], none⟩])
 (.seq
 (.seq
 (.region [⟨some 5, .fa 0 (.t 3), none⟩, ⟨some 6, .ld false 1 (.t 5), none⟩, ⟨some 7, .fa 0 (.t 2), none⟩, ⟨some 8, .ld false 1 (.t 7), none⟩, ⟨some 9, .bin .gtr (.t 6) (.t 8), none⟩])
 (.cond (.t 9)
 (.seq
 (.region [⟨some 10, .ld true 17 (.t 3), none⟩, ⟨none, .st 17 (.t 4) (.t 10), none⟩])
 .ret)
 .skip))
 (.seq
 (.region [⟨some 11, .ld true 17 (.t 2), none⟩, ⟨none, .st 17 (.t 4) (.t 11), none⟩])
 .ret)))
def r84 : List AOp := [(.ld true 17 (.t 4))]
theorem ok84 : FnOk Try.prog 84 Try.f84.ntmps a84 r84 := ⟨Try.f84, Try.func84, by kernel_rfl, by kernel_rfl, by kernel_rfl, fun asv w => by simp⟩

def a85 : ACode :=
 (.seq
 (.region [⟨some 2, .box (.t 0), none⟩, ⟨some 3, .box (.t 1), none⟩, ⟨some 4, .new [(.int .i64 0), (.int .i64 0), (.int .i64 0), (.int .i64 0), (.int .i64 0), (.int .i64 0), (.int .i64 0), (.int .i64 0), (.int .i64 0), (.bool false), (.bool false), (.bool false), (.bool false), (.bool false), (.bool false), (.bool false), (.bool false)], none⟩])
 (.seq
 (.region [⟨some 6, .fa 0 (.t 2), none⟩, ⟨some 7, .ld false 1 (.t 6), none⟩, ⟨some 8, .fa 0 (.t 3), none⟩, ⟨some 9, .ld false 1 (.t 8), none⟩, ⟨some 10, .bin .add (.t 7) (.t 9), none⟩, ⟨some 11, .fa 0 (.t 2), none⟩, ⟨none, .st 1 (.t 11) (.t 10), none⟩])
 (.seq
 (.seq
 (.region [⟨some 12, .mov (.c (.int .i64 0)), none⟩])
 (.block 0
 (.loop
 (.seq
 (.region [⟨some 13, .bin .lss (.t 12) (.c (.int .i64 8)), none⟩])
 (.seq
 (.cond (.t 13)
 .skip
 (.exit 0))
 (.seq
 (.block 1
 (.seq
 (.region [⟨some 14, .mov (.t 12), none⟩, ⟨some 5, .mov (.t 14), none⟩])
 (.seq
 (.draw 12 [⟨⟨some 15, .mov (.t 5), none⟩, 0, false, []⟩, ⟨⟨some 16, .fa 1 (.t 2), none⟩, 1, false, []⟩, ⟨⟨some 17, .iar 8 1 (.t 16) (.t 15), none⟩, 2, false, []⟩, ⟨⟨some 18, .ld false 1 (.t 17), none⟩, 3, false, []⟩, ⟨⟨some 19, .mov (.t 5), none⟩, 4, false, []⟩, ⟨⟨some 20, .fa 1 (.t 3), none⟩, 5, false, []⟩, ⟨⟨some 21, .iar 8 1 (.t 20) (.t 19), none⟩, 6, false, []⟩, ⟨⟨some 22, .ld false 1 (.t 21), none⟩, 7, false, []⟩, ⟨⟨some 23, .bin .add (.t 18) (.t 22), none⟩, 8, false, []⟩, ⟨⟨some 24, .fa 1 (.t 2), none⟩, 9, false, []⟩, ⟨⟨some 25, .iar 8 1 (.t 24) (.t 15), none⟩, 10, false, []⟩, ⟨⟨none, .st 1 (.t 25) (.t 23), none⟩, 11, true, []⟩])
 (.region [⟨some 26, .mov (.t 5), none⟩, ⟨some 27, .mov (.t 5), none⟩, ⟨some 28, .fa 9 (.t 2), none⟩, ⟨some 29, .iar 8 1 (.t 28) (.t 27), none⟩, ⟨some 30, .ld false 1 (.t 29), none⟩, ⟨some 31, .mov (.t 30), none⟩, ⟨some 32, .mov (.t 5), (some (31, false))⟩, ⟨some 33, .fa 9 (.t 3), (some (31, false))⟩, ⟨some 34, .iar 8 1 (.t 33) (.t 32), (some (31, false))⟩, ⟨some 35, .ld false 1 (.t 34), (some (31, false))⟩, ⟨some 36, .pick (.t 31) (.c (.bool true)) (.t 35), none⟩, ⟨some 37, .fa 9 (.t 2), none⟩, ⟨some 38, .iar 8 1 (.t 37) (.t 26), none⟩, ⟨none, .st 1 (.t 38) (.t 36), none⟩]))))
 (.region [⟨some 39, .bin .add (.t 12) (.c (.int .i64 1)), none⟩, ⟨some 12, .mov (.t 39), none⟩])))))))
 (.seq
 (.region [⟨some 40, .ld true 17 (.t 2), none⟩, ⟨none, .st 17 (.t 4) (.t 40), none⟩])
 .ret))))
def r85 : List AOp := [(.ld true 17 (.t 4))]
theorem ok85 : FnOk Try.prog 85 Try.f85.ntmps a85 r85 := ⟨Try.f85, Try.func85, by kernel_rfl, by kernel_rfl, by kernel_rfl, fun asv w => by simp⟩

def a86 : ACode :=
 (.seq
 (.region [⟨some 3, .mov (.c (.int .i64 0)), none⟩])
 (.seq
 (.region [⟨some 4, .mov (.t 0), none⟩, ⟨some 5, .fa 3 (.t 1), none⟩, ⟨some 6, .iar 8 2 (.t 5) (.t 4), none⟩, ⟨some 7, .fa 1 (.t 6), none⟩, ⟨some 8, .ld false 1 (.t 7), none⟩, ⟨some 3, .mov (.t 8), none⟩])
 .ret))
def r86 : List AOp := [(.mov (.t 3))]
theorem ok86 : FnOk Try.prog 86 Try.f86.ntmps a86 r86 := ⟨Try.f86, Try.func86, by kernel_rfl, by kernel_rfl, by kernel_rfl, fun asv w => by simp⟩

def a87 : ACode :=
 (.seq
 (.region [⟨some 2, .box (.t 0), none⟩, ⟨some 3, .box (.t 1), none⟩, ⟨some 4, .mov (.c (.slice none 0 0)), none⟩])
 (.seq
 (.region [⟨some 7, .bsl 0 [] [], none⟩, ⟨some 5, .mov (.t 7), none⟩])
 (.seq
 (.seq
 (.region [⟨some 8, .fa 0 (.t 2), none⟩, ⟨some 9, .fa 1 (.t 8), none⟩, ⟨some 10, .ld false 1 (.t 9), none⟩, ⟨some 11, .len (.t 10), none⟩, ⟨some 12, .mov (.c (.int .i64 0)), none⟩])
 (.block 0
 (.loop
 (.seq
 (.region [⟨some 13, .bin .lss (.t 12) (.t 11), none⟩])
 (.seq
 (.cond (.t 13)
 .skip
 (.exit 0))
 (.seq
 (.block 1
 (.seq
 (.region [⟨some 14, .mov (.t 12), none⟩, ⟨some 6, .mov (.t 14), none⟩])
 (.region [⟨some 15, .mov (.t 5), none⟩, ⟨some 16, .mov (.t 6), none⟩, ⟨some 17, .bsl 1 [(.int .i64 0)] [(0, 1, (.t 16))], none⟩, ⟨some 18, .app 1 8 (.t 15) (.t 17), none⟩, ⟨some 5, .mov (.t 18), none⟩])))
 (.region [⟨some 19, .bin .add (.t 12) (.c (.int .i64 1)), none⟩, ⟨some 12, .mov (.t 19), none⟩])))))))
 (.seq
 (.region [⟨some 20, .mov (.t 5), none⟩, ⟨some 21, .fn (.func 101) [] [(.t 3)], none⟩, ⟨some 22, .call (.c (.func (.func 100) #[] #[])) [(.t 20), (.t 21)], none⟩])
 (.seq
 (.region [⟨some 23, .mov (.t 5), none⟩, ⟨some 4, .mov (.t 23), none⟩])
 .ret)))))
def r87 : List AOp := [(.mov (.t 4))]
theorem ok87 : FnOk Try.prog 87 Try.f87.ntmps a87 r87 := ⟨Try.f87, Try.func87, by kernel_rfl, by kernel_rfl, by kernel_rfl, fun asv w => by simp⟩

def a88 : ACode :=
 (.seq
 (.region [⟨some 2, .box (.t 0), none⟩, ⟨some 4, .mov (.c (.int .i64 0)), none⟩])
 (.seq
 (.region [⟨some 8, .fa 0 (.t 2), none⟩, ⟨some 9, .fa 1 (.t 8), none⟩, ⟨some 10, .ld false 1 (.t 9), none⟩, ⟨some 11, .mov (.t 1), none⟩, ⟨some 12, .isl 3 (.t 10) (.t 11), none⟩, ⟨some 13, .fa 0 (.t 12), none⟩, ⟨some 14, .ld false 1 (.t 13), none⟩, ⟨some 15, .bsl 1 [(.int .i64 0)] [(0, 1, (.t 14))], none⟩, ⟨some 5, .mov (.t 15), none⟩])
 (.seq
 (.seq
 (.region [⟨some 16, .fa 0 (.t 2), none⟩, ⟨some 17, .fa 1 (.t 16), none⟩, ⟨some 18, .ld false 1 (.t 17), none⟩, ⟨some 19, .len (.t 18), none⟩, ⟨some 20, .mov (.c (.int .i64 0)), none⟩])
 (.block 0
 (.loop
 (.seq
 (.region [⟨some 21, .bin .lss (.t 20) (.t 19), none⟩])
 (.seq
 (.cond (.t 21)
 .skip
 (.exit 0))
 (.seq
 (.block 1
 (.seq
 (.region [⟨some 22, .mov (.t 20), none⟩, ⟨some 23, .isl 3 (.t 18) (.t 20), none⟩, ⟨some 24, .ld true 3 (.t 23), none⟩, ⟨some 7, .new [(.int .i64 0), (.int .i64 0), (.int .i64 0)], none⟩, ⟨some 6, .mov (.t 22), none⟩, ⟨none, .st 3 (.t 7) (.t 24), none⟩])
 (.seq
 (.draw 9 [⟨⟨some 25, .mov (.t 6), none⟩, 0, false, []⟩, ⟨⟨some 26, .fa 3 (.t 2), none⟩, 1, false, []⟩, ⟨⟨some 27, .iar 8 2 (.t 26) (.t 25), none⟩, 2, false, []⟩, ⟨⟨some 28, .ld true 2 (.t 27), none⟩, 3, false, []⟩, ⟨⟨some 29, .mov (.t 1), none⟩, 4, false, []⟩, ⟨⟨some 30, .fa 3 (.t 2), none⟩, 5, false, []⟩, ⟨⟨some 31, .iar 8 2 (.t 30) (.t 29), none⟩, 6, false, []⟩, ⟨⟨some 32, .ld true 2 (.t 31), none⟩, 7, false, []⟩, ⟨⟨some 33, .call (.c (.func (.func 79) #[] #[])) [(.t 28), (.t 32)], none⟩, 8, true, []⟩])
 (.cond (.t 33)
 (.region [⟨some 34, .mov (.t 5), none⟩, ⟨some 35, .fa 0 (.t 7), none⟩, ⟨some 36, .ld false 1 (.t 35), none⟩, ⟨some 37, .bsl 1 [(.int .i64 0)] [(0, 1, (.t 36))], none⟩, ⟨some 38, .app 1 8 (.t 34) (.t 37), none⟩, ⟨some 5, .mov (.t 38), none⟩])
 .skip))))
 (.region [⟨some 39, .bin .add (.t 20) (.c (.int .i64 1)), none⟩, ⟨some 20, .mov (.t 39), none⟩])))))))
 (.seq
 (.region [⟨some 40, .mov (.t 5), none⟩, ⟨some 41, .call (.c (.func (.func 103) #[] #[])) [(.t 40)], none⟩, ⟨some 4, .mov (.t 41), none⟩])
 .ret))))
def r88 : List AOp := [(.mov (.t 4))]
theorem ok88 : FnOk Try.prog 88 Try.f88.ntmps a88 r88 := ⟨Try.f88, Try.func88, by kernel_rfl, by kernel_rfl, by kernel_rfl, fun asv w => by simp⟩

def a89 : ACode :=
 (.seq
 (.region [⟨some 2, .box (.t 0), none⟩, ⟨some 4, .mov (.c (.bool false)), none⟩])
 (.seq
 (.region [⟨some 5, .mov (.t 1), none⟩, ⟨some 6, .fa 19 (.t 2), none⟩, ⟨some 7, .iar 8 1 (.t 6) (.t 5), none⟩, ⟨some 8, .ld false 1 (.t 7), none⟩, ⟨some 4, .mov (.t 8), none⟩])
 .ret))
def r89 : List AOp := [(.mov (.t 4))]
theorem ok89 : FnOk Try.prog 89 Try.f89.ntmps a89 r89 := ⟨Try.f89, Try.func89, by kernel_rfl, by kernel_rfl, by kernel_rfl, fun asv w => by simp⟩

def a90 : ACode :=
 (.seq
 (.region [⟨some 2, .mov (.c (.slice none 0 0)), none⟩])
 (.seq
 (.seq
 (.region [⟨some 3, .mov (.t 0), none⟩, ⟨some 4, .isn false (.t 3), none⟩])
 (.cond (.t 4)
 (.seq
 (.region [⟨some 2, .mov (.c (.slice none 0 0)), none⟩])
 .ret)
 .skip))
 (.seq
 (.region [⟨some 5, .bsl 0 [] [], none⟩, ⟨some 6, .mov (.t 0), none⟩, ⟨some 7, .app 1 8 (.t 5) (.t 6), none⟩, ⟨some 2, .mov (.t 7), none⟩])
 .ret)))
def r90 : List AOp := [(.mov (.t 2))]
theorem ok90 : FnOk Try.prog 90 Try.f90.ntmps a90 r90 := ⟨Try.f90, Try.func90, by kernel_rfl, by kernel_rfl, by kernel_rfl, fun asv w => by simp⟩

def a91 : ACode :=
 (.seq
 (.seq
 (.region [⟨some 10, .mov (.t 0), none⟩, ⟨some 11, .ld false 1 (.t 1), none⟩, ⟨some 12, .len (.t 11), none⟩, ⟨some 13, .bin .eql (.t 10) (.t 12), none⟩])
 (.cond (.t 13)
 (.seq
 (.seq
 (.region [⟨some 14, .ld true 6 (.t 2), none⟩, ⟨some 15, .ld false 1 (.t 1), none⟩, ⟨some 16, .call (.c (.func (.func 65) #[] #[])) [(.t 14), (.t 15)], none⟩, ⟨some 17, .fld false 0 1 (.t 16), none⟩, ⟨some 8, .mov (.t 17), none⟩])
 (.seq
 (.region [⟨some 18, .mov (.t 8), none⟩, ⟨some 19, .ld false 1 (.t 3), none⟩, ⟨some 20, .bin .lss (.t 18) (.t 19), none⟩])
 (.cond (.t 20)
 (.region [⟨some 21, .ld false 1 (.t 1), none⟩, ⟨some 22, .call (.c (.func (.func 90) #[] #[])) [(.t 21)], none⟩, ⟨some 23, .mov (.t 8), none⟩, ⟨none, .st 1 (.t 4) (.t 22), none⟩, ⟨none, .st 1 (.t 3) (.t 23), none⟩])
 .skip)))
 .ret)
 .skip))
 (.seq
 (.region [⟨some 24, .ld false 1 (.t 5), none⟩, ⟨some 25, .len (.t 24), none⟩, ⟨some 26, .mov (.c (.int .i64 0)), none⟩])
 (.block 0
 (.loop
 (.seq
 (.region [⟨some 27, .bin .lss (.t 26) (.t 25), none⟩])
 (.seq
 (.cond (.t 27)
 .skip
 (.exit 0))
 (.seq
 (.block 1
 (.seq
 (.region [⟨some 28, .mov (.t 26), none⟩, ⟨some 9, .mov (.t 28), none⟩])
 (.seq
 (.region [⟨some 29, .ld false 1 (.t 5), none⟩, ⟨some 30, .mov (.t 9), none⟩, ⟨some 31, .isl 1 (.t 29) (.t 30), none⟩, ⟨some 32, .ld false 1 (.t 31), none⟩, ⟨some 33, .bin .gtr (.t 32) (.c (.int .i64 0)), none⟩])
 (.cond (.t 33)
 (.seq
 (.region [⟨some 34, .ld false 1 (.t 1), none⟩, ⟨some 35, .mov (.t 0), none⟩, ⟨some 36, .mov (.t 9), none⟩, ⟨some 37, .isl 1 (.t 34) (.t 35), none⟩, ⟨none, .st 1 (.t 37) (.t 36), none⟩])
 (.seq
 (.region [⟨some 38, .ld false 1 (.t 5), none⟩, ⟨some 39, .mov (.t 9), none⟩, ⟨some 40, .isl 1 (.t 38) (.t 39), none⟩, ⟨some 41, .ld false 1 (.t 40), none⟩, ⟨some 42, .bin .sub (.t 41) (.c (.int .i64 1)), none⟩, ⟨some 43, .isl 1 (.t 38) (.t 39), none⟩, ⟨none, .st 1 (.t 43) (.t 42), none⟩])
 (.seq
 (.region [⟨some 44, .ld false 1 (.t 6), none⟩, ⟨some 45, .mov (.t 0), none⟩, ⟨some 46, .bin .add (.t 45) (.c (.int .i64 1)), none⟩, ⟨some 47, .call (.t 44) [(.t 46)], none⟩])
 (.region [⟨some 48, .ld false 1 (.t 5), none⟩, ⟨some 49, .mov (.t 9), none⟩, ⟨some 50, .isl 1 (.t 48) (.t 49), none⟩, ⟨some 51, .ld false 1 (.t 50), none⟩, ⟨some 52, .bin .add (.t 51) (.c (.int .i64 1)), none⟩, ⟨some 53, .isl 1 (.t 48) (.t 49), none⟩, ⟨none, .st 1 (.t 53) (.t 52), none⟩]))))
 .skip))))
 (.region [⟨some 54, .bin .add (.t 26) (.c (.int .i64 1)), none⟩, ⟨some 26, .mov (.t 54), none⟩]))))))))
def r91 : List AOp := []
theorem ok91 : FnOk Try.prog 91 Try.f91.ntmps a91 r91 := ⟨Try.f91, Try.func91, by kernel_rfl, by kernel_rfl, by kernel_rfl, fun asv w => by simp⟩

def a92 : ACode :=
 (.seq
 (.region [⟨some 2, .box (.t 0), none⟩, ⟨some 3, .box (.t 1), none⟩, ⟨some 4, .mov (.c (.bool false)), none⟩])
 (.seq
 (.region [⟨some 5, .fa 0 (.t 2), none⟩, ⟨some 6, .ld false 1 (.t 5), none⟩, ⟨some 7, .fa 1 (.t 3), none⟩, ⟨some 8, .ld false 1 (.t 7), none⟩, ⟨some 9, .bin .leq (.t 6) (.t 8), none⟩, ⟨some 4, .mov (.t 9), none⟩])
 .ret))
def r92 : List AOp := [(.mov (.t 4))]
theorem ok92 : FnOk Try.prog 92 Try.f92.ntmps a92 r92 := ⟨Try.f92, Try.func92, by kernel_rfl, by kernel_rfl, by kernel_rfl, fun asv w => by simp⟩

def a93 : ACode :=
 (.seq
 (.region [⟨some 2, .box (.t 0), none⟩, ⟨some 3, .box (.t 1), none⟩, ⟨some 4, .mov (.c (.bool false)), none⟩])
 (.seq
 (.region [⟨some 5, .ld true 3 (.t 3), none⟩, ⟨some 6, .ld true 3 (.t 2), none⟩, ⟨some 7, .call (.c (.func (.func 92) #[] #[])) [(.t 5), (.t 6)], none⟩, ⟨some 4, .mov (.t 7), none⟩])
 .ret))
def r93 : List AOp := [(.mov (.t 4))]
theorem ok93 : FnOk Try.prog 93 Try.f93.ntmps a93 r93 := ⟨Try.f93, Try.func93, by kernel_rfl, by kernel_rfl, by kernel_rfl, fun asv w => by simp⟩

def a94 : ACode :=
 (.seq
 (.region [⟨some 2, .mov (.c (.bool false)), none⟩])
 (.seq
 (.seq
 (.region [⟨some 3, .mov (.c (.int .i64 1)), none⟩])
 (.block 0
 (.loop
 (.seq
 (.seq
 (.region [⟨some 4, .mov (.t 3), none⟩, ⟨some 5, .mov (.t 0), none⟩, ⟨some 6, .len (.t 5), none⟩, ⟨some 7, .bin .lss (.t 4) (.t 6), none⟩])
 (.cond (.t 7)
 .skip
 (.exit 0)))
 (.seq
 (.block 1
 (.seq
 (.draw 10 [⟨⟨some 10, .mov (.t 0), none⟩, 0, false, []⟩, ⟨⟨some 11, .mov (.t 3), none⟩, 1, false, []⟩, ⟨⟨some 12, .isl 1 (.t 10) (.t 11), none⟩, 2, false, []⟩, ⟨⟨some 13, .ld false 1 (.t 12), none⟩, 3, false, []⟩, ⟨⟨some 14, .mov (.t 0), none⟩, 4, false, []⟩, ⟨⟨some 15, .mov (.t 3), none⟩, 5, false, []⟩, ⟨⟨some 16, .bin .sub (.t 15) (.c (.int .i64 1)), none⟩, 6, false, []⟩, ⟨⟨some 17, .isl 1 (.t 14) (.t 16), none⟩, 7, false, []⟩, ⟨⟨some 18, .ld false 1 (.t 17), none⟩, 8, false, []⟩, ⟨⟨some 19, .bin .leq (.t 13) (.t 18), none⟩, 9, false, []⟩])
 (.cond (.t 19)
 (.seq
 (.region [⟨some 2, .mov (.c (.bool false)), none⟩])
 .ret)
 .skip)))
 (.region [⟨some 8, .mov (.t 3), none⟩, ⟨some 9, .bin .add (.t 8) (.c (.int .i64 1)), none⟩, ⟨some 3, .mov (.t 9), none⟩]))))))
 (.seq
 (.region [⟨some 2, .mov (.c (.bool true)), none⟩])
 .ret)))
def r94 : List AOp := [(.mov (.t 2))]
theorem ok94 : FnOk Try.prog 94 Try.f94.ntmps a94 r94 := ⟨Try.f94, Try.func94, by kernel_rfl, by kernel_rfl, by kernel_rfl, fun asv w => by simp⟩

def a95 : ACode :=
 (.seq
 (.region [⟨some 5, .ld true 27 (.t 1), none⟩, ⟨some 6, .fn (.func 96) [] [(.t 1)], none⟩, ⟨some 7, .bsl 1 [.nilFunc] [(0, 1, (.t 6))], none⟩, ⟨some 8, .call (.c (.func (.func 87) #[] #[])) [(.t 5), (.t 7)], none⟩, ⟨some 9, .len (.t 8), none⟩, ⟨some 10, .mov (.c (.int .i64 0)), none⟩])
 (.block 0
 (.loop
 (.seq
 (.region [⟨some 11, .bin .lss (.t 10) (.t 9), none⟩])
 (.seq
 (.cond (.t 11)
 .skip
 (.exit 0))
 (.seq
 (.block 1
 (.seq
 (.region [⟨some 12, .isl 1 (.t 8) (.t 10), none⟩, ⟨some 13, .ld false 1 (.t 12), none⟩, ⟨some 4, .mov (.t 13), none⟩])
 (.seq
 (.region [⟨some 14, .ld true 27 (.t 1), none⟩, ⟨some 15, .mov (.t 4), none⟩, ⟨some 16, .call (.c (.func (.func 89) #[] #[])) [(.t 14), (.t 15)], none⟩, ⟨some 17, .not (.t 16), none⟩, ⟨some 18, .mov (.t 17), none⟩, ⟨some 19, .mov (.t 0), (some (18, true))⟩, ⟨some 20, .mov (.t 4), (some (18, true))⟩, ⟨some 21, .call (.t 19) [(.t 20)], (some (18, true))⟩, ⟨some 22, .not (.t 21), (some (18, true))⟩, ⟨some 23, .pick (.t 18) (.t 22) (.c (.bool false)), none⟩])
 (.cond (.t 23)
 .ret
 .skip))))
 (.region [⟨some 24, .bin .add (.t 10) (.c (.int .i64 1)), none⟩, ⟨some 10, .mov (.t 24), none⟩])))))))
def r95 : List AOp := []
theorem ok95 : FnOk Try.prog 95 Try.f95.ntmps a95 r95 := ⟨Try.f95, Try.func95, by kernel_rfl, by kernel_rfl, by kernel_rfl, fun asv w => by simp⟩

def a96 : ACode :=
 (.seq
 (.region [⟨some 3, .mov (.c (.int .i64 0)), none⟩])
 (.seq
 (.region [⟨some 4, .fa 0 (.t 1), none⟩, ⟨some 5, .fa 1 (.t 4), none⟩, ⟨some 6, .ld false 1 (.t 5), none⟩, ⟨some 7, .mov (.t 0), none⟩, ⟨some 8, .isl 3 (.t 6) (.t 7), none⟩, ⟨some 9, .fa 2 (.t 8), none⟩, ⟨some 10, .ld false 1 (.t 9), none⟩, ⟨some 3, .mov (.t 10), none⟩])
 .ret))
def r96 : List AOp := [(.mov (.t 3))]
theorem ok96 : FnOk Try.prog 96 Try.f96.ntmps a96 r96 := ⟨Try.f96, Try.func96, by kernel_rfl, by kernel_rfl, by kernel_rfl, fun asv w => by simp⟩

def a97 : ACode :=
 (.seq
 (.region [⟨some 2, .box (.t 0), none⟩, ⟨some 4, .mov (.c (.bool false)), none⟩])
 (.seq
 (.region [⟨some 5, .mov (.t 1), none⟩, ⟨some 6, .fa 0 (.t 2), none⟩, ⟨some 7, .ld false 1 (.t 6), none⟩, ⟨some 8, .len (.t 7), none⟩, ⟨some 9, .bin .sub (.t 8) (.c (.int .i64 1)), none⟩, ⟨some 10, .call (.c (.func (.func 54) #[] #[])) [(.t 5), (.c (.int .i64 0)), (.t 9)], none⟩, ⟨some 4, .mov (.t 10), none⟩])
 .ret))
def r97 : List AOp := [(.mov (.t 4))]
theorem ok97 : FnOk Try.prog 97 Try.f97.ntmps a97 r97 := ⟨Try.f97, Try.func97, by kernel_rfl, by kernel_rfl, by kernel_rfl, fun asv w => by simp⟩

def a98 : ACode :=
 (.seq
 (.region [⟨some 2, .box (.t 0), none⟩, ⟨some 3, .box (.t 1), none⟩, ⟨some 4, .mov (.c .nilFunc), none⟩])
 (.seq
 (.region [⟨some 5, .fn (.func 104) [] [(.t 2), (.t 3)], none⟩, ⟨some 4, .mov (.t 5), none⟩])
 .ret))
def r98 : List AOp := [(.mov (.t 4))]
theorem ok98 : FnOk Try.prog 98 Try.f98.ntmps a98 r98 := ⟨Try.f98, Try.func98, by kernel_rfl, by kernel_rfl, by kernel_rfl, fun asv w => by simp⟩

def a99 : ACode :=
 (.seq
 (.region [⟨some 4, .box (.t 0), none⟩, ⟨some 5, .box (.t 1), none⟩, ⟨some 8, .new [(.int .i64 0), (.int .i64 0), (.int .i64 0), (.int .i64 0), (.int .i64 0), (.int .i64 0), (.int .i64 0), (.int .i64 0), (.int .i64 0), (.bool false), (.bool false), (.bool false), (.bool false), (.bool false), (.bool false), (.bool false), (.bool false)], none⟩])
 (.seq
 (.region [⟨some 13, .ld true 10 (.t 5), none⟩, ⟨some 14, .mov (.t 2), none⟩, ⟨some 15, .mov (.t 3), none⟩, ⟨some 16, .call (.c (.func (.func 105) #[] #[])) [(.t 13), (.t 14), (.t 15)], none⟩, ⟨some 9, .new [(.bool false), (.bool false), (.bool false), (.bool false), (.bool false), (.bool false), (.bool false), (.bool false), (.int .i64 0), (.int .i64 0)], none⟩, ⟨none, .st 10 (.t 9) (.t 16), none⟩])
 (.seq
 (.region [⟨some 17, .ld true 6 (.t 4), none⟩, ⟨some 18, .ld true 10 (.t 9), none⟩, ⟨some 19, .call (.c (.func (.func 83) #[] #[])) [(.t 17), (.t 18)], none⟩, ⟨some 10, .new [(.int .i64 0), (.int .i64 0), (.int .i64 0), (.int .i64 0), (.int .i64 0), (.int .i64 0), (.int .i64 0), (.int .i64 0), (.int .i64 0), (.bool false), (.bool false), (.bool false), (.bool false), (.bool false), (.bool false), (.bool false), (.bool false)], none⟩, ⟨none, .st 17 (.t 10) (.t 19), none⟩])
 (.seq
 (.seq
 (.region [⟨some 20, .fa 0 (.t 9), none⟩, ⟨some 21, .ld true 8 (.t 20), none⟩, ⟨some 22, .mov (.c (.int .i64 0)), none⟩])
 (.block 0
 (.loop
 (.seq
 (.region [⟨some 23, .bin .lss (.t 22) (.c (.int .i64 8)), none⟩])
 (.seq
 (.cond (.t 23)
 .skip
 (.exit 0))
 (.seq
 (.block 1
 (.seq
 (.region [⟨some 24, .idx false 8 1 (.t 21) (.t 22), none⟩, ⟨some 12, .mov (.t 24), none⟩])
 (.seq
 (.region [⟨some 25, .mov (.t 12), none⟩])
 (.cond (.t 25)
 (.region [⟨some 26, .mov (.t 2), none⟩, ⟨some 27, .fa 1 (.t 10), none⟩, ⟨some 28, .iar 8 1 (.t 27) (.t 26), none⟩, ⟨some 29, .ld false 1 (.t 28), none⟩, ⟨some 30, .bin .add (.t 29) (.c (.int .i64 1)), none⟩, ⟨some 31, .fa 1 (.t 10), none⟩, ⟨some 32, .iar 8 1 (.t 31) (.t 26), none⟩, ⟨none, .st 1 (.t 32) (.t 30), none⟩])
 .skip))))
 (.region [⟨some 33, .bin .add (.t 22) (.c (.int .i64 1)), none⟩, ⟨some 22, .mov (.t 33), none⟩])))))))
 (.seq
 (.region [⟨some 34, .mov (.t 2), none⟩, ⟨some 35, .mov (.t 3), none⟩, ⟨some 36, .bin .eql (.t 35) (.c (.int .i64 2001)), none⟩, ⟨some 37, .fa 9 (.t 10), none⟩, ⟨some 38, .iar 8 1 (.t 37) (.t 34), none⟩, ⟨none, .st 1 (.t 38) (.t 36), none⟩])
 (.seq
 (.seq
 (.region [⟨some 39, .fa 8 (.t 5), none⟩, ⟨some 40, .ld false 1 (.t 39), none⟩, ⟨some 41, .mov (.t 3), none⟩, ⟨some 42, .bin .lss (.t 40) (.t 41), none⟩])
 (.cond (.t 42)
 (.region [⟨some 43, .fa 0 (.t 10), none⟩, ⟨some 44, .ld false 1 (.t 43), none⟩, ⟨some 45, .bin .add (.t 44) (.c (.int .i64 1)), none⟩, ⟨some 46, .fa 0 (.t 10), none⟩, ⟨none, .st 1 (.t 46) (.t 45), none⟩])
 .skip))
 (.seq
 (.region [⟨some 47, .ld true 17 (.t 10), none⟩, ⟨none, .st 17 (.t 8) (.t 47), none⟩])
 .ret)))))))
def r99 : List AOp := [(.ld true 17 (.t 8))]
theorem ok99 : FnOk Try.prog 99 Try.f99.ntmps a99 r99 := ⟨Try.f99, Try.func99, by kernel_rfl, by kernel_rfl, by kernel_rfl, fun asv w => by simp⟩

def a100 : ACode :=
 (.region [⟨some 4, .mov (.t 0), none⟩, ⟨some 5, .mov (.t 0), none⟩, ⟨some 6, .len (.t 5), none⟩, ⟨some 7, .mov (.t 1), none⟩, ⟨some 8, .call (.c (.func (.func 106) #[] #[])) [(.t 4), (.t 6), (.t 7)], none⟩])
def r100 : List AOp := []
theorem ok100 : FnOk Try.prog 100 Try.f100.ntmps a100 r100 := ⟨Try.f100, Try.func100, by kernel_rfl, by kernel_rfl, by kernel_rfl, fun asv w => by simp⟩

def a101 : ACode :=
 (.seq
 (.region [⟨some 5, .mov (.c (.int .i64 0)), none⟩])
 (.seq
 (.seq
 (.region [⟨some 9, .ld false 1 (.t 2), none⟩, ⟨some 10, .len (.t 9), none⟩, ⟨some 11, .mov (.c (.int .i64 0)), none⟩])
 (.block 0
 (.loop
 (.seq
 (.region [⟨some 12, .bin .lss (.t 11) (.t 10), none⟩])
 (.seq
 (.cond (.t 12)
 .skip
 (.exit 0))
 (.seq
 (.block 1
 (.seq
 (.region [⟨some 13, .isl 1 (.t 9) (.t 11), none⟩, ⟨some 14, .ld false 1 (.t 13), none⟩, ⟨some 7, .mov (.t 14), none⟩])
 (.seq
 (.region [⟨some 15, .mov (.t 7), none⟩, ⟨some 16, .mov (.t 0), none⟩, ⟨some 17, .call (.t 15) [(.t 16)], none⟩, ⟨some 18, .mov (.t 7), none⟩, ⟨some 19, .mov (.t 1), none⟩, ⟨some 20, .call (.t 18) [(.t 19)], none⟩, ⟨some 21, .call (.c (.func (.func 102) #[] #[])) [(.t 17), (.t 20)], none⟩, ⟨some 8, .mov (.t 21), none⟩])
 (.seq
 (.region [⟨some 22, .mov (.t 8), none⟩, ⟨some 23, .bin .neq (.t 22) (.c (.int .i64 0)), none⟩])
 (.cond (.t 23)
 (.seq
 (.region [⟨some 24, .mov (.t 8), none⟩, ⟨some 5, .mov (.t 24), none⟩])
 .ret)
 .skip)))))
 (.region [⟨some 25, .bin .add (.t 11) (.c (.int .i64 1)), none⟩, ⟨some 11, .mov (.t 25), none⟩])))))))
 (.seq
 (.region [⟨some 5, .mov (.c (.int .i64 0)), none⟩])
 .ret)))
def r101 : List AOp := [(.mov (.t 5))]
theorem ok101 : FnOk Try.prog 101 Try.f101.ntmps a101 r101 := ⟨Try.f101, Try.func101, by kernel_rfl, by kernel_rfl, by kernel_rfl, fun asv w => by simp⟩

def a102 : ACode :=
 (.seq
 (.region [⟨some 4, .mov (.c (.int .i64 0)), none⟩])
 (.seq
 (.region [⟨some 7, .mov (.t 0), none⟩, ⟨some 8, .call (.c (.func (.func 107) #[] #[])) [(.t 7)], none⟩, ⟨some 5, .mov (.t 8), none⟩])
 (.seq
 (.region [⟨some 9, .mov (.t 1), none⟩, ⟨some 10, .call (.c (.func (.func 107) #[] #[])) [(.t 9)], none⟩, ⟨some 6, .mov (.t 10), none⟩])
 (.seq
 (.seq
 (.region [⟨some 11, .mov (.t 5), none⟩])
 (.cond (.t 11)
 (.seq
 (.seq
 (.region [⟨some 12, .mov (.t 6), none⟩])
 (.cond (.t 12)
 (.seq
 (.region [⟨some 4, .mov (.c (.int .i64 0)), none⟩])
 .ret)
 .skip))
 (.seq
 (.region [⟨some 4, .mov (.c (.int .i64 (-1))), none⟩])
 .ret))
 .skip))
 (.seq
 (.seq
 (.region [⟨some 13, .mov (.t 6), none⟩])
 (.cond (.t 13)
 (.seq
 (.region [⟨some 4, .mov (.c (.int .i64 1)), none⟩])
 .ret)
 .skip))
 (.seq
 (.seq
 (.region [⟨some 14, .mov (.t 0), none⟩, ⟨some 15, .mov (.t 1), none⟩, ⟨some 16, .bin .lss (.t 14) (.t 15), none⟩])
 (.cond (.t 16)
 (.seq
 (.region [⟨some 4, .mov (.c (.int .i64 (-1))), none⟩])
 .ret)
 .skip))
 (.seq
 (.seq
 (.region [⟨some 17, .mov (.t 0), none⟩, ⟨some 18, .mov (.t 1), none⟩, ⟨some 19, .bin .gtr (.t 17) (.t 18), none⟩])
 (.cond (.t 19)
 (.seq
 (.region [⟨some 4, .mov (.c (.int .i64 1)), none⟩])
 .ret)
 .skip))
 (.seq
 (.region [⟨some 4, .mov (.c (.int .i64 0)), none⟩])
 .ret))))))))
def r102 : List AOp := [(.mov (.t 4))]
theorem ok102 : FnOk Try.prog 102 Try.f102.ntmps a102 r102 := ⟨Try.f102, Try.func102, by kernel_rfl, by kernel_rfl, by kernel_rfl, fun asv w => by simp⟩

def a103 : ACode :=
 (.seq
 (.region [⟨some 2, .mov (.c (.int .i64 0)), none⟩])
 (.seq
 (.region [⟨some 3, .mov (.c (.int .i64 0)), none⟩])
 (.seq
 (.seq
 (.region [⟨some 6, .mov (.t 0), none⟩, ⟨some 7, .len (.t 6), none⟩, ⟨some 8, .mov (.c (.int .i64 0)), none⟩])
 (.block 0
 (.loop
 (.seq
 (.region [⟨some 9, .bin .lss (.t 8) (.t 7), none⟩])
 (.seq
 (.cond (.t 9)
 .skip
 (.exit 0))
 (.seq
 (.block 1
 (.seq
 (.region [⟨some 10, .isl 1 (.t 6) (.t 8), none⟩, ⟨some 11, .ld false 1 (.t 10), none⟩, ⟨some 5, .mov (.t 11), none⟩])
 (.region [⟨some 12, .mov (.t 3), none⟩, ⟨some 13, .mov (.t 5), none⟩, ⟨some 14, .gen 17 ⟨some 14, (.call ⟨.builtin .max, #[(.tmp 12), (.tmp 13)], #[3, 3]⟩), 3, "night.go:160", #[{ on := 0, ground := Go.Ground.data }, { on := 1, ground := Go.Ground.data }], none⟩, none⟩, ⟨some 3, .mov (.t 14), none⟩])))
 (.region [⟨some 15, .bin .add (.t 8) (.c (.int .i64 1)), none⟩, ⟨some 8, .mov (.t 15), none⟩])))))))
 (.seq
 (.region [⟨some 16, .mov (.t 3), none⟩, ⟨some 2, .mov (.t 16), none⟩])
 .ret))))
def r103 : List AOp := [(.mov (.t 2))]
theorem ok103 : FnOk Try.prog 103 Try.f103.ntmps a103 r103 := ⟨Try.f103, Try.func103, by kernel_rfl, by kernel_rfl, by kernel_rfl, fun asv w => by simp⟩

def a104 : ACode :=
 (.seq
 .skip
 (.seq
 (.region [⟨some 8, .fa 0 (.t 1), none⟩, ⟨some 9, .fa 1 (.t 8), none⟩, ⟨some 10, .ld false 1 (.t 9), none⟩, ⟨some 11, .len (.t 10), none⟩, ⟨some 12, .mov (.c (.int .i64 0)), none⟩])
 (.block 0
 (.loop
 (.seq
 (.region [⟨some 13, .bin .lss (.t 12) (.t 11), none⟩])
 (.seq
 (.cond (.t 13)
 .skip
 (.exit 0))
 (.seq
 (.block 1
 (.seq
 (.region [⟨some 14, .mov (.t 12), none⟩, ⟨some 15, .isl 3 (.t 10) (.t 12), none⟩, ⟨some 16, .ld true 3 (.t 15), none⟩, ⟨some 5, .new [(.int .i64 0), (.int .i64 0), (.int .i64 0)], none⟩, ⟨some 4, .mov (.t 14), none⟩, ⟨none, .st 3 (.t 5) (.t 16), none⟩])
 (.seq
 (.seq
 (.region [⟨some 17, .mov (.t 4), none⟩, ⟨some 18, .iar 8 1 (.t 2) (.t 17), none⟩, ⟨some 19, .ld false 1 (.t 18), none⟩, ⟨some 20, .not (.t 19), none⟩])
 (.cond (.t 20)
 (.exit 1)
 .skip))
 (.seq
 (.seq
 (.region [⟨some 21, .fa 0 (.t 1), none⟩, ⟨some 22, .fa 1 (.t 21), none⟩, ⟨some 23, .ld false 1 (.t 22), none⟩, ⟨some 24, .len (.t 23), none⟩, ⟨some 25, .mov (.c (.int .i64 0)), none⟩])
 (.block 2
 (.loop
 (.seq
 (.region [⟨some 26, .bin .lss (.t 25) (.t 24), none⟩])
 (.seq
 (.cond (.t 26)
 .skip
 (.exit 2))
 (.seq
 (.block 3
 (.seq
 (.region [⟨some 27, .mov (.t 25), none⟩, ⟨some 28, .isl 3 (.t 23) (.t 25), none⟩, ⟨some 29, .ld true 3 (.t 28), none⟩, ⟨some 7, .new [(.int .i64 0), (.int .i64 0), (.int .i64 0)], none⟩, ⟨some 6, .mov (.t 27), none⟩, ⟨none, .st 3 (.t 7) (.t 29), none⟩])
 (.seq
 (.region [⟨some 30, .mov (.t 6), none⟩, ⟨some 31, .iar 8 1 (.t 2) (.t 30), none⟩, ⟨some 32, .ld false 1 (.t 31), none⟩, ⟨some 33, .mov (.t 32), none⟩, ⟨some 34, .fa 3 (.t 1), (some (33, true))⟩, ⟨some 35, .fa 1 (.t 34), (some (33, true))⟩, ⟨some 36, .ld false 1 (.t 35), (some (33, true))⟩, ⟨some 37, .ld true 3 (.t 5), (some (33, true))⟩, ⟨some 38, .ld true 3 (.t 7), (some (33, true))⟩, ⟨some 39, .call (.t 36) [(.t 37), (.t 38)], (some (33, true))⟩, ⟨some 40, .not (.t 39), (some (33, true))⟩, ⟨some 41, .pick (.t 33) (.t 40) (.c (.bool false)), none⟩])
 (.cond (.t 41)
 (.exit 1)
 .skip))))
 (.region [⟨some 42, .bin .add (.t 25) (.c (.int .i64 1)), none⟩, ⟨some 25, .mov (.t 42), none⟩])))))))
 (.seq
 (.region [⟨some 43, .mov (.t 0), none⟩, ⟨some 44, .mov (.t 4), none⟩, ⟨some 45, .call (.t 43) [(.t 44)], none⟩, ⟨some 46, .not (.t 45), none⟩])
 (.cond (.t 46)
 .ret
 .skip))))))
 (.region [⟨some 47, .bin .add (.t 12) (.c (.int .i64 1)), none⟩, ⟨some 12, .mov (.t 47), none⟩]))))))))
def r104 : List AOp := []
theorem ok104 : FnOk Try.prog 104 Try.f104.ntmps a104 r104 := ⟨Try.f104, Try.func104, by kernel_rfl, by kernel_rfl, by kernel_rfl, fun asv w => by simp⟩

def a105 : ACode :=
 (.seq
 (.region [⟨some 3, .box (.t 0), none⟩, ⟨some 6, .new [(.bool false), (.bool false), (.bool false), (.bool false), (.bool false), (.bool false), (.bool false), (.bool false), (.int .i64 0), (.int .i64 0)], none⟩])
 (.seq
 (.region [⟨some 7, .mov (.t 1), none⟩, ⟨some 8, .fa 0 (.t 3), none⟩, ⟨some 9, .iar 8 1 (.t 8) (.t 7), none⟩, ⟨none, .st 1 (.t 9) (.c (.bool false)), none⟩])
 (.seq
 (.region [⟨some 10, .fa 8 (.t 3), none⟩, ⟨some 11, .ld false 1 (.t 10), none⟩, ⟨some 12, .mov (.t 2), none⟩, ⟨some 13, .gen 22 ⟨some 13, (.call ⟨.builtin .min, #[(.tmp 11), (.tmp 12)], #[3, 3]⟩), 3, "search.go:25", #[{ on := 1, ground := Go.Ground.data }, { on := 2, ground := Go.Ground.data }], none⟩, none⟩, ⟨some 14, .fa 8 (.t 3), none⟩, ⟨none, .st 1 (.t 14) (.t 13), none⟩])
 (.seq
 (.seq
 (.region [⟨some 15, .mov (.t 2), none⟩, ⟨some 16, .bin .eql (.t 15) (.c (.int .i64 2001)), none⟩])
 (.cond (.t 16)
 (.region [⟨some 17, .fa 9 (.t 3), none⟩, ⟨some 18, .ld false 1 (.t 17), none⟩, ⟨some 19, .bin .sub (.t 18) (.c (.int .i64 1)), none⟩, ⟨some 20, .fa 9 (.t 3), none⟩, ⟨none, .st 1 (.t 20) (.t 19), none⟩])
 .skip))
 (.seq
 (.region [⟨some 21, .ld true 10 (.t 3), none⟩, ⟨none, .st 10 (.t 6) (.t 21), none⟩])
 .ret)))))
def r105 : List AOp := [(.ld true 10 (.t 6))]
theorem ok105 : FnOk Try.prog 105 Try.f105.ntmps a105 r105 := ⟨Try.f105, Try.func105, by kernel_rfl, by kernel_rfl, by kernel_rfl, fun asv w => by simp⟩

def a106 : ACode :=
 (.seq
 (.region [⟨some 6, .mov (.c (.int .i64 20)), none⟩])
 (.seq
 (.region [⟨some 10, .mov (.t 6), none⟩, ⟨some 7, .mov (.c (.int .i64 0)), none⟩, ⟨some 8, .mov (.t 10), none⟩])
 (.seq
 (.block 0
 (.loop
 (.seq
 (.seq
 (.region [⟨some 11, .mov (.t 8), none⟩, ⟨some 12, .mov (.t 1), none⟩, ⟨some 13, .bin .leq (.t 11) (.t 12), none⟩])
 (.cond (.t 13)
 .skip
 (.exit 0)))
 (.block 1
 (.seq
 (.region [⟨some 14, .mov (.t 0), none⟩, ⟨some 15, .mov (.t 7), none⟩, ⟨some 16, .mov (.t 8), none⟩, ⟨some 17, .mov (.t 2), none⟩, ⟨some 18, .call (.c (.func (.func 108) #[] #[])) [(.t 14), (.t 15), (.t 16), (.t 17)], none⟩])
 (.seq
 (.region [⟨some 19, .mov (.t 8), none⟩, ⟨some 7, .mov (.t 19), none⟩])
 (.region [⟨some 20, .mov (.t 8), none⟩, ⟨some 21, .mov (.t 6), none⟩, ⟨some 22, .bin .add (.t 20) (.t 21), none⟩, ⟨some 8, .mov (.t 22), none⟩])))))))
 (.seq
 (.region [⟨some 23, .mov (.t 0), none⟩, ⟨some 24, .mov (.t 7), none⟩, ⟨some 25, .mov (.t 1), none⟩, ⟨some 26, .mov (.t 2), none⟩, ⟨some 27, .call (.c (.func (.func 108) #[] #[])) [(.t 23), (.t 24), (.t 25), (.t 26)], none⟩])
 (.block 2
 (.loop
 (.seq
 (.seq
 (.region [⟨some 28, .mov (.t 6), none⟩, ⟨some 29, .mov (.t 1), none⟩, ⟨some 30, .bin .lss (.t 28) (.t 29), none⟩])
 (.cond (.t 30)
 .skip
 (.exit 2)))
 (.block 3
 (.seq
 (.region [⟨some 31, .mov (.t 6), none⟩, ⟨some 32, .bin .mul (.c (.int .i64 2)) (.t 31), none⟩, ⟨some 7, .mov (.c (.int .i64 0)), none⟩, ⟨some 8, .mov (.t 32), none⟩])
 (.seq
 (.block 4
 (.loop
 (.seq
 (.seq
 (.region [⟨some 33, .mov (.t 8), none⟩, ⟨some 34, .mov (.t 1), none⟩, ⟨some 35, .bin .leq (.t 33) (.t 34), none⟩])
 (.cond (.t 35)
 .skip
 (.exit 4)))
 (.block 5
 (.seq
 (.region [⟨some 36, .mov (.t 0), none⟩, ⟨some 37, .mov (.t 7), none⟩, ⟨some 38, .mov (.t 7), none⟩, ⟨some 39, .mov (.t 6), none⟩, ⟨some 40, .bin .add (.t 38) (.t 39), none⟩, ⟨some 41, .mov (.t 8), none⟩, ⟨some 42, .mov (.t 2), none⟩, ⟨some 43, .call (.c (.func (.func 109) #[] #[])) [(.t 36), (.t 37), (.t 40), (.t 41), (.t 42)], none⟩])
 (.seq
 (.region [⟨some 44, .mov (.t 8), none⟩, ⟨some 7, .mov (.t 44), none⟩])
 (.region [⟨some 45, .mov (.t 8), none⟩, ⟨some 46, .mov (.t 6), none⟩, ⟨some 47, .bin .mul (.c (.int .i64 2)) (.t 46), none⟩, ⟨some 48, .bin .add (.t 45) (.t 47), none⟩, ⟨some 8, .mov (.t 48), none⟩])))))))
 (.seq
 (.seq
 (.region [⟨some 49, .mov (.t 7), none⟩, ⟨some 50, .mov (.t 6), none⟩, ⟨some 51, .bin .add (.t 49) (.t 50), none⟩, ⟨some 9, .mov (.t 51), none⟩])
 (.seq
 (.region [⟨some 52, .mov (.t 9), none⟩, ⟨some 53, .mov (.t 1), none⟩, ⟨some 54, .bin .lss (.t 52) (.t 53), none⟩])
 (.cond (.t 54)
 (.region [⟨some 55, .mov (.t 0), none⟩, ⟨some 56, .mov (.t 7), none⟩, ⟨some 57, .mov (.t 9), none⟩, ⟨some 58, .mov (.t 1), none⟩, ⟨some 59, .mov (.t 2), none⟩, ⟨some 60, .call (.c (.func (.func 109) #[] #[])) [(.t 55), (.t 56), (.t 57), (.t 58), (.t 59)], none⟩])
 .skip)))
 (.region [⟨some 61, .mov (.t 6), none⟩, ⟨some 62, .bin .mul (.t 61) (.c (.int .i64 2)), none⟩, ⟨some 6, .mov (.t 62), none⟩]))))))))))))
def r106 : List AOp := []
theorem ok106 : FnOk Try.prog 106 Try.f106.ntmps a106 r106 := ⟨Try.f106, Try.func106, by kernel_rfl, by kernel_rfl, by kernel_rfl, fun asv w => by simp⟩

def a107 : ACode :=
 (.seq
 (.region [⟨some 2, .mov (.c (.bool false)), none⟩])
 (.seq
 (.region [⟨some 3, .mov (.t 0), none⟩, ⟨some 4, .mov (.t 0), none⟩, ⟨some 5, .bin .neq (.t 3) (.t 4), none⟩, ⟨some 2, .mov (.t 5), none⟩])
 .ret))
def r107 : List AOp := [(.mov (.t 2))]
theorem ok107 : FnOk Try.prog 107 Try.f107.ntmps a107 r107 := ⟨Try.f107, Try.func107, by kernel_rfl, by kernel_rfl, by kernel_rfl, fun asv w => by simp⟩

def a108 : ACode :=
 (.seq
 (.region [⟨some 10, .mov (.t 1), none⟩, ⟨some 11, .bin .add (.t 10) (.c (.int .i64 1)), none⟩, ⟨some 8, .mov (.t 11), none⟩])
 (.block 0
 (.loop
 (.seq
 (.seq
 (.region [⟨some 12, .mov (.t 8), none⟩, ⟨some 13, .mov (.t 2), none⟩, ⟨some 14, .bin .lss (.t 12) (.t 13), none⟩])
 (.cond (.t 14)
 .skip
 (.exit 0)))
 (.seq
 (.block 1
 (.seq
 (.region [⟨some 17, .mov (.t 8), none⟩, ⟨some 9, .mov (.t 17), none⟩])
 (.block 2
 (.loop
 (.seq
 (.seq
 (.draw 17 [⟨⟨some 18, .mov (.t 9), none⟩, 0, false, []⟩, ⟨⟨some 19, .mov (.t 1), none⟩, 1, false, []⟩, ⟨⟨some 20, .bin .gtr (.t 18) (.t 19), none⟩, 2, false, []⟩, ⟨⟨some 21, .mov (.t 20), none⟩, 3, false, []⟩, ⟨⟨some 22, .mov (.t 3), (some (21, true))⟩, 4, false, []⟩, ⟨⟨some 23, .mov (.t 0), (some (21, true))⟩, 5, false, []⟩, ⟨⟨some 24, .mov (.t 9), (some (21, true))⟩, 6, false, []⟩, ⟨⟨some 25, .isl 1 (.t 23) (.t 24), (some (21, true))⟩, 7, false, []⟩, ⟨⟨some 26, .ld false 1 (.t 25), (some (21, true))⟩, 8, false, []⟩, ⟨⟨some 27, .mov (.t 0), (some (21, true))⟩, 9, false, []⟩, ⟨⟨some 28, .mov (.t 9), (some (21, true))⟩, 10, false, []⟩, ⟨⟨some 29, .bin .sub (.t 28) (.c (.int .i64 1)), (some (21, true))⟩, 11, false, []⟩, ⟨⟨some 30, .isl 1 (.t 27) (.t 29), (some (21, true))⟩, 12, false, []⟩, ⟨⟨some 31, .ld false 1 (.t 30), (some (21, true))⟩, 13, false, []⟩, ⟨⟨some 32, .call (.t 22) [(.t 26), (.t 31)], (some (21, true))⟩, 14, true, []⟩, ⟨⟨some 33, .bin .lss (.t 32) (.c (.int .i64 0)), (some (21, true))⟩, 15, false, []⟩, ⟨⟨some 34, .pick (.t 21) (.t 33) (.c (.bool false)), none⟩, 16, false, []⟩])
 (.cond (.t 34)
 .skip
 (.exit 2)))
 (.seq
 (.block 3
 (.draw 18 [⟨⟨some 37, .mov (.t 0), none⟩, 0, false, []⟩, ⟨⟨some 38, .mov (.t 9), none⟩, 1, false, []⟩, ⟨⟨some 39, .mov (.t 0), none⟩, 2, false, []⟩, ⟨⟨some 40, .mov (.t 9), none⟩, 3, false, []⟩, ⟨⟨some 41, .bin .sub (.t 40) (.c (.int .i64 1)), none⟩, 4, false, []⟩, ⟨⟨some 42, .mov (.t 0), none⟩, 5, false, []⟩, ⟨⟨some 43, .mov (.t 9), none⟩, 6, false, []⟩, ⟨⟨some 44, .bin .sub (.t 43) (.c (.int .i64 1)), none⟩, 7, false, []⟩, ⟨⟨some 45, .isl 1 (.t 42) (.t 44), none⟩, 8, false, []⟩, ⟨⟨some 46, .ld false 1 (.t 45), none⟩, 9, false, []⟩, ⟨⟨some 47, .mov (.t 0), none⟩, 10, false, []⟩, ⟨⟨some 48, .mov (.t 9), none⟩, 11, false, []⟩, ⟨⟨some 49, .isl 1 (.t 47) (.t 48), none⟩, 12, false, []⟩, ⟨⟨some 50, .ld false 1 (.t 49), none⟩, 13, false, []⟩, ⟨⟨some 51, .isl 1 (.t 37) (.t 38), none⟩, 14, false, []⟩, ⟨⟨none, .st 1 (.t 51) (.t 46), none⟩, 15, true, []⟩, ⟨⟨some 52, .isl 1 (.t 39) (.t 41), none⟩, 16, false, []⟩, ⟨⟨none, .st 1 (.t 52) (.t 50), none⟩, 17, true, []⟩]))
 (.region [⟨some 35, .mov (.t 9), none⟩, ⟨some 36, .bin .sub (.t 35) (.c (.int .i64 1)), none⟩, ⟨some 9, .mov (.t 36), none⟩])))))))
 (.region [⟨some 15, .mov (.t 8), none⟩, ⟨some 16, .bin .add (.t 15) (.c (.int .i64 1)), none⟩, ⟨some 8, .mov (.t 16), none⟩]))))))
def r108 : List AOp := []
theorem ok108 : FnOk Try.prog 108 Try.f108.ntmps a108 r108 := ⟨Try.f108, Try.func108, by kernel_rfl, by kernel_rfl, by kernel_rfl, fun asv w => by simp⟩

def a109 : ACode :=
 (.seq
 (.seq
 (.region [⟨some 25, .mov (.t 2), none⟩, ⟨some 26, .mov (.t 1), none⟩, ⟨some 27, .bin .sub (.t 25) (.t 26), none⟩, ⟨some 28, .bin .eql (.t 27) (.c (.int .i64 1)), none⟩])
 (.cond (.t 28)
 (.seq
 (.region [⟨some 29, .mov (.t 2), none⟩, ⟨some 10, .mov (.t 29), none⟩])
 (.seq
 (.region [⟨some 30, .mov (.t 3), none⟩, ⟨some 11, .mov (.t 30), none⟩])
 (.seq
 (.block 0
 (.loop
 (.seq
 (.seq
 (.region [⟨some 31, .mov (.t 10), none⟩, ⟨some 32, .mov (.t 11), none⟩, ⟨some 33, .bin .lss (.t 31) (.t 32), none⟩])
 (.cond (.t 33)
 .skip
 (.exit 0)))
 (.block 1
 (.seq
 (.region [⟨some 34, .mov (.t 10), none⟩, ⟨some 35, .mov (.t 11), none⟩, ⟨some 36, .bin .add (.t 34) (.t 35), none⟩, ⟨some 37, .cvi .u64 (.t 36), none⟩, ⟨some 38, .gen 220 ⟨some 38, (.binOp .shr 139 (.tmp 37) (.const (.int .u64 1)) 139), 139, "zsortanyfunc.go:389", #[{ on := 3, ground := Go.Ground.data }], none⟩, none⟩, ⟨some 39, .cvi .i64 (.t 38), none⟩, ⟨some 12, .mov (.t 39), none⟩])
 (.seq
 (.draw 11 [⟨⟨some 40, .mov (.t 4), none⟩, 0, false, []⟩, ⟨⟨some 41, .mov (.t 0), none⟩, 1, false, []⟩, ⟨⟨some 42, .mov (.t 12), none⟩, 2, false, []⟩, ⟨⟨some 43, .isl 1 (.t 41) (.t 42), none⟩, 3, false, []⟩, ⟨⟨some 44, .ld false 1 (.t 43), none⟩, 4, false, []⟩, ⟨⟨some 45, .mov (.t 0), none⟩, 5, false, []⟩, ⟨⟨some 46, .mov (.t 1), none⟩, 6, false, []⟩, ⟨⟨some 47, .isl 1 (.t 45) (.t 46), none⟩, 7, false, []⟩, ⟨⟨some 48, .ld false 1 (.t 47), none⟩, 8, false, []⟩, ⟨⟨some 49, .call (.t 40) [(.t 44), (.t 48)], none⟩, 9, true, []⟩, ⟨⟨some 50, .bin .lss (.t 49) (.c (.int .i64 0)), none⟩, 10, false, []⟩])
 (.cond (.t 50)
 (.region [⟨some 51, .mov (.t 12), none⟩, ⟨some 52, .bin .add (.t 51) (.c (.int .i64 1)), none⟩, ⟨some 10, .mov (.t 52), none⟩])
 (.region [⟨some 53, .mov (.t 12), none⟩, ⟨some 11, .mov (.t 53), none⟩]))))))))
 (.seq
 (.seq
 (.region [⟨some 54, .mov (.t 1), none⟩, ⟨some 13, .mov (.t 54), none⟩])
 (.block 2
 (.loop
 (.seq
 (.seq
 (.region [⟨some 55, .mov (.t 13), none⟩, ⟨some 56, .mov (.t 10), none⟩, ⟨some 57, .bin .sub (.t 56) (.c (.int .i64 1)), none⟩, ⟨some 58, .bin .lss (.t 55) (.t 57), none⟩])
 (.cond (.t 58)
 .skip
 (.exit 2)))
 (.seq
 (.block 3
 (.draw 18 [⟨⟨some 61, .mov (.t 0), none⟩, 0, false, []⟩, ⟨⟨some 62, .mov (.t 13), none⟩, 1, false, []⟩, ⟨⟨some 63, .mov (.t 0), none⟩, 2, false, []⟩, ⟨⟨some 64, .mov (.t 13), none⟩, 3, false, []⟩, ⟨⟨some 65, .bin .add (.t 64) (.c (.int .i64 1)), none⟩, 4, false, []⟩, ⟨⟨some 66, .mov (.t 0), none⟩, 5, false, []⟩, ⟨⟨some 67, .mov (.t 13), none⟩, 6, false, []⟩, ⟨⟨some 68, .bin .add (.t 67) (.c (.int .i64 1)), none⟩, 7, false, []⟩, ⟨⟨some 69, .isl 1 (.t 66) (.t 68), none⟩, 8, false, []⟩, ⟨⟨some 70, .ld false 1 (.t 69), none⟩, 9, false, []⟩, ⟨⟨some 71, .mov (.t 0), none⟩, 10, false, []⟩, ⟨⟨some 72, .mov (.t 13), none⟩, 11, false, []⟩, ⟨⟨some 73, .isl 1 (.t 71) (.t 72), none⟩, 12, false, []⟩, ⟨⟨some 74, .ld false 1 (.t 73), none⟩, 13, false, []⟩, ⟨⟨some 75, .isl 1 (.t 61) (.t 62), none⟩, 14, false, []⟩, ⟨⟨none, .st 1 (.t 75) (.t 70), none⟩, 15, true, []⟩, ⟨⟨some 76, .isl 1 (.t 63) (.t 65), none⟩, 16, false, []⟩, ⟨⟨none, .st 1 (.t 76) (.t 74), none⟩, 17, true, []⟩]))
 (.region [⟨some 59, .mov (.t 13), none⟩, ⟨some 60, .bin .add (.t 59) (.c (.int .i64 1)), none⟩, ⟨some 13, .mov (.t 60), none⟩]))))))
 .ret))))
 .skip))
 (.seq
 (.seq
 (.region [⟨some 77, .mov (.t 3), none⟩, ⟨some 78, .mov (.t 2), none⟩, ⟨some 79, .bin .sub (.t 77) (.t 78), none⟩, ⟨some 80, .bin .eql (.t 79) (.c (.int .i64 1)), none⟩])
 (.cond (.t 80)
 (.seq
 (.region [⟨some 81, .mov (.t 1), none⟩, ⟨some 14, .mov (.t 81), none⟩])
 (.seq
 (.region [⟨some 82, .mov (.t 2), none⟩, ⟨some 15, .mov (.t 82), none⟩])
 (.seq
 (.block 4
 (.loop
 (.seq
 (.seq
 (.region [⟨some 83, .mov (.t 14), none⟩, ⟨some 84, .mov (.t 15), none⟩, ⟨some 85, .bin .lss (.t 83) (.t 84), none⟩])
 (.cond (.t 85)
 .skip
 (.exit 4)))
 (.block 5
 (.seq
 (.region [⟨some 86, .mov (.t 14), none⟩, ⟨some 87, .mov (.t 15), none⟩, ⟨some 88, .bin .add (.t 86) (.t 87), none⟩, ⟨some 89, .cvi .u64 (.t 88), none⟩, ⟨some 90, .gen 220 ⟨some 90, (.binOp .shr 139 (.tmp 89) (.const (.int .u64 1)) 139), 139, "zsortanyfunc.go:413", #[{ on := 3, ground := Go.Ground.data }], none⟩, none⟩, ⟨some 91, .cvi .i64 (.t 90), none⟩, ⟨some 16, .mov (.t 91), none⟩])
 (.seq
 (.draw 12 [⟨⟨some 92, .mov (.t 4), none⟩, 0, false, []⟩, ⟨⟨some 93, .mov (.t 0), none⟩, 1, false, []⟩, ⟨⟨some 94, .mov (.t 2), none⟩, 2, false, []⟩, ⟨⟨some 95, .isl 1 (.t 93) (.t 94), none⟩, 3, false, []⟩, ⟨⟨some 96, .ld false 1 (.t 95), none⟩, 4, false, []⟩, ⟨⟨some 97, .mov (.t 0), none⟩, 5, false, []⟩, ⟨⟨some 98, .mov (.t 16), none⟩, 6, false, []⟩, ⟨⟨some 99, .isl 1 (.t 97) (.t 98), none⟩, 7, false, []⟩, ⟨⟨some 100, .ld false 1 (.t 99), none⟩, 8, false, []⟩, ⟨⟨some 101, .call (.t 92) [(.t 96), (.t 100)], none⟩, 9, true, []⟩, ⟨⟨some 102, .bin .lss (.t 101) (.c (.int .i64 0)), none⟩, 10, false, []⟩, ⟨⟨some 103, .not (.t 102), none⟩, 11, false, []⟩])
 (.cond (.t 103)
 (.region [⟨some 104, .mov (.t 16), none⟩, ⟨some 105, .bin .add (.t 104) (.c (.int .i64 1)), none⟩, ⟨some 14, .mov (.t 105), none⟩])
 (.region [⟨some 106, .mov (.t 16), none⟩, ⟨some 15, .mov (.t 106), none⟩]))))))))
 (.seq
 (.seq
 (.region [⟨some 107, .mov (.t 2), none⟩, ⟨some 17, .mov (.t 107), none⟩])
 (.block 6
 (.loop
 (.seq
 (.seq
 (.region [⟨some 108, .mov (.t 17), none⟩, ⟨some 109, .mov (.t 14), none⟩, ⟨some 110, .bin .gtr (.t 108) (.t 109), none⟩])
 (.cond (.t 110)
 .skip
 (.exit 6)))
 (.seq
 (.block 7
 (.draw 18 [⟨⟨some 113, .mov (.t 0), none⟩, 0, false, []⟩, ⟨⟨some 114, .mov (.t 17), none⟩, 1, false, []⟩, ⟨⟨some 115, .mov (.t 0), none⟩, 2, false, []⟩, ⟨⟨some 116, .mov (.t 17), none⟩, 3, false, []⟩, ⟨⟨some 117, .bin .sub (.t 116) (.c (.int .i64 1)), none⟩, 4, false, []⟩, ⟨⟨some 118, .mov (.t 0), none⟩, 5, false, []⟩, ⟨⟨some 119, .mov (.t 17), none⟩, 6, false, []⟩, ⟨⟨some 120, .bin .sub (.t 119) (.c (.int .i64 1)), none⟩, 7, false, []⟩, ⟨⟨some 121, .isl 1 (.t 118) (.t 120), none⟩, 8, false, []⟩, ⟨⟨some 122, .ld false 1 (.t 121), none⟩, 9, false, []⟩, ⟨⟨some 123, .mov (.t 0), none⟩, 10, false, []⟩, ⟨⟨some 124, .mov (.t 17), none⟩, 11, false, []⟩, ⟨⟨some 125, .isl 1 (.t 123) (.t 124), none⟩, 12, false, []⟩, ⟨⟨some 126, .ld false 1 (.t 125), none⟩, 13, false, []⟩, ⟨⟨some 127, .isl 1 (.t 113) (.t 114), none⟩, 14, false, []⟩, ⟨⟨none, .st 1 (.t 127) (.t 122), none⟩, 15, true, []⟩, ⟨⟨some 128, .isl 1 (.t 115) (.t 117), none⟩, 16, false, []⟩, ⟨⟨none, .st 1 (.t 128) (.t 126), none⟩, 17, true, []⟩]))
 (.region [⟨some 111, .mov (.t 17), none⟩, ⟨some 112, .bin .sub (.t 111) (.c (.int .i64 1)), none⟩, ⟨some 17, .mov (.t 112), none⟩]))))))
 .ret))))
 .skip))
 (.seq
 (.region [⟨some 129, .mov (.t 1), none⟩, ⟨some 130, .mov (.t 3), none⟩, ⟨some 131, .bin .add (.t 129) (.t 130), none⟩, ⟨some 132, .cvi .u64 (.t 131), none⟩, ⟨some 133, .gen 220 ⟨some 133, (.binOp .shr 139 (.tmp 132) (.const (.int .u64 1)) 139), 139, "zsortanyfunc.go:427", #[{ on := 3, ground := Go.Ground.data }], none⟩, none⟩, ⟨some 134, .cvi .i64 (.t 133), none⟩, ⟨some 18, .mov (.t 134), none⟩])
 (.seq
 (.region [⟨some 135, .mov (.t 18), none⟩, ⟨some 136, .mov (.t 2), none⟩, ⟨some 137, .bin .add (.t 135) (.t 136), none⟩, ⟨some 19, .mov (.t 137), none⟩])
 (.seq
 (.region [⟨some 20, .mov (.c (.int .i64 0)), none⟩, ⟨some 21, .mov (.c (.int .i64 0)), none⟩])
 (.seq
 (.seq
 (.region [⟨some 138, .mov (.t 2), none⟩, ⟨some 139, .mov (.t 18), none⟩, ⟨some 140, .bin .gtr (.t 138) (.t 139), none⟩])
 (.cond (.t 140)
 (.seq
 (.region [⟨some 141, .mov (.t 19), none⟩, ⟨some 142, .mov (.t 3), none⟩, ⟨some 143, .bin .sub (.t 141) (.t 142), none⟩, ⟨some 20, .mov (.t 143), none⟩])
 (.region [⟨some 144, .mov (.t 18), none⟩, ⟨some 21, .mov (.t 144), none⟩]))
 (.seq
 (.region [⟨some 145, .mov (.t 1), none⟩, ⟨some 20, .mov (.t 145), none⟩])
 (.region [⟨some 146, .mov (.t 2), none⟩, ⟨some 21, .mov (.t 146), none⟩]))))
 (.seq
 (.region [⟨some 147, .mov (.t 19), none⟩, ⟨some 148, .bin .sub (.t 147) (.c (.int .i64 1)), none⟩, ⟨some 22, .mov (.t 148), none⟩])
 (.seq
 (.block 8
 (.loop
 (.seq
 (.seq
 (.region [⟨some 149, .mov (.t 20), none⟩, ⟨some 150, .mov (.t 21), none⟩, ⟨some 151, .bin .lss (.t 149) (.t 150), none⟩])
 (.cond (.t 151)
 .skip
 (.exit 8)))
 (.block 9
 (.seq
 (.region [⟨some 152, .mov (.t 20), none⟩, ⟨some 153, .mov (.t 21), none⟩, ⟨some 154, .bin .add (.t 152) (.t 153), none⟩, ⟨some 155, .cvi .u64 (.t 154), none⟩, ⟨some 156, .gen 220 ⟨some 156, (.binOp .shr 139 (.tmp 155) (.const (.int .u64 1)) 139), 139, "zsortanyfunc.go:440", #[{ on := 3, ground := Go.Ground.data }], none⟩, none⟩, ⟨some 157, .cvi .i64 (.t 156), none⟩, ⟨some 23, .mov (.t 157), none⟩])
 (.seq
 (.draw 14 [⟨⟨some 158, .mov (.t 4), none⟩, 0, false, []⟩, ⟨⟨some 159, .mov (.t 0), none⟩, 1, false, []⟩, ⟨⟨some 160, .mov (.t 22), none⟩, 2, false, []⟩, ⟨⟨some 161, .mov (.t 23), none⟩, 3, false, []⟩, ⟨⟨some 162, .bin .sub (.t 160) (.t 161), none⟩, 4, false, []⟩, ⟨⟨some 163, .isl 1 (.t 159) (.t 162), none⟩, 5, false, []⟩, ⟨⟨some 164, .ld false 1 (.t 163), none⟩, 6, false, []⟩, ⟨⟨some 165, .mov (.t 0), none⟩, 7, false, []⟩, ⟨⟨some 166, .mov (.t 23), none⟩, 8, false, []⟩, ⟨⟨some 167, .isl 1 (.t 165) (.t 166), none⟩, 9, false, []⟩, ⟨⟨some 168, .ld false 1 (.t 167), none⟩, 10, false, []⟩, ⟨⟨some 169, .call (.t 158) [(.t 164), (.t 168)], none⟩, 11, true, []⟩, ⟨⟨some 170, .bin .lss (.t 169) (.c (.int .i64 0)), none⟩, 12, false, []⟩, ⟨⟨some 171, .not (.t 170), none⟩, 13, false, []⟩])
 (.cond (.t 171)
 (.region [⟨some 172, .mov (.t 23), none⟩, ⟨some 173, .bin .add (.t 172) (.c (.int .i64 1)), none⟩, ⟨some 20, .mov (.t 173), none⟩])
 (.region [⟨some 174, .mov (.t 23), none⟩, ⟨some 21, .mov (.t 174), none⟩]))))))))
 (.seq
 (.region [⟨some 175, .mov (.t 19), none⟩, ⟨some 176, .mov (.t 20), none⟩, ⟨some 177, .bin .sub (.t 175) (.t 176), none⟩, ⟨some 24, .mov (.t 177), none⟩])
 (.seq
 (.seq
 (.region [⟨some 178, .mov (.t 20), none⟩, ⟨some 179, .mov (.t 2), none⟩, ⟨some 180, .bin .lss (.t 178) (.t 179), none⟩, ⟨some 181, .mov (.t 180), none⟩, ⟨some 182, .mov (.t 2), (some (181, true))⟩, ⟨some 183, .mov (.t 24), (some (181, true))⟩, ⟨some 184, .bin .lss (.t 182) (.t 183), (some (181, true))⟩, ⟨some 185, .pick (.t 181) (.t 184) (.c (.bool false)), none⟩])
 (.cond (.t 185)
 (.region [⟨some 186, .mov (.t 0), none⟩, ⟨some 187, .mov (.t 20), none⟩, ⟨some 188, .mov (.t 2), none⟩, ⟨some 189, .mov (.t 24), none⟩, ⟨some 190, .mov (.t 4), none⟩, ⟨some 191, .call (.c (.func (.func 110) #[] #[])) [(.t 186), (.t 187), (.t 188), (.t 189), (.t 190)], none⟩])
 .skip))
 (.seq
 (.seq
 (.region [⟨some 192, .mov (.t 1), none⟩, ⟨some 193, .mov (.t 20), none⟩, ⟨some 194, .bin .lss (.t 192) (.t 193), none⟩, ⟨some 195, .mov (.t 194), none⟩, ⟨some 196, .mov (.t 20), (some (195, true))⟩, ⟨some 197, .mov (.t 18), (some (195, true))⟩, ⟨some 198, .bin .lss (.t 196) (.t 197), (some (195, true))⟩, ⟨some 199, .pick (.t 195) (.t 198) (.c (.bool false)), none⟩])
 (.cond (.t 199)
 (.region [⟨some 200, .mov (.t 0), none⟩, ⟨some 201, .mov (.t 1), none⟩, ⟨some 202, .mov (.t 20), none⟩, ⟨some 203, .mov (.t 18), none⟩, ⟨some 204, .mov (.t 4), none⟩, ⟨some 205, .call (.c (.func (.func 109) #[] #[])) [(.t 200), (.t 201), (.t 202), (.t 203), (.t 204)], none⟩])
 .skip))
 (.seq
 (.region [⟨some 206, .mov (.t 18), none⟩, ⟨some 207, .mov (.t 24), none⟩, ⟨some 208, .bin .lss (.t 206) (.t 207), none⟩, ⟨some 209, .mov (.t 208), none⟩, ⟨some 210, .mov (.t 24), (some (209, true))⟩, ⟨some 211, .mov (.t 3), (some (209, true))⟩, ⟨some 212, .bin .lss (.t 210) (.t 211), (some (209, true))⟩, ⟨some 213, .pick (.t 209) (.t 212) (.c (.bool false)), none⟩])
 (.cond (.t 213)
 (.region [⟨some 214, .mov (.t 0), none⟩, ⟨some 215, .mov (.t 18), none⟩, ⟨some 216, .mov (.t 24), none⟩, ⟨some 217, .mov (.t 3), none⟩, ⟨some 218, .mov (.t 4), none⟩, ⟨some 219, .call (.c (.func (.func 109) #[] #[])) [(.t 214), (.t 215), (.t 216), (.t 217), (.t 218)], none⟩])
 .skip)))))))))))))
def r109 : List AOp := []
theorem ok109 : FnOk Try.prog 109 Try.f109.ntmps a109 r109 := ⟨Try.f109, Try.func109, by kernel_rfl, by kernel_rfl, by kernel_rfl, fun asv w => by simp⟩

def a110 : ACode :=
 (.seq
 (.region [⟨some 12, .mov (.t 2), none⟩, ⟨some 13, .mov (.t 1), none⟩, ⟨some 14, .bin .sub (.t 12) (.t 13), none⟩, ⟨some 10, .mov (.t 14), none⟩])
 (.seq
 (.region [⟨some 15, .mov (.t 3), none⟩, ⟨some 16, .mov (.t 2), none⟩, ⟨some 17, .bin .sub (.t 15) (.t 16), none⟩, ⟨some 11, .mov (.t 17), none⟩])
 (.seq
 (.block 0
 (.loop
 (.seq
 (.seq
 (.region [⟨some 18, .mov (.t 10), none⟩, ⟨some 19, .mov (.t 11), none⟩, ⟨some 20, .bin .neq (.t 18) (.t 19), none⟩])
 (.cond (.t 20)
 .skip
 (.exit 0)))
 (.block 1
 (.seq
 (.region [⟨some 21, .mov (.t 10), none⟩, ⟨some 22, .mov (.t 11), none⟩, ⟨some 23, .bin .gtr (.t 21) (.t 22), none⟩])
 (.cond (.t 23)
 (.seq
 (.region [⟨some 24, .mov (.t 0), none⟩, ⟨some 25, .mov (.t 2), none⟩, ⟨some 26, .mov (.t 10), none⟩, ⟨some 27, .bin .sub (.t 25) (.t 26), none⟩, ⟨some 28, .mov (.t 2), none⟩, ⟨some 29, .mov (.t 11), none⟩, ⟨some 30, .mov (.t 4), none⟩, ⟨some 31, .call (.c (.func (.func 111) #[] #[])) [(.t 24), (.t 27), (.t 28), (.t 29), (.t 30)], none⟩])
 (.region [⟨some 32, .mov (.t 10), none⟩, ⟨some 33, .mov (.t 11), none⟩, ⟨some 34, .bin .sub (.t 32) (.t 33), none⟩, ⟨some 10, .mov (.t 34), none⟩]))
 (.seq
 (.region [⟨some 35, .mov (.t 0), none⟩, ⟨some 36, .mov (.t 2), none⟩, ⟨some 37, .mov (.t 10), none⟩, ⟨some 38, .bin .sub (.t 36) (.t 37), none⟩, ⟨some 39, .mov (.t 2), none⟩, ⟨some 40, .mov (.t 11), none⟩, ⟨some 41, .bin .add (.t 39) (.t 40), none⟩, ⟨some 42, .mov (.t 10), none⟩, ⟨some 43, .bin .sub (.t 41) (.t 42), none⟩, ⟨some 44, .mov (.t 10), none⟩, ⟨some 45, .mov (.t 4), none⟩, ⟨some 46, .call (.c (.func (.func 111) #[] #[])) [(.t 35), (.t 38), (.t 43), (.t 44), (.t 45)], none⟩])
 (.region [⟨some 47, .mov (.t 11), none⟩, ⟨some 48, .mov (.t 10), none⟩, ⟨some 49, .bin .sub (.t 47) (.t 48), none⟩, ⟨some 11, .mov (.t 49), none⟩]))))))))
 (.region [⟨some 50, .mov (.t 0), none⟩, ⟨some 51, .mov (.t 2), none⟩, ⟨some 52, .mov (.t 10), none⟩, ⟨some 53, .bin .sub (.t 51) (.t 52), none⟩, ⟨some 54, .mov (.t 2), none⟩, ⟨some 55, .mov (.t 10), none⟩, ⟨some 56, .mov (.t 4), none⟩, ⟨some 57, .call (.c (.func (.func 111) #[] #[])) [(.t 50), (.t 53), (.t 54), (.t 55), (.t 56)], none⟩]))))
def r110 : List AOp := []
theorem ok110 : FnOk Try.prog 110 Try.f110.ntmps a110 r110 := ⟨Try.f110, Try.func110, by kernel_rfl, by kernel_rfl, by kernel_rfl, fun asv w => by simp⟩

def a111 : ACode :=
 (.seq
 (.region [⟨some 10, .mov (.c (.int .i64 0)), none⟩])
 (.block 0
 (.loop
 (.seq
 (.seq
 (.region [⟨some 11, .mov (.t 10), none⟩, ⟨some 12, .mov (.t 3), none⟩, ⟨some 13, .bin .lss (.t 11) (.t 12), none⟩])
 (.cond (.t 13)
 .skip
 (.exit 0)))
 (.seq
 (.block 1
 (.draw 24 [⟨⟨some 16, .mov (.t 0), none⟩, 0, false, []⟩, ⟨⟨some 17, .mov (.t 1), none⟩, 1, false, []⟩, ⟨⟨some 18, .mov (.t 10), none⟩, 2, false, []⟩, ⟨⟨some 19, .bin .add (.t 17) (.t 18), none⟩, 3, false, []⟩, ⟨⟨some 20, .mov (.t 0), none⟩, 4, false, []⟩, ⟨⟨some 21, .mov (.t 2), none⟩, 5, false, []⟩, ⟨⟨some 22, .mov (.t 10), none⟩, 6, false, []⟩, ⟨⟨some 23, .bin .add (.t 21) (.t 22), none⟩, 7, false, []⟩, ⟨⟨some 24, .mov (.t 0), none⟩, 8, false, []⟩, ⟨⟨some 25, .mov (.t 2), none⟩, 9, false, []⟩, ⟨⟨some 26, .mov (.t 10), none⟩, 10, false, []⟩, ⟨⟨some 27, .bin .add (.t 25) (.t 26), none⟩, 11, false, []⟩, ⟨⟨some 28, .isl 1 (.t 24) (.t 27), none⟩, 12, false, []⟩, ⟨⟨some 29, .ld false 1 (.t 28), none⟩, 13, false, []⟩, ⟨⟨some 30, .mov (.t 0), none⟩, 14, false, []⟩, ⟨⟨some 31, .mov (.t 1), none⟩, 15, false, []⟩, ⟨⟨some 32, .mov (.t 10), none⟩, 16, false, []⟩, ⟨⟨some 33, .bin .add (.t 31) (.t 32), none⟩, 17, false, []⟩, ⟨⟨some 34, .isl 1 (.t 30) (.t 33), none⟩, 18, false, []⟩, ⟨⟨some 35, .ld false 1 (.t 34), none⟩, 19, false, []⟩, ⟨⟨some 36, .isl 1 (.t 16) (.t 19), none⟩, 20, false, []⟩, ⟨⟨none, .st 1 (.t 36) (.t 29), none⟩, 21, true, []⟩, ⟨⟨some 37, .isl 1 (.t 20) (.t 23), none⟩, 22, false, []⟩, ⟨⟨none, .st 1 (.t 37) (.t 35), none⟩, 23, true, []⟩]))
 (.region [⟨some 14, .mov (.t 10), none⟩, ⟨some 15, .bin .add (.t 14) (.c (.int .i64 1)), none⟩, ⟨some 10, .mov (.t 15), none⟩]))))))
def r111 : List AOp := []
theorem ok111 : FnOk Try.prog 111 Try.f111.ntmps a111 r111 := ⟨Try.f111, Try.func111, by kernel_rfl, by kernel_rfl, by kernel_rfl, fun asv w => by simp⟩

def a14 : ACode :=
 (.seq
 (.region [⟨some 2, .box (.t 0), none⟩, ⟨some 4, .mov (.c (.bool false)), none⟩])
 (.seq
 (.region [⟨some 5, .mov (.c (.slice none 0 0)), none⟩, ⟨some 6, .mov (.c (.bool false)), none⟩])
 (.seq
 (.seq
 (.region [⟨some 24, .ld true 3 (.t 2), none⟩, ⟨some 25, .call (.c (.func (.func 41) #[] #[])) [(.t 24)], none⟩])
 (.cond (.t 25)
 (.region [⟨some 27, .ld true 3 (.t 2), none⟩, ⟨some 28, .mov (.t 1), none⟩, ⟨some 29, .call (.c (.func (.func 44) #[] #[])) [(.t 27), (.t 28)], none⟩, ⟨some 26, .mov (.t 29), none⟩, ⟨some 30, .ext (.t 26) 0, none⟩, ⟨some 31, .ext (.t 26) 1, none⟩, ⟨some 5, .mov (.t 30), none⟩, ⟨some 6, .mov (.t 31), none⟩])
 .skip))
 (.seq
 (.seq
 (.region [⟨some 32, .mov (.t 6), none⟩, ⟨some 33, .not (.t 32), none⟩])
 (.cond (.t 33)
 (.seq
 (.region [⟨some 34, .call (.c (.func (.func 17) #[] #[])) [], none⟩, ⟨some 4, .mov (.t 34), none⟩])
 .ret)
 .skip))
 (.seq
 (.draw 8 [⟨⟨some 35, .ld true 3 (.t 2), none⟩, 0, false, []⟩, ⟨⟨some 36, .mov (.t 1), none⟩, 1, false, []⟩, ⟨⟨some 38, .ld true 3 (.t 2), none⟩, 3, false, []⟩, ⟨⟨some 39, .mov (.t 1), none⟩, 4, false, []⟩, ⟨⟨some 37, .call (.c (.func (.func 42) #[] #[])) [(.t 35), (.t 36)], none⟩, 2, true, [3]⟩, ⟨⟨some 40, .call (.c (.func (.func 43) #[] #[])) [(.t 38), (.t 39)], none⟩, 5, true, []⟩, ⟨⟨some 7, .mov (.t 37), none⟩, 6, false, []⟩, ⟨⟨some 8, .mov (.t 40), none⟩, 7, false, []⟩])
 (.seq
 (.region [⟨some 42, .ld true 3 (.t 2), none⟩, ⟨some 43, .call (.c (.func (.func 20) #[] #[])) [(.t 42)], none⟩, ⟨some 44, .mov (.t 5), none⟩, ⟨some 45, .call (.c (.func (.func 22) #[] #[])) [(.t 44)], none⟩, ⟨some 46, .mov (.t 7), none⟩, ⟨some 47, .call (.c (.func (.func 22) #[] #[])) [(.t 46)], none⟩, ⟨some 48, .mov (.t 8), none⟩, ⟨some 49, .call (.c (.func (.func 22) #[] #[])) [(.t 48)], none⟩, ⟨some 50, .call (.c (.func (.func 24) #[] #[])) [(.t 43), (.t 45), (.t 47), (.t 49)], none⟩, ⟨some 41, .mov (.t 50), none⟩, ⟨some 51, .ext (.t 41) 0, none⟩, ⟨some 52, .ext (.t 41) 1, none⟩, ⟨some 9, .mov (.t 51), none⟩, ⟨some 10, .mov (.t 52), none⟩])
 (.seq
 (.seq
 (.region [⟨some 53, .mov (.t 10), none⟩, ⟨some 54, .bin .neq (.t 53) (.c (.int .i64 0)), none⟩])
 (.cond (.t 54)
 (.seq
 (.region [⟨some 4, .mov (.c (.bool false)), none⟩])
 .ret)
 .skip))
 (.seq
 (.region [⟨some 11, .mov (.c (.int .i64 0)), none⟩])
 (.seq
 (.seq
 (.region [⟨some 12, .mov (.c (.int .i64 0)), none⟩])
 (.block 0
 (.loop
 (.seq
 (.seq
 (.region [⟨some 55, .mov (.t 12), none⟩, ⟨some 56, .fa 0 (.t 2), none⟩, ⟨some 57, .ld false 1 (.t 56), none⟩, ⟨some 58, .len (.t 57), none⟩, ⟨some 59, .bin .lss (.t 55) (.t 58), none⟩])
 (.cond (.t 59)
 .skip
 (.exit 0)))
 (.seq
 (.block 1
 (.seq
 (.region [⟨some 62, .fa 1 (.t 2), none⟩, ⟨some 63, .ld false 1 (.t 62), none⟩, ⟨some 64, .len (.t 63), none⟩, ⟨some 65, .mks 1 8 [(.int .i64 0)] (.t 64) (.t 64), none⟩, ⟨some 13, .mov (.t 65), none⟩])
 (.seq
 (.region [⟨some 66, .bsl 1 [(.int .i64 0)] [(0, 1, (.c (.int .i64 8)))], none⟩, ⟨some 67, .fa 2 (.t 2), none⟩, ⟨some 68, .ld false 1 (.t 67), none⟩, ⟨some 69, .bld [(.slice none 0 0), (.slice none 0 0), (.int .i64 0)] [(0, 1, (.t 66)), (2, 1, (.t 68))], none⟩, ⟨some 14, .new [(.slice none 0 0), (.slice none 0 0), (.int .i64 0)], none⟩, ⟨none, .st 3 (.t 14) (.t 69), none⟩])
 (.seq
 (.region [⟨some 15, .mov (.c (.slice none 0 0)), none⟩, ⟨some 16, .mov (.c (.slice none 0 0)), none⟩, ⟨some 17, .mov (.c (.slice none 0 0)), none⟩])
 (.seq
 (.seq
 (.region [⟨some 18, .mov (.c (.int .i64 0)), none⟩])
 (.block 2
 (.loop
 (.seq
 (.seq
 (.region [⟨some 70, .mov (.t 18), none⟩, ⟨some 71, .fa 1 (.t 2), none⟩, ⟨some 72, .ld false 1 (.t 71), none⟩, ⟨some 73, .len (.t 72), none⟩, ⟨some 74, .bin .lss (.t 70) (.t 73), none⟩])
 (.cond (.t 74)
 .skip
 (.exit 2)))
 (.seq
 (.block 3
 (.seq
 (.region [⟨some 77, .mov (.t 13), none⟩, ⟨some 78, .mov (.t 18), none⟩, ⟨some 79, .isl 1 (.t 77) (.t 78), none⟩, ⟨none, .st 1 (.t 79) (.c (.int .i64 (-1))), none⟩])
 (.seq
 (.region [⟨some 80, .mov (.t 5), none⟩, ⟨some 81, .mov (.t 18), none⟩, ⟨some 82, .isl 1 (.t 80) (.t 81), none⟩, ⟨some 83, .ld false 1 (.t 82), none⟩, ⟨some 84, .mov (.t 12), none⟩, ⟨some 85, .bin .eql (.t 83) (.t 84), none⟩])
 (.cond (.t 85)
 (.seq
 (.region [⟨some 86, .mov (.t 13), none⟩, ⟨some 87, .mov (.t 18), none⟩, ⟨some 88, .fa 1 (.t 14), none⟩, ⟨some 89, .ld false 1 (.t 88), none⟩, ⟨some 90, .len (.t 89), none⟩, ⟨some 91, .isl 1 (.t 86) (.t 87), none⟩, ⟨none, .st 1 (.t 91) (.t 90), none⟩])
 (.draw 16 [⟨⟨some 92, .fa 1 (.t 14), none⟩, 0, false, []⟩, ⟨⟨some 93, .ld false 1 (.t 92), none⟩, 1, false, []⟩, ⟨⟨some 94, .fa 1 (.t 2), none⟩, 2, false, []⟩, ⟨⟨some 95, .ld false 1 (.t 94), none⟩, 3, false, []⟩, ⟨⟨some 96, .mov (.t 18), none⟩, 4, false, []⟩, ⟨⟨some 97, .isl 3 (.t 95) (.t 96), none⟩, 5, false, []⟩, ⟨⟨some 98, .ld true 3 (.t 97), none⟩, 6, false, []⟩, ⟨⟨some 99, .bsl 1 [(.int .i64 0), (.int .i64 0), (.int .i64 0)] [(0, 3, (.t 98))], none⟩, 7, false, []⟩, ⟨⟨some 101, .mov (.t 17), none⟩, 9, false, []⟩, ⟨⟨some 102, .mov (.t 18), none⟩, 10, false, []⟩, ⟨⟨some 103, .bsl 1 [(.int .i64 0)] [(0, 1, (.t 102))], none⟩, 11, false, []⟩, ⟨⟨some 100, .app 3 24 (.t 93) (.t 99), none⟩, 8, true, []⟩, ⟨⟨some 105, .fa 1 (.t 14), none⟩, 13, false, []⟩, ⟨⟨some 104, .app 1 8 (.t 101) (.t 103), none⟩, 12, true, []⟩, ⟨⟨none, .st 1 (.t 105) (.t 100), none⟩, 14, true, []⟩, ⟨⟨some 17, .mov (.t 104), none⟩, 15, false, []⟩]))
 .skip))))
 (.region [⟨some 75, .mov (.t 18), none⟩, ⟨some 76, .bin .add (.t 75) (.c (.int .i64 1)), none⟩, ⟨some 18, .mov (.t 76), none⟩]))))))
 (.seq
 (.seq
 (.region [⟨some 19, .mov (.c (.int .i64 0)), none⟩])
 (.block 4
 (.loop
 (.seq
 (.seq
 (.region [⟨some 106, .mov (.t 19), none⟩, ⟨some 107, .mov (.t 7), none⟩, ⟨some 108, .len (.t 107), none⟩, ⟨some 109, .bin .lss (.t 106) (.t 108), none⟩])
 (.cond (.t 109)
 .skip
 (.exit 4)))
 (.seq
 (.block 5
 (.seq
 (.region [⟨some 112, .mov (.t 13), none⟩, ⟨some 113, .mov (.t 7), none⟩, ⟨some 114, .mov (.t 19), none⟩, ⟨some 115, .isl 1 (.t 113) (.t 114), none⟩, ⟨some 116, .ld false 1 (.t 115), none⟩, ⟨some 117, .isl 1 (.t 112) (.t 116), none⟩, ⟨some 118, .ld false 1 (.t 117), none⟩, ⟨some 119, .bin .geq (.t 118) (.c (.int .i64 0)), none⟩])
 (.cond (.t 119)
 (.region [⟨some 120, .mov (.t 15), none⟩, ⟨some 121, .mov (.t 13), none⟩, ⟨some 122, .mov (.t 7), none⟩, ⟨some 123, .mov (.t 19), none⟩, ⟨some 124, .isl 1 (.t 122) (.t 123), none⟩, ⟨some 125, .ld false 1 (.t 124), none⟩, ⟨some 126, .isl 1 (.t 121) (.t 125), none⟩, ⟨some 127, .ld false 1 (.t 126), none⟩, ⟨some 128, .bsl 1 [(.int .i64 0)] [(0, 1, (.t 127))], none⟩, ⟨some 129, .app 1 8 (.t 120) (.t 128), none⟩, ⟨some 15, .mov (.t 129), none⟩])
 .skip)))
 (.region [⟨some 110, .mov (.t 19), none⟩, ⟨some 111, .bin .add (.t 110) (.c (.int .i64 1)), none⟩, ⟨some 19, .mov (.t 111), none⟩]))))))
 (.seq
 (.seq
 (.region [⟨some 20, .mov (.c (.int .i64 0)), none⟩])
 (.block 6
 (.loop
 (.seq
 (.seq
 (.region [⟨some 130, .mov (.t 20), none⟩, ⟨some 131, .mov (.t 8), none⟩, ⟨some 132, .len (.t 131), none⟩, ⟨some 133, .bin .lss (.t 130) (.t 132), none⟩])
 (.cond (.t 133)
 .skip
 (.exit 6)))
 (.seq
 (.block 7
 (.seq
 (.region [⟨some 136, .mov (.t 13), none⟩, ⟨some 137, .mov (.t 8), none⟩, ⟨some 138, .mov (.t 20), none⟩, ⟨some 139, .isl 1 (.t 137) (.t 138), none⟩, ⟨some 140, .ld false 1 (.t 139), none⟩, ⟨some 141, .isl 1 (.t 136) (.t 140), none⟩, ⟨some 142, .ld false 1 (.t 141), none⟩, ⟨some 143, .bin .geq (.t 142) (.c (.int .i64 0)), none⟩])
 (.cond (.t 143)
 (.region [⟨some 144, .mov (.t 16), none⟩, ⟨some 145, .mov (.t 13), none⟩, ⟨some 146, .mov (.t 8), none⟩, ⟨some 147, .mov (.t 20), none⟩, ⟨some 148, .isl 1 (.t 146) (.t 147), none⟩, ⟨some 149, .ld false 1 (.t 148), none⟩, ⟨some 150, .isl 1 (.t 145) (.t 149), none⟩, ⟨some 151, .ld false 1 (.t 150), none⟩, ⟨some 152, .bsl 1 [(.int .i64 0)] [(0, 1, (.t 151))], none⟩, ⟨some 153, .app 1 8 (.t 144) (.t 152), none⟩, ⟨some 16, .mov (.t 153), none⟩])
 .skip)))
 (.region [⟨some 134, .mov (.t 20), none⟩, ⟨some 135, .bin .add (.t 134) (.c (.int .i64 1)), none⟩, ⟨some 20, .mov (.t 135), none⟩]))))))
 (.seq
 (.draw 14 [⟨⟨some 155, .ld true 3 (.t 14), none⟩, 0, false, []⟩, ⟨⟨some 157, .fa 1 (.t 14), none⟩, 2, false, []⟩, ⟨⟨some 158, .ld false 1 (.t 157), none⟩, 3, false, []⟩, ⟨⟨some 159, .len (.t 158), none⟩, 4, false, []⟩, ⟨⟨some 160, .mks 1 8 [(.int .i64 0)] (.t 159) (.t 159), none⟩, 5, false, []⟩, ⟨⟨some 161, .mov (.t 15), none⟩, 6, false, []⟩, ⟨⟨some 162, .mov (.t 16), none⟩, 7, false, []⟩, ⟨⟨some 156, .call (.c (.func (.func 20) #[] #[])) [(.t 155)], none⟩, 1, true, [3]⟩, ⟨⟨some 163, .call (.c (.func (.func 24) #[] #[])) [(.t 156), (.t 160), (.t 161), (.t 162)], none⟩, 8, true, []⟩, ⟨⟨some 154, .mov (.t 163), none⟩, 9, false, []⟩, ⟨⟨some 164, .ext (.t 154) 0, none⟩, 10, false, []⟩, ⟨⟨some 165, .ext (.t 154) 1, none⟩, 11, false, []⟩, ⟨⟨some 21, .mov (.t 164), none⟩, 12, false, []⟩, ⟨⟨some 22, .mov (.t 165), none⟩, 13, false, []⟩])
 (.seq
 (.seq
 (.region [⟨some 166, .mov (.t 22), none⟩, ⟨some 167, .bin .neq (.t 166) (.c (.int .i64 0)), none⟩])
 (.cond (.t 167)
 (.seq
 (.region [⟨some 4, .mov (.c (.bool false)), none⟩])
 .ret)
 .skip))
 (.seq
 (.region [⟨some 23, .mov (.c (.int .i64 0)), none⟩])
 (.block 8
 (.loop
 (.seq
 (.seq
 (.region [⟨some 168, .mov (.t 23), none⟩, ⟨some 169, .mov (.t 21), none⟩, ⟨some 170, .len (.t 169), none⟩, ⟨some 171, .bin .lss (.t 168) (.t 170), none⟩])
 (.cond (.t 171)
 .skip
 (.exit 8)))
 (.seq
 (.block 9
 (.seq
 (.seq
 (.region [⟨some 174, .mov (.t 21), none⟩, ⟨some 175, .mov (.t 23), none⟩, ⟨some 176, .isl 1 (.t 174) (.t 175), none⟩, ⟨some 177, .ld false 1 (.t 176), none⟩, ⟨some 178, .mov (.t 17), none⟩, ⟨some 179, .len (.t 178), none⟩, ⟨some 180, .bin .sub (.t 179) (.c (.int .i64 1)), none⟩, ⟨some 181, .call (.c (.func (.func 46) #[] #[])) [(.t 177), (.c (.int .i64 0)), (.t 180)], none⟩, ⟨some 182, .not (.t 181), none⟩, ⟨some 183, .mov (.t 182), none⟩, ⟨some 184, .mov (.t 9), (some (183, false))⟩, ⟨some 185, .mov (.t 17), (some (183, false))⟩, ⟨some 186, .mov (.t 21), (some (183, false))⟩, ⟨some 187, .mov (.t 23), (some (183, false))⟩, ⟨some 188, .isl 1 (.t 186) (.t 187), (some (183, false))⟩, ⟨some 189, .ld false 1 (.t 188), (some (183, false))⟩, ⟨some 190, .isl 1 (.t 185) (.t 189), (some (183, false))⟩, ⟨some 191, .ld false 1 (.t 190), (some (183, false))⟩, ⟨some 192, .call (.c (.func (.func 47) #[] #[])) [(.t 184), (.t 191)], (some (183, false))⟩, ⟨some 193, .bin .lss (.t 192) (.c (.int .i64 0)), (some (183, false))⟩, ⟨some 194, .pick (.t 183) (.c (.bool true)) (.t 193), none⟩])
 (.cond (.t 194)
 (.seq
 (.region [⟨some 4, .mov (.c (.bool false)), none⟩])
 .ret)
 .skip))
 (.region [⟨some 195, .mov (.t 11), none⟩, ⟨some 196, .bin .add (.t 195) (.c (.int .i64 1)), none⟩, ⟨some 11, .mov (.t 196), none⟩])))
 (.region [⟨some 172, .mov (.t 23), none⟩, ⟨some 173, .bin .add (.t 172) (.c (.int .i64 1)), none⟩, ⟨some 23, .mov (.t 173), none⟩])))))))))))))))
 (.region [⟨some 60, .mov (.t 12), none⟩, ⟨some 61, .bin .add (.t 60) (.c (.int .i64 1)), none⟩, ⟨some 12, .mov (.t 61), none⟩]))))))
 (.seq
 (.region [⟨some 197, .mov (.t 11), none⟩, ⟨some 198, .mov (.t 9), none⟩, ⟨some 199, .len (.t 198), none⟩, ⟨some 200, .bin .eql (.t 197) (.t 199), none⟩, ⟨some 201, .mov (.t 200), none⟩, ⟨some 202, .call (.c (.func (.func 17) #[] #[])) [], (some (201, true))⟩, ⟨some 203, .pick (.t 201) (.t 202) (.c (.bool false)), none⟩, ⟨some 4, .mov (.t 203), none⟩])
 .ret))))))))))
def r14 : List AOp := [(.mov (.t 4))]
theorem ok14 : FnOk Try.prog 14 Try.f14.ntmps a14 r14 := ⟨Try.f14, Try.func14, by kernel_rfl, by kernel_rfl, by kernel_rfl, fun asv w => by simp⟩

end Go.Proofs.Ytfijnkhiojejfaa
