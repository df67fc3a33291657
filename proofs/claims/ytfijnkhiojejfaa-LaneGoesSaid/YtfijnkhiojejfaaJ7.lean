/-
  Joined texts of a calculus of abstract memory, of the program's code in it, and of contracts.
-/
import Derived.Test.YtfijnkhiojejfaaJ5
import Derived.KernelRfl
import Derived.Test.YtfijnkhiojejfaaChecked
namespace Go.Proofs.Ytfijnkhiojejfaa
open Go Go.Ab

def a3 : ACode :=
 (.seq
 (.region [⟨some 2, .box (.t 0), none⟩, ⟨some 4, .mov (.c (.bool false)), none⟩])
 (.seq
 (.seq
 (.region [⟨some 6, .ld true 3 (.t 2), none⟩, ⟨some 7, .call (.c (.func (.func 16) #[] #[])) [(.t 6)], none⟩, ⟨some 8, .not (.t 7), none⟩, ⟨some 9, .mov (.t 8), none⟩, ⟨some 10, .mov (.t 1), (some (9, false))⟩, ⟨some 11, .len (.t 10), (some (9, false))⟩, ⟨some 12, .bin .gtr (.t 11) (.c (.int .i64 15)), (some (9, false))⟩, ⟨some 13, .pick (.t 9) (.c (.bool true)) (.t 12), none⟩])
 (.cond (.t 13)
 (.seq
 (.region [⟨some 14, .call (.c (.func (.func 17) #[] #[])) [], none⟩, ⟨some 4, .mov (.t 14), none⟩])
 .ret)
 .skip))
 (.seq
 (.region [⟨some 15, .ld true 3 (.t 2), none⟩, ⟨some 16, .call (.c (.func (.func 18) #[] #[])) [(.t 15)], none⟩, ⟨some 5, .mov (.t 16), none⟩])
 (.seq
 (.region [⟨some 17, .ld true 3 (.t 2), none⟩, ⟨some 18, .call (.c (.func (.func 20) #[] #[])) [(.t 17)], none⟩, ⟨some 19, .call (.c (.func (.func 19) #[] #[])) [(.t 18)], none⟩, ⟨some 20, .mov (.t 5), none⟩, ⟨some 21, .bin .eql (.t 19) (.t 20), none⟩, ⟨some 22, .mov (.t 21), none⟩, ⟨some 23, .ld true 3 (.t 2), (some (22, true))⟩, ⟨some 24, .call (.c (.func (.func 20) #[] #[])) [(.t 23)], (some (22, true))⟩, ⟨some 25, .mov (.t 1), (some (22, true))⟩, ⟨some 26, .call (.c (.func (.func 22) #[] #[])) [(.t 25)], (some (22, true))⟩, ⟨some 27, .call (.c (.func (.func 21) #[] #[])) [(.t 24), (.t 26)], (some (22, true))⟩, ⟨some 28, .mov (.t 5), (some (22, true))⟩, ⟨some 29, .bin .eql (.t 28) (.c (.int .i64 0)), (some (22, true))⟩, ⟨some 30, .mov (.t 29), (some (22, true))⟩, ⟨some 31, .ld true 3 (.t 2), (some (30, true))⟩, ⟨some 32, .mov (.t 1), (some (30, true))⟩, ⟨some 33, .call (.c (.func (.func 23) #[] #[])) [(.t 31), (.t 32)], (some (30, true))⟩, ⟨some 34, .pick (.t 30) (.t 33) (.c (.bool false)), (some (22, true))⟩, ⟨some 35, .gen 40 ⟨some 35, (.binOp .eql 4 (.tmp 27) (.tmp 34) 4), 4, "law.go:64", #[{ on := 10, ground := Go.Ground.data }, { on := 17, ground := Go.Ground.data }, { on := 5, ground := Go.Ground.guard }], (some (5, true))⟩, (some (22, true))⟩, ⟨some 36, .pick (.t 22) (.t 35) (.c (.bool false)), none⟩, ⟨some 37, .mov (.t 36), none⟩, ⟨some 38, .call (.c (.func (.func 17) #[] #[])) [], (some (37, true))⟩, ⟨some 39, .pick (.t 37) (.t 38) (.c (.bool false)), none⟩, ⟨some 4, .mov (.t 39), none⟩])
 .ret))))
def r3 : List AOp := [(.mov (.t 4))]
theorem ok3 : FnOk Try.prog 3 Try.f3.ntmps a3 r3 := ⟨Try.f3, Try.func3, by kernel_rfl, by kernel_rfl, by kernel_rfl, fun asv w => by simp⟩

def a4 : ACode :=
 (.seq
 (.region [⟨some 4, .box (.t 0), none⟩, ⟨some 8, .mov (.c (.bool false)), none⟩])
 (.seq
 (.seq
 (.region [⟨some 12, .ld true 3 (.t 4), none⟩, ⟨some 13, .call (.c (.func (.func 16) #[] #[])) [(.t 12)], none⟩, ⟨some 14, .not (.t 13), none⟩, ⟨some 15, .mov (.t 14), none⟩, ⟨some 16, .mov (.t 1), (some (15, false))⟩, ⟨some 17, .len (.t 16), (some (15, false))⟩, ⟨some 18, .bin .gtr (.t 17) (.c (.int .i64 15)), (some (15, false))⟩, ⟨some 19, .pick (.t 15) (.c (.bool true)) (.t 18), none⟩, ⟨some 20, .mov (.t 19), none⟩, ⟨some 21, .mov (.t 2), (some (20, false))⟩, ⟨some 22, .len (.t 21), (some (20, false))⟩, ⟨some 23, .bin .gtr (.t 22) (.c (.int .i64 15)), (some (20, false))⟩, ⟨some 24, .pick (.t 20) (.c (.bool true)) (.t 23), none⟩, ⟨some 25, .mov (.t 24), none⟩, ⟨some 26, .mov (.t 3), (some (25, false))⟩, ⟨some 27, .len (.t 26), (some (25, false))⟩, ⟨some 28, .bin .gtr (.t 27) (.c (.int .i64 15)), (some (25, false))⟩, ⟨some 29, .pick (.t 25) (.c (.bool true)) (.t 28), none⟩])
 (.cond (.t 29)
 (.seq
 (.region [⟨some 30, .call (.c (.func (.func 17) #[] #[])) [], none⟩, ⟨some 8, .mov (.t 30), none⟩])
 .ret)
 .skip))
 (.seq
 (.region [⟨some 32, .ld true 3 (.t 4), none⟩, ⟨some 33, .call (.c (.func (.func 20) #[] #[])) [(.t 32)], none⟩, ⟨some 34, .mov (.t 1), none⟩, ⟨some 35, .call (.c (.func (.func 22) #[] #[])) [(.t 34)], none⟩, ⟨some 36, .mov (.t 2), none⟩, ⟨some 37, .call (.c (.func (.func 22) #[] #[])) [(.t 36)], none⟩, ⟨some 38, .mov (.t 3), none⟩, ⟨some 39, .call (.c (.func (.func 22) #[] #[])) [(.t 38)], none⟩, ⟨some 40, .call (.c (.func (.func 24) #[] #[])) [(.t 33), (.t 35), (.t 37), (.t 39)], none⟩, ⟨some 31, .mov (.t 40), none⟩, ⟨some 41, .ext (.t 31) 0, none⟩, ⟨some 42, .ext (.t 31) 1, none⟩, ⟨some 9, .mov (.t 41), none⟩, ⟨some 10, .mov (.t 42), none⟩])
 (.seq
 (.seq
 (.region [⟨some 43, .ld true 3 (.t 4), none⟩, ⟨some 44, .mov (.t 1), none⟩, ⟨some 45, .mov (.t 2), none⟩, ⟨some 46, .mov (.t 3), none⟩, ⟨some 47, .call (.c (.func (.func 25) #[] #[])) [(.t 43), (.t 44), (.t 45), (.t 46)], none⟩, ⟨some 11, .mov (.t 47), none⟩])
 (.seq
 (.region [⟨some 48, .mov (.t 11), none⟩, ⟨some 49, .bin .neq (.t 48) (.c (.int .i64 0)), none⟩])
 (.cond (.t 49)
 (.seq
 (.region [⟨some 50, .mov (.t 10), none⟩, ⟨some 51, .mov (.t 11), none⟩, ⟨some 52, .bin .eql (.t 50) (.t 51), none⟩, ⟨some 53, .mov (.t 52), none⟩, ⟨some 54, .mov (.t 9), (some (53, true))⟩, ⟨some 55, .len (.t 54), (some (53, true))⟩, ⟨some 56, .bin .eql (.t 55) (.c (.int .i64 0)), (some (53, true))⟩, ⟨some 57, .pick (.t 53) (.t 56) (.c (.bool false)), none⟩, ⟨some 58, .mov (.t 57), none⟩, ⟨some 59, .call (.c (.func (.func 17) #[] #[])) [], (some (58, true))⟩, ⟨some 60, .pick (.t 58) (.t 59) (.c (.bool false)), none⟩, ⟨some 8, .mov (.t 60), none⟩])
 .ret)
 .skip)))
 (.seq
 (.region [⟨some 61, .mov (.t 10), none⟩, ⟨some 62, .bin .eql (.t 61) (.c (.int .i64 0)), none⟩, ⟨some 63, .mov (.t 62), none⟩, ⟨some 64, .mov (.t 9), (some (63, true))⟩, ⟨some 65, .ld true 3 (.t 4), (some (63, true))⟩, ⟨some 66, .mov (.t 1), (some (63, true))⟩, ⟨some 67, .mov (.t 2), (some (63, true))⟩, ⟨some 68, .mov (.t 3), (some (63, true))⟩, ⟨some 69, .call (.c (.func (.func 27) #[] #[])) [(.t 65), (.t 66), (.t 67), (.t 68)], (some (63, true))⟩, ⟨some 70, .call (.c (.func (.func 26) #[] #[])) [(.t 64), (.t 69)], (some (63, true))⟩, ⟨some 71, .pick (.t 63) (.t 70) (.c (.bool false)), none⟩, ⟨some 72, .mov (.t 71), none⟩, ⟨some 73, .call (.c (.func (.func 17) #[] #[])) [], (some (72, true))⟩, ⟨some 74, .pick (.t 72) (.t 73) (.c (.bool false)), none⟩, ⟨some 8, .mov (.t 74), none⟩])
 .ret)))))
def r4 : List AOp := [(.mov (.t 8))]
theorem ok4 : FnOk Try.prog 4 Try.f4.ntmps a4 r4 := ⟨Try.f4, Try.func4, by kernel_rfl, by kernel_rfl, by kernel_rfl, fun asv w => by simp⟩

def a5 : ACode :=
 (.seq
 (.region [⟨some 4, .box (.t 0), none⟩, ⟨some 8, .mov (.c (.bool false)), none⟩])
 (.seq
 (.seq
 (.region [⟨some 14, .ld true 3 (.t 4), none⟩, ⟨some 15, .call (.c (.func (.func 16) #[] #[])) [(.t 14)], none⟩, ⟨some 16, .not (.t 15), none⟩, ⟨some 17, .mov (.t 16), none⟩, ⟨some 18, .mov (.t 1), (some (17, false))⟩, ⟨some 19, .len (.t 18), (some (17, false))⟩, ⟨some 20, .bin .gtr (.t 19) (.c (.int .i64 15)), (some (17, false))⟩, ⟨some 21, .pick (.t 17) (.c (.bool true)) (.t 20), none⟩, ⟨some 22, .mov (.t 21), none⟩, ⟨some 23, .mov (.t 2), (some (22, false))⟩, ⟨some 24, .len (.t 23), (some (22, false))⟩, ⟨some 25, .bin .gtr (.t 24) (.c (.int .i64 15)), (some (22, false))⟩, ⟨some 26, .pick (.t 22) (.c (.bool true)) (.t 25), none⟩, ⟨some 27, .mov (.t 26), none⟩, ⟨some 28, .mov (.t 3), (some (27, false))⟩, ⟨some 29, .len (.t 28), (some (27, false))⟩, ⟨some 30, .bin .gtr (.t 29) (.c (.int .i64 15)), (some (27, false))⟩, ⟨some 31, .pick (.t 27) (.c (.bool true)) (.t 30), none⟩])
 (.cond (.t 31)
 (.seq
 (.region [⟨some 32, .call (.c (.func (.func 17) #[] #[])) [], none⟩, ⟨some 8, .mov (.t 32), none⟩])
 .ret)
 .skip))
 (.seq
 (.region [⟨some 34, .ld true 3 (.t 4), none⟩, ⟨some 35, .call (.c (.func (.func 20) #[] #[])) [(.t 34)], none⟩, ⟨some 36, .mov (.t 1), none⟩, ⟨some 37, .call (.c (.func (.func 22) #[] #[])) [(.t 36)], none⟩, ⟨some 38, .mov (.t 2), none⟩, ⟨some 39, .call (.c (.func (.func 22) #[] #[])) [(.t 38)], none⟩, ⟨some 40, .mov (.t 3), none⟩, ⟨some 41, .call (.c (.func (.func 22) #[] #[])) [(.t 40)], none⟩, ⟨some 42, .call (.c (.func (.func 28) #[] #[])) [(.t 35), (.t 37), (.t 39), (.t 41)], none⟩, ⟨some 33, .mov (.t 42), none⟩, ⟨some 43, .ext (.t 33) 0, none⟩, ⟨some 44, .ext (.t 33) 1, none⟩, ⟨some 9, .mov (.t 43), none⟩, ⟨some 10, .mov (.t 44), none⟩])
 (.seq
 (.seq
 (.region [⟨some 45, .ld true 3 (.t 4), none⟩, ⟨some 46, .mov (.t 1), none⟩, ⟨some 47, .mov (.t 2), none⟩, ⟨some 48, .mov (.t 3), none⟩, ⟨some 49, .call (.c (.func (.func 25) #[] #[])) [(.t 45), (.t 46), (.t 47), (.t 48)], none⟩, ⟨some 11, .mov (.t 49), none⟩])
 (.seq
 (.region [⟨some 50, .mov (.t 11), none⟩, ⟨some 51, .bin .neq (.t 50) (.c (.int .i64 0)), none⟩])
 (.cond (.t 51)
 (.seq
 (.region [⟨some 52, .mov (.t 10), none⟩, ⟨some 53, .mov (.t 11), none⟩, ⟨some 54, .bin .eql (.t 52) (.t 53), none⟩, ⟨some 55, .mov (.t 54), none⟩, ⟨some 56, .mov (.t 9), (some (55, true))⟩, ⟨some 57, .len (.t 56), (some (55, true))⟩, ⟨some 58, .bin .eql (.t 57) (.c (.int .i64 0)), (some (55, true))⟩, ⟨some 59, .pick (.t 55) (.t 58) (.c (.bool false)), none⟩, ⟨some 60, .mov (.t 59), none⟩, ⟨some 61, .call (.c (.func (.func 17) #[] #[])) [], (some (60, true))⟩, ⟨some 62, .pick (.t 60) (.t 61) (.c (.bool false)), none⟩, ⟨some 8, .mov (.t 62), none⟩])
 .ret)
 .skip)))
 (.seq
 (.region [⟨some 63, .ld true 3 (.t 4), none⟩, ⟨some 64, .mov (.t 1), none⟩, ⟨some 65, .mov (.t 2), none⟩, ⟨some 66, .mov (.t 3), none⟩, ⟨some 67, .call (.c (.func (.func 29) #[] #[])) [(.t 63), (.t 64), (.t 65), (.t 66)], none⟩, ⟨some 12, .mov (.t 67), none⟩])
 (.seq
 (.seq
 (.region [⟨some 68, .mov (.t 10), none⟩, ⟨some 69, .bin .neq (.t 68) (.c (.int .i64 0)), none⟩, ⟨some 70, .mov (.t 69), none⟩, ⟨some 71, .mov (.t 9), (some (70, false))⟩, ⟨some 72, .len (.t 71), (some (70, false))⟩, ⟨some 73, .mov (.t 12), (some (70, false))⟩, ⟨some 74, .len (.t 73), (some (70, false))⟩, ⟨some 75, .bin .neq (.t 72) (.t 74), (some (70, false))⟩, ⟨some 76, .pick (.t 70) (.c (.bool true)) (.t 75), none⟩])
 (.cond (.t 76)
 (.seq
 (.region [⟨some 8, .mov (.c (.bool false)), none⟩])
 .ret)
 .skip))
 (.seq
 (.seq
 (.region [⟨some 13, .mov (.c (.int .i64 0)), none⟩])
 (.block 0
 (.loop
 (.seq
 (.seq
 (.region [⟨some 77, .mov (.t 13), none⟩, ⟨some 78, .mov (.t 9), none⟩, ⟨some 79, .len (.t 78), none⟩, ⟨some 80, .bin .lss (.t 77) (.t 79), none⟩])
 (.cond (.t 80)
 .skip
 (.exit 0)))
 (.seq
 (.block 1
 (.seq
 (.draw 10 [⟨⟨some 83, .mov (.t 9), none⟩, 0, false, []⟩, ⟨⟨some 84, .mov (.t 13), none⟩, 1, false, []⟩, ⟨⟨some 85, .isl 1 (.t 83) (.t 84), none⟩, 2, false, []⟩, ⟨⟨some 86, .ld false 1 (.t 85), none⟩, 3, false, []⟩, ⟨⟨some 87, .mov (.t 12), none⟩, 4, false, []⟩, ⟨⟨some 88, .mov (.t 13), none⟩, 5, false, []⟩, ⟨⟨some 89, .isl 1 (.t 87) (.t 88), none⟩, 6, false, []⟩, ⟨⟨some 90, .ld false 1 (.t 89), none⟩, 7, false, []⟩, ⟨⟨some 91, .call (.c (.func (.func 26) #[] #[])) [(.t 86), (.t 90)], none⟩, 8, true, []⟩, ⟨⟨some 92, .not (.t 91), none⟩, 9, false, []⟩])
 (.cond (.t 92)
 (.seq
 (.region [⟨some 8, .mov (.c (.bool false)), none⟩])
 .ret)
 .skip)))
 (.region [⟨some 81, .mov (.t 13), none⟩, ⟨some 82, .bin .add (.t 81) (.c (.int .i64 1)), none⟩, ⟨some 13, .mov (.t 82), none⟩]))))))
 (.seq
 (.region [⟨some 93, .call (.c (.func (.func 17) #[] #[])) [], none⟩, ⟨some 8, .mov (.t 93), none⟩])
 .ret))))))))
def r5 : List AOp := [(.mov (.t 8))]
theorem ok5 : FnOk Try.prog 5 Try.f5.ntmps a5 r5 := ⟨Try.f5, Try.func5, by kernel_rfl, by kernel_rfl, by kernel_rfl, fun asv w => by simp⟩

def a6 : ACode :=
 (.seq
 (.region [⟨some 2, .box (.t 0), none⟩, ⟨some 4, .mov (.c (.bool false)), none⟩])
 (.seq
 (.seq
 (.region [⟨some 10, .ld true 3 (.t 2), none⟩, ⟨some 11, .call (.c (.func (.func 30) #[] #[])) [(.t 10)], none⟩, ⟨some 12, .not (.t 11), none⟩, ⟨some 13, .mov (.t 12), none⟩, ⟨some 14, .mov (.t 1), (some (13, false))⟩, ⟨some 15, .len (.t 14), (some (13, false))⟩, ⟨some 16, .bin .gtr (.t 15) (.c (.int .i64 15)), (some (13, false))⟩, ⟨some 17, .pick (.t 13) (.c (.bool true)) (.t 16), none⟩])
 (.cond (.t 17)
 (.seq
 (.region [⟨some 18, .call (.c (.func (.func 17) #[] #[])) [], none⟩, ⟨some 4, .mov (.t 18), none⟩])
 .ret)
 .skip))
 (.seq
 (.region [⟨some 20, .ld true 3 (.t 2), none⟩, ⟨some 21, .call (.c (.func (.func 20) #[] #[])) [(.t 20)], none⟩, ⟨some 22, .mov (.t 1), none⟩, ⟨some 23, .call (.c (.func (.func 22) #[] #[])) [(.t 22)], none⟩, ⟨some 24, .call (.c (.func (.func 31) #[] #[])) [(.t 21), (.t 23)], none⟩, ⟨some 19, .mov (.t 24), none⟩, ⟨some 25, .ext (.t 19) 0, none⟩, ⟨some 26, .ext (.t 19) 1, none⟩, ⟨some 27, .ext (.t 19) 2, none⟩, ⟨some 28, .ext (.t 19) 3, none⟩, ⟨some 5, .mov (.t 25), none⟩, ⟨some 6, .mov (.t 26), none⟩, ⟨some 7, .mov (.t 27), none⟩, ⟨some 8, .mov (.t 28), none⟩])
 (.seq
 (.region [⟨some 29, .ld true 3 (.t 2), none⟩, ⟨some 30, .call (.c (.func (.func 18) #[] #[])) [(.t 29)], none⟩, ⟨some 9, .mov (.t 30), none⟩])
 (.seq
 (.seq
 (.region [⟨some 31, .mov (.t 9), none⟩, ⟨some 32, .bin .eql (.t 31) (.c (.int .i64 0)), none⟩, ⟨some 33, .mov (.t 32), none⟩, ⟨some 34, .ld true 3 (.t 2), (some (33, true))⟩, ⟨some 35, .mov (.t 1), (some (33, true))⟩, ⟨some 36, .call (.c (.func (.func 32) #[] #[])) [(.t 34), (.t 35)], (some (33, true))⟩, ⟨some 37, .not (.t 36), (some (33, true))⟩, ⟨some 38, .pick (.t 33) (.t 37) (.c (.bool false)), none⟩])
 (.cond (.t 38)
 (.region [⟨some 9, .mov (.c (.int .i64 2)), none⟩])
 .skip))
 (.seq
 (.seq
 (.region [⟨some 39, .mov (.t 9), none⟩, ⟨some 40, .bin .neq (.t 39) (.c (.int .i64 0)), none⟩])
 (.cond (.t 40)
 (.seq
 (.region [⟨some 41, .mov (.t 8), none⟩, ⟨some 42, .mov (.t 9), none⟩, ⟨some 43, .bin .eql (.t 41) (.t 42), none⟩, ⟨some 44, .mov (.t 43), none⟩, ⟨some 45, .mov (.t 5), (some (44, true))⟩, ⟨some 46, .len (.t 45), (some (44, true))⟩, ⟨some 47, .mov (.t 6), (some (44, true))⟩, ⟨some 48, .len (.t 47), (some (44, true))⟩, ⟨some 49, .bin .add (.t 46) (.t 48), (some (44, true))⟩, ⟨some 50, .bin .eql (.t 49) (.c (.int .i64 0)), (some (44, true))⟩, ⟨some 51, .pick (.t 44) (.t 50) (.c (.bool false)), none⟩, ⟨some 52, .mov (.t 51), none⟩, ⟨some 53, .mov (.t 7), (some (52, true))⟩, ⟨some 54, .bin .eql (.t 53) (.c (.int .i64 0)), (some (52, true))⟩, ⟨some 55, .pick (.t 52) (.t 54) (.c (.bool false)), none⟩, ⟨some 56, .mov (.t 55), none⟩, ⟨some 57, .call (.c (.func (.func 17) #[] #[])) [], (some (56, true))⟩, ⟨some 58, .pick (.t 56) (.t 57) (.c (.bool false)), none⟩, ⟨some 4, .mov (.t 58), none⟩])
 .ret)
 .skip))
 (.seq
 (.draw 37 [⟨⟨some 59, .mov (.t 8), none⟩, 0, false, []⟩, ⟨⟨some 60, .bin .eql (.t 59) (.c (.int .i64 0)), none⟩, 1, false, []⟩, ⟨⟨some 61, .mov (.t 60), none⟩, 2, false, []⟩, ⟨⟨some 62, .ld true 3 (.t 2), (some (61, true))⟩, 3, false, []⟩, ⟨⟨some 63, .mov (.t 5), (some (61, true))⟩, 4, false, []⟩, ⟨⟨some 64, .call (.c (.func (.func 23) #[] #[])) [(.t 62), (.t 63)], (some (61, true))⟩, 5, true, []⟩, ⟨⟨some 65, .pick (.t 61) (.t 64) (.c (.bool false)), none⟩, 6, false, []⟩, ⟨⟨some 66, .mov (.t 65), none⟩, 7, false, []⟩, ⟨⟨some 67, .ld true 3 (.t 2), (some (66, true))⟩, 8, false, []⟩, ⟨⟨some 68, .mov (.t 6), (some (66, true))⟩, 9, false, []⟩, ⟨⟨some 69, .call (.c (.func (.func 33) #[] #[])) [(.t 67), (.t 68)], (some (66, true))⟩, 10, true, []⟩, ⟨⟨some 70, .pick (.t 66) (.t 69) (.c (.bool false)), none⟩, 11, false, []⟩, ⟨⟨some 71, .mov (.t 70), none⟩, 12, false, []⟩, ⟨⟨some 72, .mov (.t 7), (some (71, true))⟩, 13, false, []⟩, ⟨⟨some 73, .ld true 3 (.t 2), (some (71, true))⟩, 14, false, []⟩, ⟨⟨some 74, .mov (.t 1), (some (71, true))⟩, 15, false, []⟩, ⟨⟨some 75, .mov (.t 5), (some (71, true))⟩, 16, false, []⟩, ⟨⟨some 76, .mov (.t 6), (some (71, true))⟩, 17, false, []⟩, ⟨⟨some 77, .call (.c (.func (.func 27) #[] #[])) [(.t 73), (.t 74), (.t 75), (.t 76)], (some (71, true))⟩, 18, true, []⟩, ⟨⟨some 78, .len (.t 77), (some (71, true))⟩, 19, false, []⟩, ⟨⟨some 79, .bin .eql (.t 72) (.t 78), (some (71, true))⟩, 20, false, []⟩, ⟨⟨some 80, .pick (.t 71) (.t 79) (.c (.bool false)), none⟩, 21, false, []⟩, ⟨⟨some 81, .mov (.t 80), none⟩, 22, false, []⟩, ⟨⟨some 82, .mov (.t 7), (some (81, true))⟩, 23, false, []⟩, ⟨⟨some 83, .ld true 3 (.t 2), (some (81, true))⟩, 24, false, []⟩, ⟨⟨some 84, .mov (.t 1), (some (81, true))⟩, 25, false, []⟩, ⟨⟨some 85, .ld true 3 (.t 2), (some (81, true))⟩, 26, false, []⟩, ⟨⟨some 87, .ld true 3 (.t 2), (some (81, true))⟩, 28, false, []⟩, ⟨⟨some 86, .call (.c (.func (.func 35) #[] #[])) [(.t 85), (.c (.slice none 0 0))], (some (81, true))⟩, 27, true, [28, 24]⟩, ⟨⟨some 88, .call (.c (.func (.func 36) #[] #[])) [(.t 87), (.c (.int .i64 0)), (.c (.slice none 0 0))], (some (81, true))⟩, 29, true, [24]⟩, ⟨⟨some 89, .call (.c (.func (.func 34) #[] #[])) [(.t 83), (.t 84), (.t 86), (.t 88)], (some (81, true))⟩, 30, true, []⟩, ⟨⟨some 90, .bin .eql (.t 82) (.t 89), (some (81, true))⟩, 31, false, []⟩, ⟨⟨some 91, .pick (.t 81) (.t 90) (.c (.bool false)), none⟩, 32, false, []⟩, ⟨⟨some 92, .mov (.t 91), none⟩, 33, false, []⟩, ⟨⟨some 93, .call (.c (.func (.func 17) #[] #[])) [], (some (92, true))⟩, 34, true, []⟩, ⟨⟨some 94, .pick (.t 92) (.t 93) (.c (.bool false)), none⟩, 35, false, []⟩, ⟨⟨some 4, .mov (.t 94), none⟩, 36, false, []⟩])
 .ret)))))))
def r6 : List AOp := [(.mov (.t 4))]
theorem ok6 : FnOk Try.prog 6 Try.f6.ntmps a6 r6 := ⟨Try.f6, Try.func6, by kernel_rfl, by kernel_rfl, by kernel_rfl, fun asv w => by simp⟩

def a10 : ACode :=
 (.seq
 (.region [⟨some 2, .box (.t 0), none⟩, ⟨some 4, .mov (.c (.bool false)), none⟩])
 (.seq
 (.region [⟨some 5, .mov (.c (.slice none 0 0)), none⟩, ⟨some 6, .mov (.c (.bool false)), none⟩])
 (.seq
 (.seq
 (.region [⟨some 25, .ld true 3 (.t 2), none⟩, ⟨some 26, .call (.c (.func (.func 41) #[] #[])) [(.t 25)], none⟩])
 (.cond (.t 26)
 (.region [⟨some 28, .ld true 3 (.t 2), none⟩, ⟨some 29, .mov (.t 1), none⟩, ⟨some 30, .call (.c (.func (.func 44) #[] #[])) [(.t 28), (.t 29)], none⟩, ⟨some 27, .mov (.t 30), none⟩, ⟨some 31, .ext (.t 27) 0, none⟩, ⟨some 32, .ext (.t 27) 1, none⟩, ⟨some 5, .mov (.t 31), none⟩, ⟨some 6, .mov (.t 32), none⟩])
 .skip))
 (.seq
 (.seq
 (.region [⟨some 33, .mov (.t 6), none⟩, ⟨some 34, .not (.t 33), none⟩])
 (.cond (.t 34)
 (.seq
 (.region [⟨some 35, .call (.c (.func (.func 17) #[] #[])) [], none⟩, ⟨some 4, .mov (.t 35), none⟩])
 .ret)
 .skip))
 (.seq
 (.draw 8 [⟨⟨some 36, .ld true 3 (.t 2), none⟩, 0, false, []⟩, ⟨⟨some 37, .mov (.t 1), none⟩, 1, false, []⟩, ⟨⟨some 39, .ld true 3 (.t 2), none⟩, 3, false, []⟩, ⟨⟨some 40, .mov (.t 1), none⟩, 4, false, []⟩, ⟨⟨some 38, .call (.c (.func (.func 42) #[] #[])) [(.t 36), (.t 37)], none⟩, 2, true, [3]⟩, ⟨⟨some 41, .call (.c (.func (.func 43) #[] #[])) [(.t 39), (.t 40)], none⟩, 5, true, []⟩, ⟨⟨some 7, .mov (.t 38), none⟩, 6, false, []⟩, ⟨⟨some 8, .mov (.t 41), none⟩, 7, false, []⟩])
 (.seq
 (.region [⟨some 43, .ld true 3 (.t 2), none⟩, ⟨some 44, .call (.c (.func (.func 20) #[] #[])) [(.t 43)], none⟩, ⟨some 45, .mov (.t 5), none⟩, ⟨some 46, .call (.c (.func (.func 22) #[] #[])) [(.t 45)], none⟩, ⟨some 47, .mov (.t 7), none⟩, ⟨some 48, .call (.c (.func (.func 22) #[] #[])) [(.t 47)], none⟩, ⟨some 49, .mov (.t 8), none⟩, ⟨some 50, .call (.c (.func (.func 22) #[] #[])) [(.t 49)], none⟩, ⟨some 51, .call (.c (.func (.func 28) #[] #[])) [(.t 44), (.t 46), (.t 48), (.t 50)], none⟩, ⟨some 42, .mov (.t 51), none⟩, ⟨some 52, .ext (.t 42) 0, none⟩, ⟨some 53, .ext (.t 42) 1, none⟩, ⟨some 9, .mov (.t 52), none⟩, ⟨some 10, .mov (.t 53), none⟩])
 (.seq
 (.region [⟨some 55, .ld true 3 (.t 2), none⟩, ⟨some 56, .call (.c (.func (.func 20) #[] #[])) [(.t 55)], none⟩, ⟨some 57, .mov (.t 5), none⟩, ⟨some 58, .call (.c (.func (.func 22) #[] #[])) [(.t 57)], none⟩, ⟨some 59, .mov (.t 7), none⟩, ⟨some 60, .call (.c (.func (.func 22) #[] #[])) [(.t 59)], none⟩, ⟨some 61, .mov (.t 8), none⟩, ⟨some 62, .call (.c (.func (.func 22) #[] #[])) [(.t 61)], none⟩, ⟨some 63, .call (.c (.func (.func 24) #[] #[])) [(.t 56), (.t 58), (.t 60), (.t 62)], none⟩, ⟨some 54, .mov (.t 63), none⟩, ⟨some 64, .ext (.t 54) 0, none⟩, ⟨some 65, .ext (.t 54) 1, none⟩, ⟨some 11, .mov (.t 64), none⟩, ⟨some 12, .mov (.t 65), none⟩])
 (.seq
 (.region [⟨some 66, .ld true 3 (.t 2), none⟩, ⟨some 67, .mov (.t 8), none⟩, ⟨some 68, .call (.c (.func (.func 45) #[] #[])) [(.t 66), (.t 67)], none⟩, ⟨some 13, .mov (.t 68), none⟩])
 (.seq
 (.seq
 (.region [⟨some 69, .mov (.t 10), none⟩, ⟨some 70, .bin .neq (.t 69) (.c (.int .i64 0)), none⟩, ⟨some 71, .mov (.t 70), none⟩, ⟨some 72, .mov (.t 12), (some (71, false))⟩, ⟨some 73, .bin .neq (.t 72) (.c (.int .i64 0)), (some (71, false))⟩, ⟨some 74, .pick (.t 71) (.c (.bool true)) (.t 73), none⟩, ⟨some 75, .mov (.t 74), none⟩, ⟨some 76, .mov (.t 9), (some (75, false))⟩, ⟨some 77, .len (.t 76), (some (75, false))⟩, ⟨some 78, .mov (.t 13), (some (75, false))⟩, ⟨some 79, .len (.t 78), (some (75, false))⟩, ⟨some 80, .bin .neq (.t 77) (.t 79), (some (75, false))⟩, ⟨some 81, .pick (.t 75) (.c (.bool true)) (.t 80), none⟩])
 (.cond (.t 81)
 (.seq
 (.region [⟨some 4, .mov (.c (.bool false)), none⟩])
 .ret)
 .skip))
 (.seq
 (.region [⟨some 82, .fa 1 (.t 2), none⟩, ⟨some 83, .ld false 1 (.t 82), none⟩, ⟨some 84, .len (.t 83), none⟩, ⟨some 14, .mov (.t 84), none⟩])
 (.seq
 (.draw 6 [⟨⟨some 85, .mov (.t 14), none⟩, 0, false, []⟩, ⟨⟨some 86, .mks 1 1 [(.bool false)] (.t 85) (.t 85), none⟩, 1, false, []⟩, ⟨⟨some 87, .mov (.t 14), none⟩, 2, false, []⟩, ⟨⟨some 88, .mks 1 1 [(.bool false)] (.t 87) (.t 87), none⟩, 3, false, []⟩, ⟨⟨some 15, .mov (.t 86), none⟩, 4, false, []⟩, ⟨⟨some 16, .mov (.t 88), none⟩, 5, false, []⟩])
 (.seq
 (.region [⟨some 17, .mov (.c (.int .i64 0)), none⟩])
 (.seq
 (.seq
 (.region [⟨some 18, .mov (.c (.int .i64 0)), none⟩])
 (.block 0
 (.loop
 (.seq
 (.seq
 (.region [⟨some 89, .mov (.t 18), none⟩, ⟨some 90, .mov (.t 9), none⟩, ⟨some 91, .len (.t 90), none⟩, ⟨some 92, .bin .lss (.t 89) (.t 91), none⟩])
 (.cond (.t 92)
 .skip
 (.exit 0)))
 (.seq
 (.block 1
 (.seq
 (.region [⟨some 95, .mov (.t 13), none⟩, ⟨some 96, .mov (.t 18), none⟩, ⟨some 97, .isl 1 (.t 95) (.t 96), none⟩, ⟨some 98, .ld false 1 (.t 97), none⟩, ⟨some 19, .mov (.t 98), none⟩])
 (.seq
 (.region [⟨some 20, .mov (.c (.int .i64 (-1))), none⟩])
 (.seq
 (.seq
 (.region [⟨some 21, .mov (.c (.int .i64 0)), none⟩])
 (.block 2
 (.loop
 (.seq
 (.seq
 (.region [⟨some 99, .mov (.t 21), none⟩, ⟨some 100, .mov (.t 9), none⟩, ⟨some 101, .mov (.t 18), none⟩, ⟨some 102, .isl 1 (.t 100) (.t 101), none⟩, ⟨some 103, .ld false 1 (.t 102), none⟩, ⟨some 104, .len (.t 103), none⟩, ⟨some 105, .bin .lss (.t 99) (.t 104), none⟩])
 (.cond (.t 105)
 .skip
 (.exit 2)))
 (.seq
 (.block 3
 (.seq
 (.region [⟨some 108, .mov (.t 9), none⟩, ⟨some 109, .mov (.t 18), none⟩, ⟨some 110, .isl 1 (.t 108) (.t 109), none⟩, ⟨some 111, .ld false 1 (.t 110), none⟩, ⟨some 112, .mov (.t 21), none⟩, ⟨some 113, .isl 1 (.t 111) (.t 112), none⟩, ⟨some 114, .ld false 1 (.t 113), none⟩, ⟨some 22, .mov (.t 114), none⟩])
 (.seq
 (.seq
 (.draw 44 [⟨⟨some 115, .mov (.t 22), none⟩, 0, false, []⟩, ⟨⟨some 116, .mov (.t 14), none⟩, 1, false, []⟩, ⟨⟨some 117, .bin .sub (.t 116) (.c (.int .i64 1)), none⟩, 2, false, []⟩, ⟨⟨some 118, .call (.c (.func (.func 46) #[] #[])) [(.t 115), (.c (.int .i64 0)), (.t 117)], none⟩, 3, true, []⟩, ⟨⟨some 119, .not (.t 118), none⟩, 4, false, []⟩, ⟨⟨some 120, .mov (.t 119), none⟩, 5, false, []⟩, ⟨⟨some 121, .mov (.t 15), (some (120, false))⟩, 6, false, []⟩, ⟨⟨some 122, .mov (.t 22), (some (120, false))⟩, 7, false, []⟩, ⟨⟨some 123, .isl 1 (.t 121) (.t 122), (some (120, false))⟩, 8, false, []⟩, ⟨⟨some 124, .ld false 1 (.t 123), (some (120, false))⟩, 9, false, []⟩, ⟨⟨some 125, .pick (.t 120) (.c (.bool true)) (.t 124), none⟩, 10, false, []⟩, ⟨⟨some 126, .mov (.t 125), none⟩, 11, false, []⟩, ⟨⟨some 127, .mov (.t 16), (some (126, false))⟩, 12, false, []⟩, ⟨⟨some 128, .mov (.t 22), (some (126, false))⟩, 13, false, []⟩, ⟨⟨some 129, .isl 1 (.t 127) (.t 128), (some (126, false))⟩, 14, false, []⟩, ⟨⟨some 130, .ld false 1 (.t 129), (some (126, false))⟩, 15, false, []⟩, ⟨⟨some 131, .pick (.t 126) (.c (.bool true)) (.t 130), none⟩, 16, false, []⟩, ⟨⟨some 132, .mov (.t 131), none⟩, 17, false, []⟩, ⟨⟨some 133, .mov (.t 5), (some (132, false))⟩, 18, false, []⟩, ⟨⟨some 134, .mov (.t 22), (some (132, false))⟩, 19, false, []⟩, ⟨⟨some 135, .isl 1 (.t 133) (.t 134), (some (132, false))⟩, 20, false, []⟩, ⟨⟨some 136, .ld false 1 (.t 135), (some (132, false))⟩, 21, false, []⟩, ⟨⟨some 137, .mov (.t 5), (some (132, false))⟩, 22, false, []⟩, ⟨⟨some 138, .mov (.t 19), (some (132, false))⟩, 23, false, []⟩, ⟨⟨some 139, .isl 1 (.t 137) (.t 138), (some (132, false))⟩, 24, false, []⟩, ⟨⟨some 140, .ld false 1 (.t 139), (some (132, false))⟩, 25, false, []⟩, ⟨⟨some 141, .bin .neq (.t 136) (.t 140), (some (132, false))⟩, 26, false, []⟩, ⟨⟨some 142, .pick (.t 132) (.c (.bool true)) (.t 141), none⟩, 27, false, []⟩, ⟨⟨some 143, .mov (.t 142), none⟩, 28, false, []⟩, ⟨⟨some 144, .mov (.t 7), (some (143, false))⟩, 29, false, []⟩, ⟨⟨some 145, .mov (.t 22), (some (143, false))⟩, 30, false, []⟩, ⟨⟨some 147, .mov (.t 7), (some (143, false))⟩, 32, false, []⟩, ⟨⟨some 148, .mov (.t 19), (some (143, false))⟩, 33, false, []⟩, ⟨⟨some 146, .call (.c (.func (.func 47) #[] #[])) [(.t 144), (.t 145)], (some (143, false))⟩, 31, true, []⟩, ⟨⟨some 149, .call (.c (.func (.func 47) #[] #[])) [(.t 147), (.t 148)], (some (143, false))⟩, 34, true, []⟩, ⟨⟨some 150, .bin .geq (.t 146) (.t 149), (some (143, false))⟩, 35, false, []⟩, ⟨⟨some 151, .pick (.t 143) (.c (.bool true)) (.t 150), none⟩, 36, false, []⟩, ⟨⟨some 152, .mov (.t 151), none⟩, 37, false, []⟩, ⟨⟨some 153, .mov (.t 7), (some (152, false))⟩, 38, false, []⟩, ⟨⟨some 154, .mov (.t 22), (some (152, false))⟩, 39, false, []⟩, ⟨⟨some 156, .mov (.t 20), (some (152, false))⟩, 41, false, []⟩, ⟨⟨some 155, .call (.c (.func (.func 47) #[] #[])) [(.t 153), (.t 154)], (some (152, false))⟩, 40, true, []⟩, ⟨⟨some 157, .bin .leq (.t 155) (.t 156), (some (152, false))⟩, 42, false, []⟩, ⟨⟨some 158, .pick (.t 152) (.c (.bool true)) (.t 157), none⟩, 43, false, []⟩])
 (.cond (.t 158)
 (.seq
 (.region [⟨some 4, .mov (.c (.bool false)), none⟩])
 .ret)
 .skip))
 (.seq
 (.region [⟨some 159, .mov (.t 7), none⟩, ⟨some 160, .mov (.t 22), none⟩, ⟨some 161, .call (.c (.func (.func 47) #[] #[])) [(.t 159), (.t 160)], none⟩, ⟨some 20, .mov (.t 161), none⟩])
 (.seq
 (.region [⟨some 162, .mov (.t 16), none⟩, ⟨some 163, .mov (.t 22), none⟩, ⟨some 164, .isl 1 (.t 162) (.t 163), none⟩, ⟨none, .st 1 (.t 164) (.c (.bool true)), none⟩])
 (.region [⟨some 165, .mov (.t 17), none⟩, ⟨some 166, .bin .add (.t 165) (.c (.int .i64 1)), none⟩, ⟨some 17, .mov (.t 166), none⟩]))))))
 (.region [⟨some 106, .mov (.t 21), none⟩, ⟨some 107, .bin .add (.t 106) (.c (.int .i64 1)), none⟩, ⟨some 21, .mov (.t 107), none⟩]))))))
 (.seq
 (.seq
 (.region [⟨some 23, .mov (.c (.int .i64 0)), none⟩])
 (.block 4
 (.loop
 (.seq
 (.seq
 (.region [⟨some 167, .mov (.t 23), none⟩, ⟨some 168, .mov (.t 14), none⟩, ⟨some 169, .bin .lss (.t 167) (.t 168), none⟩])
 (.cond (.t 169)
 .skip
 (.exit 4)))
 (.seq
 (.block 5
 (.seq
 (.draw 32 [⟨⟨some 172, .mov (.t 5), none⟩, 0, false, []⟩, ⟨⟨some 173, .mov (.t 23), none⟩, 1, false, []⟩, ⟨⟨some 174, .isl 1 (.t 172) (.t 173), none⟩, 2, false, []⟩, ⟨⟨some 175, .ld false 1 (.t 174), none⟩, 3, false, []⟩, ⟨⟨some 176, .mov (.t 5), none⟩, 4, false, []⟩, ⟨⟨some 177, .mov (.t 19), none⟩, 5, false, []⟩, ⟨⟨some 178, .isl 1 (.t 176) (.t 177), none⟩, 6, false, []⟩, ⟨⟨some 179, .ld false 1 (.t 178), none⟩, 7, false, []⟩, ⟨⟨some 180, .bin .eql (.t 175) (.t 179), none⟩, 8, false, []⟩, ⟨⟨some 181, .mov (.t 180), none⟩, 9, false, []⟩, ⟨⟨some 182, .mov (.t 7), (some (181, true))⟩, 10, false, []⟩, ⟨⟨some 183, .mov (.t 23), (some (181, true))⟩, 11, false, []⟩, ⟨⟨some 185, .mov (.t 7), (some (181, true))⟩, 13, false, []⟩, ⟨⟨some 186, .mov (.t 19), (some (181, true))⟩, 14, false, []⟩, ⟨⟨some 184, .call (.c (.func (.func 47) #[] #[])) [(.t 182), (.t 183)], (some (181, true))⟩, 12, true, []⟩, ⟨⟨some 187, .call (.c (.func (.func 47) #[] #[])) [(.t 185), (.t 186)], (some (181, true))⟩, 15, true, []⟩, ⟨⟨some 188, .bin .lss (.t 184) (.t 187), (some (181, true))⟩, 16, false, []⟩, ⟨⟨some 189, .pick (.t 181) (.t 188) (.c (.bool false)), none⟩, 17, false, []⟩, ⟨⟨some 190, .mov (.t 189), none⟩, 18, false, []⟩, ⟨⟨some 191, .mov (.t 15), (some (190, true))⟩, 19, false, []⟩, ⟨⟨some 192, .mov (.t 23), (some (190, true))⟩, 20, false, []⟩, ⟨⟨some 193, .isl 1 (.t 191) (.t 192), (some (190, true))⟩, 21, false, []⟩, ⟨⟨some 194, .ld false 1 (.t 193), (some (190, true))⟩, 22, false, []⟩, ⟨⟨some 195, .not (.t 194), (some (190, true))⟩, 23, false, []⟩, ⟨⟨some 196, .pick (.t 190) (.t 195) (.c (.bool false)), none⟩, 24, false, []⟩, ⟨⟨some 197, .mov (.t 196), none⟩, 25, false, []⟩, ⟨⟨some 198, .mov (.t 16), (some (197, true))⟩, 26, false, []⟩, ⟨⟨some 199, .mov (.t 23), (some (197, true))⟩, 27, false, []⟩, ⟨⟨some 200, .isl 1 (.t 198) (.t 199), (some (197, true))⟩, 28, false, []⟩, ⟨⟨some 201, .ld false 1 (.t 200), (some (197, true))⟩, 29, false, []⟩, ⟨⟨some 202, .not (.t 201), (some (197, true))⟩, 30, false, []⟩, ⟨⟨some 203, .pick (.t 197) (.t 202) (.c (.bool false)), none⟩, 31, false, []⟩])
 (.cond (.t 203)
 (.seq
 (.region [⟨some 4, .mov (.c (.bool false)), none⟩])
 .ret)
 .skip)))
 (.region [⟨some 170, .mov (.t 23), none⟩, ⟨some 171, .bin .add (.t 170) (.c (.int .i64 1)), none⟩, ⟨some 23, .mov (.t 171), none⟩]))))))
 (.region [⟨some 204, .mov (.t 15), none⟩, ⟨some 205, .mov (.t 19), none⟩, ⟨some 206, .isl 1 (.t 204) (.t 205), none⟩, ⟨none, .st 1 (.t 206) (.c (.bool true)), none⟩]))))))
 (.region [⟨some 93, .mov (.t 18), none⟩, ⟨some 94, .bin .add (.t 93) (.c (.int .i64 1)), none⟩, ⟨some 18, .mov (.t 94), none⟩]))))))
 (.seq
 (.seq
 (.region [⟨some 24, .mov (.c (.int .i64 0)), none⟩])
 (.block 6
 (.loop
 (.seq
 (.seq
 (.region [⟨some 207, .mov (.t 24), none⟩, ⟨some 208, .mov (.t 11), none⟩, ⟨some 209, .len (.t 208), none⟩, ⟨some 210, .bin .lss (.t 207) (.t 209), none⟩])
 (.cond (.t 210)
 .skip
 (.exit 6)))
 (.seq
 (.block 7
 (.seq
 (.draw 34 [⟨⟨some 213, .mov (.t 11), none⟩, 0, false, []⟩, ⟨⟨some 214, .mov (.t 24), none⟩, 1, false, []⟩, ⟨⟨some 215, .isl 1 (.t 213) (.t 214), none⟩, 2, false, []⟩, ⟨⟨some 216, .ld false 1 (.t 215), none⟩, 3, false, []⟩, ⟨⟨some 217, .mov (.t 14), none⟩, 4, false, []⟩, ⟨⟨some 218, .bin .sub (.t 217) (.c (.int .i64 1)), none⟩, 5, false, []⟩, ⟨⟨some 219, .call (.c (.func (.func 46) #[] #[])) [(.t 216), (.c (.int .i64 0)), (.t 218)], none⟩, 6, true, []⟩, ⟨⟨some 220, .not (.t 219), none⟩, 7, false, []⟩, ⟨⟨some 221, .mov (.t 220), none⟩, 8, false, []⟩, ⟨⟨some 222, .mov (.t 16), (some (221, false))⟩, 9, false, []⟩, ⟨⟨some 223, .mov (.t 11), (some (221, false))⟩, 10, false, []⟩, ⟨⟨some 224, .mov (.t 24), (some (221, false))⟩, 11, false, []⟩, ⟨⟨some 225, .isl 1 (.t 223) (.t 224), (some (221, false))⟩, 12, false, []⟩, ⟨⟨some 226, .ld false 1 (.t 225), (some (221, false))⟩, 13, false, []⟩, ⟨⟨some 227, .isl 1 (.t 222) (.t 226), (some (221, false))⟩, 14, false, []⟩, ⟨⟨some 228, .ld false 1 (.t 227), (some (221, false))⟩, 15, false, []⟩, ⟨⟨some 229, .not (.t 228), (some (221, false))⟩, 16, false, []⟩, ⟨⟨some 230, .pick (.t 221) (.c (.bool true)) (.t 229), none⟩, 17, false, []⟩, ⟨⟨some 231, .mov (.t 230), none⟩, 18, false, []⟩, ⟨⟨some 232, .mov (.t 24), (some (231, false))⟩, 19, false, []⟩, ⟨⟨some 233, .bin .gtr (.t 232) (.c (.int .i64 0)), (some (231, false))⟩, 20, false, []⟩, ⟨⟨some 234, .mov (.t 233), (some (231, false))⟩, 21, false, []⟩, ⟨⟨some 235, .mov (.t 11), (some (234, true))⟩, 22, false, []⟩, ⟨⟨some 236, .mov (.t 24), (some (234, true))⟩, 23, false, []⟩, ⟨⟨some 237, .isl 1 (.t 235) (.t 236), (some (234, true))⟩, 24, false, []⟩, ⟨⟨some 238, .ld false 1 (.t 237), (some (234, true))⟩, 25, false, []⟩, ⟨⟨some 239, .mov (.t 11), (some (234, true))⟩, 26, false, []⟩, ⟨⟨some 240, .mov (.t 24), (some (234, true))⟩, 27, false, []⟩, ⟨⟨some 241, .bin .sub (.t 240) (.c (.int .i64 1)), (some (234, true))⟩, 28, false, []⟩, ⟨⟨some 242, .isl 1 (.t 239) (.t 241), (some (234, true))⟩, 29, false, []⟩, ⟨⟨some 243, .ld false 1 (.t 242), (some (234, true))⟩, 30, false, []⟩, ⟨⟨some 244, .bin .leq (.t 238) (.t 243), (some (234, true))⟩, 31, false, []⟩, ⟨⟨some 245, .pick (.t 234) (.t 244) (.c (.bool false)), (some (231, false))⟩, 32, false, []⟩, ⟨⟨some 246, .pick (.t 231) (.c (.bool true)) (.t 245), none⟩, 33, false, []⟩])
 (.cond (.t 246)
 (.seq
 (.region [⟨some 4, .mov (.c (.bool false)), none⟩])
 .ret)
 .skip)))
 (.region [⟨some 211, .mov (.t 24), none⟩, ⟨some 212, .bin .add (.t 211) (.c (.int .i64 1)), none⟩, ⟨some 24, .mov (.t 212), none⟩]))))))
 (.seq
 (.region [⟨some 247, .mov (.t 11), none⟩, ⟨some 248, .len (.t 247), none⟩, ⟨some 249, .mov (.t 17), none⟩, ⟨some 250, .bin .eql (.t 248) (.t 249), none⟩, ⟨some 251, .mov (.t 250), none⟩, ⟨some 252, .call (.c (.func (.func 17) #[] #[])) [], (some (251, true))⟩, ⟨some 253, .pick (.t 251) (.t 252) (.c (.bool false)), none⟩, ⟨some 4, .mov (.t 253), none⟩])
 .ret)))))))))))))))
def r10 : List AOp := [(.mov (.t 4))]
theorem ok10 : FnOk Try.prog 10 Try.f10.ntmps a10 r10 := ⟨Try.f10, Try.func10, by kernel_rfl, by kernel_rfl, by kernel_rfl, fun asv w => by simp⟩

def a16 : ACode :=
 (.seq
 (.region [⟨some 1, .box (.t 0), none⟩, ⟨some 2, .mov (.c (.bool false)), none⟩])
 (.seq
 (.region [⟨some 3, .fa 0 (.t 1), none⟩, ⟨some 4, .ld false 1 (.t 3), none⟩, ⟨some 5, .len (.t 4), none⟩, ⟨some 6, .bin .leq (.t 5) (.c (.int .i64 6)), none⟩, ⟨some 7, .mov (.t 6), none⟩, ⟨some 8, .fa 1 (.t 1), (some (7, true))⟩, ⟨some 9, .ld false 1 (.t 8), (some (7, true))⟩, ⟨some 10, .len (.t 9), (some (7, true))⟩, ⟨some 11, .bin .leq (.t 10) (.c (.int .i64 12)), (some (7, true))⟩, ⟨some 12, .pick (.t 7) (.t 11) (.c (.bool false)), none⟩, ⟨some 2, .mov (.t 12), none⟩])
 .ret))
def r16 : List AOp := [(.mov (.t 2))]
theorem ok16 : FnOk Try.prog 16 Try.f16.ntmps a16 r16 := ⟨Try.f16, Try.func16, by kernel_rfl, by kernel_rfl, by kernel_rfl, fun asv w => by simp⟩

def a17 : ACode :=
 (.seq
 (.region [⟨some 0, .mov (.c (.bool false)), none⟩])
 (.seq
 (.region [⟨some 11, .call (.c (.func (.func 40) #[] #[])) [], none⟩, ⟨some 12, .bsl 4 [(.int .i64 0), (.int .i64 0), (.int .i64 0), (.int .i64 0)] [(0, 1, (.c (.int .i64 0))), (1, 1, (.c (.int .i64 0))), (2, 1, (.c (.int .i64 1))), (3, 1, (.c (.int .i64 1)))], none⟩, ⟨some 13, .bsl 4 [(.int .i64 0), (.int .i64 0), (.int .i64 0), (.int .i64 0)] [(0, 1, (.c (.int .i64 0))), (1, 1, (.c (.int .i64 1))), (2, 1, (.c (.int .i64 2))), (3, 1, (.c (.int .i64 3)))], none⟩, ⟨some 14, .call (.c (.func (.func 24) #[] #[])) [(.t 11), (.t 12), (.t 13), (.c (.slice none 0 0))], none⟩, ⟨some 10, .mov (.t 14), none⟩, ⟨some 15, .ext (.t 10) 0, none⟩, ⟨some 16, .ext (.t 10) 1, none⟩, ⟨some 1, .mov (.t 15), none⟩, ⟨some 2, .mov (.t 16), none⟩])
 (.seq
 (.region [⟨some 18, .call (.c (.func (.func 40) #[] #[])) [], none⟩, ⟨some 19, .bsl 4 [(.int .i64 0), (.int .i64 0), (.int .i64 0), (.int .i64 0)] [(0, 1, (.c (.int .i64 0))), (1, 1, (.c (.int .i64 1))), (2, 1, (.c (.int .i64 1))), (3, 1, (.c (.int .i64 0)))], none⟩, ⟨some 20, .call (.c (.func (.func 31) #[] #[])) [(.t 18), (.t 19)], none⟩, ⟨some 17, .mov (.t 20), none⟩, ⟨some 21, .ext (.t 17) 0, none⟩, ⟨some 22, .ext (.t 17) 1, none⟩, ⟨some 23, .ext (.t 17) 2, none⟩, ⟨some 24, .ext (.t 17) 3, none⟩, ⟨some 3, .mov (.t 21), none⟩, ⟨some 4, .mov (.t 22), none⟩, ⟨some 5, .mov (.t 23), none⟩, ⟨some 6, .mov (.t 24), none⟩])
 (.seq
 (.region [⟨some 26, .call (.c (.func (.func 40) #[] #[])) [], none⟩, ⟨some 27, .call (.c (.func (.func 38) #[] #[])) [(.t 26)], none⟩, ⟨some 25, .mov (.t 27), none⟩, ⟨some 28, .ext (.t 25) 0, none⟩, ⟨some 29, .ext (.t 25) 1, none⟩, ⟨some 30, .ext (.t 25) 2, none⟩, ⟨some 7, .mov (.t 28), none⟩, ⟨some 8, .mov (.t 29), none⟩, ⟨some 9, .mov (.t 30), none⟩])
 (.seq
 (.region [⟨some 31, .mov (.t 2), none⟩, ⟨some 32, .bin .eql (.t 31) (.c (.int .i64 0)), none⟩, ⟨some 33, .mov (.t 32), none⟩, ⟨some 34, .mov (.t 1), (some (33, true))⟩, ⟨some 35, .bsl 2 [(.int .i64 0), (.int .i64 0)] [(0, 1, (.c (.int .i64 0))), (1, 1, (.c (.int .i64 2)))], (some (33, true))⟩, ⟨some 36, .call (.c (.func (.func 26) #[] #[])) [(.t 34), (.t 35)], (some (33, true))⟩, ⟨some 37, .pick (.t 33) (.t 36) (.c (.bool false)), none⟩, ⟨some 38, .mov (.t 37), none⟩, ⟨some 39, .mov (.t 6), (some (38, true))⟩, ⟨some 40, .bin .eql (.t 39) (.c (.int .i64 0)), (some (38, true))⟩, ⟨some 41, .pick (.t 38) (.t 40) (.c (.bool false)), none⟩, ⟨some 42, .mov (.t 41), none⟩, ⟨some 43, .mov (.t 5), (some (42, true))⟩, ⟨some 44, .bin .eql (.t 43) (.c (.int .i64 2)), (some (42, true))⟩, ⟨some 45, .pick (.t 42) (.t 44) (.c (.bool false)), none⟩, ⟨some 46, .mov (.t 45), none⟩, ⟨some 47, .mov (.t 9), (some (46, true))⟩, ⟨some 48, .bin .eql (.t 47) (.c (.int .i64 0)), (some (46, true))⟩, ⟨some 49, .pick (.t 46) (.t 48) (.c (.bool false)), none⟩, ⟨some 50, .mov (.t 49), none⟩, ⟨some 51, .mov (.t 8), (some (50, true))⟩, ⟨some 52, .bin .eql (.t 51) (.c (.int .i64 2)), (some (50, true))⟩, ⟨some 53, .pick (.t 50) (.t 52) (.c (.bool false)), none⟩, ⟨some 54, .mov (.t 53), none⟩, ⟨some 55, .mov (.t 7), (some (54, true))⟩, ⟨some 56, .bsl 4 [(.int .i64 0), (.int .i64 0), (.int .i64 0), (.int .i64 0)] [(0, 1, (.c (.int .i64 0))), (1, 1, (.c (.int .i64 0))), (2, 1, (.c (.int .i64 1))), (3, 1, (.c (.int .i64 1)))], (some (54, true))⟩, ⟨some 57, .call (.c (.func (.func 26) #[] #[])) [(.t 55), (.t 56)], (some (54, true))⟩, ⟨some 58, .pick (.t 54) (.t 57) (.c (.bool false)), none⟩, ⟨some 0, .mov (.t 58), none⟩])
 .ret)))))
def r17 : List AOp := [(.mov (.t 0))]
theorem ok17 : FnOk Try.prog 17 Try.f17.ntmps a17 r17 := ⟨Try.f17, Try.func17, by kernel_rfl, by kernel_rfl, by kernel_rfl, fun asv w => by simp⟩

def a18 : ACode :=
 (.seq
 (.region [⟨some 1, .box (.t 0), none⟩, ⟨some 2, .mov (.c (.int .i64 0)), none⟩])
 (.seq
 (.region [⟨some 3, .ld true 3 (.t 1), none⟩, ⟨some 4, .call (.c (.func (.func 37) #[] #[])) [(.t 3)], none⟩, ⟨some 2, .mov (.t 4), none⟩])
 .ret))
def r18 : List AOp := [(.mov (.t 2))]
theorem ok18 : FnOk Try.prog 18 Try.f18.ntmps a18 r18 := ⟨Try.f18, Try.func18, by kernel_rfl, by kernel_rfl, by kernel_rfl, fun asv w => by simp⟩

def a19 : ACode :=
 (.seq
 (.region [⟨some 1, .box (.t 0), none⟩, ⟨some 2, .mov (.c (.int .i64 0)), none⟩])
 (.seq
 (.block 0
 (.seq
 (.seq
 (.region [⟨some 4, .fa 0 (.t 1), none⟩, ⟨some 5, .ld false 1 (.t 4), none⟩, ⟨some 6, .len (.t 5), none⟩, ⟨some 7, .bin .gtr (.t 6) (.c (.int .i64 3)), none⟩, ⟨some 3, .mov (.t 7), none⟩])
 (.cond (.t 3)
 .skip
 (.region [⟨some 8, .fa 1 (.t 1), none⟩, ⟨some 9, .ld false 1 (.t 8), none⟩, ⟨some 10, .len (.t 9), none⟩, ⟨some 11, .bin .gtr (.t 10) (.c (.int .i64 8)), none⟩, ⟨some 3, .mov (.t 11), none⟩])))
 (.cond (.t 3)
 (.seq
 (.region [⟨some 2, .mov (.c (.int .i64 3)), none⟩])
 .ret)
 (.seq
 (.seq
 (.region [⟨some 13, .fa 0 (.t 1), none⟩, ⟨some 14, .ld false 1 (.t 13), none⟩, ⟨some 15, .len (.t 14), none⟩, ⟨some 16, .bin .eql (.t 15) (.c (.int .i64 0)), none⟩, ⟨some 12, .mov (.t 16), none⟩])
 (.cond (.t 12)
 .skip
 (.seq
 (.region [⟨some 17, .fa 0 (.t 1), none⟩, ⟨some 18, .ld false 1 (.t 17), none⟩, ⟨some 19, .call (.c (.func (.func 48) #[] #[])) [(.t 18), (.c (.func (.func 49) #[] #[]))], none⟩, ⟨some 20, .not (.t 19), none⟩, ⟨some 12, .mov (.t 20), none⟩])
 (.cond (.t 12)
 .skip
 (.seq
 (.region [⟨some 21, .fa 1 (.t 1), none⟩, ⟨some 22, .ld false 1 (.t 21), none⟩, ⟨some 23, .call (.c (.func (.func 50) #[] #[])) [(.t 22), (.c (.func (.func 51) #[] #[]))], none⟩, ⟨some 24, .not (.t 23), none⟩, ⟨some 12, .mov (.t 24), none⟩])
 (.cond (.t 12)
 .skip
 (.seq
 (.region [⟨some 25, .ld true 3 (.t 1), none⟩, ⟨some 26, .call (.c (.func (.func 53) #[] #[])) [(.t 25)], none⟩, ⟨some 27, .call (.c (.func (.func 52) #[] #[])) [(.t 26)], none⟩, ⟨some 28, .not (.t 27), none⟩, ⟨some 12, .mov (.t 28), none⟩])
 (.cond (.t 12)
 .skip
 (.region [⟨some 29, .fa 2 (.t 1), none⟩, ⟨some 30, .ld false 1 (.t 29), none⟩, ⟨some 31, .call (.c (.func (.func 54) #[] #[])) [(.t 30), (.c (.int .i64 0)), (.c (.int .i64 2))], none⟩, ⟨some 32, .not (.t 31), none⟩, ⟨some 12, .mov (.t 32), none⟩])))))))))
 (.cond (.t 12)
 (.seq
 (.region [⟨some 2, .mov (.c (.int .i64 1)), none⟩])
 .ret)
 .skip)))))
 (.seq
 (.region [⟨some 2, .mov (.c (.int .i64 0)), none⟩])
 .ret)))
def r19 : List AOp := [(.mov (.t 2))]
theorem ok19 : FnOk Try.prog 19 Try.f19.ntmps a19 r19 := ⟨Try.f19, Try.func19, by kernel_rfl, by kernel_rfl, by kernel_rfl, fun asv w => by simp⟩

def a20 : ACode :=
 (.seq
 (.region [⟨some 1, .box (.t 0), none⟩, ⟨some 2, .new [(.slice none 0 0), (.slice none 0 0), (.int .i64 0)], none⟩])
 (.seq
 (.draw 8 [⟨⟨some 6, .fa 0 (.t 1), none⟩, 0, false, []⟩, ⟨⟨some 7, .ld false 1 (.t 6), none⟩, 1, false, []⟩, ⟨⟨some 9, .fa 2 (.t 1), none⟩, 3, false, []⟩, ⟨⟨some 10, .ld false 1 (.t 9), none⟩, 4, false, []⟩, ⟨⟨some 3, .new [(.slice none 0 0), (.slice none 0 0), (.int .i64 0)], none⟩, 6, false, []⟩, ⟨⟨some 8, .call (.c (.func (.func 22) #[] #[])) [(.t 7)], none⟩, 2, true, [4]⟩, ⟨⟨some 11, .bld [(.slice none 0 0), (.slice none 0 0), (.int .i64 0)] [(0, 1, (.t 8)), (2, 1, (.t 10))], none⟩, 5, false, []⟩, ⟨⟨none, .st 3 (.t 3) (.t 11), none⟩, 7, true, []⟩])
 (.seq
 (.seq
 (.region [⟨some 4, .mov (.c (.int .i64 0)), none⟩])
 (.block 0
 (.loop
 (.seq
 (.seq
 (.region [⟨some 12, .mov (.t 4), none⟩, ⟨some 13, .fa 1 (.t 1), none⟩, ⟨some 14, .ld false 1 (.t 13), none⟩, ⟨some 15, .len (.t 14), none⟩, ⟨some 16, .bin .lss (.t 12) (.t 15), none⟩])
 (.cond (.t 16)
 .skip
 (.exit 0)))
 (.seq
 (.block 1
 (.seq
 (.region [⟨some 19, .fa 1 (.t 1), none⟩, ⟨some 20, .ld false 1 (.t 19), none⟩, ⟨some 21, .mov (.t 4), none⟩, ⟨some 22, .isl 3 (.t 20) (.t 21), none⟩, ⟨some 23, .ld true 3 (.t 22), none⟩, ⟨some 5, .new [(.int .i64 0), (.int .i64 0), (.int .i64 0)], none⟩, ⟨none, .st 3 (.t 5) (.t 23), none⟩])
 (.region [⟨some 24, .fa 1 (.t 3), none⟩, ⟨some 25, .ld false 1 (.t 24), none⟩, ⟨some 26, .fa 0 (.t 5), none⟩, ⟨some 27, .ld false 1 (.t 26), none⟩, ⟨some 28, .fa 1 (.t 5), none⟩, ⟨some 29, .ld false 1 (.t 28), none⟩, ⟨some 30, .fa 2 (.t 5), none⟩, ⟨some 31, .ld false 1 (.t 30), none⟩, ⟨some 32, .bld [(.int .i64 0), (.int .i64 0), (.int .i64 0)] [(0, 1, (.t 27)), (1, 1, (.t 29)), (2, 1, (.t 31))], none⟩, ⟨some 33, .bsl 1 [(.int .i64 0), (.int .i64 0), (.int .i64 0)] [(0, 3, (.t 32))], none⟩, ⟨some 34, .app 3 24 (.t 25) (.t 33), none⟩, ⟨some 35, .fa 1 (.t 3), none⟩, ⟨none, .st 1 (.t 35) (.t 34), none⟩])))
 (.region [⟨some 17, .mov (.t 4), none⟩, ⟨some 18, .bin .add (.t 17) (.c (.int .i64 1)), none⟩, ⟨some 4, .mov (.t 18), none⟩]))))))
 (.seq
 (.region [⟨some 36, .ld true 3 (.t 3), none⟩, ⟨none, .st 3 (.t 2) (.t 36), none⟩])
 .ret))))
def r20 : List AOp := [(.ld true 3 (.t 2))]
theorem ok20 : FnOk Try.prog 20 Try.f20.ntmps a20 r20 := ⟨Try.f20, Try.func20, by kernel_rfl, by kernel_rfl, by kernel_rfl, fun asv w => by simp⟩

def a21 : ACode :=
 (.seq
 (.region [⟨some 2, .box (.t 0), none⟩, ⟨some 4, .mov (.c (.bool false)), none⟩])
 (.seq
 (.region [⟨some 5, .ld true 3 (.t 2), none⟩, ⟨some 6, .call (.c (.func (.func 19) #[] #[])) [(.t 5)], none⟩, ⟨some 7, .bin .eql (.t 6) (.c (.int .i64 0)), none⟩, ⟨some 8, .mov (.t 7), none⟩, ⟨some 9, .ld true 3 (.t 2), (some (8, true))⟩, ⟨some 10, .mov (.t 1), (some (8, true))⟩, ⟨some 11, .call (.c (.func (.func 55) #[] #[])) [(.t 9), (.t 10)], (some (8, true))⟩, ⟨some 12, .pick (.t 8) (.t 11) (.c (.bool false)), none⟩, ⟨some 4, .mov (.t 12), none⟩])
 .ret))
def r21 : List AOp := [(.mov (.t 4))]
theorem ok21 : FnOk Try.prog 21 Try.f21.ntmps a21 r21 := ⟨Try.f21, Try.func21, by kernel_rfl, by kernel_rfl, by kernel_rfl, fun asv w => by simp⟩

def a22 : ACode :=
 (.seq
 (.region [⟨some 2, .mov (.c (.slice none 0 0)), none⟩])
 (.seq
 (.region [⟨some 3, .mov (.t 0), none⟩, ⟨some 4, .app 1 8 (.c (.slice none 0 0)) (.t 3), none⟩, ⟨some 2, .mov (.t 4), none⟩])
 .ret))
def r22 : List AOp := [(.mov (.t 2))]
theorem ok22 : FnOk Try.prog 22 Try.f22.ntmps a22 r22 := ⟨Try.f22, Try.func22, by kernel_rfl, by kernel_rfl, by kernel_rfl, fun asv w => by simp⟩

def a23 : ACode :=
 (.seq
 (.region [⟨some 2, .box (.t 0), none⟩, ⟨some 4, .mov (.c (.bool false)), none⟩])
 (.seq
 (.seq
 (.region [⟨some 7, .mov (.t 1), none⟩, ⟨some 8, .len (.t 7), none⟩, ⟨some 9, .fa 1 (.t 2), none⟩, ⟨some 10, .ld false 1 (.t 9), none⟩, ⟨some 11, .len (.t 10), none⟩, ⟨some 12, .bin .neq (.t 8) (.t 11), none⟩])
 (.cond (.t 12)
 (.seq
 (.region [⟨some 4, .mov (.c (.bool false)), none⟩])
 .ret)
 .skip))
 (.seq
 (.seq
 (.region [⟨some 5, .mov (.c (.int .i64 0)), none⟩])
 (.block 0
 (.loop
 (.seq
 (.seq
 (.region [⟨some 13, .mov (.t 5), none⟩, ⟨some 14, .mov (.t 1), none⟩, ⟨some 15, .len (.t 14), none⟩, ⟨some 16, .bin .lss (.t 13) (.t 15), none⟩])
 (.cond (.t 16)
 .skip
 (.exit 0)))
 (.seq
 (.block 1
 (.seq
 (.seq
 (.draw 20 [⟨⟨some 19, .mov (.t 1), none⟩, 0, false, []⟩, ⟨⟨some 20, .mov (.t 5), none⟩, 1, false, []⟩, ⟨⟨some 21, .isl 1 (.t 19) (.t 20), none⟩, 2, false, []⟩, ⟨⟨some 22, .ld false 1 (.t 21), none⟩, 3, false, []⟩, ⟨⟨some 23, .fa 1 (.t 2), none⟩, 4, false, []⟩, ⟨⟨some 24, .ld false 1 (.t 23), none⟩, 5, false, []⟩, ⟨⟨some 25, .len (.t 24), none⟩, 6, false, []⟩, ⟨⟨some 26, .bin .sub (.t 25) (.c (.int .i64 1)), none⟩, 7, false, []⟩, ⟨⟨some 27, .call (.c (.func (.func 46) #[] #[])) [(.t 22), (.c (.int .i64 0)), (.t 26)], none⟩, 8, true, []⟩, ⟨⟨some 28, .not (.t 27), none⟩, 9, false, []⟩, ⟨⟨some 29, .mov (.t 28), none⟩, 10, false, []⟩, ⟨⟨some 30, .mov (.t 1), (some (29, false))⟩, 11, false, []⟩, ⟨⟨some 31, .mov (.t 5), (some (29, false))⟩, 12, false, []⟩, ⟨⟨some 32, .sl 1 (.t 30) none (some (.t 31)), (some (29, false))⟩, 13, false, []⟩, ⟨⟨some 33, .mov (.t 1), (some (29, false))⟩, 14, false, []⟩, ⟨⟨some 34, .mov (.t 5), (some (29, false))⟩, 15, false, []⟩, ⟨⟨some 35, .isl 1 (.t 33) (.t 34), (some (29, false))⟩, 16, false, []⟩, ⟨⟨some 36, .ld false 1 (.t 35), (some (29, false))⟩, 17, false, []⟩, ⟨⟨some 37, .call (.c (.func (.func 56) #[] #[])) [(.t 32), (.t 36)], (some (29, false))⟩, 18, true, []⟩, ⟨⟨some 38, .pick (.t 29) (.c (.bool true)) (.t 37), none⟩, 19, false, []⟩])
 (.cond (.t 38)
 (.seq
 (.region [⟨some 4, .mov (.c (.bool false)), none⟩])
 .ret)
 .skip))
 (.seq
 (.region [⟨some 6, .mov (.c (.int .i64 0)), none⟩])
 (.block 2
 (.loop
 (.seq
 (.seq
 (.region [⟨some 39, .mov (.t 6), none⟩, ⟨some 40, .mov (.t 5), none⟩, ⟨some 41, .bin .lss (.t 39) (.t 40), none⟩])
 (.cond (.t 41)
 .skip
 (.exit 2)))
 (.seq
 (.block 3
 (.seq
 (.draw 19 [⟨⟨some 44, .fa 1 (.t 2), none⟩, 0, false, []⟩, ⟨⟨some 45, .ld false 1 (.t 44), none⟩, 1, false, []⟩, ⟨⟨some 46, .mov (.t 1), none⟩, 2, false, []⟩, ⟨⟨some 47, .mov (.t 6), none⟩, 3, false, []⟩, ⟨⟨some 48, .isl 1 (.t 46) (.t 47), none⟩, 4, false, []⟩, ⟨⟨some 49, .ld false 1 (.t 48), none⟩, 5, false, []⟩, ⟨⟨some 50, .isl 3 (.t 45) (.t 49), none⟩, 6, false, []⟩, ⟨⟨some 51, .fa 0 (.t 50), none⟩, 7, false, []⟩, ⟨⟨some 52, .ld false 1 (.t 51), none⟩, 8, false, []⟩, ⟨⟨some 53, .fa 1 (.t 2), none⟩, 9, false, []⟩, ⟨⟨some 54, .ld false 1 (.t 53), none⟩, 10, false, []⟩, ⟨⟨some 55, .mov (.t 1), none⟩, 11, false, []⟩, ⟨⟨some 56, .mov (.t 5), none⟩, 12, false, []⟩, ⟨⟨some 57, .isl 1 (.t 55) (.t 56), none⟩, 13, false, []⟩, ⟨⟨some 58, .ld false 1 (.t 57), none⟩, 14, false, []⟩, ⟨⟨some 59, .isl 3 (.t 54) (.t 58), none⟩, 15, false, []⟩, ⟨⟨some 60, .fa 1 (.t 59), none⟩, 16, false, []⟩, ⟨⟨some 61, .ld false 1 (.t 60), none⟩, 17, false, []⟩, ⟨⟨some 62, .bin .gtr (.t 52) (.t 61), none⟩, 18, false, []⟩])
 (.cond (.t 62)
 (.seq
 (.region [⟨some 4, .mov (.c (.bool false)), none⟩])
 .ret)
 .skip)))
 (.region [⟨some 42, .mov (.t 6), none⟩, ⟨some 43, .bin .add (.t 42) (.c (.int .i64 1)), none⟩, ⟨some 6, .mov (.t 43), none⟩]))))))))
 (.region [⟨some 17, .mov (.t 5), none⟩, ⟨some 18, .bin .add (.t 17) (.c (.int .i64 1)), none⟩, ⟨some 5, .mov (.t 18), none⟩]))))))
 (.seq
 (.region [⟨some 4, .mov (.c (.bool true)), none⟩])
 .ret))))
def r23 : List AOp := [(.mov (.t 4))]
theorem ok23 : FnOk Try.prog 23 Try.f23.ntmps a23 r23 := ⟨Try.f23, Try.func23, by kernel_rfl, by kernel_rfl, by kernel_rfl, fun asv w => by simp⟩

def a24 : ACode :=
 (.seq
 (.region [⟨some 4, .box (.t 0), none⟩, ⟨some 8, .mov (.c (.slice none 0 0)), none⟩, ⟨some 9, .mov (.c (.int .i64 0)), none⟩])
 (.seq
 (.seq
 (.region [⟨some 11, .ld true 3 (.t 4), none⟩, ⟨some 12, .mov (.t 1), none⟩, ⟨some 13, .mov (.t 2), none⟩, ⟨some 14, .mov (.t 3), none⟩, ⟨some 15, .call (.c (.func (.func 57) #[] #[])) [(.t 11), (.t 12), (.t 13), (.t 14)], none⟩, ⟨some 10, .mov (.t 15), none⟩])
 (.seq
 (.region [⟨some 16, .mov (.t 10), none⟩, ⟨some 17, .bin .neq (.t 16) (.c (.int .i64 0)), none⟩])
 (.cond (.t 17)
 (.seq
 (.region [⟨some 18, .mov (.t 10), none⟩, ⟨some 8, .mov (.c (.slice none 0 0)), none⟩, ⟨some 9, .mov (.t 18), none⟩])
 .ret)
 .skip)))
 (.seq
 (.draw 10 [⟨⟨some 19, .ld true 3 (.t 4), none⟩, 0, false, []⟩, ⟨⟨some 20, .mov (.t 1), none⟩, 1, false, []⟩, ⟨⟨some 21, .mov (.t 2), none⟩, 2, false, []⟩, ⟨⟨some 23, .mov (.t 3), none⟩, 4, false, []⟩, ⟨⟨some 22, .call (.c (.func (.func 59) #[] #[])) [(.t 21)], none⟩, 3, true, [0]⟩, ⟨⟨some 24, .call (.c (.func (.func 60) #[] #[])) [(.t 23)], none⟩, 5, true, [0]⟩, ⟨⟨some 25, .call (.c (.func (.func 58) #[] #[])) [(.t 19), (.t 20), (.t 22), (.t 24)], none⟩, 6, true, []⟩, ⟨⟨some 26, .call (.c (.func (.func 61) #[] #[])) [(.t 25)], none⟩, 7, true, []⟩, ⟨⟨some 8, .mov (.t 26), none⟩, 8, false, []⟩, ⟨⟨some 9, .mov (.c (.int .i64 0)), none⟩, 9, false, []⟩])
 .ret)))
def r24 : List AOp := [(.mov (.t 8)), (.mov (.t 9))]
theorem ok24 : FnOk Try.prog 24 Try.f24.ntmps a24 r24 := ⟨Try.f24, Try.func24, by kernel_rfl, by kernel_rfl, by kernel_rfl, fun asv w => by simp⟩

def a25 : ACode :=
 (.seq
 (.region [⟨some 4, .box (.t 0), none⟩, ⟨some 8, .mov (.c (.int .i64 0)), none⟩])
 (.seq
 (.seq
 (.region [⟨some 10, .ld true 3 (.t 4), none⟩, ⟨some 11, .call (.c (.func (.func 18) #[] #[])) [(.t 10)], none⟩, ⟨some 9, .mov (.t 11), none⟩])
 (.seq
 (.region [⟨some 12, .mov (.t 9), none⟩, ⟨some 13, .bin .neq (.t 12) (.c (.int .i64 0)), none⟩])
 (.cond (.t 13)
 (.seq
 (.region [⟨some 14, .mov (.t 9), none⟩, ⟨some 8, .mov (.t 14), none⟩])
 .ret)
 .skip)))
 (.seq
 (.seq
 (.region [⟨some 15, .ld true 3 (.t 4), none⟩, ⟨some 16, .mov (.t 1), none⟩, ⟨some 17, .call (.c (.func (.func 32) #[] #[])) [(.t 15), (.t 16)], none⟩, ⟨some 18, .not (.t 17), none⟩, ⟨some 19, .mov (.t 18), none⟩, ⟨some 20, .ld true 3 (.t 4), (some (19, false))⟩, ⟨some 21, .mov (.t 2), (some (19, false))⟩, ⟨some 22, .call (.c (.func (.func 23) #[] #[])) [(.t 20), (.t 21)], (some (19, false))⟩, ⟨some 23, .not (.t 22), (some (19, false))⟩, ⟨some 24, .pick (.t 19) (.c (.bool true)) (.t 23), none⟩, ⟨some 25, .mov (.t 24), none⟩, ⟨some 26, .ld true 3 (.t 4), (some (25, false))⟩, ⟨some 27, .mov (.t 3), (some (25, false))⟩, ⟨some 28, .call (.c (.func (.func 33) #[] #[])) [(.t 26), (.t 27)], (some (25, false))⟩, ⟨some 29, .not (.t 28), (some (25, false))⟩, ⟨some 30, .pick (.t 25) (.c (.bool true)) (.t 29), none⟩])
 (.cond (.t 30)
 (.seq
 (.region [⟨some 8, .mov (.c (.int .i64 2)), none⟩])
 .ret)
 .skip))
 (.seq
 (.region [⟨some 8, .mov (.c (.int .i64 0)), none⟩])
 .ret))))
def r25 : List AOp := [(.mov (.t 8))]
theorem ok25 : FnOk Try.prog 25 Try.f25.ntmps a25 r25 := ⟨Try.f25, Try.func25, by kernel_rfl, by kernel_rfl, by kernel_rfl, fun asv w => by simp⟩

def a26 : ACode :=
 (.seq
 (.region [⟨some 4, .mov (.c (.bool false)), none⟩])
 (.seq
 (.seq
 (.region [⟨some 6, .mov (.t 0), none⟩, ⟨some 7, .len (.t 6), none⟩, ⟨some 8, .mov (.t 1), none⟩, ⟨some 9, .len (.t 8), none⟩, ⟨some 10, .bin .neq (.t 7) (.t 9), none⟩])
 (.cond (.t 10)
 (.seq
 (.region [⟨some 4, .mov (.c (.bool false)), none⟩])
 .ret)
 .skip))
 (.seq
 (.seq
 (.region [⟨some 5, .mov (.c (.int .i64 0)), none⟩])
 (.block 0
 (.loop
 (.seq
 (.seq
 (.region [⟨some 11, .mov (.t 5), none⟩, ⟨some 12, .mov (.t 0), none⟩, ⟨some 13, .len (.t 12), none⟩, ⟨some 14, .bin .lss (.t 11) (.t 13), none⟩])
 (.cond (.t 14)
 .skip
 (.exit 0)))
 (.seq
 (.block 1
 (.seq
 (.draw 9 [⟨⟨some 17, .mov (.t 0), none⟩, 0, false, []⟩, ⟨⟨some 18, .mov (.t 5), none⟩, 1, false, []⟩, ⟨⟨some 19, .isl 1 (.t 17) (.t 18), none⟩, 2, false, []⟩, ⟨⟨some 20, .ld false 1 (.t 19), none⟩, 3, false, []⟩, ⟨⟨some 21, .mov (.t 1), none⟩, 4, false, []⟩, ⟨⟨some 22, .mov (.t 5), none⟩, 5, false, []⟩, ⟨⟨some 23, .isl 1 (.t 21) (.t 22), none⟩, 6, false, []⟩, ⟨⟨some 24, .ld false 1 (.t 23), none⟩, 7, false, []⟩, ⟨⟨some 25, .bin .neq (.t 20) (.t 24), none⟩, 8, false, []⟩])
 (.cond (.t 25)
 (.seq
 (.region [⟨some 4, .mov (.c (.bool false)), none⟩])
 .ret)
 .skip)))
 (.region [⟨some 15, .mov (.t 5), none⟩, ⟨some 16, .bin .add (.t 15) (.c (.int .i64 1)), none⟩, ⟨some 5, .mov (.t 16), none⟩]))))))
 (.seq
 (.region [⟨some 4, .mov (.c (.bool true)), none⟩])
 .ret))))
def r26 : List AOp := [(.mov (.t 4))]
theorem ok26 : FnOk Try.prog 26 Try.f26.ntmps a26 r26 := ⟨Try.f26, Try.func26, by kernel_rfl, by kernel_rfl, by kernel_rfl, fun asv w => by simp⟩

def a27 : ACode :=
 (.seq
 (.region [⟨some 4, .box (.t 0), none⟩, ⟨some 8, .mov (.c (.slice none 0 0)), none⟩])
 (.seq
 (.region [⟨some 9, .mov (.c (.slice none 0 0)), none⟩, ⟨some 10, .mov (.c (.slice none 0 0)), none⟩])
 (.seq
 (.region [⟨some 14, .ld true 3 (.t 4), none⟩, ⟨some 15, .mov (.t 1), none⟩, ⟨some 16, .mov (.t 2), none⟩, ⟨some 17, .mov (.t 3), none⟩, ⟨some 18, .call (.c (.func (.func 29) #[] #[])) [(.t 14), (.t 15), (.t 16), (.t 17)], none⟩, ⟨some 11, .mov (.t 18), none⟩])
 (.seq
 (.seq
 (.region [⟨some 12, .mov (.c (.int .i64 0)), none⟩])
 (.block 0
 (.loop
 (.seq
 (.seq
 (.region [⟨some 19, .mov (.t 12), none⟩, ⟨some 20, .mov (.t 11), none⟩, ⟨some 21, .len (.t 20), none⟩, ⟨some 22, .bin .lss (.t 19) (.t 21), none⟩])
 (.cond (.t 22)
 .skip
 (.exit 0)))
 (.seq
 (.block 1
 (.region [⟨some 25, .mov (.t 9), none⟩, ⟨some 26, .mov (.t 11), none⟩, ⟨some 27, .mov (.t 12), none⟩, ⟨some 28, .isl 1 (.t 26) (.t 27), none⟩, ⟨some 29, .ld false 1 (.t 28), none⟩, ⟨some 30, .app 1 8 (.t 25) (.t 29), none⟩, ⟨some 9, .mov (.t 30), none⟩]))
 (.region [⟨some 23, .mov (.t 12), none⟩, ⟨some 24, .bin .add (.t 23) (.c (.int .i64 1)), none⟩, ⟨some 12, .mov (.t 24), none⟩]))))))
 (.seq
 (.seq
 (.region [⟨some 13, .mov (.c (.int .i64 0)), none⟩])
 (.block 2
 (.loop
 (.seq
 (.seq
 (.region [⟨some 31, .mov (.t 13), none⟩, ⟨some 32, .fa 1 (.t 4), none⟩, ⟨some 33, .ld false 1 (.t 32), none⟩, ⟨some 34, .len (.t 33), none⟩, ⟨some 35, .bin .lss (.t 31) (.t 34), none⟩])
 (.cond (.t 35)
 .skip
 (.exit 2)))
 (.seq
 (.block 3
 (.seq
 (.region [⟨some 38, .mov (.t 9), none⟩, ⟨some 39, .mov (.t 13), none⟩, ⟨some 40, .call (.c (.func (.func 56) #[] #[])) [(.t 38), (.t 39)], none⟩])
 (.cond (.t 40)
 (.region [⟨some 41, .mov (.t 10), none⟩, ⟨some 42, .mov (.t 13), none⟩, ⟨some 43, .bsl 1 [(.int .i64 0)] [(0, 1, (.t 42))], none⟩, ⟨some 44, .app 1 8 (.t 41) (.t 43), none⟩, ⟨some 10, .mov (.t 44), none⟩])
 .skip)))
 (.region [⟨some 36, .mov (.t 13), none⟩, ⟨some 37, .bin .add (.t 36) (.c (.int .i64 1)), none⟩, ⟨some 13, .mov (.t 37), none⟩]))))))
 (.seq
 (.region [⟨some 45, .mov (.t 10), none⟩, ⟨some 8, .mov (.t 45), none⟩])
 .ret))))))
def r27 : List AOp := [(.mov (.t 8))]
theorem ok27 : FnOk Try.prog 27 Try.f27.ntmps a27 r27 := ⟨Try.f27, Try.func27, by kernel_rfl, by kernel_rfl, by kernel_rfl, fun asv w => by simp⟩

def a28 : ACode :=
 (.seq
 (.region [⟨some 4, .box (.t 0), none⟩, ⟨some 8, .mov (.c (.slice none 0 0)), none⟩, ⟨some 9, .mov (.c (.int .i64 0)), none⟩])
 (.seq
 (.seq
 (.region [⟨some 11, .ld true 3 (.t 4), none⟩, ⟨some 12, .mov (.t 1), none⟩, ⟨some 13, .mov (.t 2), none⟩, ⟨some 14, .mov (.t 3), none⟩, ⟨some 15, .call (.c (.func (.func 57) #[] #[])) [(.t 11), (.t 12), (.t 13), (.t 14)], none⟩, ⟨some 10, .mov (.t 15), none⟩])
 (.seq
 (.region [⟨some 16, .mov (.t 10), none⟩, ⟨some 17, .bin .neq (.t 16) (.c (.int .i64 0)), none⟩])
 (.cond (.t 17)
 (.seq
 (.region [⟨some 18, .mov (.t 10), none⟩, ⟨some 8, .mov (.c (.slice none 0 0)), none⟩, ⟨some 9, .mov (.t 18), none⟩])
 .ret)
 .skip)))
 (.seq
 (.draw 11 [⟨⟨some 19, .ld true 3 (.t 4), none⟩, 0, false, []⟩, ⟨⟨some 20, .mov (.t 1), none⟩, 1, false, []⟩, ⟨⟨some 21, .mov (.t 2), none⟩, 2, false, []⟩, ⟨⟨some 23, .mov (.t 3), none⟩, 4, false, []⟩, ⟨⟨some 26, .mov (.t 2), none⟩, 7, false, []⟩, ⟨⟨some 22, .call (.c (.func (.func 59) #[] #[])) [(.t 21)], none⟩, 3, true, [0]⟩, ⟨⟨some 24, .call (.c (.func (.func 60) #[] #[])) [(.t 23)], none⟩, 5, true, [0]⟩, ⟨⟨some 25, .call (.c (.func (.func 58) #[] #[])) [(.t 19), (.t 20), (.t 22), (.t 24)], none⟩, 6, true, []⟩, ⟨⟨some 27, .call (.c (.func (.func 62) #[] #[])) [(.t 25), (.t 26)], none⟩, 8, true, []⟩, ⟨⟨some 8, .mov (.t 27), none⟩, 9, false, []⟩, ⟨⟨some 9, .mov (.c (.int .i64 0)), none⟩, 10, false, []⟩])
 .ret)))
def r28 : List AOp := [(.mov (.t 8)), (.mov (.t 9))]
theorem ok28 : FnOk Try.prog 28 Try.f28.ntmps a28 r28 := ⟨Try.f28, Try.func28, by kernel_rfl, by kernel_rfl, by kernel_rfl, fun asv w => by simp⟩

def a29 : ACode :=
 (.seq
 (.region [⟨some 4, .box (.t 0), none⟩, ⟨some 8, .mov (.c (.slice none 0 0)), none⟩])
 (.seq
 (.region [⟨some 9, .mov (.c (.slice none 0 0)), none⟩])
 (.seq
 (.region [⟨some 16, .ld true 3 (.t 4), none⟩, ⟨some 17, .mov (.t 3), none⟩, ⟨some 18, .call (.c (.func (.func 45) #[] #[])) [(.t 16), (.t 17)], none⟩, ⟨some 10, .mov (.t 18), none⟩])
 (.seq
 (.region [⟨some 19, .mov (.t 10), none⟩, ⟨some 20, .len (.t 19), none⟩, ⟨some 21, .mks 1 24 [(.slice none 0 0)] (.t 20) (.t 20), none⟩, ⟨some 11, .mov (.t 21), none⟩])
 (.seq
 (.seq
 (.region [⟨some 12, .mov (.c (.int .i64 0)), none⟩])
 (.block 0
 (.loop
 (.seq
 (.seq
 (.region [⟨some 22, .mov (.t 12), none⟩, ⟨some 23, .mov (.t 10), none⟩, ⟨some 24, .len (.t 23), none⟩, ⟨some 25, .bin .lss (.t 22) (.t 24), none⟩])
 (.cond (.t 25)
 .skip
 (.exit 0)))
 (.seq
 (.block 1
 (.seq
 (.region [⟨some 28, .mov (.t 10), none⟩, ⟨some 29, .mov (.t 12), none⟩, ⟨some 30, .isl 1 (.t 28) (.t 29), none⟩, ⟨some 31, .ld false 1 (.t 30), none⟩, ⟨some 13, .mov (.t 31), none⟩])
 (.seq
 (.seq
 (.region [⟨some 14, .mov (.c (.int .i64 0)), none⟩])
 (.block 2
 (.loop
 (.seq
 (.seq
 (.region [⟨some 32, .mov (.t 14), none⟩, ⟨some 33, .mov (.t 2), none⟩, ⟨some 34, .len (.t 33), none⟩, ⟨some 35, .bin .lss (.t 32) (.t 34), none⟩, ⟨some 36, .mov (.t 35), none⟩, ⟨some 37, .mov (.t 2), (some (36, true))⟩, ⟨some 38, .mov (.t 14), (some (36, true))⟩, ⟨some 39, .isl 1 (.t 37) (.t 38), (some (36, true))⟩, ⟨some 40, .ld false 1 (.t 39), (some (36, true))⟩, ⟨some 41, .mov (.t 13), (some (36, true))⟩, ⟨some 42, .bin .neq (.t 40) (.t 41), (some (36, true))⟩, ⟨some 43, .pick (.t 36) (.t 42) (.c (.bool false)), none⟩])
 (.cond (.t 43)
 .skip
 (.exit 2)))
 (.seq
 (.block 3
 (.seq
 (.region [⟨some 46, .mov (.t 2), none⟩, ⟨some 47, .mov (.t 14), none⟩, ⟨some 48, .isl 1 (.t 46) (.t 47), none⟩, ⟨some 49, .ld false 1 (.t 48), none⟩, ⟨some 15, .mov (.t 49), none⟩])
 (.seq
 (.draw 15 [⟨⟨some 50, .mov (.t 1), none⟩, 0, false, []⟩, ⟨⟨some 51, .mov (.t 15), none⟩, 1, false, []⟩, ⟨⟨some 52, .isl 1 (.t 50) (.t 51), none⟩, 2, false, []⟩, ⟨⟨some 53, .ld false 1 (.t 52), none⟩, 3, false, []⟩, ⟨⟨some 54, .mov (.t 1), none⟩, 4, false, []⟩, ⟨⟨some 55, .mov (.t 13), none⟩, 5, false, []⟩, ⟨⟨some 56, .isl 1 (.t 54) (.t 55), none⟩, 6, false, []⟩, ⟨⟨some 57, .ld false 1 (.t 56), none⟩, 7, false, []⟩, ⟨⟨some 58, .bin .eql (.t 53) (.t 57), none⟩, 8, false, []⟩, ⟨⟨some 59, .mov (.t 58), none⟩, 9, false, []⟩, ⟨⟨some 60, .mov (.t 9), (some (59, true))⟩, 10, false, []⟩, ⟨⟨some 61, .mov (.t 15), (some (59, true))⟩, 11, false, []⟩, ⟨⟨some 62, .call (.c (.func (.func 56) #[] #[])) [(.t 60), (.t 61)], (some (59, true))⟩, 12, true, []⟩, ⟨⟨some 63, .not (.t 62), (some (59, true))⟩, 13, false, []⟩, ⟨⟨some 64, .pick (.t 59) (.t 63) (.c (.bool false)), none⟩, 14, false, []⟩])
 (.cond (.t 64)
 (.seq
 (.region [⟨some 65, .mov (.t 11), none⟩, ⟨some 66, .mov (.t 12), none⟩, ⟨some 67, .mov (.t 11), none⟩, ⟨some 68, .mov (.t 12), none⟩, ⟨some 69, .isl 1 (.t 67) (.t 68), none⟩, ⟨some 70, .ld false 1 (.t 69), none⟩, ⟨some 71, .mov (.t 15), none⟩, ⟨some 72, .bsl 1 [(.int .i64 0)] [(0, 1, (.t 71))], none⟩, ⟨some 73, .app 1 8 (.t 70) (.t 72), none⟩, ⟨some 74, .isl 1 (.t 65) (.t 66), none⟩, ⟨none, .st 1 (.t 74) (.t 73), none⟩])
 (.region [⟨some 75, .mov (.t 9), none⟩, ⟨some 76, .mov (.t 15), none⟩, ⟨some 77, .bsl 1 [(.int .i64 0)] [(0, 1, (.t 76))], none⟩, ⟨some 78, .app 1 8 (.t 75) (.t 77), none⟩, ⟨some 9, .mov (.t 78), none⟩]))
 .skip))))
 (.region [⟨some 44, .mov (.t 14), none⟩, ⟨some 45, .bin .add (.t 44) (.c (.int .i64 1)), none⟩, ⟨some 14, .mov (.t 45), none⟩]))))))
 (.region [⟨some 79, .mov (.t 9), none⟩, ⟨some 80, .mov (.t 13), none⟩, ⟨some 81, .bsl 1 [(.int .i64 0)] [(0, 1, (.t 80))], none⟩, ⟨some 82, .app 1 8 (.t 79) (.t 81), none⟩, ⟨some 9, .mov (.t 82), none⟩]))))
 (.region [⟨some 26, .mov (.t 12), none⟩, ⟨some 27, .bin .add (.t 26) (.c (.int .i64 1)), none⟩, ⟨some 12, .mov (.t 27), none⟩]))))))
 (.seq
 (.region [⟨some 83, .mov (.t 11), none⟩, ⟨some 8, .mov (.t 83), none⟩])
 .ret))))))
def r29 : List AOp := [(.mov (.t 8))]
theorem ok29 : FnOk Try.prog 29 Try.f29.ntmps a29 r29 := ⟨Try.f29, Try.func29, by kernel_rfl, by kernel_rfl, by kernel_rfl, fun asv w => by simp⟩

def a30 : ACode :=
 (.seq
 (.region [⟨some 1, .box (.t 0), none⟩, ⟨some 2, .mov (.c (.bool false)), none⟩])
 (.seq
 (.region [⟨some 3, .ld true 3 (.t 1), none⟩, ⟨some 4, .call (.c (.func (.func 16) #[] #[])) [(.t 3)], none⟩, ⟨some 5, .mov (.t 4), none⟩, ⟨some 6, .ld true 3 (.t 1), (some (5, true))⟩, ⟨some 7, .call (.c (.func (.func 37) #[] #[])) [(.t 6)], (some (5, true))⟩, ⟨some 8, .bin .neq (.t 7) (.c (.int .i64 0)), (some (5, true))⟩, ⟨some 9, .mov (.t 8), (some (5, true))⟩, ⟨some 10, .fa 1 (.t 1), (some (9, false))⟩, ⟨some 11, .ld false 1 (.t 10), (some (9, false))⟩, ⟨some 12, .len (.t 11), (some (9, false))⟩, ⟨some 13, .bin .leq (.t 12) (.c (.int .i64 5)), (some (9, false))⟩, ⟨some 14, .pick (.t 9) (.c (.bool true)) (.t 13), (some (5, true))⟩, ⟨some 15, .pick (.t 5) (.t 14) (.c (.bool false)), none⟩, ⟨some 2, .mov (.t 15), none⟩])
 .ret))
def r30 : List AOp := [(.mov (.t 2))]
theorem ok30 : FnOk Try.prog 30 Try.f30.ntmps a30 r30 := ⟨Try.f30, Try.func30, by kernel_rfl, by kernel_rfl, by kernel_rfl, fun asv w => by simp⟩

def a31 : ACode :=
 (.seq
 (.region [⟨some 2, .box (.t 0), none⟩, ⟨some 4, .mov (.c (.slice none 0 0)), none⟩, ⟨some 5, .mov (.c (.slice none 0 0)), none⟩, ⟨some 6, .mov (.c (.int .i64 0)), none⟩, ⟨some 7, .mov (.c (.int .i64 0)), none⟩])
 (.seq
 (.seq
 (.region [⟨some 11, .ld true 3 (.t 2), none⟩, ⟨some 12, .mov (.t 1), none⟩, ⟨some 13, .call (.c (.func (.func 63) #[] #[])) [(.t 11), (.t 12)], none⟩, ⟨some 8, .mov (.t 13), none⟩])
 (.seq
 (.region [⟨some 14, .mov (.t 8), none⟩, ⟨some 15, .bin .neq (.t 14) (.c (.int .i64 0)), none⟩])
 (.cond (.t 15)
 (.seq
 (.region [⟨some 16, .mov (.t 8), none⟩, ⟨some 4, .mov (.c (.slice none 0 0)), none⟩, ⟨some 5, .mov (.c (.slice none 0 0)), none⟩, ⟨some 6, .mov (.c (.int .i64 0)), none⟩, ⟨some 7, .mov (.t 16), none⟩])
 .ret)
 .skip)))
 (.seq
 (.region [⟨some 17, .ld true 3 (.t 2), none⟩, ⟨some 18, .call (.c (.func (.func 64) #[] #[])) [(.t 17)], none⟩, ⟨some 19, .mov (.t 1), none⟩, ⟨some 20, .call (.c (.func (.func 65) #[] #[])) [(.t 18), (.t 19)], none⟩, ⟨some 9, .new [(.int .i64 0), (.int .i64 0), (.int .i64 0), (.int .i64 0), (.int .i64 0), (.int .i64 0), (.int .i64 0), (.int .i64 0), (.int .i64 0), (.bool false), (.bool false), (.bool false), (.bool false), (.bool false), (.bool false), (.bool false), (.bool false)], none⟩, ⟨none, .st 17 (.t 9) (.t 20), none⟩])
 (.seq
 (.region [⟨some 21, .ld true 3 (.t 2), none⟩, ⟨some 22, .mov (.t 1), none⟩, ⟨some 23, .fa 1 (.t 9), none⟩, ⟨some 24, .ld true 8 (.t 23), none⟩, ⟨some 25, .fa 9 (.t 9), none⟩, ⟨some 26, .ld true 8 (.t 25), none⟩, ⟨some 27, .call (.c (.func (.func 58) #[] #[])) [(.t 21), (.t 22), (.t 24), (.t 26)], none⟩, ⟨some 10, .new [(.slice none 0 0), (.slice none 0 0), (.int .i64 0), (.int .i64 0), (.int .i64 0), (.int .i64 0), (.int .i64 0), (.int .i64 0), (.int .i64 0), (.int .i64 0), (.int .i64 0), (.int .i64 0), (.int .i64 0), (.int .i64 0), (.int .i64 0), (.int .i64 0), (.int .i64 0), (.int .i64 0), (.int .i64 0), (.bool false), (.bool false), (.bool false), (.bool false), (.bool false), (.bool false), (.bool false), (.bool false)], none⟩, ⟨none, .st 27 (.t 10) (.t 27), none⟩])
 (.seq
 (.draw 10 [⟨⟨some 28, .ld true 27 (.t 10), none⟩, 0, false, []⟩, ⟨⟨some 30, .ld true 27 (.t 10), none⟩, 2, false, []⟩, ⟨⟨some 32, .fa 0 (.t 9), none⟩, 4, false, []⟩, ⟨⟨some 33, .ld false 1 (.t 32), none⟩, 5, false, []⟩, ⟨⟨some 29, .call (.c (.func (.func 66) #[] #[])) [(.t 28)], none⟩, 1, true, [5, 2]⟩, ⟨⟨some 31, .call (.c (.func (.func 67) #[] #[])) [(.t 30)], none⟩, 3, true, [5]⟩, ⟨⟨some 4, .mov (.t 29), none⟩, 6, false, []⟩, ⟨⟨some 5, .mov (.t 31), none⟩, 7, false, []⟩, ⟨⟨some 6, .mov (.t 33), none⟩, 8, false, []⟩, ⟨⟨some 7, .mov (.c (.int .i64 0)), none⟩, 9, false, []⟩])
 .ret)))))
def r31 : List AOp := [(.mov (.t 4)), (.mov (.t 5)), (.mov (.t 6)), (.mov (.t 7))]
theorem ok31 : FnOk Try.prog 31 Try.f31.ntmps a31 r31 := ⟨Try.f31, Try.func31, by kernel_rfl, by kernel_rfl, by kernel_rfl, fun asv w => by simp⟩

def a32 : ACode :=
 (.seq
 (.region [⟨some 2, .box (.t 0), none⟩, ⟨some 4, .mov (.c (.bool false)), none⟩])
 (.seq
 (.seq
 (.region [⟨some 7, .mov (.t 1), none⟩, ⟨some 8, .len (.t 7), none⟩, ⟨some 9, .fa 1 (.t 2), none⟩, ⟨some 10, .ld false 1 (.t 9), none⟩, ⟨some 11, .len (.t 10), none⟩, ⟨some 12, .bin .neq (.t 8) (.t 11), none⟩])
 (.cond (.t 12)
 (.seq
 (.region [⟨some 4, .mov (.c (.bool false)), none⟩])
 .ret)
 .skip))
 (.seq
 (.region [⟨some 13, .fa 0 (.t 2), none⟩, ⟨some 14, .ld false 1 (.t 13), none⟩, ⟨some 15, .len (.t 14), none⟩, ⟨some 16, .mks 1 8 [(.int .i64 0)] (.t 15) (.t 15), none⟩, ⟨some 5, .mov (.t 16), none⟩])
 (.seq
 (.seq
 (.region [⟨some 6, .mov (.c (.int .i64 0)), none⟩])
 (.block 0
 (.loop
 (.seq
 (.seq
 (.region [⟨some 17, .mov (.t 6), none⟩, ⟨some 18, .mov (.t 1), none⟩, ⟨some 19, .len (.t 18), none⟩, ⟨some 20, .bin .lss (.t 17) (.t 19), none⟩])
 (.cond (.t 20)
 .skip
 (.exit 0)))
 (.seq
 (.block 1
 (.seq
 (.seq
 (.draw 10 [⟨⟨some 23, .mov (.t 1), none⟩, 0, false, []⟩, ⟨⟨some 24, .mov (.t 6), none⟩, 1, false, []⟩, ⟨⟨some 25, .isl 1 (.t 23) (.t 24), none⟩, 2, false, []⟩, ⟨⟨some 26, .ld false 1 (.t 25), none⟩, 3, false, []⟩, ⟨⟨some 27, .fa 0 (.t 2), none⟩, 4, false, []⟩, ⟨⟨some 28, .ld false 1 (.t 27), none⟩, 5, false, []⟩, ⟨⟨some 29, .len (.t 28), none⟩, 6, false, []⟩, ⟨⟨some 30, .bin .sub (.t 29) (.c (.int .i64 1)), none⟩, 7, false, []⟩, ⟨⟨some 31, .call (.c (.func (.func 46) #[] #[])) [(.t 26), (.c (.int .i64 0)), (.t 30)], none⟩, 8, true, []⟩, ⟨⟨some 32, .not (.t 31), none⟩, 9, false, []⟩])
 (.cond (.t 32)
 (.seq
 (.region [⟨some 4, .mov (.c (.bool false)), none⟩])
 .ret)
 .skip))
 (.seq
 (.region [⟨some 33, .mov (.t 5), none⟩, ⟨some 34, .mov (.t 1), none⟩, ⟨some 35, .mov (.t 6), none⟩, ⟨some 36, .isl 1 (.t 34) (.t 35), none⟩, ⟨some 37, .ld false 1 (.t 36), none⟩, ⟨some 38, .isl 1 (.t 33) (.t 37), none⟩, ⟨some 39, .ld false 1 (.t 38), none⟩, ⟨some 40, .bin .add (.t 39) (.c (.int .i64 1)), none⟩, ⟨some 41, .isl 1 (.t 33) (.t 37), none⟩, ⟨none, .st 1 (.t 41) (.t 40), none⟩])
 (.seq
 (.draw 16 [⟨⟨some 42, .mov (.t 5), none⟩, 0, false, []⟩, ⟨⟨some 43, .mov (.t 1), none⟩, 1, false, []⟩, ⟨⟨some 44, .mov (.t 6), none⟩, 2, false, []⟩, ⟨⟨some 45, .isl 1 (.t 43) (.t 44), none⟩, 3, false, []⟩, ⟨⟨some 46, .ld false 1 (.t 45), none⟩, 4, false, []⟩, ⟨⟨some 47, .isl 1 (.t 42) (.t 46), none⟩, 5, false, []⟩, ⟨⟨some 48, .ld false 1 (.t 47), none⟩, 6, false, []⟩, ⟨⟨some 49, .fa 0 (.t 2), none⟩, 7, false, []⟩, ⟨⟨some 50, .ld false 1 (.t 49), none⟩, 8, false, []⟩, ⟨⟨some 51, .mov (.t 1), none⟩, 9, false, []⟩, ⟨⟨some 52, .mov (.t 6), none⟩, 10, false, []⟩, ⟨⟨some 53, .isl 1 (.t 51) (.t 52), none⟩, 11, false, []⟩, ⟨⟨some 54, .ld false 1 (.t 53), none⟩, 12, false, []⟩, ⟨⟨some 55, .isl 1 (.t 50) (.t 54), none⟩, 13, false, []⟩, ⟨⟨some 56, .ld false 1 (.t 55), none⟩, 14, false, []⟩, ⟨⟨some 57, .bin .gtr (.t 48) (.t 56), none⟩, 15, false, []⟩])
 (.cond (.t 57)
 (.seq
 (.region [⟨some 4, .mov (.c (.bool false)), none⟩])
 .ret)
 .skip)))))
 (.region [⟨some 21, .mov (.t 6), none⟩, ⟨some 22, .bin .add (.t 21) (.c (.int .i64 1)), none⟩, ⟨some 6, .mov (.t 22), none⟩]))))))
 (.seq
 (.region [⟨some 4, .mov (.c (.bool true)), none⟩])
 .ret)))))
def r32 : List AOp := [(.mov (.t 4))]
theorem ok32 : FnOk Try.prog 32 Try.f32.ntmps a32 r32 := ⟨Try.f32, Try.func32, by kernel_rfl, by kernel_rfl, by kernel_rfl, fun asv w => by simp⟩

def a33 : ACode :=
 (.seq
 (.region [⟨some 2, .box (.t 0), none⟩, ⟨some 4, .mov (.c (.bool false)), none⟩])
 (.seq
 (.seq
 (.region [⟨some 5, .mov (.c (.int .i64 0)), none⟩])
 (.block 0
 (.loop
 (.seq
 (.seq
 (.region [⟨some 6, .mov (.t 5), none⟩, ⟨some 7, .mov (.t 1), none⟩, ⟨some 8, .len (.t 7), none⟩, ⟨some 9, .bin .lss (.t 6) (.t 8), none⟩])
 (.cond (.t 9)
 .skip
 (.exit 0)))
 (.seq
 (.block 1
 (.seq
 (.draw 26 [⟨⟨some 12, .mov (.t 1), none⟩, 0, false, []⟩, ⟨⟨some 13, .mov (.t 5), none⟩, 1, false, []⟩, ⟨⟨some 14, .isl 1 (.t 12) (.t 13), none⟩, 2, false, []⟩, ⟨⟨some 15, .ld false 1 (.t 14), none⟩, 3, false, []⟩, ⟨⟨some 16, .fa 1 (.t 2), none⟩, 4, false, []⟩, ⟨⟨some 17, .ld false 1 (.t 16), none⟩, 5, false, []⟩, ⟨⟨some 18, .len (.t 17), none⟩, 6, false, []⟩, ⟨⟨some 19, .bin .sub (.t 18) (.c (.int .i64 1)), none⟩, 7, false, []⟩, ⟨⟨some 20, .call (.c (.func (.func 46) #[] #[])) [(.t 15), (.c (.int .i64 0)), (.t 19)], none⟩, 8, true, []⟩, ⟨⟨some 21, .not (.t 20), none⟩, 9, false, []⟩, ⟨⟨some 22, .mov (.t 21), none⟩, 10, false, []⟩, ⟨⟨some 23, .mov (.t 5), (some (22, false))⟩, 11, false, []⟩, ⟨⟨some 24, .bin .gtr (.t 23) (.c (.int .i64 0)), (some (22, false))⟩, 12, false, []⟩, ⟨⟨some 25, .mov (.t 24), (some (22, false))⟩, 13, false, []⟩, ⟨⟨some 26, .mov (.t 1), (some (25, true))⟩, 14, false, []⟩, ⟨⟨some 27, .mov (.t 5), (some (25, true))⟩, 15, false, []⟩, ⟨⟨some 28, .isl 1 (.t 26) (.t 27), (some (25, true))⟩, 16, false, []⟩, ⟨⟨some 29, .ld false 1 (.t 28), (some (25, true))⟩, 17, false, []⟩, ⟨⟨some 30, .mov (.t 1), (some (25, true))⟩, 18, false, []⟩, ⟨⟨some 31, .mov (.t 5), (some (25, true))⟩, 19, false, []⟩, ⟨⟨some 32, .bin .sub (.t 31) (.c (.int .i64 1)), (some (25, true))⟩, 20, false, []⟩, ⟨⟨some 33, .isl 1 (.t 30) (.t 32), (some (25, true))⟩, 21, false, []⟩, ⟨⟨some 34, .ld false 1 (.t 33), (some (25, true))⟩, 22, false, []⟩, ⟨⟨some 35, .bin .leq (.t 29) (.t 34), (some (25, true))⟩, 23, false, []⟩, ⟨⟨some 36, .pick (.t 25) (.t 35) (.c (.bool false)), (some (22, false))⟩, 24, false, []⟩, ⟨⟨some 37, .pick (.t 22) (.c (.bool true)) (.t 36), none⟩, 25, false, []⟩])
 (.cond (.t 37)
 (.seq
 (.region [⟨some 4, .mov (.c (.bool false)), none⟩])
 .ret)
 .skip)))
 (.region [⟨some 10, .mov (.t 5), none⟩, ⟨some 11, .bin .add (.t 10) (.c (.int .i64 1)), none⟩, ⟨some 5, .mov (.t 11), none⟩]))))))
 (.seq
 (.region [⟨some 38, .mov (.t 1), none⟩, ⟨some 39, .len (.t 38), none⟩, ⟨some 40, .fa 2 (.t 2), none⟩, ⟨some 41, .ld false 1 (.t 40), none⟩, ⟨some 42, .bin .leq (.t 39) (.t 41), none⟩, ⟨some 4, .mov (.t 42), none⟩])
 .ret)))
def r33 : List AOp := [(.mov (.t 4))]
theorem ok33 : FnOk Try.prog 33 Try.f33.ntmps a33 r33 := ⟨Try.f33, Try.func33, by kernel_rfl, by kernel_rfl, by kernel_rfl, fun asv w => by simp⟩

def a34 : ACode :=
 (.seq
 (.region [⟨some 4, .box (.t 0), none⟩, ⟨some 8, .mov (.c (.int .i64 0)), none⟩])
 (.seq
 (.region [⟨some 9, .mov (.c (.int .i64 0)), none⟩])
 (.seq
 (.seq
 (.region [⟨some 10, .mov (.c (.int .i64 0)), none⟩])
 (.block 0
 (.loop
 (.seq
 (.seq
 (.region [⟨some 12, .mov (.t 10), none⟩, ⟨some 13, .mov (.t 2), none⟩, ⟨some 14, .len (.t 13), none⟩, ⟨some 15, .bin .lss (.t 12) (.t 14), none⟩])
 (.cond (.t 15)
 .skip
 (.exit 0)))
 (.seq
 (.block 1
 (.seq
 (.region [⟨some 11, .mov (.c (.int .i64 0)), none⟩])
 (.block 2
 (.loop
 (.seq
 (.seq
 (.region [⟨some 18, .mov (.t 11), none⟩, ⟨some 19, .mov (.t 3), none⟩, ⟨some 20, .len (.t 19), none⟩, ⟨some 21, .bin .lss (.t 18) (.t 20), none⟩])
 (.cond (.t 21)
 .skip
 (.exit 2)))
 (.seq
 (.block 3
 (.draw 15 [⟨⟨some 24, .mov (.t 9), none⟩, 0, false, []⟩, ⟨⟨some 25, .ld true 3 (.t 4), none⟩, 1, false, []⟩, ⟨⟨some 26, .mov (.t 1), none⟩, 2, false, []⟩, ⟨⟨some 27, .mov (.t 2), none⟩, 3, false, []⟩, ⟨⟨some 28, .mov (.t 10), none⟩, 4, false, []⟩, ⟨⟨some 29, .isl 1 (.t 27) (.t 28), none⟩, 5, false, []⟩, ⟨⟨some 30, .ld false 1 (.t 29), none⟩, 6, false, []⟩, ⟨⟨some 31, .mov (.t 3), none⟩, 7, false, []⟩, ⟨⟨some 32, .mov (.t 11), none⟩, 8, false, []⟩, ⟨⟨some 33, .isl 1 (.t 31) (.t 32), none⟩, 9, false, []⟩, ⟨⟨some 34, .ld false 1 (.t 33), none⟩, 10, false, []⟩, ⟨⟨some 35, .call (.c (.func (.func 27) #[] #[])) [(.t 25), (.t 26), (.t 30), (.t 34)], none⟩, 11, true, []⟩, ⟨⟨some 36, .len (.t 35), none⟩, 12, false, []⟩, ⟨⟨some 37, .gen 39 ⟨some 37, (.call ⟨.builtin .max, #[(.tmp 24), (.tmp 36)], #[3, 3]⟩), 3, "ref.go:178", #[{ on := 0, ground := Go.Ground.data }, { on := 12, ground := Go.Ground.data }], none⟩, none⟩, 13, false, []⟩, ⟨⟨some 9, .mov (.t 37), none⟩, 14, false, []⟩]))
 (.region [⟨some 22, .mov (.t 11), none⟩, ⟨some 23, .bin .add (.t 22) (.c (.int .i64 1)), none⟩, ⟨some 11, .mov (.t 23), none⟩])))))))
 (.region [⟨some 16, .mov (.t 10), none⟩, ⟨some 17, .bin .add (.t 16) (.c (.int .i64 1)), none⟩, ⟨some 10, .mov (.t 17), none⟩]))))))
 (.seq
 (.region [⟨some 38, .mov (.t 9), none⟩, ⟨some 8, .mov (.t 38), none⟩])
 .ret))))
def r34 : List AOp := [(.mov (.t 8))]
theorem ok34 : FnOk Try.prog 34 Try.f34.ntmps a34 r34 := ⟨Try.f34, Try.func34, by kernel_rfl, by kernel_rfl, by kernel_rfl, fun asv w => by simp⟩

def a35 : ACode :=
 (.seq
 (.region [⟨some 2, .box (.t 0), none⟩, ⟨some 4, .mov (.c (.slice none 0 0)), none⟩])
 (.seq
 (.seq
 (.region [⟨some 7, .mov (.t 1), none⟩, ⟨some 8, .len (.t 7), none⟩, ⟨some 9, .fa 1 (.t 2), none⟩, ⟨some 10, .ld false 1 (.t 9), none⟩, ⟨some 11, .len (.t 10), none⟩, ⟨some 12, .bin .eql (.t 8) (.t 11), none⟩])
 (.cond (.t 12)
 (.seq
 (.seq
 (.region [⟨some 13, .ld true 3 (.t 2), none⟩, ⟨some 14, .mov (.t 1), none⟩, ⟨some 15, .call (.c (.func (.func 23) #[] #[])) [(.t 13), (.t 14)], none⟩])
 (.cond (.t 15)
 (.seq
 (.region [⟨some 16, .bsl 0 [] [], none⟩, ⟨some 17, .mov (.t 1), none⟩, ⟨some 18, .app 1 8 (.t 16) (.t 17), none⟩, ⟨some 19, .bsl 1 [(.slice none 0 0)] [(0, 1, (.t 18))], none⟩, ⟨some 4, .mov (.t 19), none⟩])
 .ret)
 .skip))
 (.seq
 (.region [⟨some 4, .mov (.c (.slice none 0 0)), none⟩])
 .ret))
 .skip))
 (.seq
 (.region [⟨some 5, .mov (.c (.slice none 0 0)), none⟩])
 (.seq
 (.seq
 (.region [⟨some 6, .mov (.c (.int .i64 0)), none⟩])
 (.block 0
 (.loop
 (.seq
 (.seq
 (.region [⟨some 20, .mov (.t 6), none⟩, ⟨some 21, .fa 1 (.t 2), none⟩, ⟨some 22, .ld false 1 (.t 21), none⟩, ⟨some 23, .len (.t 22), none⟩, ⟨some 24, .bin .lss (.t 20) (.t 23), none⟩])
 (.cond (.t 24)
 .skip
 (.exit 0)))
 (.seq
 (.block 1
 (.seq
 (.region [⟨some 27, .mov (.t 1), none⟩, ⟨some 28, .mov (.t 6), none⟩, ⟨some 29, .call (.c (.func (.func 56) #[] #[])) [(.t 27), (.t 28)], none⟩, ⟨some 30, .not (.t 29), none⟩])
 (.cond (.t 30)
 (.draw 11 [⟨⟨some 31, .mov (.t 5), none⟩, 0, false, []⟩, ⟨⟨some 32, .ld true 3 (.t 2), none⟩, 1, false, []⟩, ⟨⟨some 33, .bsl 0 [] [], none⟩, 2, false, []⟩, ⟨⟨some 34, .mov (.t 1), none⟩, 3, false, []⟩, ⟨⟨some 36, .mov (.t 6), none⟩, 5, false, []⟩, ⟨⟨some 37, .bsl 1 [(.int .i64 0)] [(0, 1, (.t 36))], none⟩, 6, false, []⟩, ⟨⟨some 35, .app 1 8 (.t 33) (.t 34), none⟩, 4, true, [1]⟩, ⟨⟨some 38, .app 1 8 (.t 35) (.t 37), none⟩, 7, true, [1]⟩, ⟨⟨some 39, .call (.c (.func (.func 35) #[] #[])) [(.t 32), (.t 38)], none⟩, 8, true, []⟩, ⟨⟨some 40, .app 1 24 (.t 31) (.t 39), none⟩, 9, true, []⟩, ⟨⟨some 5, .mov (.t 40), none⟩, 10, false, []⟩])
 .skip)))
 (.region [⟨some 25, .mov (.t 6), none⟩, ⟨some 26, .bin .add (.t 25) (.c (.int .i64 1)), none⟩, ⟨some 6, .mov (.t 26), none⟩]))))))
 (.seq
 (.region [⟨some 41, .mov (.t 5), none⟩, ⟨some 4, .mov (.t 41), none⟩])
 .ret)))))
def r35 : List AOp := [(.mov (.t 4))]
theorem ok35 : FnOk Try.prog 35 Try.f35.ntmps a35 r35 := ⟨Try.f35, Try.func35, by kernel_rfl, by kernel_rfl, by kernel_rfl, fun asv w => by simp⟩

def a36 : ACode :=
 (.seq
 (.region [⟨some 3, .box (.t 0), none⟩, ⟨some 6, .mov (.c (.slice none 0 0)), none⟩])
 (.seq
 (.region [⟨some 9, .bsl 0 [] [], none⟩, ⟨some 10, .mov (.t 2), none⟩, ⟨some 11, .app 1 8 (.t 9) (.t 10), none⟩, ⟨some 12, .bsl 1 [(.slice none 0 0)] [(0, 1, (.t 11))], none⟩, ⟨some 7, .mov (.t 12), none⟩])
 (.seq
 (.seq
 (.region [⟨some 13, .mov (.t 1), none⟩, ⟨some 8, .mov (.t 13), none⟩])
 (.block 0
 (.loop
 (.seq
 (.seq
 (.region [⟨some 14, .mov (.t 8), none⟩, ⟨some 15, .fa 1 (.t 3), none⟩, ⟨some 16, .ld false 1 (.t 15), none⟩, ⟨some 17, .len (.t 16), none⟩, ⟨some 18, .bin .lss (.t 14) (.t 17), none⟩, ⟨some 19, .mov (.t 18), none⟩, ⟨some 20, .mov (.t 2), (some (19, true))⟩, ⟨some 21, .len (.t 20), (some (19, true))⟩, ⟨some 22, .fa 2 (.t 3), (some (19, true))⟩, ⟨some 23, .ld false 1 (.t 22), (some (19, true))⟩, ⟨some 24, .bin .lss (.t 21) (.t 23), (some (19, true))⟩, ⟨some 25, .pick (.t 19) (.t 24) (.c (.bool false)), none⟩])
 (.cond (.t 25)
 .skip
 (.exit 0)))
 (.seq
 (.block 1
 (.draw 13 [⟨⟨some 28, .mov (.t 7), none⟩, 0, false, []⟩, ⟨⟨some 29, .ld true 3 (.t 3), none⟩, 1, false, []⟩, ⟨⟨some 30, .mov (.t 8), none⟩, 2, false, []⟩, ⟨⟨some 31, .bin .add (.t 30) (.c (.int .i64 1)), none⟩, 3, false, []⟩, ⟨⟨some 32, .bsl 0 [] [], none⟩, 4, false, []⟩, ⟨⟨some 33, .mov (.t 2), none⟩, 5, false, []⟩, ⟨⟨some 35, .mov (.t 8), none⟩, 7, false, []⟩, ⟨⟨some 36, .bsl 1 [(.int .i64 0)] [(0, 1, (.t 35))], none⟩, 8, false, []⟩, ⟨⟨some 34, .app 1 8 (.t 32) (.t 33), none⟩, 6, true, [1]⟩, ⟨⟨some 37, .app 1 8 (.t 34) (.t 36), none⟩, 9, true, [1]⟩, ⟨⟨some 38, .call (.c (.func (.func 36) #[] #[])) [(.t 29), (.t 31), (.t 37)], none⟩, 10, true, []⟩, ⟨⟨some 39, .app 1 24 (.t 28) (.t 38), none⟩, 11, true, []⟩, ⟨⟨some 7, .mov (.t 39), none⟩, 12, false, []⟩]))
 (.region [⟨some 26, .mov (.t 8), none⟩, ⟨some 27, .bin .add (.t 26) (.c (.int .i64 1)), none⟩, ⟨some 8, .mov (.t 27), none⟩]))))))
 (.seq
 (.region [⟨some 40, .mov (.t 7), none⟩, ⟨some 6, .mov (.t 40), none⟩])
 .ret))))
def r36 : List AOp := [(.mov (.t 6))]
theorem ok36 : FnOk Try.prog 36 Try.f36.ntmps a36 r36 := ⟨Try.f36, Try.func36, by kernel_rfl, by kernel_rfl, by kernel_rfl, fun asv w => by simp⟩

def a37 : ACode :=
 (.seq
 (.region [⟨some 1, .box (.t 0), none⟩, ⟨some 2, .mov (.c (.int .i64 0)), none⟩])
 (.seq
 (.seq
 (.region [⟨some 7, .fa 0 (.t 1), none⟩, ⟨some 8, .ld false 1 (.t 7), none⟩, ⟨some 9, .len (.t 8), none⟩, ⟨some 10, .bin .gtr (.t 9) (.c (.int .i64 3)), none⟩, ⟨some 11, .mov (.t 10), none⟩, ⟨some 12, .fa 1 (.t 1), (some (11, false))⟩, ⟨some 13, .ld false 1 (.t 12), (some (11, false))⟩, ⟨some 14, .len (.t 13), (some (11, false))⟩, ⟨some 15, .bin .gtr (.t 14) (.c (.int .i64 8)), (some (11, false))⟩, ⟨some 16, .pick (.t 11) (.c (.bool true)) (.t 15), none⟩])
 (.cond (.t 16)
 (.seq
 (.region [⟨some 2, .mov (.c (.int .i64 3)), none⟩])
 .ret)
 .skip))
 (.seq
 (.seq
 (.region [⟨some 17, .fa 0 (.t 1), none⟩, ⟨some 18, .ld false 1 (.t 17), none⟩, ⟨some 19, .len (.t 18), none⟩, ⟨some 20, .bin .lss (.t 19) (.c (.int .i64 1)), none⟩, ⟨some 21, .mov (.t 20), none⟩, ⟨some 22, .fa 2 (.t 1), (some (21, false))⟩, ⟨some 23, .ld false 1 (.t 22), (some (21, false))⟩, ⟨some 24, .call (.c (.func (.func 46) #[] #[])) [(.t 23), (.c (.int .i64 0)), (.c (.int .i64 2))], (some (21, false))⟩, ⟨some 25, .not (.t 24), (some (21, false))⟩, ⟨some 26, .pick (.t 21) (.c (.bool true)) (.t 25), none⟩])
 (.cond (.t 26)
 (.seq
 (.region [⟨some 2, .mov (.c (.int .i64 1)), none⟩])
 .ret)
 .skip))
 (.seq
 (.seq
 (.region [⟨some 3, .mov (.c (.int .i64 0)), none⟩])
 (.block 0
 (.loop
 (.seq
 (.seq
 (.region [⟨some 27, .mov (.t 3), none⟩, ⟨some 28, .fa 0 (.t 1), none⟩, ⟨some 29, .ld false 1 (.t 28), none⟩, ⟨some 30, .len (.t 29), none⟩, ⟨some 31, .bin .lss (.t 27) (.t 30), none⟩])
 (.cond (.t 31)
 .skip
 (.exit 0)))
 (.seq
 (.block 1
 (.seq
 (.region [⟨some 34, .fa 0 (.t 1), none⟩, ⟨some 35, .ld false 1 (.t 34), none⟩, ⟨some 36, .mov (.t 3), none⟩, ⟨some 37, .isl 1 (.t 35) (.t 36), none⟩, ⟨some 38, .ld false 1 (.t 37), none⟩, ⟨some 39, .call (.c (.func (.func 46) #[] #[])) [(.t 38), (.c (.int .i64 0)), (.c (.int .i64 8))], none⟩, ⟨some 40, .not (.t 39), none⟩])
 (.cond (.t 40)
 (.seq
 (.region [⟨some 2, .mov (.c (.int .i64 1)), none⟩])
 .ret)
 .skip)))
 (.region [⟨some 32, .mov (.t 3), none⟩, ⟨some 33, .bin .add (.t 32) (.c (.int .i64 1)), none⟩, ⟨some 3, .mov (.t 33), none⟩]))))))
 (.seq
 (.seq
 (.region [⟨some 4, .mov (.c (.int .i64 0)), none⟩])
 (.block 2
 (.loop
 (.seq
 (.seq
 (.region [⟨some 41, .mov (.t 4), none⟩, ⟨some 42, .fa 1 (.t 1), none⟩, ⟨some 43, .ld false 1 (.t 42), none⟩, ⟨some 44, .len (.t 43), none⟩, ⟨some 45, .bin .lss (.t 41) (.t 44), none⟩])
 (.cond (.t 45)
 .skip
 (.exit 2)))
 (.seq
 (.block 3
 (.seq
 (.region [⟨some 48, .fa 1 (.t 1), none⟩, ⟨some 49, .ld false 1 (.t 48), none⟩, ⟨some 50, .mov (.t 4), none⟩, ⟨some 51, .isl 3 (.t 49) (.t 50), none⟩, ⟨some 52, .ld true 3 (.t 51), none⟩, ⟨some 5, .new [(.int .i64 0), (.int .i64 0), (.int .i64 0)], none⟩, ⟨none, .st 3 (.t 5) (.t 52), none⟩])
 (.seq
 (.seq
 (.region [⟨some 53, .fa 0 (.t 5), none⟩, ⟨some 54, .ld false 1 (.t 53), none⟩, ⟨some 55, .fa 1 (.t 5), none⟩, ⟨some 56, .ld false 1 (.t 55), none⟩, ⟨some 57, .call (.c (.func (.func 46) #[] #[])) [(.t 54), (.c (.int .i64 0)), (.t 56)], none⟩, ⟨some 58, .not (.t 57), none⟩, ⟨some 59, .mov (.t 58), none⟩, ⟨some 60, .fa 1 (.t 5), (some (59, false))⟩, ⟨some 61, .ld false 1 (.t 60), (some (59, false))⟩, ⟨some 62, .bin .gtr (.t 61) (.c (.int .i64 2000)), (some (59, false))⟩, ⟨some 63, .pick (.t 59) (.c (.bool true)) (.t 62), none⟩, ⟨some 64, .mov (.t 63), none⟩, ⟨some 65, .fa 2 (.t 5), (some (64, false))⟩, ⟨some 66, .ld false 1 (.t 65), (some (64, false))⟩, ⟨some 67, .call (.c (.func (.func 46) #[] #[])) [(.t 66), (.c (.int .i64 0)), (.c (.int .i64 2000))], (some (64, false))⟩, ⟨some 68, .not (.t 67), (some (64, false))⟩, ⟨some 69, .pick (.t 64) (.c (.bool true)) (.t 68), none⟩])
 (.cond (.t 69)
 (.seq
 (.region [⟨some 2, .mov (.c (.int .i64 1)), none⟩])
 .ret)
 .skip))
 (.seq
 (.region [⟨some 6, .mov (.c (.int .i64 0)), none⟩])
 (.block 4
 (.loop
 (.seq
 (.seq
 (.region [⟨some 70, .mov (.t 6), none⟩, ⟨some 71, .mov (.t 4), none⟩, ⟨some 72, .bin .lss (.t 70) (.t 71), none⟩])
 (.cond (.t 72)
 .skip
 (.exit 4)))
 (.seq
 (.block 5
 (.seq
 (.draw 9 [⟨⟨some 75, .fa 1 (.t 1), none⟩, 0, false, []⟩, ⟨⟨some 76, .ld false 1 (.t 75), none⟩, 1, false, []⟩, ⟨⟨some 77, .mov (.t 6), none⟩, 2, false, []⟩, ⟨⟨some 78, .isl 3 (.t 76) (.t 77), none⟩, 3, false, []⟩, ⟨⟨some 79, .fa 2 (.t 78), none⟩, 4, false, []⟩, ⟨⟨some 80, .ld false 1 (.t 79), none⟩, 5, false, []⟩, ⟨⟨some 81, .fa 2 (.t 5), none⟩, 6, false, []⟩, ⟨⟨some 82, .ld false 1 (.t 81), none⟩, 7, false, []⟩, ⟨⟨some 83, .bin .eql (.t 80) (.t 82), none⟩, 8, false, []⟩])
 (.cond (.t 83)
 (.seq
 (.region [⟨some 2, .mov (.c (.int .i64 1)), none⟩])
 .ret)
 .skip)))
 (.region [⟨some 73, .mov (.t 6), none⟩, ⟨some 74, .bin .add (.t 73) (.c (.int .i64 1)), none⟩, ⟨some 6, .mov (.t 74), none⟩])))))))))
 (.region [⟨some 46, .mov (.t 4), none⟩, ⟨some 47, .bin .add (.t 46) (.c (.int .i64 1)), none⟩, ⟨some 4, .mov (.t 47), none⟩]))))))
 (.seq
 (.region [⟨some 2, .mov (.c (.int .i64 0)), none⟩])
 .ret))))))
def r37 : List AOp := [(.mov (.t 2))]
theorem ok37 : FnOk Try.prog 37 Try.f37.ntmps a37 r37 := ⟨Try.f37, Try.func37, by kernel_rfl, by kernel_rfl, by kernel_rfl, fun asv w => by simp⟩

def a38 : ACode :=
 (.seq
 (.region [⟨some 1, .box (.t 0), none⟩, ⟨some 2, .mov (.c (.slice none 0 0)), none⟩, ⟨some 3, .mov (.c (.int .i64 0)), none⟩, ⟨some 4, .mov (.c (.int .i64 0)), none⟩])
 (.seq
 (.seq
 (.region [⟨some 6, .ld true 3 (.t 1), none⟩, ⟨some 7, .call (.c (.func (.func 19) #[] #[])) [(.t 6)], none⟩, ⟨some 5, .mov (.t 7), none⟩])
 (.seq
 (.region [⟨some 8, .mov (.t 5), none⟩, ⟨some 9, .bin .neq (.t 8) (.c (.int .i64 0)), none⟩])
 (.cond (.t 9)
 (.seq
 (.region [⟨some 10, .mov (.t 5), none⟩, ⟨some 2, .mov (.c (.slice none 0 0)), none⟩, ⟨some 3, .mov (.c (.int .i64 0)), none⟩, ⟨some 4, .mov (.t 10), none⟩])
 .ret)
 .skip)))
 (.seq
 (.seq
 (.region [⟨some 11, .ld true 3 (.t 1), none⟩, ⟨some 12, .call (.c (.func (.func 68) #[] #[])) [(.t 11)], none⟩, ⟨some 13, .not (.t 12), none⟩])
 (.cond (.t 13)
 (.seq
 (.region [⟨some 2, .mov (.c (.slice none 0 0)), none⟩, ⟨some 3, .mov (.c (.int .i64 0)), none⟩, ⟨some 4, .mov (.c (.int .i64 9)), none⟩])
 .ret)
 .skip))
 (.seq
 (.region [⟨some 15, .ld true 3 (.t 1), none⟩, ⟨some 16, .call (.c (.func (.func 64) #[] #[])) [(.t 15)], none⟩, ⟨some 17, .call (.c (.func (.func 69) #[] #[])) [(.t 16)], none⟩, ⟨some 14, .mov (.t 17), none⟩, ⟨some 18, .ext (.t 14) 0, none⟩, ⟨some 19, .ext (.t 14) 1, none⟩, ⟨some 2, .mov (.t 18), none⟩, ⟨some 3, .mov (.t 19), none⟩])
 (.seq
 (.region [⟨some 20, .mov (.t 2), none⟩, ⟨some 21, .mov (.t 3), none⟩, ⟨some 2, .mov (.t 20), none⟩, ⟨some 3, .mov (.t 21), none⟩, ⟨some 4, .mov (.c (.int .i64 0)), none⟩])
 .ret)))))
def r38 : List AOp := [(.mov (.t 2)), (.mov (.t 3)), (.mov (.t 4))]
theorem ok38 : FnOk Try.prog 38 Try.f38.ntmps a38 r38 := ⟨Try.f38, Try.func38, by kernel_rfl, by kernel_rfl, by kernel_rfl, fun asv w => by simp⟩

def a40 : ACode :=
 (.seq
 (.region [⟨some 0, .new [(.slice none 0 0), (.slice none 0 0), (.int .i64 0)], none⟩])
 (.seq
 (.region [⟨some 1, .bsl 2 [(.int .i64 0), (.int .i64 0)] [(0, 1, (.c (.int .i64 2))), (1, 1, (.c (.int .i64 2)))], none⟩, ⟨some 2, .bld [(.int .i64 0), (.int .i64 0), (.int .i64 0)] [(0, 1, (.c (.int .i64 100))), (1, 1, (.c (.int .i64 120))), (2, 1, (.c (.int .i64 40)))], none⟩, ⟨some 3, .bld [(.int .i64 0), (.int .i64 0), (.int .i64 0)] [(0, 1, (.c (.int .i64 110))), (1, 1, (.c (.int .i64 130))), (2, 1, (.c (.int .i64 20)))], none⟩, ⟨some 4, .bld [(.int .i64 0), (.int .i64 0), (.int .i64 0)] [(0, 1, (.c (.int .i64 125))), (1, 1, (.c (.int .i64 140))), (2, 1, (.c (.int .i64 30)))], none⟩, ⟨some 5, .bld [(.int .i64 0), (.int .i64 0), (.int .i64 0)] [(0, 1, (.c (.int .i64 150))), (1, 1, (.c (.int .i64 160))), (2, 1, (.c (.int .i64 10)))], none⟩, ⟨some 6, .bsl 4 [(.int .i64 0), (.int .i64 0), (.int .i64 0), (.int .i64 0), (.int .i64 0), (.int .i64 0), (.int .i64 0), (.int .i64 0), (.int .i64 0), (.int .i64 0), (.int .i64 0), (.int .i64 0)] [(0, 3, (.t 2)), (3, 3, (.t 3)), (6, 3, (.t 4)), (9, 3, (.t 5))], none⟩, ⟨some 7, .bld [(.slice none 0 0), (.slice none 0 0), (.int .i64 0)] [(0, 1, (.t 1)), (1, 1, (.t 6))], none⟩, ⟨none, .st 3 (.t 0) (.t 7), none⟩])
 .ret))
def r40 : List AOp := [(.ld true 3 (.t 0))]
theorem ok40 : FnOk Try.prog 40 Try.f40.ntmps a40 r40 := ⟨Try.f40, Try.func40, by kernel_rfl, by kernel_rfl, by kernel_rfl, fun asv w => by simp⟩

def a41 : ACode :=
 (.seq
 (.region [⟨some 1, .box (.t 0), none⟩, ⟨some 2, .mov (.c (.bool false)), none⟩])
 (.seq
 (.region [⟨some 3, .ld true 3 (.t 1), none⟩, ⟨some 4, .call (.c (.func (.func 16) #[] #[])) [(.t 3)], none⟩, ⟨some 5, .mov (.t 4), none⟩, ⟨some 6, .ld true 3 (.t 1), (some (5, true))⟩, ⟨some 7, .call (.c (.func (.func 37) #[] #[])) [(.t 6)], (some (5, true))⟩, ⟨some 8, .bin .eql (.t 7) (.c (.int .i64 0)), (some (5, true))⟩, ⟨some 9, .pick (.t 5) (.t 8) (.c (.bool false)), none⟩, ⟨some 2, .mov (.t 9), none⟩])
 .ret))
def r41 : List AOp := [(.mov (.t 2))]
theorem ok41 : FnOk Try.prog 41 Try.f41.ntmps a41 r41 := ⟨Try.f41, Try.func41, by kernel_rfl, by kernel_rfl, by kernel_rfl, fun asv w => by simp⟩

def a42 : ACode :=
 (.seq
 (.region [⟨some 2, .box (.t 0), none⟩, ⟨some 4, .mov (.c (.slice none 0 0)), none⟩])
 (.seq
 (.region [⟨some 5, .mov (.c (.slice none 0 0)), none⟩, ⟨some 6, .mov (.c (.slice none 0 0)), none⟩])
 (.seq
 (.seq
 (.region [⟨some 7, .mov (.c (.int .i64 0)), none⟩])
 (.block 0
 (.loop
 (.seq
 (.seq
 (.region [⟨some 12, .mov (.t 7), none⟩, ⟨some 13, .fa 1 (.t 2), none⟩, ⟨some 14, .ld false 1 (.t 13), none⟩, ⟨some 15, .len (.t 14), none⟩, ⟨some 16, .bin .lss (.t 12) (.t 15), none⟩])
 (.cond (.t 16)
 .skip
 (.exit 0)))
 (.seq
 (.block 1
 (.seq
 (.region [⟨some 19, .fa 1 (.t 2), none⟩, ⟨some 20, .ld false 1 (.t 19), none⟩, ⟨some 21, .mov (.t 7), none⟩, ⟨some 22, .isl 3 (.t 20) (.t 21), none⟩, ⟨some 23, .ld true 3 (.t 22), none⟩, ⟨some 8, .new [(.int .i64 0), (.int .i64 0), (.int .i64 0)], none⟩, ⟨none, .st 3 (.t 8) (.t 23), none⟩])
 (.seq
 (.region [⟨some 24, .mov (.t 1), none⟩, ⟨some 25, .mov (.t 7), none⟩, ⟨some 26, .call (.c (.func (.func 70) #[] #[])) [(.t 24), (.t 25)], none⟩, ⟨some 9, .mov (.t 26), none⟩])
 (.seq
 (.draw 13 [⟨⟨some 27, .fa 0 (.t 8), none⟩, 0, false, []⟩, ⟨⟨some 28, .ld false 1 (.t 27), none⟩, 1, false, []⟩, ⟨⟨some 29, .mov (.t 9), none⟩, 2, false, []⟩, ⟨⟨some 30, .bin .quo (.t 29) (.c (.int .i64 3)), none⟩, 3, false, []⟩, ⟨⟨some 31, .fa 1 (.t 8), none⟩, 4, false, []⟩, ⟨⟨some 32, .ld false 1 (.t 31), none⟩, 5, false, []⟩, ⟨⟨some 33, .fa 0 (.t 8), none⟩, 6, false, []⟩, ⟨⟨some 34, .ld false 1 (.t 33), none⟩, 7, false, []⟩, ⟨⟨some 35, .bin .sub (.t 32) (.t 34), none⟩, 8, false, []⟩, ⟨⟨some 36, .bin .add (.t 35) (.c (.int .i64 1)), none⟩, 9, false, []⟩, ⟨⟨some 37, .bin .rem (.t 30) (.t 36), none⟩, 10, false, []⟩, ⟨⟨some 38, .bin .add (.t 28) (.t 37), none⟩, 11, false, []⟩, ⟨⟨some 10, .mov (.t 38), none⟩, 12, false, []⟩])
 (.seq
 (.seq
 (.region [⟨some 39, .mov (.t 9), none⟩, ⟨some 40, .bin .rem (.t 39) (.c (.int .i64 3)), none⟩])
 (.block 2
 (.seq
 (.region [⟨some 42, .bin .eql (.t 40) (.c (.int .i64 0)), none⟩, ⟨some 41, .mov (.t 42), none⟩])
 (.cond (.t 41)
 (.region [⟨some 43, .fa 0 (.t 8), none⟩, ⟨some 44, .ld false 1 (.t 43), none⟩, ⟨some 10, .mov (.t 44), none⟩])
 (.seq
 (.region [⟨some 46, .bin .eql (.t 40) (.c (.int .i64 1)), none⟩, ⟨some 45, .mov (.t 46), none⟩])
 (.cond (.t 45)
 (.region [⟨some 47, .fa 1 (.t 8), none⟩, ⟨some 48, .ld false 1 (.t 47), none⟩, ⟨some 10, .mov (.t 48), none⟩])
 .skip))))))
 (.seq
 (.region [⟨some 49, .mov (.t 5), none⟩, ⟨some 50, .mov (.t 7), none⟩, ⟨some 51, .bsl 1 [(.int .i64 0)] [(0, 1, (.t 50))], none⟩, ⟨some 52, .app 1 8 (.t 49) (.t 51), none⟩, ⟨some 53, .mov (.t 6), none⟩, ⟨some 54, .mov (.t 10), none⟩, ⟨some 55, .bin .mul (.c (.int .i64 2)) (.t 54), none⟩, ⟨some 56, .mov (.t 1), none⟩, ⟨some 57, .mov (.t 7), none⟩, ⟨some 58, .bin .mul (.c (.int .i64 2)) (.t 57), none⟩, ⟨some 59, .bin .add (.t 58) (.c (.int .i64 1)), none⟩, ⟨some 60, .call (.c (.func (.func 70) #[] #[])) [(.t 56), (.t 59)], none⟩, ⟨some 61, .bin .rem (.t 60) (.c (.int .i64 2)), none⟩, ⟨some 62, .bin .add (.t 55) (.t 61), none⟩, ⟨some 63, .bsl 1 [(.int .i64 0)] [(0, 1, (.t 62))], none⟩, ⟨some 64, .app 1 8 (.t 53) (.t 63), none⟩, ⟨some 5, .mov (.t 52), none⟩, ⟨some 6, .mov (.t 64), none⟩])
 (.seq
 (.region [⟨some 65, .mov (.t 7), none⟩, ⟨some 11, .mov (.t 65), none⟩])
 (.block 3
 (.loop
 (.seq
 (.seq
 (.draw 14 [⟨⟨some 66, .mov (.t 11), none⟩, 0, false, []⟩, ⟨⟨some 67, .bin .gtr (.t 66) (.c (.int .i64 0)), none⟩, 1, false, []⟩, ⟨⟨some 68, .mov (.t 67), none⟩, 2, false, []⟩, ⟨⟨some 69, .mov (.t 6), (some (68, true))⟩, 3, false, []⟩, ⟨⟨some 70, .mov (.t 11), (some (68, true))⟩, 4, false, []⟩, ⟨⟨some 71, .isl 1 (.t 69) (.t 70), (some (68, true))⟩, 5, false, []⟩, ⟨⟨some 72, .ld false 1 (.t 71), (some (68, true))⟩, 6, false, []⟩, ⟨⟨some 73, .mov (.t 6), (some (68, true))⟩, 7, false, []⟩, ⟨⟨some 74, .mov (.t 11), (some (68, true))⟩, 8, false, []⟩, ⟨⟨some 75, .bin .sub (.t 74) (.c (.int .i64 1)), (some (68, true))⟩, 9, false, []⟩, ⟨⟨some 76, .isl 1 (.t 73) (.t 75), (some (68, true))⟩, 10, false, []⟩, ⟨⟨some 77, .ld false 1 (.t 76), (some (68, true))⟩, 11, false, []⟩, ⟨⟨some 78, .bin .lss (.t 72) (.t 77), (some (68, true))⟩, 12, false, []⟩, ⟨⟨some 79, .pick (.t 68) (.t 78) (.c (.bool false)), none⟩, 13, false, []⟩])
 (.cond (.t 79)
 .skip
 (.exit 3)))
 (.seq
 (.block 4
 (.seq
 (.draw 18 [⟨⟨some 82, .mov (.t 5), none⟩, 0, false, []⟩, ⟨⟨some 83, .mov (.t 11), none⟩, 1, false, []⟩, ⟨⟨some 84, .mov (.t 5), none⟩, 2, false, []⟩, ⟨⟨some 85, .mov (.t 11), none⟩, 3, false, []⟩, ⟨⟨some 86, .bin .sub (.t 85) (.c (.int .i64 1)), none⟩, 4, false, []⟩, ⟨⟨some 87, .mov (.t 5), none⟩, 5, false, []⟩, ⟨⟨some 88, .mov (.t 11), none⟩, 6, false, []⟩, ⟨⟨some 89, .bin .sub (.t 88) (.c (.int .i64 1)), none⟩, 7, false, []⟩, ⟨⟨some 90, .isl 1 (.t 87) (.t 89), none⟩, 8, false, []⟩, ⟨⟨some 91, .ld false 1 (.t 90), none⟩, 9, false, []⟩, ⟨⟨some 92, .mov (.t 5), none⟩, 10, false, []⟩, ⟨⟨some 93, .mov (.t 11), none⟩, 11, false, []⟩, ⟨⟨some 94, .isl 1 (.t 92) (.t 93), none⟩, 12, false, []⟩, ⟨⟨some 95, .ld false 1 (.t 94), none⟩, 13, false, []⟩, ⟨⟨some 96, .isl 1 (.t 82) (.t 83), none⟩, 14, false, []⟩, ⟨⟨none, .st 1 (.t 96) (.t 91), none⟩, 15, true, []⟩, ⟨⟨some 97, .isl 1 (.t 84) (.t 86), none⟩, 16, false, []⟩, ⟨⟨none, .st 1 (.t 97) (.t 95), none⟩, 17, true, []⟩])
 (.draw 18 [⟨⟨some 98, .mov (.t 6), none⟩, 0, false, []⟩, ⟨⟨some 99, .mov (.t 11), none⟩, 1, false, []⟩, ⟨⟨some 100, .mov (.t 6), none⟩, 2, false, []⟩, ⟨⟨some 101, .mov (.t 11), none⟩, 3, false, []⟩, ⟨⟨some 102, .bin .sub (.t 101) (.c (.int .i64 1)), none⟩, 4, false, []⟩, ⟨⟨some 103, .mov (.t 6), none⟩, 5, false, []⟩, ⟨⟨some 104, .mov (.t 11), none⟩, 6, false, []⟩, ⟨⟨some 105, .bin .sub (.t 104) (.c (.int .i64 1)), none⟩, 7, false, []⟩, ⟨⟨some 106, .isl 1 (.t 103) (.t 105), none⟩, 8, false, []⟩, ⟨⟨some 107, .ld false 1 (.t 106), none⟩, 9, false, []⟩, ⟨⟨some 108, .mov (.t 6), none⟩, 10, false, []⟩, ⟨⟨some 109, .mov (.t 11), none⟩, 11, false, []⟩, ⟨⟨some 110, .isl 1 (.t 108) (.t 109), none⟩, 12, false, []⟩, ⟨⟨some 111, .ld false 1 (.t 110), none⟩, 13, false, []⟩, ⟨⟨some 112, .isl 1 (.t 98) (.t 99), none⟩, 14, false, []⟩, ⟨⟨none, .st 1 (.t 112) (.t 107), none⟩, 15, true, []⟩, ⟨⟨some 113, .isl 1 (.t 100) (.t 102), none⟩, 16, false, []⟩, ⟨⟨none, .st 1 (.t 113) (.t 111), none⟩, 17, true, []⟩])))
 (.region [⟨some 80, .mov (.t 11), none⟩, ⟨some 81, .bin .sub (.t 80) (.c (.int .i64 1)), none⟩, ⟨some 11, .mov (.t 81), none⟩]))))))))))))
 (.region [⟨some 17, .mov (.t 7), none⟩, ⟨some 18, .bin .add (.t 17) (.c (.int .i64 1)), none⟩, ⟨some 7, .mov (.t 18), none⟩]))))))
 (.seq
 (.region [⟨some 114, .mov (.t 5), none⟩, ⟨some 4, .mov (.t 114), none⟩])
 .ret))))
def r42 : List AOp := [(.mov (.t 4))]
theorem ok42 : FnOk Try.prog 42 Try.f42.ntmps a42 r42 := ⟨Try.f42, Try.func42, by kernel_rfl, by kernel_rfl, by kernel_rfl, fun asv w => by simp⟩

def a43 : ACode :=
 (.seq
 (.region [⟨some 2, .box (.t 0), none⟩, ⟨some 4, .mov (.c (.slice none 0 0)), none⟩])
 (.seq
 (.region [⟨some 5, .mov (.c (.slice none 0 0)), none⟩])
 (.seq
 (.seq
 (.region [⟨some 6, .mov (.c (.int .i64 0)), none⟩])
 (.block 0
 (.loop
 (.seq
 (.seq
 (.region [⟨some 7, .mov (.t 6), none⟩, ⟨some 8, .fa 1 (.t 2), none⟩, ⟨some 9, .ld false 1 (.t 8), none⟩, ⟨some 10, .len (.t 9), none⟩, ⟨some 11, .bin .lss (.t 7) (.t 10), none⟩])
 (.cond (.t 11)
 .skip
 (.exit 0)))
 (.seq
 (.block 1
 (.seq
 (.region [⟨some 14, .mov (.t 5), none⟩, ⟨some 15, .len (.t 14), none⟩, ⟨some 16, .fa 2 (.t 2), none⟩, ⟨some 17, .ld false 1 (.t 16), none⟩, ⟨some 18, .bin .lss (.t 15) (.t 17), none⟩, ⟨some 19, .mov (.t 18), none⟩, ⟨some 20, .mov (.t 1), (some (19, true))⟩, ⟨some 21, .mov (.t 6), (some (19, true))⟩, ⟨some 22, .bin .mul (.c (.int .i64 3)) (.t 21), (some (19, true))⟩, ⟨some 23, .bin .add (.t 22) (.c (.int .i64 2)), (some (19, true))⟩, ⟨some 24, .call (.c (.func (.func 70) #[] #[])) [(.t 20), (.t 23)], (some (19, true))⟩, ⟨some 25, .bin .rem (.t 24) (.c (.int .i64 4)), (some (19, true))⟩, ⟨some 26, .bin .eql (.t 25) (.c (.int .i64 0)), (some (19, true))⟩, ⟨some 27, .pick (.t 19) (.t 26) (.c (.bool false)), none⟩])
 (.cond (.t 27)
 (.region [⟨some 28, .mov (.t 5), none⟩, ⟨some 29, .mov (.t 6), none⟩, ⟨some 30, .bsl 1 [(.int .i64 0)] [(0, 1, (.t 29))], none⟩, ⟨some 31, .app 1 8 (.t 28) (.t 30), none⟩, ⟨some 5, .mov (.t 31), none⟩])
 .skip)))
 (.region [⟨some 12, .mov (.t 6), none⟩, ⟨some 13, .bin .add (.t 12) (.c (.int .i64 1)), none⟩, ⟨some 6, .mov (.t 13), none⟩]))))))
 (.seq
 (.region [⟨some 32, .mov (.t 5), none⟩, ⟨some 4, .mov (.t 32), none⟩])
 .ret))))
def r43 : List AOp := [(.mov (.t 4))]
theorem ok43 : FnOk Try.prog 43 Try.f43.ntmps a43 r43 := ⟨Try.f43, Try.func43, by kernel_rfl, by kernel_rfl, by kernel_rfl, fun asv w => by simp⟩

def a44 : ACode :=
 (.seq
 (.region [⟨some 2, .box (.t 0), none⟩, ⟨some 4, .mov (.c (.slice none 0 0)), none⟩, ⟨some 5, .mov (.c (.bool false)), none⟩])
 (.seq
 (.region [⟨some 6, .mov (.c (.slice none 0 0)), none⟩])
 (.seq
 (.region [⟨some 11, .fa 0 (.t 2), none⟩, ⟨some 12, .ld false 1 (.t 11), none⟩, ⟨some 13, .len (.t 12), none⟩, ⟨some 14, .mks 1 8 [(.int .i64 0)] (.t 13) (.t 13), none⟩, ⟨some 7, .mov (.t 14), none⟩])
 (.seq
 (.seq
 (.region [⟨some 8, .mov (.c (.int .i64 0)), none⟩])
 (.block 0
 (.loop
 (.seq
 (.seq
 (.region [⟨some 15, .mov (.t 8), none⟩, ⟨some 16, .fa 1 (.t 2), none⟩, ⟨some 17, .ld false 1 (.t 16), none⟩, ⟨some 18, .len (.t 17), none⟩, ⟨some 19, .bin .lss (.t 15) (.t 18), none⟩])
 (.cond (.t 19)
 .skip
 (.exit 0)))
 (.seq
 (.block 1
 (.seq
 (.draw 10 [⟨⟨some 22, .mov (.t 1), none⟩, 0, false, []⟩, ⟨⟨some 23, .mov (.t 8), none⟩, 1, false, []⟩, ⟨⟨some 24, .bin .mul (.c (.int .i64 5)) (.t 23), none⟩, 2, false, []⟩, ⟨⟨some 25, .bin .add (.t 24) (.c (.int .i64 1)), none⟩, 3, false, []⟩, ⟨⟨some 27, .fa 0 (.t 2), none⟩, 5, false, []⟩, ⟨⟨some 28, .ld false 1 (.t 27), none⟩, 6, false, []⟩, ⟨⟨some 29, .len (.t 28), none⟩, 7, false, []⟩, ⟨⟨some 26, .call (.c (.func (.func 70) #[] #[])) [(.t 22), (.t 25)], none⟩, 4, true, [6]⟩, ⟨⟨some 30, .bin .rem (.t 26) (.t 29), none⟩, 8, false, []⟩, ⟨⟨some 9, .mov (.t 30), none⟩, 9, false, []⟩])
 (.seq
 (.seq
 (.region [⟨some 10, .mov (.c (.int .i64 0)), none⟩])
 (.block 2
 (.loop
 (.seq
 (.seq
 (.draw 17 [⟨⟨some 31, .mov (.t 10), none⟩, 0, false, []⟩, ⟨⟨some 32, .fa 0 (.t 2), none⟩, 1, false, []⟩, ⟨⟨some 33, .ld false 1 (.t 32), none⟩, 2, false, []⟩, ⟨⟨some 34, .len (.t 33), none⟩, 3, false, []⟩, ⟨⟨some 35, .bin .lss (.t 31) (.t 34), none⟩, 4, false, []⟩, ⟨⟨some 36, .mov (.t 35), none⟩, 5, false, []⟩, ⟨⟨some 37, .mov (.t 7), (some (36, true))⟩, 6, false, []⟩, ⟨⟨some 38, .mov (.t 9), (some (36, true))⟩, 7, false, []⟩, ⟨⟨some 39, .isl 1 (.t 37) (.t 38), (some (36, true))⟩, 8, false, []⟩, ⟨⟨some 40, .ld false 1 (.t 39), (some (36, true))⟩, 9, false, []⟩, ⟨⟨some 41, .fa 0 (.t 2), (some (36, true))⟩, 10, false, []⟩, ⟨⟨some 42, .ld false 1 (.t 41), (some (36, true))⟩, 11, false, []⟩, ⟨⟨some 43, .mov (.t 9), (some (36, true))⟩, 12, false, []⟩, ⟨⟨some 44, .isl 1 (.t 42) (.t 43), (some (36, true))⟩, 13, false, []⟩, ⟨⟨some 45, .ld false 1 (.t 44), (some (36, true))⟩, 14, false, []⟩, ⟨⟨some 46, .bin .geq (.t 40) (.t 45), (some (36, true))⟩, 15, false, []⟩, ⟨⟨some 47, .pick (.t 36) (.t 46) (.c (.bool false)), none⟩, 16, false, []⟩])
 (.cond (.t 47)
 .skip
 (.exit 2)))
 (.seq
 (.block 3
 (.region [⟨some 50, .mov (.t 9), none⟩, ⟨some 51, .bin .add (.t 50) (.c (.int .i64 1)), none⟩, ⟨some 52, .fa 0 (.t 2), none⟩, ⟨some 53, .ld false 1 (.t 52), none⟩, ⟨some 54, .len (.t 53), none⟩, ⟨some 55, .bin .rem (.t 51) (.t 54), none⟩, ⟨some 9, .mov (.t 55), none⟩]))
 (.region [⟨some 48, .mov (.t 10), none⟩, ⟨some 49, .bin .add (.t 48) (.c (.int .i64 1)), none⟩, ⟨some 10, .mov (.t 49), none⟩]))))))
 (.seq
 (.seq
 (.draw 10 [⟨⟨some 56, .mov (.t 7), none⟩, 0, false, []⟩, ⟨⟨some 57, .mov (.t 9), none⟩, 1, false, []⟩, ⟨⟨some 58, .isl 1 (.t 56) (.t 57), none⟩, 2, false, []⟩, ⟨⟨some 59, .ld false 1 (.t 58), none⟩, 3, false, []⟩, ⟨⟨some 60, .fa 0 (.t 2), none⟩, 4, false, []⟩, ⟨⟨some 61, .ld false 1 (.t 60), none⟩, 5, false, []⟩, ⟨⟨some 62, .mov (.t 9), none⟩, 6, false, []⟩, ⟨⟨some 63, .isl 1 (.t 61) (.t 62), none⟩, 7, false, []⟩, ⟨⟨some 64, .ld false 1 (.t 63), none⟩, 8, false, []⟩, ⟨⟨some 65, .bin .geq (.t 59) (.t 64), none⟩, 9, false, []⟩])
 (.cond (.t 65)
 (.seq
 (.region [⟨some 4, .mov (.c (.slice none 0 0)), none⟩, ⟨some 5, .mov (.c (.bool false)), none⟩])
 .ret)
 .skip))
 (.seq
 (.region [⟨some 66, .mov (.t 7), none⟩, ⟨some 67, .mov (.t 9), none⟩, ⟨some 68, .isl 1 (.t 66) (.t 67), none⟩, ⟨some 69, .ld false 1 (.t 68), none⟩, ⟨some 70, .bin .add (.t 69) (.c (.int .i64 1)), none⟩, ⟨some 71, .isl 1 (.t 66) (.t 67), none⟩, ⟨none, .st 1 (.t 71) (.t 70), none⟩])
 (.region [⟨some 72, .mov (.t 6), none⟩, ⟨some 73, .mov (.t 9), none⟩, ⟨some 74, .bsl 1 [(.int .i64 0)] [(0, 1, (.t 73))], none⟩, ⟨some 75, .app 1 8 (.t 72) (.t 74), none⟩, ⟨some 6, .mov (.t 75), none⟩]))))))
 (.region [⟨some 20, .mov (.t 8), none⟩, ⟨some 21, .bin .add (.t 20) (.c (.int .i64 1)), none⟩, ⟨some 8, .mov (.t 21), none⟩]))))))
 (.seq
 (.region [⟨some 76, .mov (.t 6), none⟩, ⟨some 4, .mov (.t 76), none⟩, ⟨some 5, .mov (.c (.bool true)), none⟩])
 .ret)))))
def r44 : List AOp := [(.mov (.t 4)), (.mov (.t 5))]
theorem ok44 : FnOk Try.prog 44 Try.f44.ntmps a44 r44 := ⟨Try.f44, Try.func44, by kernel_rfl, by kernel_rfl, by kernel_rfl, fun asv w => by simp⟩

def a45 : ACode :=
 (.seq
 (.region [⟨some 2, .box (.t 0), none⟩, ⟨some 4, .mov (.c (.slice none 0 0)), none⟩])
 (.seq
 (.region [⟨some 5, .mov (.c (.slice none 0 0)), none⟩])
 (.seq
 (.seq
 (.region [⟨some 6, .mov (.c (.int .i64 0)), none⟩])
 (.block 0
 (.loop
 (.seq
 (.seq
 (.region [⟨some 8, .mov (.t 6), none⟩, ⟨some 9, .fa 1 (.t 2), none⟩, ⟨some 10, .ld false 1 (.t 9), none⟩, ⟨some 11, .len (.t 10), none⟩, ⟨some 12, .bin .lss (.t 8) (.t 11), none⟩])
 (.cond (.t 12)
 .skip
 (.exit 0)))
 (.seq
 (.block 1
 (.seq
 (.seq
 (.region [⟨some 15, .mov (.t 1), none⟩, ⟨some 16, .mov (.t 6), none⟩, ⟨some 17, .call (.c (.func (.func 56) #[] #[])) [(.t 15), (.t 16)], none⟩])
 (.cond (.t 17)
 (.exit 1)
 .skip))
 (.seq
 (.region [⟨some 18, .mov (.t 5), none⟩, ⟨some 19, .mov (.t 6), none⟩, ⟨some 20, .bsl 1 [(.int .i64 0)] [(0, 1, (.t 19))], none⟩, ⟨some 21, .app 1 8 (.t 18) (.t 20), none⟩, ⟨some 5, .mov (.t 21), none⟩])
 (.seq
 (.region [⟨some 22, .mov (.t 5), none⟩, ⟨some 23, .len (.t 22), none⟩, ⟨some 24, .bin .sub (.t 23) (.c (.int .i64 1)), none⟩, ⟨some 7, .mov (.t 24), none⟩])
 (.block 2
 (.loop
 (.seq
 (.seq
 (.draw 24 [⟨⟨some 25, .mov (.t 7), none⟩, 0, false, []⟩, ⟨⟨some 26, .bin .gtr (.t 25) (.c (.int .i64 0)), none⟩, 1, false, []⟩, ⟨⟨some 27, .mov (.t 26), none⟩, 2, false, []⟩, ⟨⟨some 28, .fa 1 (.t 2), (some (27, true))⟩, 3, false, []⟩, ⟨⟨some 29, .ld false 1 (.t 28), (some (27, true))⟩, 4, false, []⟩, ⟨⟨some 30, .mov (.t 5), (some (27, true))⟩, 5, false, []⟩, ⟨⟨some 31, .mov (.t 7), (some (27, true))⟩, 6, false, []⟩, ⟨⟨some 32, .isl 1 (.t 30) (.t 31), (some (27, true))⟩, 7, false, []⟩, ⟨⟨some 33, .ld false 1 (.t 32), (some (27, true))⟩, 8, false, []⟩, ⟨⟨some 34, .isl 3 (.t 29) (.t 33), (some (27, true))⟩, 9, false, []⟩, ⟨⟨some 35, .fa 2 (.t 34), (some (27, true))⟩, 10, false, []⟩, ⟨⟨some 36, .ld false 1 (.t 35), (some (27, true))⟩, 11, false, []⟩, ⟨⟨some 37, .fa 1 (.t 2), (some (27, true))⟩, 12, false, []⟩, ⟨⟨some 38, .ld false 1 (.t 37), (some (27, true))⟩, 13, false, []⟩, ⟨⟨some 39, .mov (.t 5), (some (27, true))⟩, 14, false, []⟩, ⟨⟨some 40, .mov (.t 7), (some (27, true))⟩, 15, false, []⟩, ⟨⟨some 41, .bin .sub (.t 40) (.c (.int .i64 1)), (some (27, true))⟩, 16, false, []⟩, ⟨⟨some 42, .isl 1 (.t 39) (.t 41), (some (27, true))⟩, 17, false, []⟩, ⟨⟨some 43, .ld false 1 (.t 42), (some (27, true))⟩, 18, false, []⟩, ⟨⟨some 44, .isl 3 (.t 38) (.t 43), (some (27, true))⟩, 19, false, []⟩, ⟨⟨some 45, .fa 2 (.t 44), (some (27, true))⟩, 20, false, []⟩, ⟨⟨some 46, .ld false 1 (.t 45), (some (27, true))⟩, 21, false, []⟩, ⟨⟨some 47, .bin .lss (.t 36) (.t 46), (some (27, true))⟩, 22, false, []⟩, ⟨⟨some 48, .pick (.t 27) (.t 47) (.c (.bool false)), none⟩, 23, false, []⟩])
 (.cond (.t 48)
 .skip
 (.exit 2)))
 (.seq
 (.block 3
 (.draw 18 [⟨⟨some 51, .mov (.t 5), none⟩, 0, false, []⟩, ⟨⟨some 52, .mov (.t 7), none⟩, 1, false, []⟩, ⟨⟨some 53, .mov (.t 5), none⟩, 2, false, []⟩, ⟨⟨some 54, .mov (.t 7), none⟩, 3, false, []⟩, ⟨⟨some 55, .bin .sub (.t 54) (.c (.int .i64 1)), none⟩, 4, false, []⟩, ⟨⟨some 56, .mov (.t 5), none⟩, 5, false, []⟩, ⟨⟨some 57, .mov (.t 7), none⟩, 6, false, []⟩, ⟨⟨some 58, .bin .sub (.t 57) (.c (.int .i64 1)), none⟩, 7, false, []⟩, ⟨⟨some 59, .isl 1 (.t 56) (.t 58), none⟩, 8, false, []⟩, ⟨⟨some 60, .ld false 1 (.t 59), none⟩, 9, false, []⟩, ⟨⟨some 61, .mov (.t 5), none⟩, 10, false, []⟩, ⟨⟨some 62, .mov (.t 7), none⟩, 11, false, []⟩, ⟨⟨some 63, .isl 1 (.t 61) (.t 62), none⟩, 12, false, []⟩, ⟨⟨some 64, .ld false 1 (.t 63), none⟩, 13, false, []⟩, ⟨⟨some 65, .isl 1 (.t 51) (.t 52), none⟩, 14, false, []⟩, ⟨⟨none, .st 1 (.t 65) (.t 60), none⟩, 15, true, []⟩, ⟨⟨some 66, .isl 1 (.t 53) (.t 55), none⟩, 16, false, []⟩, ⟨⟨none, .st 1 (.t 66) (.t 64), none⟩, 17, true, []⟩]))
 (.region [⟨some 49, .mov (.t 7), none⟩, ⟨some 50, .bin .sub (.t 49) (.c (.int .i64 1)), none⟩, ⟨some 7, .mov (.t 50), none⟩])))))))))
 (.region [⟨some 13, .mov (.t 6), none⟩, ⟨some 14, .bin .add (.t 13) (.c (.int .i64 1)), none⟩, ⟨some 6, .mov (.t 14), none⟩]))))))
 (.seq
 (.region [⟨some 67, .mov (.t 5), none⟩, ⟨some 4, .mov (.t 67), none⟩])
 .ret))))
def r45 : List AOp := [(.mov (.t 4))]
theorem ok45 : FnOk Try.prog 45 Try.f45.ntmps a45 r45 := ⟨Try.f45, Try.func45, by kernel_rfl, by kernel_rfl, by kernel_rfl, fun asv w => by simp⟩

def a46 : ACode :=
 (.seq
 (.region [⟨some 6, .mov (.c (.bool false)), none⟩])
 (.seq
 (.region [⟨some 7, .mov (.t 0), none⟩, ⟨some 8, .mov (.t 1), none⟩, ⟨some 9, .bin .geq (.t 7) (.t 8), none⟩, ⟨some 10, .mov (.t 9), none⟩, ⟨some 11, .mov (.t 0), (some (10, true))⟩, ⟨some 12, .mov (.t 2), (some (10, true))⟩, ⟨some 13, .bin .leq (.t 11) (.t 12), (some (10, true))⟩, ⟨some 14, .pick (.t 10) (.t 13) (.c (.bool false)), none⟩, ⟨some 6, .mov (.t 14), none⟩])
 .ret))
def r46 : List AOp := [(.mov (.t 6))]
theorem ok46 : FnOk Try.prog 46 Try.f46.ntmps a46 r46 := ⟨Try.f46, Try.func46, by kernel_rfl, by kernel_rfl, by kernel_rfl, fun asv w => by simp⟩

def a47 : ACode :=
 (.seq
 (.region [⟨some 4, .mov (.c (.int .i64 0)), none⟩])
 (.seq
 (.seq
 (.region [⟨some 5, .mov (.c (.int .i64 0)), none⟩])
 (.block 0
 (.loop
 (.seq
 (.seq
 (.region [⟨some 6, .mov (.t 5), none⟩, ⟨some 7, .mov (.t 0), none⟩, ⟨some 8, .len (.t 7), none⟩, ⟨some 9, .bin .lss (.t 6) (.t 8), none⟩])
 (.cond (.t 9)
 .skip
 (.exit 0)))
 (.seq
 (.block 1
 (.seq
 (.region [⟨some 12, .mov (.t 0), none⟩, ⟨some 13, .mov (.t 5), none⟩, ⟨some 14, .isl 1 (.t 12) (.t 13), none⟩, ⟨some 15, .ld false 1 (.t 14), none⟩, ⟨some 16, .mov (.t 1), none⟩, ⟨some 17, .bin .eql (.t 15) (.t 16), none⟩])
 (.cond (.t 17)
 (.seq
 (.region [⟨some 18, .mov (.t 5), none⟩, ⟨some 4, .mov (.t 18), none⟩])
 .ret)
 .skip)))
 (.region [⟨some 10, .mov (.t 5), none⟩, ⟨some 11, .bin .add (.t 10) (.c (.int .i64 1)), none⟩, ⟨some 5, .mov (.t 11), none⟩]))))))
 (.seq
 (.region [⟨some 4, .mov (.c (.int .i64 (-1))), none⟩])
 .ret)))
def r47 : List AOp := [(.mov (.t 4))]
theorem ok47 : FnOk Try.prog 47 Try.f47.ntmps a47 r47 := ⟨Try.f47, Try.func47, by kernel_rfl, by kernel_rfl, by kernel_rfl, fun asv w => by simp⟩

def a48 : ACode :=
 (.seq
 (.region [⟨some 4, .mov (.c (.bool false)), none⟩])
 (.seq
 (.seq
 (.region [⟨some 7, .mov (.t 0), none⟩, ⟨some 8, .len (.t 7), none⟩, ⟨some 9, .mov (.c (.int .i64 0)), none⟩])
 (.block 0
 (.loop
 (.seq
 (.region [⟨some 10, .bin .lss (.t 9) (.t 8), none⟩])
 (.seq
 (.cond (.t 10)
 .skip
 (.exit 0))
 (.seq
 (.block 1
 (.seq
 (.region [⟨some 11, .isl 1 (.t 7) (.t 9), none⟩, ⟨some 12, .ld false 1 (.t 11), none⟩, ⟨some 6, .mov (.t 12), none⟩])
 (.seq
 (.region [⟨some 13, .mov (.t 1), none⟩, ⟨some 14, .mov (.t 6), none⟩, ⟨some 15, .call (.t 13) [(.t 14)], none⟩, ⟨some 16, .not (.t 15), none⟩])
 (.cond (.t 16)
 (.seq
 (.region [⟨some 4, .mov (.c (.bool false)), none⟩])
 .ret)
 .skip))))
 (.region [⟨some 17, .bin .add (.t 9) (.c (.int .i64 1)), none⟩, ⟨some 9, .mov (.t 17), none⟩])))))))
 (.seq
 (.region [⟨some 4, .mov (.c (.bool true)), none⟩])
 .ret)))
def r48 : List AOp := [(.mov (.t 4))]
theorem ok48 : FnOk Try.prog 48 Try.f48.ntmps a48 r48 := ⟨Try.f48, Try.func48, by kernel_rfl, by kernel_rfl, by kernel_rfl, fun asv w => by simp⟩

def a49 : ACode :=
 (.seq
 (.region [⟨some 2, .mov (.c (.bool false)), none⟩])
 (.seq
 (.region [⟨some 3, .mov (.t 0), none⟩, ⟨some 4, .call (.c (.func (.func 54) #[] #[])) [(.t 3), (.c (.int .i64 0)), (.c (.int .i64 8))], none⟩, ⟨some 2, .mov (.t 4), none⟩])
 .ret))
def r49 : List AOp := [(.mov (.t 2))]
theorem ok49 : FnOk Try.prog 49 Try.f49.ntmps a49 r49 := ⟨Try.f49, Try.func49, by kernel_rfl, by kernel_rfl, by kernel_rfl, fun asv w => by simp⟩

def a50 : ACode :=
 (.seq
 (.region [⟨some 4, .mov (.c (.bool false)), none⟩])
 (.seq
 (.seq
 (.region [⟨some 7, .mov (.t 0), none⟩, ⟨some 8, .len (.t 7), none⟩, ⟨some 9, .mov (.c (.int .i64 0)), none⟩])
 (.block 0
 (.loop
 (.seq
 (.region [⟨some 10, .bin .lss (.t 9) (.t 8), none⟩])
 (.seq
 (.cond (.t 10)
 .skip
 (.exit 0))
 (.seq
 (.block 1
 (.seq
 (.region [⟨some 11, .isl 3 (.t 7) (.t 9), none⟩, ⟨some 12, .ld true 3 (.t 11), none⟩, ⟨some 6, .new [(.int .i64 0), (.int .i64 0), (.int .i64 0)], none⟩, ⟨none, .st 3 (.t 6) (.t 12), none⟩])
 (.seq
 (.region [⟨some 13, .mov (.t 1), none⟩, ⟨some 14, .ld true 3 (.t 6), none⟩, ⟨some 15, .call (.t 13) [(.t 14)], none⟩, ⟨some 16, .not (.t 15), none⟩])
 (.cond (.t 16)
 (.seq
 (.region [⟨some 4, .mov (.c (.bool false)), none⟩])
 .ret)
 .skip))))
 (.region [⟨some 17, .bin .add (.t 9) (.c (.int .i64 1)), none⟩, ⟨some 9, .mov (.t 17), none⟩])))))))
 (.seq
 (.region [⟨some 4, .mov (.c (.bool true)), none⟩])
 .ret)))
def r50 : List AOp := [(.mov (.t 4))]
theorem ok50 : FnOk Try.prog 50 Try.f50.ntmps a50 r50 := ⟨Try.f50, Try.func50, by kernel_rfl, by kernel_rfl, by kernel_rfl, fun asv w => by simp⟩

def a51 : ACode :=
 (.seq
 (.region [⟨some 1, .box (.t 0), none⟩, ⟨some 2, .mov (.c (.bool false)), none⟩])
 (.seq
 (.region [⟨some 3, .fa 0 (.t 1), none⟩, ⟨some 4, .ld false 1 (.t 3), none⟩, ⟨some 5, .fa 1 (.t 1), none⟩, ⟨some 6, .ld false 1 (.t 5), none⟩, ⟨some 7, .call (.c (.func (.func 54) #[] #[])) [(.t 4), (.c (.int .i64 0)), (.t 6)], none⟩, ⟨some 8, .mov (.t 7), none⟩, ⟨some 9, .fa 1 (.t 1), (some (8, true))⟩, ⟨some 10, .ld false 1 (.t 9), (some (8, true))⟩, ⟨some 11, .bin .leq (.t 10) (.c (.int .i64 2000)), (some (8, true))⟩, ⟨some 12, .pick (.t 8) (.t 11) (.c (.bool false)), none⟩, ⟨some 13, .mov (.t 12), none⟩, ⟨some 14, .fa 2 (.t 1), (some (13, true))⟩, ⟨some 15, .ld false 1 (.t 14), (some (13, true))⟩, ⟨some 16, .call (.c (.func (.func 54) #[] #[])) [(.t 15), (.c (.int .i64 0)), (.c (.int .i64 2000))], (some (13, true))⟩, ⟨some 17, .pick (.t 13) (.t 16) (.c (.bool false)), none⟩, ⟨some 2, .mov (.t 17), none⟩])
 .ret))
def r51 : List AOp := [(.mov (.t 2))]
theorem ok51 : FnOk Try.prog 51 Try.f51.ntmps a51 r51 := ⟨Try.f51, Try.func51, by kernel_rfl, by kernel_rfl, by kernel_rfl, fun asv w => by simp⟩

def a52 : ACode :=
 (.seq
 (.region [⟨some 2, .mov (.c (.bool false)), none⟩])
 (.seq
 (.region [⟨some 4, .mkm, none⟩, ⟨some 3, .new [(.map none)], none⟩, ⟨none, .st 1 (.t 3) (.t 4), none⟩])
 (.seq
 (.region [⟨some 5, .mov (.t 0), none⟩, ⟨some 6, .fn (.func 71) [] [(.t 3)], none⟩, ⟨some 7, .call (.c (.func (.func 48) #[] #[])) [(.t 5), (.t 6)], none⟩, ⟨some 2, .mov (.t 7), none⟩])
 .ret)))
def r52 : List AOp := [(.mov (.t 2))]
theorem ok52 : FnOk Try.prog 52 Try.f52.ntmps a52 r52 := ⟨Try.f52, Try.func52, by kernel_rfl, by kernel_rfl, by kernel_rfl, fun asv w => by simp⟩

def a53 : ACode :=
 (.seq
 (.region [⟨some 1, .box (.t 0), none⟩, ⟨some 2, .mov (.c (.slice none 0 0)), none⟩])
 (.seq
 (.region [⟨some 3, .mov (.c (.slice none 0 0)), none⟩])
 (.seq
 (.seq
 (.region [⟨some 6, .fa 1 (.t 1), none⟩, ⟨some 7, .ld false 1 (.t 6), none⟩, ⟨some 8, .len (.t 7), none⟩, ⟨some 9, .mov (.c (.int .i64 0)), none⟩])
 (.block 0
 (.loop
 (.seq
 (.region [⟨some 10, .bin .lss (.t 9) (.t 8), none⟩])
 (.seq
 (.cond (.t 10)
 .skip
 (.exit 0))
 (.seq
 (.block 1
 (.seq
 (.region [⟨some 11, .isl 3 (.t 7) (.t 9), none⟩, ⟨some 12, .ld true 3 (.t 11), none⟩, ⟨some 5, .new [(.int .i64 0), (.int .i64 0), (.int .i64 0)], none⟩, ⟨none, .st 3 (.t 5) (.t 12), none⟩])
 (.region [⟨some 13, .mov (.t 3), none⟩, ⟨some 14, .fa 2 (.t 5), none⟩, ⟨some 15, .ld false 1 (.t 14), none⟩, ⟨some 16, .bsl 1 [(.int .i64 0)] [(0, 1, (.t 15))], none⟩, ⟨some 17, .app 1 8 (.t 13) (.t 16), none⟩, ⟨some 3, .mov (.t 17), none⟩])))
 (.region [⟨some 18, .bin .add (.t 9) (.c (.int .i64 1)), none⟩, ⟨some 9, .mov (.t 18), none⟩])))))))
 (.seq
 (.region [⟨some 19, .mov (.t 3), none⟩, ⟨some 2, .mov (.t 19), none⟩])
 .ret))))
def r53 : List AOp := [(.mov (.t 2))]
theorem ok53 : FnOk Try.prog 53 Try.f53.ntmps a53 r53 := ⟨Try.f53, Try.func53, by kernel_rfl, by kernel_rfl, by kernel_rfl, fun asv w => by simp⟩

def a54 : ACode :=
 (.seq
 (.region [⟨some 6, .mov (.c (.bool false)), none⟩])
 (.seq
 (.region [⟨some 7, .mov (.t 1), none⟩, ⟨some 8, .mov (.t 0), none⟩, ⟨some 9, .bin .leq (.t 7) (.t 8), none⟩, ⟨some 10, .mov (.t 9), none⟩, ⟨some 11, .mov (.t 0), (some (10, true))⟩, ⟨some 12, .mov (.t 2), (some (10, true))⟩, ⟨some 13, .bin .leq (.t 11) (.t 12), (some (10, true))⟩, ⟨some 14, .pick (.t 10) (.t 13) (.c (.bool false)), none⟩, ⟨some 6, .mov (.t 14), none⟩])
 .ret))
def r54 : List AOp := [(.mov (.t 6))]
theorem ok54 : FnOk Try.prog 54 Try.f54.ntmps a54 r54 := ⟨Try.f54, Try.func54, by kernel_rfl, by kernel_rfl, by kernel_rfl, fun asv w => by simp⟩

def a55 : ACode :=
 (.seq
 (.region [⟨some 2, .box (.t 0), none⟩, ⟨some 4, .mov (.c (.bool false)), none⟩])
 (.seq
 (.seq
 (.region [⟨some 9, .mov (.t 1), none⟩, ⟨some 10, .len (.t 9), none⟩, ⟨some 11, .fa 1 (.t 2), none⟩, ⟨some 12, .ld false 1 (.t 11), none⟩, ⟨some 13, .len (.t 12), none⟩, ⟨some 14, .bin .neq (.t 10) (.t 13), none⟩, ⟨some 15, .mov (.t 14), none⟩, ⟨some 16, .mov (.t 1), (some (15, false))⟩, ⟨some 17, .ld true 3 (.t 2), (some (15, false))⟩, ⟨some 18, .fn (.func 72) [(.t 17)] [], (some (15, false))⟩, ⟨some 19, .call (.c (.func (.func 48) #[] #[])) [(.t 16), (.t 18)], (some (15, false))⟩, ⟨some 20, .not (.t 19), (some (15, false))⟩, ⟨some 21, .pick (.t 15) (.c (.bool true)) (.t 20), none⟩, ⟨some 22, .mov (.t 21), none⟩, ⟨some 23, .mov (.t 1), (some (22, false))⟩, ⟨some 24, .call (.c (.func (.func 52) #[] #[])) [(.t 23)], (some (22, false))⟩, ⟨some 25, .not (.t 24), (some (22, false))⟩, ⟨some 26, .pick (.t 22) (.c (.bool true)) (.t 25), none⟩])
 (.cond (.t 26)
 (.seq
 (.region [⟨some 4, .mov (.c (.bool false)), none⟩])
 .ret)
 .skip))
 (.seq
 (.region [⟨some 27, .call (.c (.func (.func 73) #[] #[])) [], none⟩, ⟨some 5, .new [.nilFunc, .nilFunc], none⟩, ⟨none, .st 2 (.t 5) (.t 27), none⟩])
 (.seq
 (.seq
 (.region [⟨some 28, .mov (.t 1), none⟩, ⟨some 29, .len (.t 28), none⟩, ⟨some 30, .mov (.c (.int .i64 0)), none⟩])
 (.block 0
 (.loop
 (.seq
 (.region [⟨some 31, .bin .lss (.t 30) (.t 29), none⟩])
 (.seq
 (.cond (.t 31)
 .skip
 (.exit 0))
 (.seq
 (.block 1
 (.seq
 (.region [⟨some 32, .mov (.t 30), none⟩, ⟨some 33, .isl 1 (.t 28) (.t 30), none⟩, ⟨some 34, .ld false 1 (.t 33), none⟩, ⟨some 7, .new [(.int .i64 0)], none⟩, ⟨some 6, .mov (.t 32), none⟩, ⟨none, .st 1 (.t 7) (.t 34), none⟩])
 (.seq
 (.region [⟨some 35, .fn (.func 74) [] [(.t 5), (.t 2), (.t 7)], none⟩, ⟨some 8, .mov (.t 35), none⟩])
 (.seq
 (.region [⟨some 36, .mov (.t 1), none⟩, ⟨some 37, .mov (.t 6), none⟩, ⟨some 38, .bin .add (.t 37) (.c (.int .i64 1)), none⟩, ⟨some 39, .sl 1 (.t 36) (some (.t 38)) none, none⟩, ⟨some 40, .mov (.t 8), none⟩, ⟨some 41, .call (.c (.func (.func 48) #[] #[])) [(.t 39), (.t 40)], none⟩, ⟨some 42, .not (.t 41), none⟩])
 (.cond (.t 42)
 (.seq
 (.region [⟨some 4, .mov (.c (.bool false)), none⟩])
 .ret)
 .skip)))))
 (.region [⟨some 43, .bin .add (.t 30) (.c (.int .i64 1)), none⟩, ⟨some 30, .mov (.t 43), none⟩])))))))
 (.seq
 (.region [⟨some 4, .mov (.c (.bool true)), none⟩])
 .ret)))))
def r55 : List AOp := [(.mov (.t 4))]
theorem ok55 : FnOk Try.prog 55 Try.f55.ntmps a55 r55 := ⟨Try.f55, Try.func55, by kernel_rfl, by kernel_rfl, by kernel_rfl, fun asv w => by simp⟩

def a56 : ACode :=
 (.seq
 (.region [⟨some 4, .mov (.c (.bool false)), none⟩])
 (.seq
 (.seq
 (.region [⟨some 5, .mov (.c (.int .i64 0)), none⟩])
 (.block 0
 (.loop
 (.seq
 (.seq
 (.region [⟨some 6, .mov (.t 5), none⟩, ⟨some 7, .mov (.t 0), none⟩, ⟨some 8, .len (.t 7), none⟩, ⟨some 9, .bin .lss (.t 6) (.t 8), none⟩])
 (.cond (.t 9)
 .skip
 (.exit 0)))
 (.seq
 (.block 1
 (.seq
 (.region [⟨some 12, .mov (.t 0), none⟩, ⟨some 13, .mov (.t 5), none⟩, ⟨some 14, .isl 1 (.t 12) (.t 13), none⟩, ⟨some 15, .ld false 1 (.t 14), none⟩, ⟨some 16, .mov (.t 1), none⟩, ⟨some 17, .bin .eql (.t 15) (.t 16), none⟩])
 (.cond (.t 17)
 (.seq
 (.region [⟨some 4, .mov (.c (.bool true)), none⟩])
 .ret)
 .skip)))
 (.region [⟨some 10, .mov (.t 5), none⟩, ⟨some 11, .bin .add (.t 10) (.c (.int .i64 1)), none⟩, ⟨some 5, .mov (.t 11), none⟩]))))))
 (.seq
 (.region [⟨some 4, .mov (.c (.bool false)), none⟩])
 .ret)))
def r56 : List AOp := [(.mov (.t 4))]
theorem ok56 : FnOk Try.prog 56 Try.f56.ntmps a56 r56 := ⟨Try.f56, Try.func56, by kernel_rfl, by kernel_rfl, by kernel_rfl, fun asv w => by simp⟩

def a57 : ACode :=
 (.seq
 (.region [⟨some 4, .box (.t 0), none⟩, ⟨some 8, .mov (.c (.int .i64 0)), none⟩])
 (.seq
 (.seq
 (.region [⟨some 10, .ld true 3 (.t 4), none⟩, ⟨some 11, .mov (.t 1), none⟩, ⟨some 12, .call (.c (.func (.func 63) #[] #[])) [(.t 10), (.t 11)], none⟩, ⟨some 9, .mov (.t 12), none⟩])
 (.seq
 (.region [⟨some 13, .mov (.t 9), none⟩, ⟨some 14, .bin .neq (.t 13) (.c (.int .i64 0)), none⟩])
 (.cond (.t 14)
 (.seq
 (.region [⟨some 15, .mov (.t 9), none⟩, ⟨some 8, .mov (.t 15), none⟩])
 .ret)
 .skip)))
 (.seq
 (.seq
 (.region [⟨some 16, .ld true 3 (.t 4), none⟩, ⟨some 17, .mov (.t 2), none⟩, ⟨some 18, .call (.c (.func (.func 55) #[] #[])) [(.t 16), (.t 17)], none⟩, ⟨some 19, .not (.t 18), none⟩, ⟨some 20, .mov (.t 19), none⟩, ⟨some 21, .ld true 3 (.t 4), (some (20, false))⟩, ⟨some 22, .mov (.t 3), (some (20, false))⟩, ⟨some 23, .call (.c (.func (.func 75) #[] #[])) [(.t 21), (.t 22)], (some (20, false))⟩, ⟨some 24, .not (.t 23), (some (20, false))⟩, ⟨some 25, .pick (.t 20) (.c (.bool true)) (.t 24), none⟩])
 (.cond (.t 25)
 (.seq
 (.region [⟨some 8, .mov (.c (.int .i64 2)), none⟩])
 .ret)
 .skip))
 (.seq
 (.region [⟨some 8, .mov (.c (.int .i64 0)), none⟩])
 .ret))))
def r57 : List AOp := [(.mov (.t 8))]
theorem ok57 : FnOk Try.prog 57 Try.f57.ntmps a57 r57 := ⟨Try.f57, Try.func57, by kernel_rfl, by kernel_rfl, by kernel_rfl, fun asv w => by simp⟩

def a58 : ACode :=
 (.seq
 (.region [⟨some 4, .box (.t 0), none⟩, ⟨some 6, .box (.t 2), none⟩, ⟨some 7, .box (.t 3), none⟩, ⟨some 8, .new [(.slice none 0 0), (.slice none 0 0), (.int .i64 0), (.int .i64 0), (.int .i64 0), (.int .i64 0), (.int .i64 0), (.int .i64 0), (.int .i64 0), (.int .i64 0), (.int .i64 0), (.int .i64 0), (.int .i64 0), (.int .i64 0), (.int .i64 0), (.int .i64 0), (.int .i64 0), (.int .i64 0), (.int .i64 0), (.bool false), (.bool false), (.bool false), (.bool false), (.bool false), (.bool false), (.bool false), (.bool false)], none⟩])
 (.seq
 (.region [⟨some 12, .ld true 3 (.t 4), none⟩, ⟨some 13, .ld true 8 (.t 7), none⟩, ⟨some 14, .bld [(.slice none 0 0), (.slice none 0 0), (.int .i64 0), (.int .i64 0), (.int .i64 0), (.int .i64 0), (.int .i64 0), (.int .i64 0), (.int .i64 0), (.int .i64 0), (.int .i64 0), (.int .i64 0), (.int .i64 0), (.int .i64 0), (.int .i64 0), (.int .i64 0), (.int .i64 0), (.int .i64 0), (.int .i64 0), (.bool false), (.bool false), (.bool false), (.bool false), (.bool false), (.bool false), (.bool false), (.bool false)] [(0, 3, (.t 12)), (19, 8, (.t 13))], none⟩, ⟨some 9, .new [(.slice none 0 0), (.slice none 0 0), (.int .i64 0), (.int .i64 0), (.int .i64 0), (.int .i64 0), (.int .i64 0), (.int .i64 0), (.int .i64 0), (.int .i64 0), (.int .i64 0), (.int .i64 0), (.int .i64 0), (.int .i64 0), (.int .i64 0), (.int .i64 0), (.int .i64 0), (.int .i64 0), (.int .i64 0), (.bool false), (.bool false), (.bool false), (.bool false), (.bool false), (.bool false), (.bool false), (.bool false)], none⟩, ⟨none, .st 27 (.t 9) (.t 14), none⟩])
 (.seq
 (.seq
 (.region [⟨some 15, .mov (.t 1), none⟩, ⟨some 16, .len (.t 15), none⟩, ⟨some 17, .mov (.c (.int .i64 0)), none⟩])
 (.block 0
 (.loop
 (.seq
 (.region [⟨some 18, .bin .lss (.t 17) (.t 16), none⟩])
 (.seq
 (.cond (.t 18)
 .skip
 (.exit 0))
 (.seq
 (.block 1
 (.seq
 (.region [⟨some 19, .mov (.t 17), none⟩, ⟨some 20, .isl 1 (.t 15) (.t 17), none⟩, ⟨some 21, .ld false 1 (.t 20), none⟩, ⟨some 10, .mov (.t 19), none⟩, ⟨some 11, .mov (.t 21), none⟩])
 (.region [⟨some 22, .mov (.t 10), none⟩, ⟨some 23, .mov (.t 11), none⟩, ⟨some 24, .mov (.t 10), none⟩, ⟨some 25, .iar 8 1 (.t 6) (.t 24), none⟩, ⟨some 26, .ld false 1 (.t 25), none⟩, ⟨some 27, .bld [(.int .i64 0), (.int .i64 0)] [(0, 1, (.t 23)), (1, 1, (.t 26))], none⟩, ⟨some 28, .fa 3 (.t 9), none⟩, ⟨some 29, .iar 8 2 (.t 28) (.t 22), none⟩, ⟨none, .st 2 (.t 29) (.t 27), none⟩])))
 (.region [⟨some 30, .bin .add (.t 17) (.c (.int .i64 1)), none⟩, ⟨some 17, .mov (.t 30), none⟩])))))))
 (.seq
 (.region [⟨some 31, .ld true 27 (.t 9), none⟩, ⟨none, .st 27 (.t 8) (.t 31), none⟩])
 .ret))))
def r58 : List AOp := [(.ld true 27 (.t 8))]
theorem ok58 : FnOk Try.prog 58 Try.f58.ntmps a58 r58 := ⟨Try.f58, Try.func58, by kernel_rfl, by kernel_rfl, by kernel_rfl, fun asv w => by simp⟩

def a59 : ACode :=
 (.seq
 (.region [⟨some 2, .new [(.int .i64 0), (.int .i64 0), (.int .i64 0), (.int .i64 0), (.int .i64 0), (.int .i64 0), (.int .i64 0), (.int .i64 0)], none⟩])
 (.seq
 (.region [⟨some 3, .new [(.int .i64 0), (.int .i64 0), (.int .i64 0), (.int .i64 0), (.int .i64 0), (.int .i64 0), (.int .i64 0), (.int .i64 0)], none⟩])
 (.seq
 (.seq
 (.region [⟨some 6, .mov (.t 0), none⟩, ⟨some 7, .len (.t 6), none⟩, ⟨some 8, .mov (.c (.int .i64 0)), none⟩])
 (.block 0
 (.loop
 (.seq
 (.region [⟨some 9, .bin .lss (.t 8) (.t 7), none⟩])
 (.seq
 (.cond (.t 9)
 .skip
 (.exit 0))
 (.seq
 (.block 1
 (.seq
 (.region [⟨some 10, .mov (.t 8), none⟩, ⟨some 11, .isl 1 (.t 6) (.t 8), none⟩, ⟨some 12, .ld false 1 (.t 11), none⟩, ⟨some 4, .mov (.t 10), none⟩, ⟨some 5, .mov (.t 12), none⟩])
 (.region [⟨some 13, .mov (.t 5), none⟩, ⟨some 14, .mov (.t 4), none⟩, ⟨some 15, .iar 8 1 (.t 3) (.t 13), none⟩, ⟨none, .st 1 (.t 15) (.t 14), none⟩])))
 (.region [⟨some 16, .bin .add (.t 8) (.c (.int .i64 1)), none⟩, ⟨some 8, .mov (.t 16), none⟩])))))))
 (.seq
 (.region [⟨some 17, .ld true 8 (.t 3), none⟩, ⟨none, .st 8 (.t 2) (.t 17), none⟩])
 .ret))))
def r59 : List AOp := [(.ld true 8 (.t 2))]
theorem ok59 : FnOk Try.prog 59 Try.f59.ntmps a59 r59 := ⟨Try.f59, Try.func59, by kernel_rfl, by kernel_rfl, by kernel_rfl, fun asv w => by simp⟩

def a60 : ACode :=
 (.seq
 (.region [⟨some 2, .new [(.bool false), (.bool false), (.bool false), (.bool false), (.bool false), (.bool false), (.bool false), (.bool false)], none⟩])
 (.seq
 (.region [⟨some 3, .new [(.bool false), (.bool false), (.bool false), (.bool false), (.bool false), (.bool false), (.bool false), (.bool false)], none⟩])
 (.seq
 (.seq
 (.region [⟨some 6, .mov (.t 0), none⟩, ⟨some 7, .len (.t 6), none⟩, ⟨some 8, .mov (.c (.int .i64 0)), none⟩])
 (.block 0
 (.loop
 (.seq
 (.region [⟨some 9, .bin .lss (.t 8) (.t 7), none⟩])
 (.seq
 (.cond (.t 9)
 .skip
 (.exit 0))
 (.seq
 (.block 1
 (.seq
 (.region [⟨some 10, .isl 1 (.t 6) (.t 8), none⟩, ⟨some 11, .ld false 1 (.t 10), none⟩, ⟨some 5, .mov (.t 11), none⟩])
 (.region [⟨some 12, .mov (.t 5), none⟩, ⟨some 13, .iar 8 1 (.t 3) (.t 12), none⟩, ⟨none, .st 1 (.t 13) (.c (.bool true)), none⟩])))
 (.region [⟨some 14, .bin .add (.t 8) (.c (.int .i64 1)), none⟩, ⟨some 8, .mov (.t 14), none⟩])))))))
 (.seq
 (.region [⟨some 15, .ld true 8 (.t 3), none⟩, ⟨none, .st 8 (.t 2) (.t 15), none⟩])
 .ret))))
def r60 : List AOp := [(.ld true 8 (.t 2))]
theorem ok60 : FnOk Try.prog 60 Try.f60.ntmps a60 r60 := ⟨Try.f60, Try.func60, by kernel_rfl, by kernel_rfl, by kernel_rfl, fun asv w => by simp⟩

def a61 : ACode :=
 (.seq
 (.region [⟨some 1, .box (.t 0), none⟩, ⟨some 2, .mov (.c (.slice none 0 0)), none⟩])
 (.seq
 (.region [⟨some 3, .ld true 27 (.t 1), none⟩, ⟨some 4, .ld true 27 (.t 1), none⟩, ⟨some 5, .fn (.func 77) [(.t 4)] [], none⟩, ⟨some 6, .call (.c (.func (.func 76) #[] #[])) [(.t 3), (.t 5)], none⟩, ⟨some 2, .mov (.t 6), none⟩])
 .ret))
def r61 : List AOp := [(.mov (.t 2))]
theorem ok61 : FnOk Try.prog 61 Try.f61.ntmps a61 r61 := ⟨Try.f61, Try.func61, by kernel_rfl, by kernel_rfl, by kernel_rfl, fun asv w => by simp⟩

noncomputable def c62x0 : Code := (rfN Try.f62.body 0).1
noncomputable def c62y0 : Code := (rfN Try.f62.body 0).2
noncomputable def a62x0 : ACode :=
  (.region [⟨(some 7), (.mov (.t 14)), none⟩])
theorem ok62x0 : ccode Try.prog 51 (cdraw Try.prog 51) c62x0 = some a62x0 := by kernel_rfl
def a62y0 : ACode :=
 (.block 1
 (.seq
 (.region [⟨some 15, .bsl 0 [] [], none⟩, ⟨some 8, .mov (.t 15), none⟩])
 (.seq
 (.seq
 (.region [⟨some 16, .ld false 1 (.t 3), none⟩, ⟨some 17, .len (.t 16), none⟩, ⟨some 18, .mov (.c (.int .i64 0)), none⟩])
 (.block 2
 (.loop
 (.seq
 (.region [⟨some 19, .bin .lss (.t 18) (.t 17), none⟩])
 (.seq
 (.cond (.t 19)
 .skip
 (.exit 2))
 (.seq
 (.block 3
 (.seq
 (.region [⟨some 20, .isl 1 (.t 16) (.t 18), none⟩, ⟨some 21, .ld false 1 (.t 20), none⟩, ⟨some 10, .mov (.t 21), none⟩])
 (.seq
 (.draw 15 [⟨⟨some 22, .mov (.t 10), none⟩, 0, false, []⟩, ⟨⟨some 23, .iar 8 1 (.t 6) (.t 22), none⟩, 1, false, []⟩, ⟨⟨some 24, .ld false 1 (.t 23), none⟩, 2, false, []⟩, ⟨⟨some 25, .not (.t 24), none⟩, 3, false, []⟩, ⟨⟨some 26, .mov (.t 25), none⟩, 4, false, []⟩, ⟨⟨some 27, .mov (.t 10), (some (26, true))⟩, 5, false, []⟩, ⟨⟨some 28, .fa 3 (.t 2), (some (26, true))⟩, 6, false, []⟩, ⟨⟨some 29, .iar 8 2 (.t 28) (.t 27), (some (26, true))⟩, 7, false, []⟩, ⟨⟨some 30, .ld true 2 (.t 29), (some (26, true))⟩, 8, false, []⟩, ⟨⟨some 31, .mov (.t 7), (some (26, true))⟩, 9, false, []⟩, ⟨⟨some 32, .fa 3 (.t 2), (some (26, true))⟩, 10, false, []⟩, ⟨⟨some 33, .iar 8 2 (.t 32) (.t 31), (some (26, true))⟩, 11, false, []⟩, ⟨⟨some 34, .ld true 2 (.t 33), (some (26, true))⟩, 12, false, []⟩, ⟨⟨some 35, .call (.c (.func (.func 79) #[] #[])) [(.t 30), (.t 34)], (some (26, true))⟩, 13, true, []⟩, ⟨⟨some 36, .pick (.t 26) (.t 35) (.c (.bool false)), none⟩, 14, false, []⟩])
 (.cond (.t 36)
 (.seq
 (.region [⟨some 37, .mov (.t 8), none⟩, ⟨some 38, .mov (.t 10), none⟩, ⟨some 39, .bsl 1 [(.int .i64 0)] [(0, 1, (.t 38))], none⟩, ⟨some 40, .app 1 8 (.t 37) (.t 39), none⟩, ⟨some 8, .mov (.t 40), none⟩])
 (.region [⟨some 41, .mov (.t 10), none⟩, ⟨some 42, .iar 8 1 (.t 6) (.t 41), none⟩, ⟨none, .st 1 (.t 42) (.c (.bool true)), none⟩]))
 .skip))))
 (.region [⟨some 43, .bin .add (.t 18) (.c (.int .i64 1)), none⟩, ⟨some 18, .mov (.t 43), none⟩])))))))
 (.seq
 (.region [⟨some 44, .mov (.t 7), none⟩, ⟨some 45, .iar 8 1 (.t 6) (.t 44), none⟩, ⟨none, .st 1 (.t 45) (.c (.bool true)), none⟩])
 (.region [⟨some 46, .ld false 1 (.t 5), none⟩, ⟨some 47, .mov (.t 8), none⟩, ⟨some 48, .bsl 1 [(.slice none 0 0)] [(0, 1, (.t 47))], none⟩, ⟨some 49, .app 1 24 (.t 46) (.t 48), none⟩, ⟨none, .st 1 (.t 5) (.t 49), none⟩])))))
theorem ok62y0 : ccode Try.prog 51 (cdraw Try.prog 51) c62y0 = some a62y0 := by kernel_rfl
noncomputable def a62 : ACode :=
  (.seq
   (.region [⟨(some 2), (.box (.t 0)), none⟩, ⟨(some 3), (.box (.t 1)), none⟩, ⟨(some 4), (.mov (.c (.slice none 0 0))), none⟩])
   (.seq
    (.region [⟨(some 11), (.bsl 0 [] []), none⟩, ⟨(some 5), (.new [(.slice none 0 0)]), none⟩, ⟨none, (.st 1 (.t 5) (.t 11)), none⟩])
    (.seq
     (.region [⟨(some 6), (.new [(.bool false), (.bool false), (.bool false), (.bool false), (.bool false), (.bool false), (.bool false), (.bool false)]), none⟩])
     (.seq
      (.seq
       (.region [⟨(some 12), (.ld true 27 (.t 2)), none⟩, ⟨(some 13), (.call (.c (.func (.func 78) #[] #[])) [(.t 12)]), none⟩])
       (.block 0
        (.rangeF (.t 13) #[14] c62x0 c62y0 a62x0 a62y0)))
      (.seq
       (.region [⟨(some 50), (.ld false 1 (.t 5)), none⟩, ⟨(some 4), (.mov (.t 50)), none⟩])
       .ret)))))
def r62 : List AOp := [(.mov (.t 4))]
theorem ok62 : FnOk Try.prog 62 Try.f62.ntmps a62 r62 := ⟨Try.f62, Try.func62, by kernel_rfl, by kernel_rfl, by kernel_rfl, fun asv w => by simp⟩

def a63 : ACode :=
 (.seq
 (.region [⟨some 2, .box (.t 0), none⟩, ⟨some 4, .mov (.c (.int .i64 0)), none⟩])
 (.seq
 (.seq
 (.region [⟨some 6, .ld true 3 (.t 2), none⟩, ⟨some 7, .call (.c (.func (.func 19) #[] #[])) [(.t 6)], none⟩, ⟨some 5, .mov (.t 7), none⟩])
 (.seq
 (.region [⟨some 8, .mov (.t 5), none⟩, ⟨some 9, .bin .neq (.t 8) (.c (.int .i64 0)), none⟩])
 (.cond (.t 9)
 (.seq
 (.region [⟨some 10, .mov (.t 5), none⟩, ⟨some 4, .mov (.t 10), none⟩])
 .ret)
 .skip)))
 (.seq
 (.seq
 (.region [⟨some 11, .ld true 3 (.t 2), none⟩, ⟨some 12, .mov (.t 1), none⟩, ⟨some 13, .call (.c (.func (.func 80) #[] #[])) [(.t 11), (.t 12)], none⟩, ⟨some 14, .not (.t 13), none⟩])
 (.cond (.t 14)
 (.seq
 (.region [⟨some 4, .mov (.c (.int .i64 2)), none⟩])
 .ret)
 .skip))
 (.seq
 (.region [⟨some 4, .mov (.c (.int .i64 0)), none⟩])
 .ret))))
def r63 : List AOp := [(.mov (.t 4))]
theorem ok63 : FnOk Try.prog 63 Try.f63.ntmps a63 r63 := ⟨Try.f63, Try.func63, by kernel_rfl, by kernel_rfl, by kernel_rfl, fun asv w => by simp⟩

def a64 : ACode :=
 (.seq
 (.region [⟨some 1, .box (.t 0), none⟩, ⟨some 2, .new [(.slice none 0 0), (.slice none 0 0), (.int .i64 0), .nilFunc, .nilFunc, (.map none)], none⟩])
 (.seq
 (.draw 5 [⟨⟨some 3, .ld true 3 (.t 1), none⟩, 0, false, []⟩, ⟨⟨some 5, .mkm, none⟩, 2, false, []⟩, ⟨⟨some 4, .call (.c (.func (.func 73) #[] #[])) [], none⟩, 1, true, [0]⟩, ⟨⟨some 6, .bld [(.slice none 0 0), (.slice none 0 0), (.int .i64 0), .nilFunc, .nilFunc, (.map none)] [(0, 3, (.t 3)), (3, 2, (.t 4)), (5, 1, (.t 5))], none⟩, 3, false, []⟩, ⟨⟨none, .st 6 (.t 2) (.t 6), none⟩, 4, true, []⟩])
 .ret))
def r64 : List AOp := [(.ld true 6 (.t 2))]
theorem ok64 : FnOk Try.prog 64 Try.f64.ntmps a64 r64 := ⟨Try.f64, Try.func64, by kernel_rfl, by kernel_rfl, by kernel_rfl, fun asv w => by simp⟩

def a65 : ACode :=
 (.seq
 (.region [⟨some 2, .box (.t 0), none⟩, ⟨some 3, .box (.t 1), none⟩, ⟨some 4, .new [(.int .i64 0), (.int .i64 0), (.int .i64 0), (.int .i64 0), (.int .i64 0), (.int .i64 0), (.int .i64 0), (.int .i64 0), (.int .i64 0), (.bool false), (.bool false), (.bool false), (.bool false), (.bool false), (.bool false), (.bool false), (.bool false)], none⟩])
 (.seq
 (.region [⟨some 5, .new [.nilFunc], none⟩])
 (.seq
 (.region [⟨some 6, .fn (.func 81) [] [(.t 2), (.t 3), (.t 5)], none⟩, ⟨none, .st 1 (.t 5) (.t 6), none⟩])
 (.seq
 (.region [⟨some 7, .ld false 1 (.t 5), none⟩, ⟨some 8, .fa 0 (.t 2), none⟩, ⟨some 9, .fa 2 (.t 8), none⟩, ⟨some 10, .ld false 1 (.t 9), none⟩, ⟨some 11, .call (.t 7) [(.c (.int .i64 0)), (.t 10)], none⟩, ⟨none, .st 17 (.t 4) (.t 11), none⟩])
 .ret))))
def r65 : List AOp := [(.ld true 17 (.t 4))]
theorem ok65 : FnOk Try.prog 65 Try.f65.ntmps a65 r65 := ⟨Try.f65, Try.func65, by kernel_rfl, by kernel_rfl, by kernel_rfl, fun asv w => by simp⟩

def a66 : ACode :=
 (.seq
 (.region [⟨some 1, .box (.t 0), none⟩, ⟨some 2, .mov (.c (.slice none 0 0)), none⟩])
 (.seq
 (.region [⟨some 4, .fn (.func 86) [] [(.t 1)], none⟩, ⟨some 3, .mov (.t 4), none⟩])
 (.seq
 (.region [⟨some 5, .ld true 27 (.t 1), none⟩, ⟨some 6, .ld true 27 (.t 1), none⟩, ⟨some 7, .fn (.func 88) [(.t 6)] [], none⟩, ⟨some 8, .mov (.t 3), none⟩, ⟨some 9, .bsl 2 [.nilFunc, .nilFunc] [(0, 1, (.t 7)), (1, 1, (.t 8))], none⟩, ⟨some 10, .call (.c (.func (.func 87) #[] #[])) [(.t 5), (.t 9)], none⟩, ⟨some 2, .mov (.t 10), none⟩])
 .ret)))
def r66 : List AOp := [(.mov (.t 2))]
theorem ok66 : FnOk Try.prog 66 Try.f66.ntmps a66 r66 := ⟨Try.f66, Try.func66, by kernel_rfl, by kernel_rfl, by kernel_rfl, fun asv w => by simp⟩

def a67 : ACode :=
 (.seq
 (.region [⟨some 1, .box (.t 0), none⟩, ⟨some 2, .mov (.c (.slice none 0 0)), none⟩])
 (.seq
 (.region [⟨some 3, .ld true 27 (.t 1), none⟩, ⟨some 4, .ld true 27 (.t 1), none⟩, ⟨some 5, .fn (.func 89) [(.t 4)] [], none⟩, ⟨some 6, .call (.c (.func (.func 76) #[] #[])) [(.t 3), (.t 5)], none⟩, ⟨some 2, .mov (.t 6), none⟩])
 .ret))
def r67 : List AOp := [(.mov (.t 2))]
theorem ok67 : FnOk Try.prog 67 Try.f67.ntmps a67 r67 := ⟨Try.f67, Try.func67, by kernel_rfl, by kernel_rfl, by kernel_rfl, fun asv w => by simp⟩

def a68 : ACode :=
 (.seq
 (.region [⟨some 1, .box (.t 0), none⟩, ⟨some 2, .mov (.c (.bool false)), none⟩])
 (.seq
 (.region [⟨some 3, .mov (.c (.int .i64 0)), none⟩])
 (.seq
 (.seq
 (.region [⟨some 6, .fa 0 (.t 1), none⟩, ⟨some 7, .ld false 1 (.t 6), none⟩, ⟨some 8, .len (.t 7), none⟩, ⟨some 9, .mov (.c (.int .i64 0)), none⟩])
 (.block 0
 (.loop
 (.seq
 (.region [⟨some 10, .bin .lss (.t 9) (.t 8), none⟩])
 (.seq
 (.cond (.t 10)
 .skip
 (.exit 0))
 (.seq
 (.block 1
 (.seq
 (.region [⟨some 11, .isl 1 (.t 7) (.t 9), none⟩, ⟨some 12, .ld false 1 (.t 11), none⟩, ⟨some 5, .mov (.t 12), none⟩])
 (.region [⟨some 13, .mov (.t 3), none⟩, ⟨some 14, .mov (.t 5), none⟩, ⟨some 15, .bin .add (.t 13) (.t 14), none⟩, ⟨some 3, .mov (.t 15), none⟩])))
 (.region [⟨some 16, .bin .add (.t 9) (.c (.int .i64 1)), none⟩, ⟨some 9, .mov (.t 16), none⟩])))))))
 (.seq
 (.region [⟨some 17, .mov (.t 3), none⟩, ⟨some 18, .fa 1 (.t 1), none⟩, ⟨some 19, .ld false 1 (.t 18), none⟩, ⟨some 20, .len (.t 19), none⟩, ⟨some 21, .bin .geq (.t 17) (.t 20), none⟩, ⟨some 2, .mov (.t 21), none⟩])
 .ret))))
def r68 : List AOp := [(.mov (.t 2))]
theorem ok68 : FnOk Try.prog 68 Try.f68.ntmps a68 r68 := ⟨Try.f68, Try.func68, by kernel_rfl, by kernel_rfl, by kernel_rfl, fun asv w => by simp⟩

def a69 : ACode :=
 (.seq
 (.region [⟨some 1, .box (.t 0), none⟩, ⟨some 2, .new [(.slice none 0 0)], none⟩, ⟨some 3, .new [(.int .i64 0)], none⟩])
 (.seq
 (.region [⟨some 7, .fa 0 (.t 1), none⟩, ⟨some 8, .fa 1 (.t 7), none⟩, ⟨some 9, .ld false 1 (.t 8), none⟩, ⟨some 10, .len (.t 9), none⟩, ⟨some 11, .bin .add (.t 10) (.c (.int .i64 1)), none⟩, ⟨none, .st 1 (.t 3) (.t 11), none⟩])
 (.seq
 (.region [⟨some 12, .fa 0 (.t 1), none⟩, ⟨some 13, .fa 1 (.t 12), none⟩, ⟨some 14, .ld false 1 (.t 13), none⟩, ⟨some 15, .len (.t 14), none⟩, ⟨some 16, .mks 1 8 [(.int .i64 0)] (.t 15) (.t 15), none⟩, ⟨some 4, .new [(.slice none 0 0)], none⟩, ⟨none, .st 1 (.t 4) (.t 16), none⟩])
 (.seq
 (.region [⟨some 17, .fa 0 (.t 1), none⟩, ⟨some 18, .fa 0 (.t 17), none⟩, ⟨some 19, .ld false 1 (.t 18), none⟩, ⟨some 20, .call (.c (.func (.func 90) #[] #[])) [(.t 19)], none⟩, ⟨some 5, .new [(.slice none 0 0)], none⟩, ⟨none, .st 1 (.t 5) (.t 20), none⟩])
 (.seq
 (.region [⟨some 6, .new [.nilFunc], none⟩])
 (.seq
 (.region [⟨some 21, .fn (.func 91) [] [(.t 4), (.t 1), (.t 3), (.t 2), (.t 5), (.t 6)], none⟩, ⟨none, .st 1 (.t 6) (.t 21), none⟩])
 (.seq
 (.region [⟨some 22, .ld false 1 (.t 6), none⟩, ⟨some 23, .call (.t 22) [(.c (.int .i64 0))], none⟩])
 (.seq
 (.draw 4 [⟨⟨some 24, .ld false 1 (.t 2), none⟩, 0, false, []⟩, ⟨⟨some 25, .ld false 1 (.t 3), none⟩, 1, false, []⟩, ⟨⟨none, .st 1 (.t 2) (.t 24), none⟩, 2, true, [1]⟩, ⟨⟨none, .st 1 (.t 3) (.t 25), none⟩, 3, true, []⟩])
 .ret))))))))
def r69 : List AOp := [(.ld false 1 (.t 2)), (.ld false 1 (.t 3))]
theorem ok69 : FnOk Try.prog 69 Try.f69.ntmps a69 r69 := ⟨Try.f69, Try.func69, by kernel_rfl, by kernel_rfl, by kernel_rfl, fun asv w => by simp⟩

def a70 : ACode :=
 (.seq
 (.region [⟨some 4, .mov (.c (.int .i64 0)), none⟩])
 (.seq
 (.seq
 (.region [⟨some 5, .mov (.t 0), none⟩, ⟨some 6, .len (.t 5), none⟩, ⟨some 7, .bin .eql (.t 6) (.c (.int .i64 0)), none⟩])
 (.cond (.t 7)
 (.seq
 (.region [⟨some 4, .mov (.c (.int .i64 0)), none⟩])
 .ret)
 .skip))
 (.seq
 (.region [⟨some 8, .mov (.t 0), none⟩, ⟨some 9, .mov (.t 1), none⟩, ⟨some 10, .mov (.t 0), none⟩, ⟨some 11, .len (.t 10), none⟩, ⟨some 12, .bin .rem (.t 9) (.t 11), none⟩, ⟨some 13, .isl 1 (.t 8) (.t 12), none⟩, ⟨some 14, .ld false 1 (.t 13), none⟩, ⟨some 15, .cvi .i64 (.t 14), none⟩, ⟨some 4, .mov (.t 15), none⟩])
 .ret)))
def r70 : List AOp := [(.mov (.t 4))]
theorem ok70 : FnOk Try.prog 70 Try.f70.ntmps a70 r70 := ⟨Try.f70, Try.func70, by kernel_rfl, by kernel_rfl, by kernel_rfl, fun asv w => by simp⟩

def a71 : ACode :=
 (.seq
 (.region [⟨some 3, .mov (.c (.bool false)), none⟩])
 (.seq
 (.region [⟨some 5, .ld false 1 (.t 1), none⟩, ⟨some 6, .mov (.t 0), none⟩, ⟨some 7, .lk1 3 (.bool false) (.t 5) (.t 6), none⟩, ⟨some 4, .mov (.t 7), none⟩])
 (.seq
 (.region [⟨some 8, .ld false 1 (.t 1), none⟩, ⟨some 9, .mov (.t 0), none⟩, ⟨none, .mup 3 (.t 8) (.t 9) (.c (.bool true)), none⟩])
 (.seq
 (.region [⟨some 10, .mov (.t 4), none⟩, ⟨some 11, .not (.t 10), none⟩, ⟨some 3, .mov (.t 11), none⟩])
 .ret))))
def r71 : List AOp := [(.mov (.t 3))]
theorem ok71 : FnOk Try.prog 71 Try.f71.ntmps a71 r71 := ⟨Try.f71, Try.func71, by kernel_rfl, by kernel_rfl, by kernel_rfl, fun asv w => by simp⟩

def a72 : ACode :=
 (.seq
 (.region [⟨some 2, .box (.t 0), none⟩, ⟨some 4, .mov (.c (.bool false)), none⟩])
 (.seq
 (.region [⟨some 5, .mov (.t 1), none⟩, ⟨some 6, .fa 1 (.t 2), none⟩, ⟨some 7, .ld false 1 (.t 6), none⟩, ⟨some 8, .len (.t 7), none⟩, ⟨some 9, .bin .sub (.t 8) (.c (.int .i64 1)), none⟩, ⟨some 10, .call (.c (.func (.func 54) #[] #[])) [(.t 5), (.c (.int .i64 0)), (.t 9)], none⟩, ⟨some 4, .mov (.t 10), none⟩])
 .ret))
def r72 : List AOp := [(.mov (.t 4))]
theorem ok72 : FnOk Try.prog 72 Try.f72.ntmps a72 r72 := ⟨Try.f72, Try.func72, by kernel_rfl, by kernel_rfl, by kernel_rfl, fun asv w => by simp⟩

def a73 : ACode :=
 (.seq
 (.region [⟨some 0, .new [.nilFunc, .nilFunc], none⟩])
 (.seq
 (.region [⟨some 1, .bld [.nilFunc, .nilFunc] [(0, 1, (.c (.func (.func 92) #[] #[]))), (1, 1, (.c (.func (.func 93) #[] #[])))], none⟩, ⟨none, .st 2 (.t 0) (.t 1), none⟩])
 .ret))
def r73 : List AOp := [(.ld true 2 (.t 0))]
theorem ok73 : FnOk Try.prog 73 Try.f73.ntmps a73 r73 := ⟨Try.f73, Try.func73, by kernel_rfl, by kernel_rfl, by kernel_rfl, fun asv w => by simp⟩

def a74 : ACode :=
 (.seq
 (.region [⟨some 5, .mov (.c (.bool false)), none⟩])
 (.seq
 (.draw 14 [⟨⟨some 6, .fa 0 (.t 1), none⟩, 0, false, []⟩, ⟨⟨some 7, .ld false 1 (.t 6), none⟩, 1, false, []⟩, ⟨⟨some 8, .fa 1 (.t 2), none⟩, 2, false, []⟩, ⟨⟨some 9, .ld false 1 (.t 8), none⟩, 3, false, []⟩, ⟨⟨some 10, .ld false 1 (.t 3), none⟩, 4, false, []⟩, ⟨⟨some 11, .isl 3 (.t 9) (.t 10), none⟩, 5, false, []⟩, ⟨⟨some 12, .ld true 3 (.t 11), none⟩, 6, false, []⟩, ⟨⟨some 13, .fa 1 (.t 2), none⟩, 7, false, []⟩, ⟨⟨some 14, .ld false 1 (.t 13), none⟩, 8, false, []⟩, ⟨⟨some 15, .mov (.t 0), none⟩, 9, false, []⟩, ⟨⟨some 16, .isl 3 (.t 14) (.t 15), none⟩, 10, false, []⟩, ⟨⟨some 17, .ld true 3 (.t 16), none⟩, 11, false, []⟩, ⟨⟨some 18, .call (.t 7) [(.t 12), (.t 17)], none⟩, 12, true, []⟩, ⟨⟨some 5, .mov (.t 18), none⟩, 13, false, []⟩])
 .ret))
def r74 : List AOp := [(.mov (.t 5))]
theorem ok74 : FnOk Try.prog 74 Try.f74.ntmps a74 r74 := ⟨Try.f74, Try.func74, by kernel_rfl, by kernel_rfl, by kernel_rfl, fun asv w => by simp⟩

def a75 : ACode :=
 (.seq
 (.region [⟨some 2, .box (.t 0), none⟩, ⟨some 4, .mov (.c (.bool false)), none⟩])
 (.seq
 (.region [⟨some 5, .mov (.t 1), none⟩, ⟨some 6, .len (.t 5), none⟩, ⟨some 7, .fa 2 (.t 2), none⟩, ⟨some 8, .ld false 1 (.t 7), none⟩, ⟨some 9, .bin .leq (.t 6) (.t 8), none⟩, ⟨some 10, .mov (.t 9), none⟩, ⟨some 11, .mov (.t 1), (some (10, true))⟩, ⟨some 12, .ld true 3 (.t 2), (some (10, true))⟩, ⟨some 13, .fn (.func 72) [(.t 12)] [], (some (10, true))⟩, ⟨some 14, .call (.c (.func (.func 48) #[] #[])) [(.t 11), (.t 13)], (some (10, true))⟩, ⟨some 15, .pick (.t 10) (.t 14) (.c (.bool false)), none⟩, ⟨some 16, .mov (.t 15), none⟩, ⟨some 17, .mov (.t 1), (some (16, true))⟩, ⟨some 18, .call (.c (.func (.func 94) #[] #[])) [(.t 17)], (some (16, true))⟩, ⟨some 19, .pick (.t 16) (.t 18) (.c (.bool false)), none⟩, ⟨some 4, .mov (.t 19), none⟩])
 .ret))
def r75 : List AOp := [(.mov (.t 4))]
theorem ok75 : FnOk Try.prog 75 Try.f75.ntmps a75 r75 := ⟨Try.f75, Try.func75, by kernel_rfl, by kernel_rfl, by kernel_rfl, fun asv w => by simp⟩

def a76 : ACode :=
 (.seq
 (.region [⟨some 2, .box (.t 0), none⟩, ⟨some 4, .mov (.c (.slice none 0 0)), none⟩])
 (.seq
 (.region [⟨some 7, .bsl 0 [] [], none⟩, ⟨some 5, .mov (.t 7), none⟩])
 (.seq
 (.seq
 (.region [⟨some 8, .fa 0 (.t 2), none⟩, ⟨some 9, .fa 1 (.t 8), none⟩, ⟨some 10, .ld false 1 (.t 9), none⟩, ⟨some 11, .len (.t 10), none⟩, ⟨some 12, .mov (.c (.int .i64 0)), none⟩])
 (.block 0
 (.loop
 (.seq
 (.region [⟨some 13, .bin .lss (.t 12) (.t 11), none⟩])
 (.seq
 (.cond (.t 13)
 .skip
 (.exit 0))
 (.seq
 (.block 1
 (.seq
 (.region [⟨some 14, .mov (.t 12), none⟩, ⟨some 6, .mov (.t 14), none⟩])
 (.seq
 (.region [⟨some 15, .mov (.t 1), none⟩, ⟨some 16, .mov (.t 6), none⟩, ⟨some 17, .call (.t 15) [(.t 16)], none⟩])
 (.cond (.t 17)
 (.region [⟨some 18, .mov (.t 5), none⟩, ⟨some 19, .mov (.t 6), none⟩, ⟨some 20, .bsl 1 [(.int .i64 0)] [(0, 1, (.t 19))], none⟩, ⟨some 21, .app 1 8 (.t 18) (.t 20), none⟩, ⟨some 5, .mov (.t 21), none⟩])
 .skip))))
 (.region [⟨some 22, .bin .add (.t 12) (.c (.int .i64 1)), none⟩, ⟨some 12, .mov (.t 22), none⟩])))))))
 (.seq
 (.region [⟨some 23, .mov (.t 5), none⟩, ⟨some 4, .mov (.t 23), none⟩])
 .ret))))
def r76 : List AOp := [(.mov (.t 4))]
theorem ok76 : FnOk Try.prog 76 Try.f76.ntmps a76 r76 := ⟨Try.f76, Try.func76, by kernel_rfl, by kernel_rfl, by kernel_rfl, fun asv w => by simp⟩

noncomputable def c77x0 : Code := (rfN Try.f77.body 0).1
noncomputable def c77y0 : Code := (rfN Try.f77.body 0).2
noncomputable def a77x0 : ACode :=
  (.region [⟨(some 7), (.mov (.t 15)), none⟩])
theorem ok77x0 : ccode Try.prog 28 (cdraw Try.prog 28) c77x0 = some a77x0 := by kernel_rfl
def a77y0 : ACode :=
 (.block 1
 (.block 2
 (.seq
 (.region [⟨some 17, .mov (.t 7), none⟩, ⟨some 18, .ld false 1 (.t 3), none⟩, ⟨some 19, .bin .eql (.t 17) (.t 18), none⟩, ⟨some 16, .mov (.t 19), none⟩])
 (.cond (.t 16)
 (.exit 0)
 (.seq
 (.draw 7 [⟨⟨some 21, .ld false 1 (.t 5), none⟩, 0, false, []⟩, ⟨⟨some 22, .mov (.t 7), none⟩, 1, false, []⟩, ⟨⟨some 23, .fa 3 (.t 2), none⟩, 2, false, []⟩, ⟨⟨some 24, .iar 8 2 (.t 23) (.t 22), none⟩, 3, false, []⟩, ⟨⟨some 25, .ld true 2 (.t 24), none⟩, 4, false, []⟩, ⟨⟨some 26, .call (.t 21) [(.t 25)], none⟩, 5, true, []⟩, ⟨⟨some 20, .mov (.t 26), none⟩, 6, false, []⟩])
 (.cond (.t 20)
 (.seq
 (.region [⟨none, .st 1 (.t 6) (.c (.bool true)), none⟩])
 (.exit 0))
 .skip))))))
theorem ok77y0 : ccode Try.prog 28 (cdraw Try.prog 28) c77y0 = some a77y0 := by kernel_rfl
noncomputable def a77 : ACode :=
  (.seq
   (.region [⟨(some 2), (.box (.t 0)), none⟩, ⟨(some 3), (.box (.t 1)), none⟩, ⟨(some 4), (.mov (.c (.bool false))), none⟩])
   (.seq
    (.region [⟨(some 8), (.ld false 1 (.t 3)), none⟩, ⟨(some 9), (.fa 3 (.t 2)), none⟩, ⟨(some 10), (.iar 8 2 (.t 9) (.t 8)), none⟩, ⟨(some 11), (.ld true 2 (.t 10)), none⟩, ⟨(some 12), (.fn (.func 79) [(.t 11)] []), none⟩, ⟨(some 5), (.new [.nilFunc]), none⟩, ⟨none, (.st 1 (.t 5) (.t 12)), none⟩])
    (.seq
     (.region [⟨(some 6), (.new [(.bool false)]), none⟩, ⟨none, (.st 1 (.t 6) (.c (.bool false))), none⟩])
     (.seq
      .skip
      (.seq
       (.seq
        (.region [⟨(some 13), (.ld true 27 (.t 2)), none⟩, ⟨(some 14), (.call (.c (.func (.func 78) #[] #[])) [(.t 13)]), none⟩])
        (.block 0
         (.rangeF (.t 14) #[15] c77x0 c77y0 a77x0 a77y0)))
       (.seq
        (.region [⟨(some 27), (.ld false 1 (.t 6)), none⟩, ⟨(some 4), (.mov (.t 27)), none⟩])
        .ret))))))
def r77 : List AOp := [(.mov (.t 4))]
theorem ok77 : FnOk Try.prog 77 Try.f77.ntmps a77 r77 := ⟨Try.f77, Try.func77, by kernel_rfl, by kernel_rfl, by kernel_rfl, fun asv w => by simp⟩

def a78 : ACode :=
 (.seq
 (.region [⟨some 1, .box (.t 0), none⟩, ⟨some 2, .mov (.c .nilFunc), none⟩])
 (.seq
 (.region [⟨some 3, .fn (.func 95) [] [(.t 1)], none⟩, ⟨some 2, .mov (.t 3), none⟩])
 .ret))
def r78 : List AOp := [(.mov (.t 2))]
theorem ok78 : FnOk Try.prog 78 Try.f78.ntmps a78 r78 := ⟨Try.f78, Try.func78, by kernel_rfl, by kernel_rfl, by kernel_rfl, fun asv w => by simp⟩

def a79 : ACode :=
 (.seq
 (.region [⟨some 2, .box (.t 0), none⟩, ⟨some 3, .box (.t 1), none⟩, ⟨some 4, .mov (.c (.bool false)), none⟩])
 (.seq
 (.region [⟨some 5, .fa 0 (.t 2), none⟩, ⟨some 6, .ld false 1 (.t 5), none⟩, ⟨some 7, .fa 0 (.t 3), none⟩, ⟨some 8, .ld false 1 (.t 7), none⟩, ⟨some 9, .bin .eql (.t 6) (.t 8), none⟩, ⟨some 10, .mov (.t 9), none⟩, ⟨some 11, .fa 1 (.t 2), (some (10, true))⟩, ⟨some 12, .ld false 1 (.t 11), (some (10, true))⟩, ⟨some 13, .fa 1 (.t 3), (some (10, true))⟩, ⟨some 14, .ld false 1 (.t 13), (some (10, true))⟩, ⟨some 15, .bin .lss (.t 12) (.t 14), (some (10, true))⟩, ⟨some 16, .pick (.t 10) (.t 15) (.c (.bool false)), none⟩, ⟨some 4, .mov (.t 16), none⟩])
 .ret))
def r79 : List AOp := [(.mov (.t 4))]
theorem ok79 : FnOk Try.prog 79 Try.f79.ntmps a79 r79 := ⟨Try.f79, Try.func79, by kernel_rfl, by kernel_rfl, by kernel_rfl, fun asv w => by simp⟩

def a80 : ACode :=
 (.seq
 (.region [⟨some 2, .box (.t 0), none⟩, ⟨some 4, .mov (.c (.bool false)), none⟩])
 (.seq
 (.seq
 (.region [⟨some 10, .mov (.t 1), none⟩, ⟨some 11, .len (.t 10), none⟩, ⟨some 12, .fa 1 (.t 2), none⟩, ⟨some 13, .ld false 1 (.t 12), none⟩, ⟨some 14, .len (.t 13), none⟩, ⟨some 15, .bin .neq (.t 11) (.t 14), none⟩, ⟨some 16, .mov (.t 15), none⟩, ⟨some 17, .mov (.t 1), (some (16, false))⟩, ⟨some 18, .ld true 3 (.t 2), (some (16, false))⟩, ⟨some 19, .fn (.func 97) [(.t 18)] [], (some (16, false))⟩, ⟨some 20, .call (.c (.func (.func 48) #[] #[])) [(.t 17), (.t 19)], (some (16, false))⟩, ⟨some 21, .not (.t 20), (some (16, false))⟩, ⟨some 22, .pick (.t 16) (.c (.bool true)) (.t 21), none⟩])
 (.cond (.t 22)
 (.seq
 (.region [⟨some 4, .mov (.c (.bool false)), none⟩])
 .ret)
 .skip))
 (.seq
 (.region [⟨some 5, .new [(.int .i64 0), (.int .i64 0), (.int .i64 0)], none⟩])
 (.seq
 (.seq
 (.region [⟨some 23, .mov (.t 1), none⟩, ⟨some 24, .len (.t 23), none⟩, ⟨some 25, .mov (.c (.int .i64 0)), none⟩])
 (.block 0
 (.loop
 (.seq
 (.region [⟨some 26, .bin .lss (.t 25) (.t 24), none⟩])
 (.seq
 (.cond (.t 26)
 .skip
 (.exit 0))
 (.seq
 (.block 1
 (.seq
 (.region [⟨some 27, .isl 1 (.t 23) (.t 25), none⟩, ⟨some 28, .ld false 1 (.t 27), none⟩, ⟨some 7, .mov (.t 28), none⟩])
 (.region [⟨some 29, .mov (.t 7), none⟩, ⟨some 30, .iar 3 1 (.t 5) (.t 29), none⟩, ⟨some 31, .ld false 1 (.t 30), none⟩, ⟨some 32, .bin .add (.t 31) (.c (.int .i64 1)), none⟩, ⟨some 33, .iar 3 1 (.t 5) (.t 29), none⟩, ⟨none, .st 1 (.t 33) (.t 32), none⟩])))
 (.region [⟨some 34, .bin .add (.t 25) (.c (.int .i64 1)), none⟩, ⟨some 25, .mov (.t 34), none⟩])))))))
 (.seq
 (.seq
 (.region [⟨some 35, .fa 0 (.t 2), none⟩, ⟨some 36, .ld false 1 (.t 35), none⟩, ⟨some 37, .len (.t 36), none⟩, ⟨some 38, .mov (.c (.int .i64 0)), none⟩])
 (.block 2
 (.loop
 (.seq
 (.region [⟨some 39, .bin .lss (.t 38) (.t 37), none⟩])
 (.seq
 (.cond (.t 39)
 .skip
 (.exit 2))
 (.seq
 (.block 3
 (.seq
 (.region [⟨some 40, .mov (.t 38), none⟩, ⟨some 41, .isl 1 (.t 36) (.t 38), none⟩, ⟨some 42, .ld false 1 (.t 41), none⟩, ⟨some 8, .mov (.t 40), none⟩, ⟨some 9, .mov (.t 42), none⟩])
 (.seq
 (.region [⟨some 43, .mov (.t 8), none⟩, ⟨some 44, .iar 3 1 (.t 5) (.t 43), none⟩, ⟨some 45, .ld false 1 (.t 44), none⟩, ⟨some 46, .mov (.t 9), none⟩, ⟨some 47, .bin .gtr (.t 45) (.t 46), none⟩])
 (.cond (.t 47)
 (.seq
 (.region [⟨some 4, .mov (.c (.bool false)), none⟩])
 .ret)
 .skip))))
 (.region [⟨some 48, .bin .add (.t 38) (.c (.int .i64 1)), none⟩, ⟨some 38, .mov (.t 48), none⟩])))))))
 (.seq
 (.region [⟨some 4, .mov (.c (.bool true)), none⟩])
 .ret))))))
def r80 : List AOp := [(.mov (.t 4))]
theorem ok80 : FnOk Try.prog 80 Try.f80.ntmps a80 r80 := ⟨Try.f80, Try.func80, by kernel_rfl, by kernel_rfl, by kernel_rfl, fun asv w => by simp⟩

def a81 : ACode :=
 (.seq
 (.region [⟨some 7, .new [(.int .i64 0), (.int .i64 0), (.int .i64 0), (.int .i64 0), (.int .i64 0), (.int .i64 0), (.int .i64 0), (.int .i64 0), (.int .i64 0), (.bool false), (.bool false), (.bool false), (.bool false), (.bool false), (.bool false), (.bool false), (.bool false)], none⟩])
 (.seq
 (.seq
 (.region [⟨some 12, .mov (.t 0), none⟩, ⟨some 13, .fa 0 (.t 2), none⟩, ⟨some 14, .fa 0 (.t 13), none⟩, ⟨some 15, .ld false 1 (.t 14), none⟩, ⟨some 16, .len (.t 15), none⟩, ⟨some 17, .bin .eql (.t 12) (.t 16), none⟩])
 (.cond (.t 17)
 (.seq
 (.region [⟨some 18, .bld [(.int .i64 0), (.int .i64 0), (.int .i64 0), (.int .i64 0), (.int .i64 0), (.int .i64 0), (.int .i64 0), (.int .i64 0), (.int .i64 0), (.bool false), (.bool false), (.bool false), (.bool false), (.bool false), (.bool false), (.bool false), (.bool false)] [], none⟩, ⟨none, .st 17 (.t 7) (.t 18), none⟩])
 .ret)
 .skip))
 (.seq
 (.region [⟨some 19, .ld false 1 (.t 3), none⟩, ⟨some 20, .mov (.t 0), none⟩, ⟨some 21, .call (.c (.func (.func 82) #[] #[])) [(.t 19), (.t 20)], none⟩, ⟨some 8, .new [(.bool false), (.bool false), (.bool false), (.bool false), (.bool false), (.bool false), (.bool false), (.bool false)], none⟩, ⟨none, .st 8 (.t 8) (.t 21), none⟩])
 (.seq
 (.region [⟨some 22, .bld [(.int .i64 0), (.int .i64 0), (.int .i64 0), (.int .i64 0), (.int .i64 0), (.int .i64 0), (.int .i64 0), (.int .i64 0), (.int .i64 0), (.bool false), (.bool false), (.bool false), (.bool false), (.bool false), (.bool false), (.bool false), (.bool false)] [(0, 1, (.c (.int .i64 (-1))))], none⟩, ⟨some 9, .new [(.int .i64 0), (.int .i64 0), (.int .i64 0), (.int .i64 0), (.int .i64 0), (.int .i64 0), (.int .i64 0), (.int .i64 0), (.int .i64 0), (.bool false), (.bool false), (.bool false), (.bool false), (.bool false), (.bool false), (.bool false), (.bool false)], none⟩, ⟨none, .st 17 (.t 9) (.t 22), none⟩])
 (.seq
 (.seq
 (.region [⟨some 23, .mov (.t 1), none⟩, ⟨some 24, .bin .add (.t 23) (.c (.int .i64 1)), none⟩, ⟨some 25, .mov (.c (.int .i64 0)), none⟩])
 (.block 0
 (.loop
 (.seq
 (.region [⟨some 26, .bin .lss (.t 25) (.t 24), none⟩])
 (.seq
 (.cond (.t 26)
 .skip
 (.exit 0))
 (.seq
 (.block 1
 (.seq
 (.region [⟨some 27, .mov (.t 25), none⟩, ⟨some 10, .mov (.t 27), none⟩])
 (.seq
 (.region [⟨some 28, .ld true 6 (.t 2), none⟩, ⟨some 29, .ld true 8 (.t 8), none⟩, ⟨some 30, .mov (.t 10), none⟩, ⟨some 31, .bld [(.bool false), (.bool false), (.bool false), (.bool false), (.bool false), (.bool false), (.bool false), (.bool false), (.int .i64 0), (.int .i64 0)] [(0, 8, (.t 29)), (8, 1, (.c (.int .i64 2001))), (9, 1, (.t 30))], none⟩, ⟨some 32, .call (.c (.func (.func 83) #[] #[])) [(.t 28), (.t 31)], none⟩, ⟨some 11, .new [(.int .i64 0), (.int .i64 0), (.int .i64 0), (.int .i64 0), (.int .i64 0), (.int .i64 0), (.int .i64 0), (.int .i64 0), (.int .i64 0), (.bool false), (.bool false), (.bool false), (.bool false), (.bool false), (.bool false), (.bool false), (.bool false)], none⟩, ⟨none, .st 17 (.t 11) (.t 32), none⟩])
 (.draw 12 [⟨⟨some 33, .ld true 17 (.t 9), none⟩, 0, false, []⟩, ⟨⟨some 34, .ld true 17 (.t 11), none⟩, 1, false, []⟩, ⟨⟨some 35, .ld false 1 (.t 4), none⟩, 2, false, []⟩, ⟨⟨some 36, .mov (.t 0), none⟩, 3, false, []⟩, ⟨⟨some 37, .bin .add (.t 36) (.c (.int .i64 1)), none⟩, 4, false, []⟩, ⟨⟨some 38, .mov (.t 1), none⟩, 5, false, []⟩, ⟨⟨some 39, .mov (.t 10), none⟩, 6, false, []⟩, ⟨⟨some 40, .bin .sub (.t 38) (.t 39), none⟩, 7, false, []⟩, ⟨⟨some 41, .call (.t 35) [(.t 37), (.t 40)], none⟩, 8, true, [1, 0]⟩, ⟨⟨some 42, .call (.c (.func (.func 85) #[] #[])) [(.t 34), (.t 41)], none⟩, 9, true, [0]⟩, ⟨⟨some 43, .call (.c (.func (.func 84) #[] #[])) [(.t 33), (.t 42)], none⟩, 10, true, []⟩, ⟨⟨none, .st 17 (.t 9) (.t 43), none⟩, 11, true, []⟩]))))
 (.region [⟨some 44, .bin .add (.t 25) (.c (.int .i64 1)), none⟩, ⟨some 25, .mov (.t 44), none⟩])))))))
 (.seq
 (.region [⟨some 45, .ld true 17 (.t 9), none⟩, ⟨none, .st 17 (.t 7) (.t 45), none⟩])
 .ret))))))
def r81 : List AOp := [(.ld true 17 (.t 7))]
theorem ok81 : FnOk Try.prog 81 Try.f81.ntmps a81 r81 := ⟨Try.f81, Try.func81, by kernel_rfl, by kernel_rfl, by kernel_rfl, fun asv w => by simp⟩

def a82 : ACode :=
 (.seq
 (.region [⟨some 4, .new [(.bool false), (.bool false), (.bool false), (.bool false), (.bool false), (.bool false), (.bool false), (.bool false)], none⟩])
 (.seq
 (.region [⟨some 5, .new [(.bool false), (.bool false), (.bool false), (.bool false), (.bool false), (.bool false), (.bool false), (.bool false)], none⟩])
 (.seq
 (.seq
 (.region [⟨some 8, .mov (.t 0), none⟩, ⟨some 9, .len (.t 8), none⟩, ⟨some 10, .mov (.c (.int .i64 0)), none⟩])
 (.block 0
 (.loop
 (.seq
 (.region [⟨some 11, .bin .lss (.t 10) (.t 9), none⟩])
 (.seq
 (.cond (.t 11)
 .skip
 (.exit 0))
 (.seq
 (.block 1
 (.seq
 (.region [⟨some 12, .mov (.t 10), none⟩, ⟨some 13, .isl 1 (.t 8) (.t 10), none⟩, ⟨some 14, .ld false 1 (.t 13), none⟩, ⟨some 6, .mov (.t 12), none⟩, ⟨some 7, .mov (.t 14), none⟩])
 (.region [⟨some 15, .mov (.t 6), none⟩, ⟨some 16, .mov (.t 7), none⟩, ⟨some 17, .mov (.t 1), none⟩, ⟨some 18, .bin .eql (.t 16) (.t 17), none⟩, ⟨some 19, .iar 8 1 (.t 5) (.t 15), none⟩, ⟨none, .st 1 (.t 19) (.t 18), none⟩])))
 (.region [⟨some 20, .bin .add (.t 10) (.c (.int .i64 1)), none⟩, ⟨some 10, .mov (.t 20), none⟩])))))))
 (.seq
 (.region [⟨some 21, .ld true 8 (.t 5), none⟩, ⟨none, .st 8 (.t 4) (.t 21), none⟩])
 .ret))))
def r82 : List AOp := [(.ld true 8 (.t 4))]
theorem ok82 : FnOk Try.prog 82 Try.f82.ntmps a82 r82 := ⟨Try.f82, Try.func82, by kernel_rfl, by kernel_rfl, by kernel_rfl, fun asv w => by simp⟩

noncomputable def c83x0 : Code := (rfN Try.f83.body 0).1
noncomputable def c83y0 : Code := (rfN Try.f83.body 0).2
noncomputable def a83x0 : ACode :=
  (.region [⟨(some 8), (.mov (.t 28)), none⟩])
theorem ok83x0 : ccode Try.prog 56 (cdraw Try.prog 56) c83x0 = some a83x0 := by kernel_rfl
def a83y0 : ACode :=
 (.block 1
 (.seq
 (.draw 14 [⟨⟨some 29, .ld true 17 (.t 7), none⟩, 0, false, []⟩, ⟨⟨some 30, .ld true 6 (.t 2), none⟩, 1, false, []⟩, ⟨⟨some 31, .ld true 10 (.t 3), none⟩, 2, false, []⟩, ⟨⟨some 32, .mov (.t 8), none⟩, 3, false, []⟩, ⟨⟨some 33, .fa 0 (.t 2), none⟩, 4, false, []⟩, ⟨⟨some 34, .fa 1 (.t 33), none⟩, 5, false, []⟩, ⟨⟨some 35, .ld false 1 (.t 34), none⟩, 6, false, []⟩, ⟨⟨some 36, .mov (.t 8), none⟩, 7, false, []⟩, ⟨⟨some 37, .isl 3 (.t 35) (.t 36), none⟩, 8, false, []⟩, ⟨⟨some 38, .fa 2 (.t 37), none⟩, 9, false, []⟩, ⟨⟨some 39, .ld false 1 (.t 38), none⟩, 10, false, []⟩, ⟨⟨some 40, .call (.c (.func (.func 99) #[] #[])) [(.t 30), (.t 31), (.t 32), (.t 39)], none⟩, 11, true, [0]⟩, ⟨⟨some 41, .call (.c (.func (.func 84) #[] #[])) [(.t 29), (.t 40)], none⟩, 12, true, []⟩, ⟨⟨none, .st 17 (.t 7) (.t 41), none⟩, 13, true, []⟩])
 (.seq
 (.region [⟨some 42, .fa 9 (.t 3), none⟩, ⟨some 43, .ld false 1 (.t 42), none⟩, ⟨some 44, .bin .gtr (.t 43) (.c (.int .i64 0)), none⟩])
 (.cond (.t 44)
 (.draw 7 [⟨⟨some 45, .ld true 17 (.t 7), none⟩, 0, false, []⟩, ⟨⟨some 46, .ld true 6 (.t 2), none⟩, 1, false, []⟩, ⟨⟨some 47, .ld true 10 (.t 3), none⟩, 2, false, []⟩, ⟨⟨some 48, .mov (.t 8), none⟩, 3, false, []⟩, ⟨⟨some 49, .call (.c (.func (.func 99) #[] #[])) [(.t 46), (.t 47), (.t 48), (.c (.int .i64 2001))], none⟩, 4, true, [0]⟩, ⟨⟨some 50, .call (.c (.func (.func 84) #[] #[])) [(.t 45), (.t 49)], none⟩, 5, true, []⟩, ⟨⟨none, .st 17 (.t 7) (.t 50), none⟩, 6, true, []⟩])
 .skip))))
theorem ok83y0 : ccode Try.prog 56 (cdraw Try.prog 56) c83y0 = some a83y0 := by kernel_rfl
noncomputable def a83 : ACode :=
  (.seq
   (.region [⟨(some 2), (.box (.t 0)), none⟩, ⟨(some 3), (.box (.t 1)), none⟩, ⟨(some 4), (.new [(.int .i64 0), (.int .i64 0), (.int .i64 0), (.int .i64 0), (.int .i64 0), (.int .i64 0), (.int .i64 0), (.int .i64 0), (.int .i64 0), (.bool false), (.bool false), (.bool false), (.bool false), (.bool false), (.bool false), (.bool false), (.bool false)]), none⟩])
   (.seq
    (.seq
     (.region [⟨(some 9), (.fa 0 (.t 3)), none⟩, ⟨(some 10), (.ld true 8 (.t 9)), none⟩, ⟨(some 11), (.bld [(.bool false), (.bool false), (.bool false), (.bool false), (.bool false), (.bool false), (.bool false), (.bool false)] []), none⟩, ⟨(some 12), (.gen 56 ⟨(some 12), (.binOp .eql 88 (.tmp 10) (.tmp 11) 88), 4, "search.go:86", #[{ on := 1, ground := Go.Ground.data }, { on := 2, ground := Go.Ground.data }], none⟩), none⟩])
     (.cond (.t 12)
      (.seq
       (.region [⟨(some 13), (.bld [(.int .i64 0), (.int .i64 0), (.int .i64 0), (.int .i64 0), (.int .i64 0), (.int .i64 0), (.int .i64 0), (.int .i64 0), (.int .i64 0), (.bool false), (.bool false), (.bool false), (.bool false), (.bool false), (.bool false), (.bool false), (.bool false)] []), none⟩, ⟨none, (.st 17 (.t 4) (.t 13)), none⟩])
       .ret)
      .skip))
    (.seq
     (.seq
      (.region [⟨(some 15), (.fa 5 (.t 2)), none⟩, ⟨(some 16), (.ld false 1 (.t 15)), none⟩, ⟨(some 17), (.ld true 10 (.t 3)), none⟩, ⟨(some 18), (.lkp 121 (.agg #[(.int .i64 0), (.int .i64 0), (.int .i64 0), (.int .i64 0), (.int .i64 0), (.int .i64 0), (.int .i64 0), (.int .i64 0), (.int .i64 0), (.bool false), (.bool false), (.bool false), (.bool false), (.bool false), (.bool false), (.bool false), (.bool false)]) (.t 16) (.t 17)), none⟩, ⟨(some 14), (.mov (.t 18)), none⟩, ⟨(some 19), (.ext (.t 14) 0), none⟩, ⟨(some 20), (.ext (.t 14) 1), none⟩, ⟨(some 5), (.new [(.int .i64 0), (.int .i64 0), (.int .i64 0), (.int .i64 0), (.int .i64 0), (.int .i64 0), (.int .i64 0), (.int .i64 0), (.int .i64 0), (.bool false), (.bool false), (.bool false), (.bool false), (.bool false), (.bool false), (.bool false), (.bool false)]), none⟩, ⟨none, (.st 17 (.t 5) (.t 19)), none⟩, ⟨(some 6), (.mov (.t 20)), none⟩])
      (.seq
       (.region [⟨(some 21), (.mov (.t 6)), none⟩])
       (.cond (.t 21)
        (.seq
         (.region [⟨(some 22), (.ld true 17 (.t 5)), none⟩, ⟨none, (.st 17 (.t 4) (.t 22)), none⟩])
         .ret)
        .skip)))
     (.seq
      (.region [⟨(some 23), (.bld [(.int .i64 0), (.int .i64 0), (.int .i64 0), (.int .i64 0), (.int .i64 0), (.int .i64 0), (.int .i64 0), (.int .i64 0), (.int .i64 0), (.bool false), (.bool false), (.bool false), (.bool false), (.bool false), (.bool false), (.bool false), (.bool false)] [(0, 1, (.c (.int .i64 (-1))))]), none⟩, ⟨(some 7), (.new [(.int .i64 0), (.int .i64 0), (.int .i64 0), (.int .i64 0), (.int .i64 0), (.int .i64 0), (.int .i64 0), (.int .i64 0), (.int .i64 0), (.bool false), (.bool false), (.bool false), (.bool false), (.bool false), (.bool false), (.bool false), (.bool false)]), none⟩, ⟨none, (.st 17 (.t 7) (.t 23)), none⟩])
      (.seq
       (.seq
        (.region [⟨(some 24), (.ld true 6 (.t 2)), none⟩, ⟨(some 25), (.fa 0 (.t 3)), none⟩, ⟨(some 26), (.ld true 8 (.t 25)), none⟩, ⟨(some 27), (.call (.c (.func (.func 98) #[] #[])) [(.t 24), (.t 26)]), none⟩])
        (.block 0
         (.rangeF (.t 27) #[28] c83x0 c83y0 a83x0 a83y0)))
       (.seq
        (.region [⟨(some 51), (.fa 5 (.t 2)), none⟩, ⟨(some 52), (.ld false 1 (.t 51)), none⟩, ⟨(some 53), (.ld true 10 (.t 3)), none⟩, ⟨(some 54), (.ld true 17 (.t 7)), none⟩, ⟨none, (.mup 121 (.t 52) (.t 53) (.t 54)), none⟩])
        (.seq
         (.region [⟨(some 55), (.ld true 17 (.t 7)), none⟩, ⟨none, (.st 17 (.t 4) (.t 55)), none⟩])
         .ret)))))))
def r83 : List AOp := [(.ld true 17 (.t 4))]
theorem ok83 : FnOk Try.prog 83 Try.f83.ntmps a83 r83 := ⟨Try.f83, Try.func83, by kernel_rfl, by kernel_rfl, by kernel_rfl, fun asv w => by simp⟩

def a84 : ACode :=
 (.seq
 (.region [⟨some 2, .box (.t 0), none⟩, ⟨some 3, .box (.t 1), none⟩, ⟨some 4, .new [(.int .i64 0), (.int .i64 0), (.int .i64 0), (.int .i64 0), (.int .i64 0), (.int .i64 0), (.int .i64 0), (.int .i64 0), (.int .i64 0), (.bool false), (.bool false), (.bool false), (.bool false), (.bool false), (.bool false), (.bool false), (.bool false)], none⟩])
 (.seq
 (.seq
 (.region [⟨some 5, .fa 0 (.t 3), none⟩, ⟨some 6, .ld false 1 (.t 5), none⟩, ⟨some 7, .fa 0 (.t 2), none⟩, ⟨some 8, .ld false 1 (.t 7), none⟩, ⟨some 9, .bin .gtr (.t 6) (.t 8), none⟩])
 (.cond (.t 9)
 (.seq
 (.region [⟨some 10, .ld true 17 (.t 3), none⟩, ⟨none, .st 17 (.t 4) (.t 10), none⟩])
 .ret)
 .skip))
 (.seq
 (.region [⟨some 11, .ld true 17 (.t 2), none⟩, ⟨none, .st 17 (.t 4) (.t 11), none⟩])
 .ret)))
def r84 : List AOp := [(.ld true 17 (.t 4))]
theorem ok84 : FnOk Try.prog 84 Try.f84.ntmps a84 r84 := ⟨Try.f84, Try.func84, by kernel_rfl, by kernel_rfl, by kernel_rfl, fun asv w => by simp⟩

def a85 : ACode :=
 (.seq
 (.region [⟨some 2, .box (.t 0), none⟩, ⟨some 3, .box (.t 1), none⟩, ⟨some 4, .new [(.int .i64 0), (.int .i64 0), (.int .i64 0), (.int .i64 0), (.int .i64 0), (.int .i64 0), (.int .i64 0), (.int .i64 0), (.int .i64 0), (.bool false), (.bool false), (.bool false), (.bool false), (.bool false), (.bool false), (.bool false), (.bool false)], none⟩])
 (.seq
 (.region [⟨some 6, .fa 0 (.t 2), none⟩, ⟨some 7, .ld false 1 (.t 6), none⟩, ⟨some 8, .fa 0 (.t 3), none⟩, ⟨some 9, .ld false 1 (.t 8), none⟩, ⟨some 10, .bin .add (.t 7) (.t 9), none⟩, ⟨some 11, .fa 0 (.t 2), none⟩, ⟨none, .st 1 (.t 11) (.t 10), none⟩])
 (.seq
 (.seq
 (.region [⟨some 12, .mov (.c (.int .i64 0)), none⟩])
 (.block 0
 (.loop
 (.seq
 (.region [⟨some 13, .bin .lss (.t 12) (.c (.int .i64 8)), none⟩])
 (.seq
 (.cond (.t 13)
 .skip
 (.exit 0))
 (.seq
 (.block 1
 (.seq
 (.region [⟨some 14, .mov (.t 12), none⟩, ⟨some 5, .mov (.t 14), none⟩])
 (.seq
 (.draw 12 [⟨⟨some 15, .mov (.t 5), none⟩, 0, false, []⟩, ⟨⟨some 16, .fa 1 (.t 2), none⟩, 1, false, []⟩, ⟨⟨some 17, .iar 8 1 (.t 16) (.t 15), none⟩, 2, false, []⟩, ⟨⟨some 18, .ld false 1 (.t 17), none⟩, 3, false, []⟩, ⟨⟨some 19, .mov (.t 5), none⟩, 4, false, []⟩, ⟨⟨some 20, .fa 1 (.t 3), none⟩, 5, false, []⟩, ⟨⟨some 21, .iar 8 1 (.t 20) (.t 19), none⟩, 6, false, []⟩, ⟨⟨some 22, .ld false 1 (.t 21), none⟩, 7, false, []⟩, ⟨⟨some 23, .bin .add (.t 18) (.t 22), none⟩, 8, false, []⟩, ⟨⟨some 24, .fa 1 (.t 2), none⟩, 9, false, []⟩, ⟨⟨some 25, .iar 8 1 (.t 24) (.t 15), none⟩, 10, false, []⟩, ⟨⟨none, .st 1 (.t 25) (.t 23), none⟩, 11, true, []⟩])
 (.region [⟨some 26, .mov (.t 5), none⟩, ⟨some 27, .mov (.t 5), none⟩, ⟨some 28, .fa 9 (.t 2), none⟩, ⟨some 29, .iar 8 1 (.t 28) (.t 27), none⟩, ⟨some 30, .ld false 1 (.t 29), none⟩, ⟨some 31, .mov (.t 30), none⟩, ⟨some 32, .mov (.t 5), (some (31, false))⟩, ⟨some 33, .fa 9 (.t 3), (some (31, false))⟩, ⟨some 34, .iar 8 1 (.t 33) (.t 32), (some (31, false))⟩, ⟨some 35, .ld false 1 (.t 34), (some (31, false))⟩, ⟨some 36, .pick (.t 31) (.c (.bool true)) (.t 35), none⟩, ⟨some 37, .fa 9 (.t 2), none⟩, ⟨some 38, .iar 8 1 (.t 37) (.t 26), none⟩, ⟨none, .st 1 (.t 38) (.t 36), none⟩]))))
 (.region [⟨some 39, .bin .add (.t 12) (.c (.int .i64 1)), none⟩, ⟨some 12, .mov (.t 39), none⟩])))))))
 (.seq
 (.region [⟨some 40, .ld true 17 (.t 2), none⟩, ⟨none, .st 17 (.t 4) (.t 40), none⟩])
 .ret))))
def r85 : List AOp := [(.ld true 17 (.t 4))]
theorem ok85 : FnOk Try.prog 85 Try.f85.ntmps a85 r85 := ⟨Try.f85, Try.func85, by kernel_rfl, by kernel_rfl, by kernel_rfl, fun asv w => by simp⟩

def a86 : ACode :=
 (.seq
 (.region [⟨some 3, .mov (.c (.int .i64 0)), none⟩])
 (.seq
 (.region [⟨some 4, .mov (.t 0), none⟩, ⟨some 5, .fa 3 (.t 1), none⟩, ⟨some 6, .iar 8 2 (.t 5) (.t 4), none⟩, ⟨some 7, .fa 1 (.t 6), none⟩, ⟨some 8, .ld false 1 (.t 7), none⟩, ⟨some 3, .mov (.t 8), none⟩])
 .ret))
def r86 : List AOp := [(.mov (.t 3))]
theorem ok86 : FnOk Try.prog 86 Try.f86.ntmps a86 r86 := ⟨Try.f86, Try.func86, by kernel_rfl, by kernel_rfl, by kernel_rfl, fun asv w => by simp⟩

def a87 : ACode :=
 (.seq
 (.region [⟨some 2, .box (.t 0), none⟩, ⟨some 3, .box (.t 1), none⟩, ⟨some 4, .mov (.c (.slice none 0 0)), none⟩])
 (.seq
 (.region [⟨some 7, .bsl 0 [] [], none⟩, ⟨some 5, .mov (.t 7), none⟩])
 (.seq
 (.seq
 (.region [⟨some 8, .fa 0 (.t 2), none⟩, ⟨some 9, .fa 1 (.t 8), none⟩, ⟨some 10, .ld false 1 (.t 9), none⟩, ⟨some 11, .len (.t 10), none⟩, ⟨some 12, .mov (.c (.int .i64 0)), none⟩])
 (.block 0
 (.loop
 (.seq
 (.region [⟨some 13, .bin .lss (.t 12) (.t 11), none⟩])
 (.seq
 (.cond (.t 13)
 .skip
 (.exit 0))
 (.seq
 (.block 1
 (.seq
 (.region [⟨some 14, .mov (.t 12), none⟩, ⟨some 6, .mov (.t 14), none⟩])
 (.region [⟨some 15, .mov (.t 5), none⟩, ⟨some 16, .mov (.t 6), none⟩, ⟨some 17, .bsl 1 [(.int .i64 0)] [(0, 1, (.t 16))], none⟩, ⟨some 18, .app 1 8 (.t 15) (.t 17), none⟩, ⟨some 5, .mov (.t 18), none⟩])))
 (.region [⟨some 19, .bin .add (.t 12) (.c (.int .i64 1)), none⟩, ⟨some 12, .mov (.t 19), none⟩])))))))
 (.seq
 (.region [⟨some 20, .mov (.t 5), none⟩, ⟨some 21, .fn (.func 101) [] [(.t 3)], none⟩, ⟨some 22, .call (.c (.func (.func 100) #[] #[])) [(.t 20), (.t 21)], none⟩])
 (.seq
 (.region [⟨some 23, .mov (.t 5), none⟩, ⟨some 4, .mov (.t 23), none⟩])
 .ret)))))
def r87 : List AOp := [(.mov (.t 4))]
theorem ok87 : FnOk Try.prog 87 Try.f87.ntmps a87 r87 := ⟨Try.f87, Try.func87, by kernel_rfl, by kernel_rfl, by kernel_rfl, fun asv w => by simp⟩

def a88 : ACode :=
 (.seq
 (.region [⟨some 2, .box (.t 0), none⟩, ⟨some 4, .mov (.c (.int .i64 0)), none⟩])
 (.seq
 (.region [⟨some 8, .fa 0 (.t 2), none⟩, ⟨some 9, .fa 1 (.t 8), none⟩, ⟨some 10, .ld false 1 (.t 9), none⟩, ⟨some 11, .mov (.t 1), none⟩, ⟨some 12, .isl 3 (.t 10) (.t 11), none⟩, ⟨some 13, .fa 0 (.t 12), none⟩, ⟨some 14, .ld false 1 (.t 13), none⟩, ⟨some 15, .bsl 1 [(.int .i64 0)] [(0, 1, (.t 14))], none⟩, ⟨some 5, .mov (.t 15), none⟩])
 (.seq
 (.seq
 (.region [⟨some 16, .fa 0 (.t 2), none⟩, ⟨some 17, .fa 1 (.t 16), none⟩, ⟨some 18, .ld false 1 (.t 17), none⟩, ⟨some 19, .len (.t 18), none⟩, ⟨some 20, .mov (.c (.int .i64 0)), none⟩])
 (.block 0
 (.loop
 (.seq
 (.region [⟨some 21, .bin .lss (.t 20) (.t 19), none⟩])
 (.seq
 (.cond (.t 21)
 .skip
 (.exit 0))
 (.seq
 (.block 1
 (.seq
 (.region [⟨some 22, .mov (.t 20), none⟩, ⟨some 23, .isl 3 (.t 18) (.t 20), none⟩, ⟨some 24, .ld true 3 (.t 23), none⟩, ⟨some 7, .new [(.int .i64 0), (.int .i64 0), (.int .i64 0)], none⟩, ⟨some 6, .mov (.t 22), none⟩, ⟨none, .st 3 (.t 7) (.t 24), none⟩])
 (.seq
 (.draw 9 [⟨⟨some 25, .mov (.t 6), none⟩, 0, false, []⟩, ⟨⟨some 26, .fa 3 (.t 2), none⟩, 1, false, []⟩, ⟨⟨some 27, .iar 8 2 (.t 26) (.t 25), none⟩, 2, false, []⟩, ⟨⟨some 28, .ld true 2 (.t 27), none⟩, 3, false, []⟩, ⟨⟨some 29, .mov (.t 1), none⟩, 4, false, []⟩, ⟨⟨some 30, .fa 3 (.t 2), none⟩, 5, false, []⟩, ⟨⟨some 31, .iar 8 2 (.t 30) (.t 29), none⟩, 6, false, []⟩, ⟨⟨some 32, .ld true 2 (.t 31), none⟩, 7, false, []⟩, ⟨⟨some 33, .call (.c (.func (.func 79) #[] #[])) [(.t 28), (.t 32)], none⟩, 8, true, []⟩])
 (.cond (.t 33)
 (.region [⟨some 34, .mov (.t 5), none⟩, ⟨some 35, .fa 0 (.t 7), none⟩, ⟨some 36, .ld false 1 (.t 35), none⟩, ⟨some 37, .bsl 1 [(.int .i64 0)] [(0, 1, (.t 36))], none⟩, ⟨some 38, .app 1 8 (.t 34) (.t 37), none⟩, ⟨some 5, .mov (.t 38), none⟩])
 .skip))))
 (.region [⟨some 39, .bin .add (.t 20) (.c (.int .i64 1)), none⟩, ⟨some 20, .mov (.t 39), none⟩])))))))
 (.seq
 (.region [⟨some 40, .mov (.t 5), none⟩, ⟨some 41, .call (.c (.func (.func 103) #[] #[])) [(.t 40)], none⟩, ⟨some 4, .mov (.t 41), none⟩])
 .ret))))
def r88 : List AOp := [(.mov (.t 4))]
theorem ok88 : FnOk Try.prog 88 Try.f88.ntmps a88 r88 := ⟨Try.f88, Try.func88, by kernel_rfl, by kernel_rfl, by kernel_rfl, fun asv w => by simp⟩

def a89 : ACode :=
 (.seq
 (.region [⟨some 2, .box (.t 0), none⟩, ⟨some 4, .mov (.c (.bool false)), none⟩])
 (.seq
 (.region [⟨some 5, .mov (.t 1), none⟩, ⟨some 6, .fa 19 (.t 2), none⟩, ⟨some 7, .iar 8 1 (.t 6) (.t 5), none⟩, ⟨some 8, .ld false 1 (.t 7), none⟩, ⟨some 4, .mov (.t 8), none⟩])
 .ret))
def r89 : List AOp := [(.mov (.t 4))]
theorem ok89 : FnOk Try.prog 89 Try.f89.ntmps a89 r89 := ⟨Try.f89, Try.func89, by kernel_rfl, by kernel_rfl, by kernel_rfl, fun asv w => by simp⟩

def a90 : ACode :=
 (.seq
 (.region [⟨some 2, .mov (.c (.slice none 0 0)), none⟩])
 (.seq
 (.seq
 (.region [⟨some 3, .mov (.t 0), none⟩, ⟨some 4, .isn false (.t 3), none⟩])
 (.cond (.t 4)
 (.seq
 (.region [⟨some 2, .mov (.c (.slice none 0 0)), none⟩])
 .ret)
 .skip))
 (.seq
 (.region [⟨some 5, .bsl 0 [] [], none⟩, ⟨some 6, .mov (.t 0), none⟩, ⟨some 7, .app 1 8 (.t 5) (.t 6), none⟩, ⟨some 2, .mov (.t 7), none⟩])
 .ret)))
def r90 : List AOp := [(.mov (.t 2))]
theorem ok90 : FnOk Try.prog 90 Try.f90.ntmps a90 r90 := ⟨Try.f90, Try.func90, by kernel_rfl, by kernel_rfl, by kernel_rfl, fun asv w => by simp⟩

def a91 : ACode :=
 (.seq
 (.seq
 (.region [⟨some 10, .mov (.t 0), none⟩, ⟨some 11, .ld false 1 (.t 1), none⟩, ⟨some 12, .len (.t 11), none⟩, ⟨some 13, .bin .eql (.t 10) (.t 12), none⟩])
 (.cond (.t 13)
 (.seq
 (.seq
 (.region [⟨some 14, .ld true 6 (.t 2), none⟩, ⟨some 15, .ld false 1 (.t 1), none⟩, ⟨some 16, .call (.c (.func (.func 65) #[] #[])) [(.t 14), (.t 15)], none⟩, ⟨some 17, .fld false 0 1 (.t 16), none⟩, ⟨some 8, .mov (.t 17), none⟩])
 (.seq
 (.region [⟨some 18, .mov (.t 8), none⟩, ⟨some 19, .ld false 1 (.t 3), none⟩, ⟨some 20, .bin .lss (.t 18) (.t 19), none⟩])
 (.cond (.t 20)
 (.region [⟨some 21, .ld false 1 (.t 1), none⟩, ⟨some 22, .call (.c (.func (.func 90) #[] #[])) [(.t 21)], none⟩, ⟨some 23, .mov (.t 8), none⟩, ⟨none, .st 1 (.t 4) (.t 22), none⟩, ⟨none, .st 1 (.t 3) (.t 23), none⟩])
 .skip)))
 .ret)
 .skip))
 (.seq
 (.region [⟨some 24, .ld false 1 (.t 5), none⟩, ⟨some 25, .len (.t 24), none⟩, ⟨some 26, .mov (.c (.int .i64 0)), none⟩])
 (.block 0
 (.loop
 (.seq
 (.region [⟨some 27, .bin .lss (.t 26) (.t 25), none⟩])
 (.seq
 (.cond (.t 27)
 .skip
 (.exit 0))
 (.seq
 (.block 1
 (.seq
 (.region [⟨some 28, .mov (.t 26), none⟩, ⟨some 9, .mov (.t 28), none⟩])
 (.seq
 (.region [⟨some 29, .ld false 1 (.t 5), none⟩, ⟨some 30, .mov (.t 9), none⟩, ⟨some 31, .isl 1 (.t 29) (.t 30), none⟩, ⟨some 32, .ld false 1 (.t 31), none⟩, ⟨some 33, .bin .gtr (.t 32) (.c (.int .i64 0)), none⟩])
 (.cond (.t 33)
 (.seq
 (.region [⟨some 34, .ld false 1 (.t 1), none⟩, ⟨some 35, .mov (.t 0), none⟩, ⟨some 36, .mov (.t 9), none⟩, ⟨some 37, .isl 1 (.t 34) (.t 35), none⟩, ⟨none, .st 1 (.t 37) (.t 36), none⟩])
 (.seq
 (.region [⟨some 38, .ld false 1 (.t 5), none⟩, ⟨some 39, .mov (.t 9), none⟩, ⟨some 40, .isl 1 (.t 38) (.t 39), none⟩, ⟨some 41, .ld false 1 (.t 40), none⟩, ⟨some 42, .bin .sub (.t 41) (.c (.int .i64 1)), none⟩, ⟨some 43, .isl 1 (.t 38) (.t 39), none⟩, ⟨none, .st 1 (.t 43) (.t 42), none⟩])
 (.seq
 (.region [⟨some 44, .ld false 1 (.t 6), none⟩, ⟨some 45, .mov (.t 0), none⟩, ⟨some 46, .bin .add (.t 45) (.c (.int .i64 1)), none⟩, ⟨some 47, .call (.t 44) [(.t 46)], none⟩])
 (.region [⟨some 48, .ld false 1 (.t 5), none⟩, ⟨some 49, .mov (.t 9), none⟩, ⟨some 50, .isl 1 (.t 48) (.t 49), none⟩, ⟨some 51, .ld false 1 (.t 50), none⟩, ⟨some 52, .bin .add (.t 51) (.c (.int .i64 1)), none⟩, ⟨some 53, .isl 1 (.t 48) (.t 49), none⟩, ⟨none, .st 1 (.t 53) (.t 52), none⟩]))))
 .skip))))
 (.region [⟨some 54, .bin .add (.t 26) (.c (.int .i64 1)), none⟩, ⟨some 26, .mov (.t 54), none⟩]))))))))
def r91 : List AOp := []
theorem ok91 : FnOk Try.prog 91 Try.f91.ntmps a91 r91 := ⟨Try.f91, Try.func91, by kernel_rfl, by kernel_rfl, by kernel_rfl, fun asv w => by simp⟩

def a92 : ACode :=
 (.seq
 (.region [⟨some 2, .box (.t 0), none⟩, ⟨some 3, .box (.t 1), none⟩, ⟨some 4, .mov (.c (.bool false)), none⟩])
 (.seq
 (.region [⟨some 5, .fa 0 (.t 2), none⟩, ⟨some 6, .ld false 1 (.t 5), none⟩, ⟨some 7, .fa 1 (.t 3), none⟩, ⟨some 8, .ld false 1 (.t 7), none⟩, ⟨some 9, .bin .leq (.t 6) (.t 8), none⟩, ⟨some 4, .mov (.t 9), none⟩])
 .ret))
def r92 : List AOp := [(.mov (.t 4))]
theorem ok92 : FnOk Try.prog 92 Try.f92.ntmps a92 r92 := ⟨Try.f92, Try.func92, by kernel_rfl, by kernel_rfl, by kernel_rfl, fun asv w => by simp⟩

def a93 : ACode :=
 (.seq
 (.region [⟨some 2, .box (.t 0), none⟩, ⟨some 3, .box (.t 1), none⟩, ⟨some 4, .mov (.c (.bool false)), none⟩])
 (.seq
 (.region [⟨some 5, .ld true 3 (.t 3), none⟩, ⟨some 6, .ld true 3 (.t 2), none⟩, ⟨some 7, .call (.c (.func (.func 92) #[] #[])) [(.t 5), (.t 6)], none⟩, ⟨some 4, .mov (.t 7), none⟩])
 .ret))
def r93 : List AOp := [(.mov (.t 4))]
theorem ok93 : FnOk Try.prog 93 Try.f93.ntmps a93 r93 := ⟨Try.f93, Try.func93, by kernel_rfl, by kernel_rfl, by kernel_rfl, fun asv w => by simp⟩

def a94 : ACode :=
 (.seq
 (.region [⟨some 2, .mov (.c (.bool false)), none⟩])
 (.seq
 (.seq
 (.region [⟨some 3, .mov (.c (.int .i64 1)), none⟩])
 (.block 0
 (.loop
 (.seq
 (.seq
 (.region [⟨some 4, .mov (.t 3), none⟩, ⟨some 5, .mov (.t 0), none⟩, ⟨some 6, .len (.t 5), none⟩, ⟨some 7, .bin .lss (.t 4) (.t 6), none⟩])
 (.cond (.t 7)
 .skip
 (.exit 0)))
 (.seq
 (.block 1
 (.seq
 (.draw 10 [⟨⟨some 10, .mov (.t 0), none⟩, 0, false, []⟩, ⟨⟨some 11, .mov (.t 3), none⟩, 1, false, []⟩, ⟨⟨some 12, .isl 1 (.t 10) (.t 11), none⟩, 2, false, []⟩, ⟨⟨some 13, .ld false 1 (.t 12), none⟩, 3, false, []⟩, ⟨⟨some 14, .mov (.t 0), none⟩, 4, false, []⟩, ⟨⟨some 15, .mov (.t 3), none⟩, 5, false, []⟩, ⟨⟨some 16, .bin .sub (.t 15) (.c (.int .i64 1)), none⟩, 6, false, []⟩, ⟨⟨some 17, .isl 1 (.t 14) (.t 16), none⟩, 7, false, []⟩, ⟨⟨some 18, .ld false 1 (.t 17), none⟩, 8, false, []⟩, ⟨⟨some 19, .bin .leq (.t 13) (.t 18), none⟩, 9, false, []⟩])
 (.cond (.t 19)
 (.seq
 (.region [⟨some 2, .mov (.c (.bool false)), none⟩])
 .ret)
 .skip)))
 (.region [⟨some 8, .mov (.t 3), none⟩, ⟨some 9, .bin .add (.t 8) (.c (.int .i64 1)), none⟩, ⟨some 3, .mov (.t 9), none⟩]))))))
 (.seq
 (.region [⟨some 2, .mov (.c (.bool true)), none⟩])
 .ret)))
def r94 : List AOp := [(.mov (.t 2))]
theorem ok94 : FnOk Try.prog 94 Try.f94.ntmps a94 r94 := ⟨Try.f94, Try.func94, by kernel_rfl, by kernel_rfl, by kernel_rfl, fun asv w => by simp⟩

def a95 : ACode :=
 (.seq
 (.region [⟨some 5, .ld true 27 (.t 1), none⟩, ⟨some 6, .fn (.func 96) [] [(.t 1)], none⟩, ⟨some 7, .bsl 1 [.nilFunc] [(0, 1, (.t 6))], none⟩, ⟨some 8, .call (.c (.func (.func 87) #[] #[])) [(.t 5), (.t 7)], none⟩, ⟨some 9, .len (.t 8), none⟩, ⟨some 10, .mov (.c (.int .i64 0)), none⟩])
 (.block 0
 (.loop
 (.seq
 (.region [⟨some 11, .bin .lss (.t 10) (.t 9), none⟩])
 (.seq
 (.cond (.t 11)
 .skip
 (.exit 0))
 (.seq
 (.block 1
 (.seq
 (.region [⟨some 12, .isl 1 (.t 8) (.t 10), none⟩, ⟨some 13, .ld false 1 (.t 12), none⟩, ⟨some 4, .mov (.t 13), none⟩])
 (.seq
 (.region [⟨some 14, .ld true 27 (.t 1), none⟩, ⟨some 15, .mov (.t 4), none⟩, ⟨some 16, .call (.c (.func (.func 89) #[] #[])) [(.t 14), (.t 15)], none⟩, ⟨some 17, .not (.t 16), none⟩, ⟨some 18, .mov (.t 17), none⟩, ⟨some 19, .mov (.t 0), (some (18, true))⟩, ⟨some 20, .mov (.t 4), (some (18, true))⟩, ⟨some 21, .call (.t 19) [(.t 20)], (some (18, true))⟩, ⟨some 22, .not (.t 21), (some (18, true))⟩, ⟨some 23, .pick (.t 18) (.t 22) (.c (.bool false)), none⟩])
 (.cond (.t 23)
 .ret
 .skip))))
 (.region [⟨some 24, .bin .add (.t 10) (.c (.int .i64 1)), none⟩, ⟨some 10, .mov (.t 24), none⟩])))))))
def r95 : List AOp := []
theorem ok95 : FnOk Try.prog 95 Try.f95.ntmps a95 r95 := ⟨Try.f95, Try.func95, by kernel_rfl, by kernel_rfl, by kernel_rfl, fun asv w => by simp⟩

def a96 : ACode :=
 (.seq
 (.region [⟨some 3, .mov (.c (.int .i64 0)), none⟩])
 (.seq
 (.region [⟨some 4, .fa 0 (.t 1), none⟩, ⟨some 5, .fa 1 (.t 4), none⟩, ⟨some 6, .ld false 1 (.t 5), none⟩, ⟨some 7, .mov (.t 0), none⟩, ⟨some 8, .isl 3 (.t 6) (.t 7), none⟩, ⟨some 9, .fa 2 (.t 8), none⟩, ⟨some 10, .ld false 1 (.t 9), none⟩, ⟨some 3, .mov (.t 10), none⟩])
 .ret))
def r96 : List AOp := [(.mov (.t 3))]
theorem ok96 : FnOk Try.prog 96 Try.f96.ntmps a96 r96 := ⟨Try.f96, Try.func96, by kernel_rfl, by kernel_rfl, by kernel_rfl, fun asv w => by simp⟩

def a97 : ACode :=
 (.seq
 (.region [⟨some 2, .box (.t 0), none⟩, ⟨some 4, .mov (.c (.bool false)), none⟩])
 (.seq
 (.region [⟨some 5, .mov (.t 1), none⟩, ⟨some 6, .fa 0 (.t 2), none⟩, ⟨some 7, .ld false 1 (.t 6), none⟩, ⟨some 8, .len (.t 7), none⟩, ⟨some 9, .bin .sub (.t 8) (.c (.int .i64 1)), none⟩, ⟨some 10, .call (.c (.func (.func 54) #[] #[])) [(.t 5), (.c (.int .i64 0)), (.t 9)], none⟩, ⟨some 4, .mov (.t 10), none⟩])
 .ret))
def r97 : List AOp := [(.mov (.t 4))]
theorem ok97 : FnOk Try.prog 97 Try.f97.ntmps a97 r97 := ⟨Try.f97, Try.func97, by kernel_rfl, by kernel_rfl, by kernel_rfl, fun asv w => by simp⟩

def a98 : ACode :=
 (.seq
 (.region [⟨some 2, .box (.t 0), none⟩, ⟨some 3, .box (.t 1), none⟩, ⟨some 4, .mov (.c .nilFunc), none⟩])
 (.seq
 (.region [⟨some 5, .fn (.func 104) [] [(.t 2), (.t 3)], none⟩, ⟨some 4, .mov (.t 5), none⟩])
 .ret))
def r98 : List AOp := [(.mov (.t 4))]
theorem ok98 : FnOk Try.prog 98 Try.f98.ntmps a98 r98 := ⟨Try.f98, Try.func98, by kernel_rfl, by kernel_rfl, by kernel_rfl, fun asv w => by simp⟩

def a99 : ACode :=
 (.seq
 (.region [⟨some 4, .box (.t 0), none⟩, ⟨some 5, .box (.t 1), none⟩, ⟨some 8, .new [(.int .i64 0), (.int .i64 0), (.int .i64 0), (.int .i64 0), (.int .i64 0), (.int .i64 0), (.int .i64 0), (.int .i64 0), (.int .i64 0), (.bool false), (.bool false), (.bool false), (.bool false), (.bool false), (.bool false), (.bool false), (.bool false)], none⟩])
 (.seq
 (.region [⟨some 13, .ld true 10 (.t 5), none⟩, ⟨some 14, .mov (.t 2), none⟩, ⟨some 15, .mov (.t 3), none⟩, ⟨some 16, .call (.c (.func (.func 105) #[] #[])) [(.t 13), (.t 14), (.t 15)], none⟩, ⟨some 9, .new [(.bool false), (.bool false), (.bool false), (.bool false), (.bool false), (.bool false), (.bool false), (.bool false), (.int .i64 0), (.int .i64 0)], none⟩, ⟨none, .st 10 (.t 9) (.t 16), none⟩])
 (.seq
 (.region [⟨some 17, .ld true 6 (.t 4), none⟩, ⟨some 18, .ld true 10 (.t 9), none⟩, ⟨some 19, .call (.c (.func (.func 83) #[] #[])) [(.t 17), (.t 18)], none⟩, ⟨some 10, .new [(.int .i64 0), (.int .i64 0), (.int .i64 0), (.int .i64 0), (.int .i64 0), (.int .i64 0), (.int .i64 0), (.int .i64 0), (.int .i64 0), (.bool false), (.bool false), (.bool false), (.bool false), (.bool false), (.bool false), (.bool false), (.bool false)], none⟩, ⟨none, .st 17 (.t 10) (.t 19), none⟩])
 (.seq
 (.seq
 (.region [⟨some 20, .fa 0 (.t 9), none⟩, ⟨some 21, .ld true 8 (.t 20), none⟩, ⟨some 22, .mov (.c (.int .i64 0)), none⟩])
 (.block 0
 (.loop
 (.seq
 (.region [⟨some 23, .bin .lss (.t 22) (.c (.int .i64 8)), none⟩])
 (.seq
 (.cond (.t 23)
 .skip
 (.exit 0))
 (.seq
 (.block 1
 (.seq
 (.region [⟨some 24, .idx false 8 1 (.t 21) (.t 22), none⟩, ⟨some 12, .mov (.t 24), none⟩])
 (.seq
 (.region [⟨some 25, .mov (.t 12), none⟩])
 (.cond (.t 25)
 (.region [⟨some 26, .mov (.t 2), none⟩, ⟨some 27, .fa 1 (.t 10), none⟩, ⟨some 28, .iar 8 1 (.t 27) (.t 26), none⟩, ⟨some 29, .ld false 1 (.t 28), none⟩, ⟨some 30, .bin .add (.t 29) (.c (.int .i64 1)), none⟩, ⟨some 31, .fa 1 (.t 10), none⟩, ⟨some 32, .iar 8 1 (.t 31) (.t 26), none⟩, ⟨none, .st 1 (.t 32) (.t 30), none⟩])
 .skip))))
 (.region [⟨some 33, .bin .add (.t 22) (.c (.int .i64 1)), none⟩, ⟨some 22, .mov (.t 33), none⟩])))))))
 (.seq
 (.region [⟨some 34, .mov (.t 2), none⟩, ⟨some 35, .mov (.t 3), none⟩, ⟨some 36, .bin .eql (.t 35) (.c (.int .i64 2001)), none⟩, ⟨some 37, .fa 9 (.t 10), none⟩, ⟨some 38, .iar 8 1 (.t 37) (.t 34), none⟩, ⟨none, .st 1 (.t 38) (.t 36), none⟩])
 (.seq
 (.seq
 (.region [⟨some 39, .fa 8 (.t 5), none⟩, ⟨some 40, .ld false 1 (.t 39), none⟩, ⟨some 41, .mov (.t 3), none⟩, ⟨some 42, .bin .lss (.t 40) (.t 41), none⟩])
 (.cond (.t 42)
 (.region [⟨some 43, .fa 0 (.t 10), none⟩, ⟨some 44, .ld false 1 (.t 43), none⟩, ⟨some 45, .bin .add (.t 44) (.c (.int .i64 1)), none⟩, ⟨some 46, .fa 0 (.t 10), none⟩, ⟨none, .st 1 (.t 46) (.t 45), none⟩])
 .skip))
 (.seq
 (.region [⟨some 47, .ld true 17 (.t 10), none⟩, ⟨none, .st 17 (.t 8) (.t 47), none⟩])
 .ret)))))))
def r99 : List AOp := [(.ld true 17 (.t 8))]
theorem ok99 : FnOk Try.prog 99 Try.f99.ntmps a99 r99 := ⟨Try.f99, Try.func99, by kernel_rfl, by kernel_rfl, by kernel_rfl, fun asv w => by simp⟩

def a100 : ACode :=
 (.region [⟨some 4, .mov (.t 0), none⟩, ⟨some 5, .mov (.t 0), none⟩, ⟨some 6, .len (.t 5), none⟩, ⟨some 7, .mov (.t 1), none⟩, ⟨some 8, .call (.c (.func (.func 106) #[] #[])) [(.t 4), (.t 6), (.t 7)], none⟩])
def r100 : List AOp := []
theorem ok100 : FnOk Try.prog 100 Try.f100.ntmps a100 r100 := ⟨Try.f100, Try.func100, by kernel_rfl, by kernel_rfl, by kernel_rfl, fun asv w => by simp⟩

def a101 : ACode :=
 (.seq
 (.region [⟨some 5, .mov (.c (.int .i64 0)), none⟩])
 (.seq
 (.seq
 (.region [⟨some 9, .ld false 1 (.t 2), none⟩, ⟨some 10, .len (.t 9), none⟩, ⟨some 11, .mov (.c (.int .i64 0)), none⟩])
 (.block 0
 (.loop
 (.seq
 (.region [⟨some 12, .bin .lss (.t 11) (.t 10), none⟩])
 (.seq
 (.cond (.t 12)
 .skip
 (.exit 0))
 (.seq
 (.block 1
 (.seq
 (.region [⟨some 13, .isl 1 (.t 9) (.t 11), none⟩, ⟨some 14, .ld false 1 (.t 13), none⟩, ⟨some 7, .mov (.t 14), none⟩])
 (.seq
 (.region [⟨some 15, .mov (.t 7), none⟩, ⟨some 16, .mov (.t 0), none⟩, ⟨some 17, .call (.t 15) [(.t 16)], none⟩, ⟨some 18, .mov (.t 7), none⟩, ⟨some 19, .mov (.t 1), none⟩, ⟨some 20, .call (.t 18) [(.t 19)], none⟩, ⟨some 21, .call (.c (.func (.func 102) #[] #[])) [(.t 17), (.t 20)], none⟩, ⟨some 8, .mov (.t 21), none⟩])
 (.seq
 (.region [⟨some 22, .mov (.t 8), none⟩, ⟨some 23, .bin .neq (.t 22) (.c (.int .i64 0)), none⟩])
 (.cond (.t 23)
 (.seq
 (.region [⟨some 24, .mov (.t 8), none⟩, ⟨some 5, .mov (.t 24), none⟩])
 .ret)
 .skip)))))
 (.region [⟨some 25, .bin .add (.t 11) (.c (.int .i64 1)), none⟩, ⟨some 11, .mov (.t 25), none⟩])))))))
 (.seq
 (.region [⟨some 5, .mov (.c (.int .i64 0)), none⟩])
 .ret)))
def r101 : List AOp := [(.mov (.t 5))]
theorem ok101 : FnOk Try.prog 101 Try.f101.ntmps a101 r101 := ⟨Try.f101, Try.func101, by kernel_rfl, by kernel_rfl, by kernel_rfl, fun asv w => by simp⟩

def a102 : ACode :=
 (.seq
 (.region [⟨some 4, .mov (.c (.int .i64 0)), none⟩])
 (.seq
 (.region [⟨some 7, .mov (.t 0), none⟩, ⟨some 8, .call (.c (.func (.func 107) #[] #[])) [(.t 7)], none⟩, ⟨some 5, .mov (.t 8), none⟩])
 (.seq
 (.region [⟨some 9, .mov (.t 1), none⟩, ⟨some 10, .call (.c (.func (.func 107) #[] #[])) [(.t 9)], none⟩, ⟨some 6, .mov (.t 10), none⟩])
 (.seq
 (.seq
 (.region [⟨some 11, .mov (.t 5), none⟩])
 (.cond (.t 11)
 (.seq
 (.seq
 (.region [⟨some 12, .mov (.t 6), none⟩])
 (.cond (.t 12)
 (.seq
 (.region [⟨some 4, .mov (.c (.int .i64 0)), none⟩])
 .ret)
 .skip))
 (.seq
 (.region [⟨some 4, .mov (.c (.int .i64 (-1))), none⟩])
 .ret))
 .skip))
 (.seq
 (.seq
 (.region [⟨some 13, .mov (.t 6), none⟩])
 (.cond (.t 13)
 (.seq
 (.region [⟨some 4, .mov (.c (.int .i64 1)), none⟩])
 .ret)
 .skip))
 (.seq
 (.seq
 (.region [⟨some 14, .mov (.t 0), none⟩, ⟨some 15, .mov (.t 1), none⟩, ⟨some 16, .bin .lss (.t 14) (.t 15), none⟩])
 (.cond (.t 16)
 (.seq
 (.region [⟨some 4, .mov (.c (.int .i64 (-1))), none⟩])
 .ret)
 .skip))
 (.seq
 (.seq
 (.region [⟨some 17, .mov (.t 0), none⟩, ⟨some 18, .mov (.t 1), none⟩, ⟨some 19, .bin .gtr (.t 17) (.t 18), none⟩])
 (.cond (.t 19)
 (.seq
 (.region [⟨some 4, .mov (.c (.int .i64 1)), none⟩])
 .ret)
 .skip))
 (.seq
 (.region [⟨some 4, .mov (.c (.int .i64 0)), none⟩])
 .ret))))))))
def r102 : List AOp := [(.mov (.t 4))]
theorem ok102 : FnOk Try.prog 102 Try.f102.ntmps a102 r102 := ⟨Try.f102, Try.func102, by kernel_rfl, by kernel_rfl, by kernel_rfl, fun asv w => by simp⟩

def a103 : ACode :=
 (.seq
 (.region [⟨some 2, .mov (.c (.int .i64 0)), none⟩])
 (.seq
 (.region [⟨some 3, .mov (.c (.int .i64 0)), none⟩])
 (.seq
 (.seq
 (.region [⟨some 6, .mov (.t 0), none⟩, ⟨some 7, .len (.t 6), none⟩, ⟨some 8, .mov (.c (.int .i64 0)), none⟩])
 (.block 0
 (.loop
 (.seq
 (.region [⟨some 9, .bin .lss (.t 8) (.t 7), none⟩])
 (.seq
 (.cond (.t 9)
 .skip
 (.exit 0))
 (.seq
 (.block 1
 (.seq
 (.region [⟨some 10, .isl 1 (.t 6) (.t 8), none⟩, ⟨some 11, .ld false 1 (.t 10), none⟩, ⟨some 5, .mov (.t 11), none⟩])
 (.region [⟨some 12, .mov (.t 3), none⟩, ⟨some 13, .mov (.t 5), none⟩, ⟨some 14, .gen 17 ⟨some 14, (.call ⟨.builtin .max, #[(.tmp 12), (.tmp 13)], #[3, 3]⟩), 3, "night.go:160", #[{ on := 0, ground := Go.Ground.data }, { on := 1, ground := Go.Ground.data }], none⟩, none⟩, ⟨some 3, .mov (.t 14), none⟩])))
 (.region [⟨some 15, .bin .add (.t 8) (.c (.int .i64 1)), none⟩, ⟨some 8, .mov (.t 15), none⟩])))))))
 (.seq
 (.region [⟨some 16, .mov (.t 3), none⟩, ⟨some 2, .mov (.t 16), none⟩])
 .ret))))
def r103 : List AOp := [(.mov (.t 2))]
theorem ok103 : FnOk Try.prog 103 Try.f103.ntmps a103 r103 := ⟨Try.f103, Try.func103, by kernel_rfl, by kernel_rfl, by kernel_rfl, fun asv w => by simp⟩

end Go.Proofs.Ytfijnkhiojejfaa
