/-
  Joined texts of a calculus of abstract memory, of the program's code in it, and of contracts.
-/
import Derived.Test.YtjbbcpeidnkjlaaDoorJ5
import Derived.KernelRfl
import Derived.Test.YtjbbcpeidnkjlaaDoorChecked
namespace Go.Proofs.YtjbbcpeidnkjlaaDoor
open Go Go.Ab

def a13 : ACode :=
 (.seq
 (.region [⟨some 6, .box (.t 0), none⟩, ⟨some 12, .mov (.c (.bool false)), none⟩])
 (.seq
 (.seq
 (.region [⟨some 27, .ld true 10 (.t 6), none⟩, ⟨some 28, .call (.c (.func (.func 52) #[] #[])) [(.t 27)], none⟩, ⟨some 29, .not (.t 28), none⟩, ⟨some 30, .mov (.t 29), none⟩, ⟨some 31, .ld true 10 (.t 6), (some (30, false))⟩, ⟨some 32, .call (.c (.func (.func 37) #[] #[])) [(.t 31)], (some (30, false))⟩, ⟨some 33, .bin .eql (.t 32) (.c (.int .i64 0)), (some (30, false))⟩, ⟨some 34, .pick (.t 30) (.c (.bool true)) (.t 33), none⟩, ⟨some 35, .mov (.t 34), none⟩, ⟨some 36, .ld true 10 (.t 6), (some (35, false))⟩, ⟨some 37, .call (.c (.func (.func 37) #[] #[])) [(.t 36)], (some (35, false))⟩, ⟨some 38, .bin .gtr (.t 37) (.c (.int .i64 7)), (some (35, false))⟩, ⟨some 39, .pick (.t 35) (.c (.bool true)) (.t 38), none⟩])
 (.cond (.t 39)
 (.seq
 (.region [⟨some 40, .call (.c (.func (.func 16) #[] #[])) [], none⟩, ⟨some 12, .mov (.t 40), none⟩])
 .ret)
 .skip))
 (.seq
 (.region [⟨some 41, .mov (.t 1), none⟩, ⟨some 42, .cvi .i64 (.t 41), none⟩, ⟨some 43, .ld true 10 (.t 6), none⟩, ⟨some 44, .call (.c (.func (.func 37) #[] #[])) [(.t 43)], none⟩, ⟨some 45, .bin .rem (.t 42) (.t 44), none⟩, ⟨some 13, .mov (.t 45), none⟩])
 (.seq
 (.region [⟨some 47, .ld true 10 (.t 6), none⟩, ⟨some 48, .mov (.t 13), none⟩, ⟨some 49, .call (.c (.func (.func 54) #[] #[])) [(.t 47), (.t 48)], none⟩, ⟨some 46, .mov (.t 49), none⟩, ⟨some 50, .ext (.t 46) 0, none⟩, ⟨some 51, .ext (.t 46) 1, none⟩, ⟨some 14, .mov (.t 50), none⟩, ⟨some 15, .mov (.t 51), none⟩])
 (.seq
 (.draw 23 [⟨⟨some 52, .fa 8 (.t 6), none⟩, 0, false, []⟩, ⟨⟨some 53, .ld false 1 (.t 52), none⟩, 1, false, []⟩, ⟨⟨some 54, .mov (.t 14), none⟩, 2, false, []⟩, ⟨⟨some 55, .isl 1 (.t 53) (.t 54), none⟩, 3, false, []⟩, ⟨⟨some 56, .ld false 1 (.t 55), none⟩, 4, false, []⟩, ⟨⟨some 57, .mov (.t 15), none⟩, 5, false, []⟩, ⟨⟨some 58, .isl 3 (.t 56) (.t 57), none⟩, 6, false, []⟩, ⟨⟨some 59, .fa 1 (.t 58), none⟩, 7, false, []⟩, ⟨⟨some 60, .ld true 2 (.t 59), none⟩, 8, false, []⟩, ⟨⟨some 61, .fa 8 (.t 6), none⟩, 9, false, []⟩, ⟨⟨some 62, .ld false 1 (.t 61), none⟩, 10, false, []⟩, ⟨⟨some 63, .mov (.t 14), none⟩, 11, false, []⟩, ⟨⟨some 64, .isl 1 (.t 62) (.t 63), none⟩, 12, false, []⟩, ⟨⟨some 65, .ld false 1 (.t 64), none⟩, 13, false, []⟩, ⟨⟨some 66, .mov (.t 15), none⟩, 14, false, []⟩, ⟨⟨some 67, .bin .add (.t 66) (.c (.int .i64 1)), none⟩, 15, false, []⟩, ⟨⟨some 68, .isl 3 (.t 65) (.t 67), none⟩, 16, false, []⟩, ⟨⟨some 69, .fa 1 (.t 68), none⟩, 17, false, []⟩, ⟨⟨some 70, .ld true 2 (.t 69), none⟩, 18, false, []⟩, ⟨⟨some 16, .new [(.int .i64 0), (.int .i64 0)], none⟩, 19, false, []⟩, ⟨⟨some 17, .new [(.int .i64 0), (.int .i64 0)], none⟩, 20, false, []⟩, ⟨⟨none, .st 2 (.t 16) (.t 60), none⟩, 21, true, [18, 13, 10]⟩, ⟨⟨none, .st 2 (.t 17) (.t 70), none⟩, 22, true, []⟩])
 (.seq
 (.draw 34 [⟨⟨some 71, .mov (.t 2), none⟩, 0, false, []⟩, ⟨⟨some 72, .cvi .i64 (.t 71), none⟩, 1, false, []⟩, ⟨⟨some 73, .fa 9 (.t 6), none⟩, 2, false, []⟩, ⟨⟨some 74, .ld false 1 (.t 73), none⟩, 3, false, []⟩, ⟨⟨some 75, .len (.t 74), none⟩, 4, false, []⟩, ⟨⟨some 76, .bin .rem (.t 72) (.t 75), none⟩, 5, false, []⟩, ⟨⟨some 77, .fa 0 (.t 16), none⟩, 6, false, []⟩, ⟨⟨some 78, .ld false 1 (.t 77), none⟩, 7, false, []⟩, ⟨⟨some 79, .mov (.t 3), none⟩, 8, false, []⟩, ⟨⟨some 80, .cvi .i64 (.t 79), none⟩, 9, false, []⟩, ⟨⟨some 81, .fa 0 (.t 17), none⟩, 10, false, []⟩, ⟨⟨some 82, .ld false 1 (.t 81), none⟩, 11, false, []⟩, ⟨⟨some 83, .fa 0 (.t 16), none⟩, 12, false, []⟩, ⟨⟨some 84, .ld false 1 (.t 83), none⟩, 13, false, []⟩, ⟨⟨some 85, .bin .sub (.t 82) (.t 84), none⟩, 14, false, []⟩, ⟨⟨some 86, .bin .add (.t 85) (.c (.int .i64 1)), none⟩, 15, false, []⟩, ⟨⟨some 87, .bin .rem (.t 80) (.t 86), none⟩, 16, false, []⟩, ⟨⟨some 88, .bin .add (.t 78) (.t 87), none⟩, 17, false, []⟩, ⟨⟨some 89, .fa 1 (.t 16), none⟩, 18, false, []⟩, ⟨⟨some 90, .ld false 1 (.t 89), none⟩, 19, false, []⟩, ⟨⟨some 91, .mov (.t 4), none⟩, 20, false, []⟩, ⟨⟨some 92, .cvi .i64 (.t 91), none⟩, 21, false, []⟩, ⟨⟨some 93, .fa 1 (.t 17), none⟩, 22, false, []⟩, ⟨⟨some 94, .ld false 1 (.t 93), none⟩, 23, false, []⟩, ⟨⟨some 95, .fa 1 (.t 16), none⟩, 24, false, []⟩, ⟨⟨some 96, .ld false 1 (.t 95), none⟩, 25, false, []⟩, ⟨⟨some 97, .bin .sub (.t 94) (.t 96), none⟩, 26, false, []⟩, ⟨⟨some 98, .bin .add (.t 97) (.c (.int .i64 1)), none⟩, 27, false, []⟩, ⟨⟨some 99, .bin .rem (.t 92) (.t 98), none⟩, 28, false, []⟩, ⟨⟨some 100, .bin .add (.t 90) (.t 99), none⟩, 29, false, []⟩, ⟨⟨some 101, .bld [(.int .i64 0), (.int .i64 0)] [(0, 1, (.t 88)), (1, 1, (.t 100))], none⟩, 30, false, []⟩, ⟨⟨some 102, .bld [(.int .i64 0), (.int .i64 0), (.int .i64 0)] [(0, 1, (.t 76)), (1, 2, (.t 101))], none⟩, 31, false, []⟩, ⟨⟨some 18, .new [(.int .i64 0), (.int .i64 0), (.int .i64 0)], none⟩, 32, false, []⟩, ⟨⟨none, .st 3 (.t 18) (.t 102), none⟩, 33, true, []⟩])
 (.seq
 (.region [⟨some 103, .ld true 10 (.t 6), none⟩, ⟨some 19, .new [(.int .i64 0), (.int .i64 0), (.int .i64 0), (.int .i64 0), (.int .i64 0), (.int .i64 0), (.int .i64 0), (.int .i64 0), (.slice none 0 0), (.slice none 0 0)], none⟩, ⟨none, .st 10 (.t 19) (.t 103), none⟩])
 (.seq
 (.region [⟨some 104, .bsl 0 [] [], none⟩, ⟨some 105, .fa 8 (.t 6), none⟩, ⟨some 106, .ld false 1 (.t 105), none⟩, ⟨some 107, .app 1 24 (.t 104) (.t 106), none⟩, ⟨some 108, .fa 8 (.t 19), none⟩, ⟨none, .st 1 (.t 108) (.t 107), none⟩])
 (.seq
 (.draw 27 [⟨⟨some 109, .fa 8 (.t 19), none⟩, 0, false, []⟩, ⟨⟨some 110, .ld false 1 (.t 109), none⟩, 1, false, []⟩, ⟨⟨some 111, .mov (.t 14), none⟩, 2, false, []⟩, ⟨⟨some 112, .bsl 0 [] [], none⟩, 3, false, []⟩, ⟨⟨some 113, .fa 8 (.t 6), none⟩, 4, false, []⟩, ⟨⟨some 114, .ld false 1 (.t 113), none⟩, 5, false, []⟩, ⟨⟨some 115, .mov (.t 14), none⟩, 6, false, []⟩, ⟨⟨some 116, .isl 1 (.t 114) (.t 115), none⟩, 7, false, []⟩, ⟨⟨some 117, .ld false 1 (.t 116), none⟩, 8, false, []⟩, ⟨⟨some 118, .mov (.t 15), none⟩, 9, false, []⟩, ⟨⟨some 119, .bin .add (.t 118) (.c (.int .i64 1)), none⟩, 10, false, []⟩, ⟨⟨some 120, .sl 3 (.t 117) none (some (.t 119)), none⟩, 11, false, []⟩, ⟨⟨some 122, .ld true 3 (.t 18), none⟩, 13, false, []⟩, ⟨⟨some 123, .bsl 1 [(.int .i64 0), (.int .i64 0), (.int .i64 0)] [(0, 3, (.t 122))], none⟩, 14, false, []⟩, ⟨⟨some 125, .fa 8 (.t 6), none⟩, 16, false, []⟩, ⟨⟨some 126, .ld false 1 (.t 125), none⟩, 17, false, []⟩, ⟨⟨some 127, .mov (.t 14), none⟩, 18, false, []⟩, ⟨⟨some 128, .isl 1 (.t 126) (.t 127), none⟩, 19, false, []⟩, ⟨⟨some 129, .ld false 1 (.t 128), none⟩, 20, false, []⟩, ⟨⟨some 130, .mov (.t 15), none⟩, 21, false, []⟩, ⟨⟨some 131, .bin .add (.t 130) (.c (.int .i64 1)), none⟩, 22, false, []⟩, ⟨⟨some 132, .sl 3 (.t 129) (some (.t 131)) none, none⟩, 23, false, []⟩, ⟨⟨some 121, .app 3 24 (.t 112) (.t 120), none⟩, 12, true, [20, 17, 13, 1]⟩, ⟨⟨some 124, .app 3 24 (.t 121) (.t 123), none⟩, 15, true, [20, 17, 1]⟩, ⟨⟨some 133, .app 3 24 (.t 124) (.t 132), none⟩, 24, true, [1]⟩, ⟨⟨some 134, .isl 1 (.t 110) (.t 111), none⟩, 25, false, []⟩, ⟨⟨none, .st 1 (.t 134) (.t 133), none⟩, 26, true, []⟩])
 (.seq
 (.seq
 (.region [⟨some 135, .ld true 10 (.t 19), none⟩, ⟨some 136, .call (.c (.func (.func 36) #[] #[])) [(.t 135)], none⟩, ⟨some 137, .bin .neq (.t 136) (.c (.int .i64 0)), none⟩])
 (.cond (.t 137)
 (.seq
 (.region [⟨some 138, .call (.c (.func (.func 16) #[] #[])) [], none⟩, ⟨some 12, .mov (.t 138), none⟩])
 .ret)
 .skip))
 (.seq
 (.region [⟨some 139, .ld true 10 (.t 6), none⟩, ⟨some 140, .mov (.t 5), none⟩, ⟨some 141, .call (.c (.func (.func 49) #[] #[])) [(.t 139), (.t 140)], none⟩, ⟨some 20, .mov (.t 141), none⟩])
 (.seq
 (.region [⟨some 21, .mov (.c (.slice none 0 0)), none⟩])
 (.seq
 (.seq
 (.region [⟨some 22, .mov (.c (.int .i64 0)), none⟩])
 (.block 0
 (.loop
 (.seq
 (.seq
 (.region [⟨some 142, .mov (.t 22), none⟩, ⟨some 143, .mov (.t 20), none⟩, ⟨some 144, .len (.t 143), none⟩, ⟨some 145, .bin .lss (.t 142) (.t 144), none⟩])
 (.cond (.t 145)
 .skip
 (.exit 0)))
 (.seq
 (.block 1
 (.block 2
 (.seq
 (.region [⟨some 157, .mov (.t 20), none⟩, ⟨some 158, .mov (.t 22), none⟩, ⟨some 159, .isl 1 (.t 157) (.t 158), none⟩, ⟨some 160, .ld false 1 (.t 159), none⟩, ⟨some 161, .mov (.t 13), none⟩, ⟨some 162, .bin .lss (.t 160) (.t 161), none⟩, ⟨some 156, .mov (.t 162), none⟩])
 (.cond (.t 156)
 (.region [⟨some 163, .mov (.t 21), none⟩, ⟨some 164, .mov (.t 20), none⟩, ⟨some 165, .mov (.t 22), none⟩, ⟨some 166, .isl 1 (.t 164) (.t 165), none⟩, ⟨some 167, .ld false 1 (.t 166), none⟩, ⟨some 168, .bsl 1 [(.int .i64 0)] [(0, 1, (.t 167))], none⟩, ⟨some 169, .app 1 8 (.t 163) (.t 168), none⟩, ⟨some 21, .mov (.t 169), none⟩])
 (.seq
 (.region [⟨some 171, .mov (.t 20), none⟩, ⟨some 172, .mov (.t 22), none⟩, ⟨some 173, .isl 1 (.t 171) (.t 172), none⟩, ⟨some 174, .ld false 1 (.t 173), none⟩, ⟨some 175, .mov (.t 13), none⟩, ⟨some 176, .bin .eql (.t 174) (.t 175), none⟩, ⟨some 170, .mov (.t 176), none⟩])
 (.cond (.t 170)
 (.region [⟨some 177, .mov (.t 21), none⟩, ⟨some 178, .mov (.t 13), none⟩, ⟨some 179, .mov (.t 13), none⟩, ⟨some 180, .bin .add (.t 179) (.c (.int .i64 1)), none⟩, ⟨some 181, .bsl 2 [(.int .i64 0), (.int .i64 0)] [(0, 1, (.t 178)), (1, 1, (.t 180))], none⟩, ⟨some 182, .app 1 8 (.t 177) (.t 181), none⟩, ⟨some 21, .mov (.t 182), none⟩])
 (.region [⟨some 148, .mov (.t 21), none⟩, ⟨some 149, .mov (.t 20), none⟩, ⟨some 150, .mov (.t 22), none⟩, ⟨some 151, .isl 1 (.t 149) (.t 150), none⟩, ⟨some 152, .ld false 1 (.t 151), none⟩, ⟨some 153, .bin .add (.t 152) (.c (.int .i64 1)), none⟩, ⟨some 154, .bsl 1 [(.int .i64 0)] [(0, 1, (.t 153))], none⟩, ⟨some 155, .app 1 8 (.t 148) (.t 154), none⟩, ⟨some 21, .mov (.t 155), none⟩])))))))
 (.region [⟨some 146, .mov (.t 22), none⟩, ⟨some 147, .bin .add (.t 146) (.c (.int .i64 1)), none⟩, ⟨some 22, .mov (.t 147), none⟩]))))))
 (.seq
 (.region [⟨some 184, .ld true 10 (.t 6), none⟩, ⟨some 185, .call (.c (.func (.func 18) #[] #[])) [(.t 184)], none⟩, ⟨some 186, .mov (.t 20), none⟩, ⟨some 187, .call (.c (.func (.func 20) #[] #[])) [(.t 186)], none⟩, ⟨some 188, .call (.c (.func (.func 19) #[] #[])) [(.t 185), (.t 187)], none⟩, ⟨some 183, .mov (.t 188), none⟩, ⟨some 189, .ext (.t 183) 0, none⟩, ⟨some 190, .ext (.t 183) 1, none⟩, ⟨some 23, .mov (.t 189), none⟩, ⟨some 24, .mov (.t 190), none⟩])
 (.seq
 (.region [⟨some 192, .ld true 10 (.t 19), none⟩, ⟨some 193, .call (.c (.func (.func 18) #[] #[])) [(.t 192)], none⟩, ⟨some 194, .mov (.t 21), none⟩, ⟨some 195, .call (.c (.func (.func 19) #[] #[])) [(.t 193), (.t 194)], none⟩, ⟨some 191, .mov (.t 195), none⟩, ⟨some 196, .ext (.t 191) 0, none⟩, ⟨some 197, .ext (.t 191) 1, none⟩, ⟨some 25, .mov (.t 196), none⟩, ⟨some 26, .mov (.t 197), none⟩])
 (.seq
 (.draw 22 [⟨⟨some 198, .mov (.t 24), none⟩, 0, false, []⟩, ⟨⟨some 199, .bin .eql (.t 198) (.c (.int .i64 0)), none⟩, 1, false, []⟩, ⟨⟨some 200, .mov (.t 199), none⟩, 2, false, []⟩, ⟨⟨some 201, .mov (.t 26), (some (200, true))⟩, 3, false, []⟩, ⟨⟨some 202, .bin .eql (.t 201) (.c (.int .i64 0)), (some (200, true))⟩, 4, false, []⟩, ⟨⟨some 203, .pick (.t 200) (.t 202) (.c (.bool false)), none⟩, 5, false, []⟩, ⟨⟨some 204, .mov (.t 203), none⟩, 6, false, []⟩, ⟨⟨some 205, .mov (.t 23), (some (204, true))⟩, 7, false, []⟩, ⟨⟨some 206, .mov (.t 25), (some (204, true))⟩, 8, false, []⟩, ⟨⟨some 207, .gen 219 ⟨some 207, (.binOp .eql 4 (.tmp 205) (.tmp 206) 4), 4, "outright.go:402", #[{ on := 7, ground := Go.Ground.data }, { on := 8, ground := Go.Ground.data }, { on := 6, ground := Go.Ground.guard }], (some (6, true))⟩, (some (204, true))⟩, 9, false, []⟩, ⟨⟨some 208, .pick (.t 204) (.t 207) (.c (.bool false)), none⟩, 10, false, []⟩, ⟨⟨some 209, .mov (.t 208), none⟩, 11, false, []⟩, ⟨⟨some 210, .ld true 10 (.t 19), (some (209, true))⟩, 12, false, []⟩, ⟨⟨some 212, .ld true 10 (.t 6), (some (209, true))⟩, 14, false, []⟩, ⟨⟨some 211, .call (.c (.func (.func 53) #[] #[])) [(.t 210)], (some (209, true))⟩, 13, true, [14]⟩, ⟨⟨some 213, .call (.c (.func (.func 53) #[] #[])) [(.t 212)], (some (209, true))⟩, 15, true, []⟩, ⟨⟨some 214, .bin .leq (.t 211) (.t 213), (some (209, true))⟩, 16, false, []⟩, ⟨⟨some 215, .pick (.t 209) (.t 214) (.c (.bool false)), none⟩, 17, false, []⟩, ⟨⟨some 216, .mov (.t 215), none⟩, 18, false, []⟩, ⟨⟨some 217, .call (.c (.func (.func 16) #[] #[])) [], (some (216, true))⟩, 19, true, []⟩, ⟨⟨some 218, .pick (.t 216) (.t 217) (.c (.bool false)), none⟩, 20, false, []⟩, ⟨⟨some 12, .mov (.t 218), none⟩, 21, false, []⟩])
 .ret))))))))))))))))
def r13 : List AOp := [(.mov (.t 12))]
theorem ok13 : FnOk Tryd.prog 13 Tryd.f13.ntmps a13 r13 := ⟨Tryd.f13, Tryd.func13, by kernel_rfl, by kernel_rfl, by kernel_rfl, fun asv w => by simp⟩

def a15 : ACode :=
 (.seq
 (.region [⟨some 1, .box (.t 0), none⟩, ⟨some 2, .mov (.c (.bool false)), none⟩])
 (.seq
 (.seq
 (.region [⟨some 3, .mov (.c (.int .i64 0)), none⟩])
 (.block 0
 (.loop
 (.seq
 (.seq
 (.region [⟨some 4, .mov (.t 3), none⟩, ⟨some 5, .fa 8 (.t 1), none⟩, ⟨some 6, .ld false 1 (.t 5), none⟩, ⟨some 7, .len (.t 6), none⟩, ⟨some 8, .bin .lss (.t 4) (.t 7), none⟩])
 (.cond (.t 8)
 .skip
 (.exit 0)))
 (.seq
 (.block 1
 (.seq
 (.region [⟨some 11, .mov (.t 3), none⟩, ⟨some 12, .bin .gtr (.t 11) (.c (.int .i64 10)), none⟩, ⟨some 13, .mov (.t 12), none⟩, ⟨some 14, .fa 8 (.t 1), (some (13, false))⟩, ⟨some 15, .ld false 1 (.t 14), (some (13, false))⟩, ⟨some 16, .mov (.t 3), (some (13, false))⟩, ⟨some 17, .isl 1 (.t 15) (.t 16), (some (13, false))⟩, ⟨some 18, .ld false 1 (.t 17), (some (13, false))⟩, ⟨some 19, .len (.t 18), (some (13, false))⟩, ⟨some 20, .bin .gtr (.t 19) (.c (.int .i64 14)), (some (13, false))⟩, ⟨some 21, .pick (.t 13) (.c (.bool true)) (.t 20), none⟩])
 (.cond (.t 21)
 (.seq
 (.region [⟨some 2, .mov (.c (.bool false)), none⟩])
 .ret)
 .skip)))
 (.region [⟨some 9, .mov (.t 3), none⟩, ⟨some 10, .bin .add (.t 9) (.c (.int .i64 1)), none⟩, ⟨some 3, .mov (.t 10), none⟩]))))))
 (.seq
 (.region [⟨some 22, .fa 8 (.t 1), none⟩, ⟨some 23, .ld false 1 (.t 22), none⟩, ⟨some 24, .len (.t 23), none⟩, ⟨some 25, .bin .leq (.t 24) (.c (.int .i64 10)), none⟩, ⟨some 26, .mov (.t 25), none⟩, ⟨some 27, .fa 9 (.t 1), (some (26, true))⟩, ⟨some 28, .ld false 1 (.t 27), (some (26, true))⟩, ⟨some 29, .len (.t 28), (some (26, true))⟩, ⟨some 30, .bin .leq (.t 29) (.c (.int .i64 8)), (some (26, true))⟩, ⟨some 31, .pick (.t 26) (.t 30) (.c (.bool false)), none⟩, ⟨some 32, .mov (.t 31), none⟩, ⟨some 33, .fa 9 (.t 1), (some (32, true))⟩, ⟨some 34, .ld false 1 (.t 33), (some (32, true))⟩, ⟨some 35, .call (.c (.func (.func 26) #[] #[])) [(.t 34)], (some (32, true))⟩, ⟨some 36, .pick (.t 32) (.t 35) (.c (.bool false)), none⟩, ⟨some 2, .mov (.t 36), none⟩])
 .ret)))
def r15 : List AOp := [(.mov (.t 2))]
theorem ok15 : FnOk Tryd.prog 15 Tryd.f15.ntmps a15 r15 := ⟨Tryd.f15, Tryd.func15, by kernel_rfl, by kernel_rfl, by kernel_rfl, fun asv w => by simp⟩

def a16 : ACode :=
 (.seq
 (.region [⟨some 0, .mov (.c (.bool false)), none⟩])
 (.seq
 (.region [⟨some 11, .call (.c (.func (.func 44) #[] #[])) [], none⟩, ⟨some 12, .bsl 2 [(.int .i64 0), (.int .i64 0)] [(0, 1, (.c (.int .i64 0))), (1, 1, (.c (.int .i64 2)))], none⟩, ⟨some 13, .call (.c (.func (.func 19) #[] #[])) [(.t 11), (.t 12)], none⟩, ⟨some 10, .mov (.t 13), none⟩, ⟨some 14, .ext (.t 10) 0, none⟩, ⟨some 15, .ext (.t 10) 1, none⟩, ⟨some 1, .mov (.t 14), none⟩, ⟨some 2, .mov (.t 15), none⟩])
 (.seq
 (.region [⟨some 17, .call (.c (.func (.func 44) #[] #[])) [], none⟩, ⟨some 18, .bsl 2 [(.int .i64 0), (.int .i64 0)] [(0, 1, (.c (.int .i64 0))), (1, 1, (.c (.int .i64 1)))], none⟩, ⟨some 19, .call (.c (.func (.func 19) #[] #[])) [(.t 17), (.t 18)], none⟩, ⟨some 16, .mov (.t 19), none⟩, ⟨some 20, .ext (.t 16) 0, none⟩, ⟨some 21, .ext (.t 16) 1, none⟩, ⟨some 3, .mov (.t 20), none⟩, ⟨some 4, .mov (.t 21), none⟩])
 (.seq
 (.region [⟨some 23, .call (.c (.func (.func 44) #[] #[])) [], none⟩, ⟨some 24, .call (.c (.func (.func 45) #[] #[])) [(.t 23)], none⟩, ⟨some 22, .mov (.t 24), none⟩, ⟨some 25, .ext (.t 22) 0, none⟩, ⟨some 26, .ext (.t 22) 1, none⟩, ⟨some 27, .ext (.t 22) 2, none⟩, ⟨some 5, .mov (.t 25), none⟩, ⟨some 6, .mov (.t 26), none⟩, ⟨some 7, .mov (.t 27), none⟩])
 (.seq
 (.region [⟨some 29, .call (.c (.func (.func 44) #[] #[])) [], none⟩, ⟨some 30, .bsl 5 [(.int .i64 0), (.int .i64 0), (.int .i64 0), (.int .i64 0), (.int .i64 0)] [(0, 1, (.c (.int .i64 1000))), (1, 1, (.c (.int .i64 1000))), (2, 1, (.c (.int .i64 0))), (3, 1, (.c (.int .i64 1000))), (4, 1, (.c (.int .i64 0)))], none⟩, ⟨some 31, .call (.c (.func (.func 41) #[] #[])) [(.t 29), (.t 30)], none⟩, ⟨some 28, .mov (.t 31), none⟩, ⟨some 32, .ext (.t 28) 0, none⟩, ⟨some 33, .ext (.t 28) 1, none⟩, ⟨some 8, .mov (.t 32), none⟩, ⟨some 9, .mov (.t 33), none⟩])
 (.seq
 (.region [⟨some 34, .mov (.t 2), none⟩, ⟨some 35, .bin .eql (.t 34) (.c (.int .i64 0)), none⟩, ⟨some 36, .mov (.t 35), none⟩, ⟨some 37, .mov (.t 1), (some (36, true))⟩, ⟨some 38, .pick (.t 36) (.t 37) (.c (.bool false)), none⟩, ⟨some 39, .mov (.t 38), none⟩, ⟨some 40, .mov (.t 4), (some (39, true))⟩, ⟨some 41, .bin .eql (.t 40) (.c (.int .i64 0)), (some (39, true))⟩, ⟨some 42, .pick (.t 39) (.t 41) (.c (.bool false)), none⟩, ⟨some 43, .mov (.t 42), none⟩, ⟨some 44, .mov (.t 3), (some (43, true))⟩, ⟨some 45, .not (.t 44), (some (43, true))⟩, ⟨some 46, .pick (.t 43) (.t 45) (.c (.bool false)), none⟩, ⟨some 47, .mov (.t 46), none⟩, ⟨some 48, .mov (.t 7), (some (47, true))⟩, ⟨some 49, .bin .eql (.t 48) (.c (.int .i64 0)), (some (47, true))⟩, ⟨some 50, .pick (.t 47) (.t 49) (.c (.bool false)), none⟩, ⟨some 51, .mov (.t 50), none⟩, ⟨some 52, .mov (.t 5), (some (51, true))⟩, ⟨some 53, .len (.t 52), (some (51, true))⟩, ⟨some 54, .bin .eql (.t 53) (.c (.int .i64 3)), (some (51, true))⟩, ⟨some 55, .pick (.t 51) (.t 54) (.c (.bool false)), none⟩, ⟨some 56, .mov (.t 55), none⟩, ⟨some 57, .mov (.t 6), (some (56, true))⟩, ⟨some 58, .bin .eql (.t 57) (.c (.int .i64 990)), (some (56, true))⟩, ⟨some 59, .pick (.t 56) (.t 58) (.c (.bool false)), none⟩, ⟨some 60, .mov (.t 59), none⟩, ⟨some 61, .mov (.t 9), (some (60, true))⟩, ⟨some 62, .bin .eql (.t 61) (.c (.int .i64 0)), (some (60, true))⟩, ⟨some 63, .pick (.t 60) (.t 62) (.c (.bool false)), none⟩, ⟨some 64, .mov (.t 63), none⟩, ⟨some 65, .mov (.t 8), (some (64, true))⟩, ⟨some 66, .bin .eql (.t 65) (.c (.int .i64 3)), (some (64, true))⟩, ⟨some 67, .pick (.t 64) (.t 66) (.c (.bool false)), none⟩, ⟨some 0, .mov (.t 67), none⟩])
 .ret))))))
def r16 : List AOp := [(.mov (.t 0))]
theorem ok16 : FnOk Tryd.prog 16 Tryd.f16.ntmps a16 r16 := ⟨Tryd.f16, Tryd.func16, by kernel_rfl, by kernel_rfl, by kernel_rfl, fun asv w => by simp⟩

def a17 : ACode :=
 (.seq
 (.region [⟨some 1, .box (.t 0), none⟩, ⟨some 2, .mov (.c (.int .i64 0)), none⟩])
 (.seq
 (.block 0
 (.seq
 (.seq
 (.region [⟨some 4, .fa 8 (.t 1), none⟩, ⟨some 5, .ld false 1 (.t 4), none⟩, ⟨some 6, .len (.t 5), none⟩, ⟨some 7, .bin .gtr (.t 6) (.c (.int .i64 6)), none⟩, ⟨some 3, .mov (.t 7), none⟩])
 (.cond (.t 3)
 .skip
 (.seq
 (.region [⟨some 8, .fa 9 (.t 1), none⟩, ⟨some 9, .ld false 1 (.t 8), none⟩, ⟨some 10, .len (.t 9), none⟩, ⟨some 11, .bin .gtr (.t 10) (.c (.int .i64 5)), none⟩, ⟨some 3, .mov (.t 11), none⟩])
 (.cond (.t 3)
 .skip
 (.region [⟨some 12, .ld true 10 (.t 1), none⟩, ⟨some 13, .call (.c (.func (.func 55) #[] #[])) [(.t 12)], none⟩, ⟨some 14, .bin .gtr (.t 13) (.c (.int .i64 10)), none⟩, ⟨some 3, .mov (.t 14), none⟩])))))
 (.cond (.t 3)
 (.seq
 (.region [⟨some 2, .mov (.c (.int .i64 3)), none⟩])
 .ret)
 (.seq
 (.seq
 (.region [⟨some 16, .fa 0 (.t 1), none⟩, ⟨some 17, .ld true 8 (.t 16), none⟩, ⟨some 18, .call (.c (.func (.func 56) #[] #[])) [(.t 17)], none⟩, ⟨some 19, .not (.t 18), none⟩, ⟨some 15, .mov (.t 19), none⟩])
 (.cond (.t 15)
 .skip
 (.seq
 (.region [⟨some 20, .ld true 10 (.t 1), none⟩, ⟨some 21, .call (.c (.func (.func 57) #[] #[])) [(.t 20)], none⟩, ⟨some 22, .not (.t 21), none⟩, ⟨some 15, .mov (.t 22), none⟩])
 (.cond (.t 15)
 .skip
 (.region [⟨some 23, .fa 8 (.t 1), none⟩, ⟨some 24, .ld false 1 (.t 23), none⟩, ⟨some 25, .ld true 10 (.t 1), none⟩, ⟨some 26, .fn (.func 59) [(.t 25)] [], none⟩, ⟨some 27, .call (.c (.func (.func 58) #[] #[])) [(.t 24), (.t 26)], none⟩, ⟨some 28, .not (.t 27), none⟩, ⟨some 15, .mov (.t 28), none⟩])))))
 (.cond (.t 15)
 (.seq
 (.region [⟨some 2, .mov (.c (.int .i64 1)), none⟩])
 .ret)
 .skip)))))
 (.seq
 (.region [⟨some 2, .mov (.c (.int .i64 0)), none⟩])
 .ret)))
def r17 : List AOp := [(.mov (.t 2))]
theorem ok17 : FnOk Tryd.prog 17 Tryd.f17.ntmps a17 r17 := ⟨Tryd.f17, Tryd.func17, by kernel_rfl, by kernel_rfl, by kernel_rfl, fun asv w => by simp⟩

def a18 : ACode :=
 (.seq
 (.region [⟨some 1, .box (.t 0), none⟩, ⟨some 2, .new [(.int .i64 0), (.int .i64 0), (.int .i64 0), (.int .i64 0), (.int .i64 0), (.int .i64 0), (.int .i64 0), (.int .i64 0), (.slice none 0 0), (.slice none 0 0)], none⟩])
 (.seq
 (.region [⟨some 9, .fa 0 (.t 1), none⟩, ⟨some 10, .ld true 8 (.t 9), none⟩, ⟨some 3, .new [(.int .i64 0), (.int .i64 0), (.int .i64 0), (.int .i64 0), (.int .i64 0), (.int .i64 0), (.int .i64 0), (.int .i64 0)], none⟩, ⟨none, .st 8 (.t 3) (.t 10), none⟩])
 (.seq
 (.draw 23 [⟨⟨some 11, .fa 0 (.t 3), none⟩, 0, false, []⟩, ⟨⟨some 12, .ld false 1 (.t 11), none⟩, 1, false, []⟩, ⟨⟨some 13, .fa 1 (.t 3), none⟩, 2, false, []⟩, ⟨⟨some 14, .ld false 1 (.t 13), none⟩, 3, false, []⟩, ⟨⟨some 15, .fa 2 (.t 3), none⟩, 4, false, []⟩, ⟨⟨some 16, .ld false 1 (.t 15), none⟩, 5, false, []⟩, ⟨⟨some 17, .fa 3 (.t 3), none⟩, 6, false, []⟩, ⟨⟨some 18, .ld false 1 (.t 17), none⟩, 7, false, []⟩, ⟨⟨some 19, .fa 4 (.t 3), none⟩, 8, false, []⟩, ⟨⟨some 20, .ld false 1 (.t 19), none⟩, 9, false, []⟩, ⟨⟨some 21, .fa 5 (.t 3), none⟩, 10, false, []⟩, ⟨⟨some 22, .ld false 1 (.t 21), none⟩, 11, false, []⟩, ⟨⟨some 23, .fa 6 (.t 3), none⟩, 12, false, []⟩, ⟨⟨some 24, .ld false 1 (.t 23), none⟩, 13, false, []⟩, ⟨⟨some 25, .fa 7 (.t 3), none⟩, 14, false, []⟩, ⟨⟨some 26, .ld false 1 (.t 25), none⟩, 15, false, []⟩, ⟨⟨some 27, .bld [(.int .i64 0), (.int .i64 0), (.int .i64 0), (.int .i64 0), (.int .i64 0), (.int .i64 0), (.int .i64 0), (.int .i64 0)] [(0, 1, (.t 12)), (1, 1, (.t 14)), (2, 1, (.t 16)), (3, 1, (.t 18)), (4, 1, (.t 20)), (5, 1, (.t 22)), (6, 1, (.t 24)), (7, 1, (.t 26))], none⟩, 16, false, []⟩, ⟨⟨some 28, .fa 9 (.t 1), none⟩, 17, false, []⟩, ⟨⟨some 29, .ld false 1 (.t 28), none⟩, 18, false, []⟩, ⟨⟨some 4, .new [(.int .i64 0), (.int .i64 0), (.int .i64 0), (.int .i64 0), (.int .i64 0), (.int .i64 0), (.int .i64 0), (.int .i64 0), (.slice none 0 0), (.slice none 0 0)], none⟩, 21, false, []⟩, ⟨⟨some 30, .call (.c (.func (.func 28) #[] #[])) [(.t 29)], none⟩, 19, true, [15, 13, 11, 9, 7, 5, 3, 1]⟩, ⟨⟨some 31, .bld [(.int .i64 0), (.int .i64 0), (.int .i64 0), (.int .i64 0), (.int .i64 0), (.int .i64 0), (.int .i64 0), (.int .i64 0), (.slice none 0 0), (.slice none 0 0)] [(0, 8, (.t 27)), (9, 1, (.t 30))], none⟩, 20, false, []⟩, ⟨⟨none, .st 10 (.t 4) (.t 31), none⟩, 22, true, []⟩])
 (.seq
 (.seq
 (.region [⟨some 5, .mov (.c (.int .i64 0)), none⟩])
 (.block 0
 (.loop
 (.seq
 (.seq
 (.region [⟨some 32, .mov (.t 5), none⟩, ⟨some 33, .fa 8 (.t 1), none⟩, ⟨some 34, .ld false 1 (.t 33), none⟩, ⟨some 35, .len (.t 34), none⟩, ⟨some 36, .bin .lss (.t 32) (.t 35), none⟩])
 (.cond (.t 36)
 .skip
 (.exit 0)))
 (.seq
 (.block 1
 (.seq
 (.region [⟨some 6, .mov (.c (.slice none 0 0)), none⟩])
 (.seq
 (.seq
 (.region [⟨some 7, .mov (.c (.int .i64 0)), none⟩])
 (.block 2
 (.loop
 (.seq
 (.seq
 (.region [⟨some 39, .mov (.t 7), none⟩, ⟨some 40, .fa 8 (.t 1), none⟩, ⟨some 41, .ld false 1 (.t 40), none⟩, ⟨some 42, .mov (.t 5), none⟩, ⟨some 43, .isl 1 (.t 41) (.t 42), none⟩, ⟨some 44, .ld false 1 (.t 43), none⟩, ⟨some 45, .len (.t 44), none⟩, ⟨some 46, .bin .lss (.t 39) (.t 45), none⟩])
 (.cond (.t 46)
 .skip
 (.exit 2)))
 (.seq
 (.block 3
 (.seq
 (.region [⟨some 49, .fa 8 (.t 1), none⟩, ⟨some 50, .ld false 1 (.t 49), none⟩, ⟨some 51, .mov (.t 5), none⟩, ⟨some 52, .isl 1 (.t 50) (.t 51), none⟩, ⟨some 53, .ld false 1 (.t 52), none⟩, ⟨some 54, .mov (.t 7), none⟩, ⟨some 55, .isl 3 (.t 53) (.t 54), none⟩, ⟨some 56, .ld true 3 (.t 55), none⟩, ⟨some 8, .new [(.int .i64 0), (.int .i64 0), (.int .i64 0)], none⟩, ⟨none, .st 3 (.t 8) (.t 56), none⟩])
 (.region [⟨some 57, .mov (.t 6), none⟩, ⟨some 58, .fa 0 (.t 8), none⟩, ⟨some 59, .ld false 1 (.t 58), none⟩, ⟨some 60, .fa 1 (.t 8), none⟩, ⟨some 61, .fa 0 (.t 60), none⟩, ⟨some 62, .ld false 1 (.t 61), none⟩, ⟨some 63, .fa 1 (.t 8), none⟩, ⟨some 64, .fa 1 (.t 63), none⟩, ⟨some 65, .ld false 1 (.t 64), none⟩, ⟨some 66, .bld [(.int .i64 0), (.int .i64 0)] [(0, 1, (.t 62)), (1, 1, (.t 65))], none⟩, ⟨some 67, .bld [(.int .i64 0), (.int .i64 0), (.int .i64 0)] [(0, 1, (.t 59)), (1, 2, (.t 66))], none⟩, ⟨some 68, .bsl 1 [(.int .i64 0), (.int .i64 0), (.int .i64 0)] [(0, 3, (.t 67))], none⟩, ⟨some 69, .app 3 24 (.t 57) (.t 68), none⟩, ⟨some 6, .mov (.t 69), none⟩])))
 (.region [⟨some 47, .mov (.t 7), none⟩, ⟨some 48, .bin .add (.t 47) (.c (.int .i64 1)), none⟩, ⟨some 7, .mov (.t 48), none⟩]))))))
 (.region [⟨some 70, .fa 8 (.t 4), none⟩, ⟨some 71, .ld false 1 (.t 70), none⟩, ⟨some 72, .mov (.t 6), none⟩, ⟨some 73, .bsl 1 [(.slice none 0 0)] [(0, 1, (.t 72))], none⟩, ⟨some 74, .app 1 24 (.t 71) (.t 73), none⟩, ⟨some 75, .fa 8 (.t 4), none⟩, ⟨none, .st 1 (.t 75) (.t 74), none⟩]))))
 (.region [⟨some 37, .mov (.t 5), none⟩, ⟨some 38, .bin .add (.t 37) (.c (.int .i64 1)), none⟩, ⟨some 5, .mov (.t 38), none⟩]))))))
 (.seq
 (.region [⟨some 76, .ld true 10 (.t 4), none⟩, ⟨none, .st 10 (.t 2) (.t 76), none⟩])
 .ret)))))
def r18 : List AOp := [(.ld true 10 (.t 2))]
theorem ok18 : FnOk Tryd.prog 18 Tryd.f18.ntmps a18 r18 := ⟨Tryd.f18, Tryd.func18, by kernel_rfl, by kernel_rfl, by kernel_rfl, fun asv w => by simp⟩

def a19 : ACode :=
 (.seq
 (.region [⟨some 2, .box (.t 0), none⟩, ⟨some 4, .mov (.c (.bool false)), none⟩, ⟨some 5, .mov (.c (.int .i64 0)), none⟩])
 (.seq
 (.region [⟨some 10, .ld true 10 (.t 2), none⟩, ⟨some 11, .mov (.t 1), none⟩, ⟨some 12, .call (.c (.func (.func 60) #[] #[])) [(.t 10), (.t 11)], none⟩, ⟨some 9, .mov (.t 12), none⟩, ⟨some 13, .ext (.t 9) 0, none⟩, ⟨some 14, .ext (.t 9) 1, none⟩, ⟨some 15, .ext (.t 9) 2, none⟩, ⟨some 6, .new [(.int .i64 0), (.int .i64 0), (.int .i64 0), (.int .i64 0), (.int .i64 0), (.int .i64 0), (.int .i64 0), (.int .i64 0), (.slice none 0 0), (.slice none 0 0), (.slice none 0 0), (.slice none 0 0), (.slice none 0 0)], none⟩, ⟨none, .st 13 (.t 6) (.t 13), none⟩, ⟨some 7, .mov (.t 14), none⟩, ⟨some 8, .mov (.t 15), none⟩])
 (.seq
 (.seq
 (.region [⟨some 16, .mov (.t 8), none⟩, ⟨some 17, .bin .neq (.t 16) (.c (.int .i64 0)), none⟩])
 (.cond (.t 17)
 (.seq
 (.region [⟨some 18, .mov (.t 8), none⟩, ⟨some 4, .mov (.c (.bool false)), none⟩, ⟨some 5, .mov (.t 18), none⟩])
 .ret)
 .skip))
 (.seq
 (.region [⟨some 19, .ld true 13 (.t 6), none⟩, ⟨some 20, .mov (.t 7), none⟩, ⟨some 21, .call (.c (.func (.func 61) #[] #[])) [(.t 19), (.t 20)], none⟩, ⟨some 4, .mov (.t 21), none⟩, ⟨some 5, .mov (.c (.int .i64 0)), none⟩])
 .ret))))
def r19 : List AOp := [(.mov (.t 4)), (.mov (.t 5))]
theorem ok19 : FnOk Tryd.prog 19 Tryd.f19.ntmps a19 r19 := ⟨Tryd.f19, Tryd.func19, by kernel_rfl, by kernel_rfl, by kernel_rfl, fun asv w => by simp⟩

def a20 : ACode :=
 (.seq
 (.region [⟨some 2, .mov (.c (.slice none 0 0)), none⟩])
 (.seq
 (.region [⟨some 3, .bsl 0 [] [], none⟩, ⟨some 4, .mov (.t 0), none⟩, ⟨some 5, .app 1 8 (.t 3) (.t 4), none⟩, ⟨some 2, .mov (.t 5), none⟩])
 .ret))
def r20 : List AOp := [(.mov (.t 2))]
theorem ok20 : FnOk Tryd.prog 20 Tryd.f20.ntmps a20 r20 := ⟨Tryd.f20, Tryd.func20, by kernel_rfl, by kernel_rfl, by kernel_rfl, fun asv w => by simp⟩

def a26 : ACode :=
 (.seq
 (.region [⟨some 2, .mov (.c (.bool false)), none⟩])
 (.seq
 (.seq
 (.region [⟨some 3, .mov (.c (.int .i64 0)), none⟩])
 (.block 0
 (.loop
 (.seq
 (.seq
 (.region [⟨some 4, .mov (.t 3), none⟩, ⟨some 5, .mov (.t 0), none⟩, ⟨some 6, .len (.t 5), none⟩, ⟨some 7, .bin .lss (.t 4) (.t 6), none⟩])
 (.cond (.t 7)
 .skip
 (.exit 0)))
 (.seq
 (.block 1
 (.seq
 (.region [⟨some 10, .mov (.t 3), none⟩, ⟨some 11, .bin .gtr (.t 10) (.c (.int .i64 12)), none⟩, ⟨some 12, .mov (.t 11), none⟩, ⟨some 13, .mov (.t 0), (some (12, false))⟩, ⟨some 14, .mov (.t 3), (some (12, false))⟩, ⟨some 15, .isl 1 (.t 13) (.t 14), (some (12, false))⟩, ⟨some 16, .ld false 1 (.t 15), (some (12, false))⟩, ⟨some 17, .len (.t 16), (some (12, false))⟩, ⟨some 18, .bin .gtr (.t 17) (.c (.int .i64 14)), (some (12, false))⟩, ⟨some 19, .pick (.t 12) (.c (.bool true)) (.t 18), none⟩])
 (.cond (.t 19)
 (.seq
 (.region [⟨some 2, .mov (.c (.bool false)), none⟩])
 .ret)
 .skip)))
 (.region [⟨some 8, .mov (.t 3), none⟩, ⟨some 9, .bin .add (.t 8) (.c (.int .i64 1)), none⟩, ⟨some 3, .mov (.t 9), none⟩]))))))
 (.seq
 (.region [⟨some 20, .mov (.t 0), none⟩, ⟨some 21, .len (.t 20), none⟩, ⟨some 22, .bin .leq (.t 21) (.c (.int .i64 12)), none⟩, ⟨some 2, .mov (.t 22), none⟩])
 .ret)))
def r26 : List AOp := [(.mov (.t 2))]
theorem ok26 : FnOk Tryd.prog 26 Tryd.f26.ntmps a26 r26 := ⟨Tryd.f26, Tryd.func26, by kernel_rfl, by kernel_rfl, by kernel_rfl, fun asv w => by simp⟩

def a28 : ACode :=
 (.seq
 (.region [⟨some 2, .mov (.c (.slice none 0 0)), none⟩])
 (.seq
 (.region [⟨some 3, .mov (.c (.slice none 0 0)), none⟩])
 (.seq
 (.seq
 (.region [⟨some 4, .mov (.c (.int .i64 0)), none⟩])
 (.block 0
 (.loop
 (.seq
 (.seq
 (.region [⟨some 5, .mov (.t 4), none⟩, ⟨some 6, .mov (.t 0), none⟩, ⟨some 7, .len (.t 6), none⟩, ⟨some 8, .bin .lss (.t 5) (.t 7), none⟩])
 (.cond (.t 8)
 .skip
 (.exit 0)))
 (.seq
 (.block 1
 (.region [⟨some 11, .mov (.t 3), none⟩, ⟨some 12, .mov (.t 0), none⟩, ⟨some 13, .mov (.t 4), none⟩, ⟨some 14, .isl 1 (.t 12) (.t 13), none⟩, ⟨some 15, .ld false 1 (.t 14), none⟩, ⟨some 16, .call (.c (.func (.func 20) #[] #[])) [(.t 15)], none⟩, ⟨some 17, .bsl 1 [(.slice none 0 0)] [(0, 1, (.t 16))], none⟩, ⟨some 18, .app 1 24 (.t 11) (.t 17), none⟩, ⟨some 3, .mov (.t 18), none⟩]))
 (.region [⟨some 9, .mov (.t 4), none⟩, ⟨some 10, .bin .add (.t 9) (.c (.int .i64 1)), none⟩, ⟨some 4, .mov (.t 10), none⟩]))))))
 (.seq
 (.region [⟨some 19, .mov (.t 3), none⟩, ⟨some 2, .mov (.t 19), none⟩])
 .ret))))
def r28 : List AOp := [(.mov (.t 2))]
theorem ok28 : FnOk Tryd.prog 28 Tryd.f28.ntmps a28 r28 := ⟨Tryd.f28, Tryd.func28, by kernel_rfl, by kernel_rfl, by kernel_rfl, fun asv w => by simp⟩

def a36 : ACode :=
 (.seq
 (.region [⟨some 1, .box (.t 0), none⟩, ⟨some 2, .mov (.c (.int .i64 0)), none⟩])
 (.seq
 (.seq
 (.region [⟨some 11, .fa 8 (.t 1), none⟩, ⟨some 12, .ld false 1 (.t 11), none⟩, ⟨some 13, .len (.t 12), none⟩, ⟨some 14, .bin .gtr (.t 13) (.c (.int .i64 6)), none⟩, ⟨some 15, .mov (.t 14), none⟩, ⟨some 16, .fa 9 (.t 1), (some (15, false))⟩, ⟨some 17, .ld false 1 (.t 16), (some (15, false))⟩, ⟨some 18, .len (.t 17), (some (15, false))⟩, ⟨some 19, .bin .gtr (.t 18) (.c (.int .i64 5)), (some (15, false))⟩, ⟨some 20, .pick (.t 15) (.c (.bool true)) (.t 19), none⟩, ⟨some 21, .mov (.t 20), none⟩, ⟨some 22, .ld true 10 (.t 1), (some (21, false))⟩, ⟨some 23, .call (.c (.func (.func 37) #[] #[])) [(.t 22)], (some (21, false))⟩, ⟨some 24, .bin .gtr (.t 23) (.c (.int .i64 10)), (some (21, false))⟩, ⟨some 25, .pick (.t 21) (.c (.bool true)) (.t 24), none⟩])
 (.cond (.t 25)
 (.seq
 (.region [⟨some 2, .mov (.c (.int .i64 3)), none⟩])
 .ret)
 .skip))
 (.seq
 (.region [⟨some 26, .fa 0 (.t 1), none⟩, ⟨some 27, .ld true 8 (.t 26), none⟩, ⟨some 3, .new [(.int .i64 0), (.int .i64 0), (.int .i64 0), (.int .i64 0), (.int .i64 0), (.int .i64 0), (.int .i64 0), (.int .i64 0)], none⟩, ⟨none, .st 8 (.t 3) (.t 27), none⟩])
 (.seq
 (.region [⟨some 28, .fa 0 (.t 3), none⟩, ⟨some 29, .ld false 1 (.t 28), none⟩, ⟨some 30, .fa 1 (.t 3), none⟩, ⟨some 31, .ld false 1 (.t 30), none⟩, ⟨some 32, .fa 2 (.t 3), none⟩, ⟨some 33, .ld false 1 (.t 32), none⟩, ⟨some 34, .fa 3 (.t 3), none⟩, ⟨some 35, .ld false 1 (.t 34), none⟩, ⟨some 36, .fa 4 (.t 3), none⟩, ⟨some 37, .ld false 1 (.t 36), none⟩, ⟨some 38, .fa 5 (.t 3), none⟩, ⟨some 39, .ld false 1 (.t 38), none⟩, ⟨some 40, .fa 6 (.t 3), none⟩, ⟨some 41, .ld false 1 (.t 40), none⟩, ⟨some 42, .bsl 7 [(.int .i64 0), (.int .i64 0), (.int .i64 0), (.int .i64 0), (.int .i64 0), (.int .i64 0), (.int .i64 0)] [(0, 1, (.t 29)), (1, 1, (.t 31)), (2, 1, (.t 33)), (3, 1, (.t 35)), (4, 1, (.t 37)), (5, 1, (.t 39)), (6, 1, (.t 41))], none⟩, ⟨some 4, .mov (.t 42), none⟩])
 (.seq
 (.seq
 (.region [⟨some 5, .mov (.c (.int .i64 0)), none⟩])
 (.block 0
 (.loop
 (.seq
 (.seq
 (.region [⟨some 43, .mov (.t 5), none⟩, ⟨some 44, .mov (.t 4), none⟩, ⟨some 45, .len (.t 44), none⟩, ⟨some 46, .bin .lss (.t 43) (.t 45), none⟩])
 (.cond (.t 46)
 .skip
 (.exit 0)))
 (.seq
 (.block 1
 (.seq
 (.region [⟨some 49, .mov (.t 4), none⟩, ⟨some 50, .mov (.t 5), none⟩, ⟨some 51, .isl 1 (.t 49) (.t 50), none⟩, ⟨some 52, .ld false 1 (.t 51), none⟩, ⟨some 53, .call (.c (.func (.func 63) #[] #[])) [(.t 52), (.c (.int .i64 0)), (.c (.int .i64 3000))], none⟩, ⟨some 54, .not (.t 53), none⟩])
 (.cond (.t 54)
 (.seq
 (.region [⟨some 2, .mov (.c (.int .i64 1)), none⟩])
 .ret)
 .skip)))
 (.region [⟨some 47, .mov (.t 5), none⟩, ⟨some 48, .bin .add (.t 47) (.c (.int .i64 1)), none⟩, ⟨some 5, .mov (.t 48), none⟩]))))))
 (.seq
 (.seq
 (.region [⟨some 55, .fa 3 (.t 3), none⟩, ⟨some 56, .ld false 1 (.t 55), none⟩, ⟨some 57, .bin .eql (.t 56) (.c (.int .i64 0)), none⟩, ⟨some 58, .mov (.t 57), none⟩, ⟨some 59, .fa 7 (.t 3), (some (58, false))⟩, ⟨some 60, .ld false 1 (.t 59), (some (58, false))⟩, ⟨some 61, .call (.c (.func (.func 63) #[] #[])) [(.t 60), (.c (.int .i64 1)), (.c (.int .i64 3))], (some (58, false))⟩, ⟨some 62, .not (.t 61), (some (58, false))⟩, ⟨some 63, .pick (.t 58) (.c (.bool true)) (.t 62), none⟩, ⟨some 64, .mov (.t 63), none⟩, ⟨some 65, .fa 9 (.t 1), (some (64, false))⟩, ⟨some 66, .ld false 1 (.t 65), (some (64, false))⟩, ⟨some 67, .len (.t 66), (some (64, false))⟩, ⟨some 68, .bin .eql (.t 67) (.c (.int .i64 0)), (some (64, false))⟩, ⟨some 69, .pick (.t 64) (.c (.bool true)) (.t 68), none⟩])
 (.cond (.t 69)
 (.seq
 (.region [⟨some 2, .mov (.c (.int .i64 1)), none⟩])
 .ret)
 .skip))
 (.seq
 (.seq
 (.region [⟨some 6, .mov (.c (.int .i64 0)), none⟩])
 (.block 2
 (.loop
 (.seq
 (.seq
 (.region [⟨some 70, .mov (.t 6), none⟩, ⟨some 71, .fa 9 (.t 1), none⟩, ⟨some 72, .ld false 1 (.t 71), none⟩, ⟨some 73, .len (.t 72), none⟩, ⟨some 74, .bin .lss (.t 70) (.t 73), none⟩])
 (.cond (.t 74)
 .skip
 (.exit 2)))
 (.seq
 (.block 3
 (.seq
 (.seq
 (.draw 21 [⟨⟨some 77, .fa 9 (.t 1), none⟩, 0, false, []⟩, ⟨⟨some 78, .ld false 1 (.t 77), none⟩, 1, false, []⟩, ⟨⟨some 79, .mov (.t 6), none⟩, 2, false, []⟩, ⟨⟨some 80, .isl 1 (.t 78) (.t 79), none⟩, 3, false, []⟩, ⟨⟨some 81, .ld false 1 (.t 80), none⟩, 4, false, []⟩, ⟨⟨some 82, .len (.t 81), none⟩, 5, false, []⟩, ⟨⟨some 83, .fa 9 (.t 1), none⟩, 6, false, []⟩, ⟨⟨some 84, .ld false 1 (.t 83), none⟩, 7, false, []⟩, ⟨⟨some 85, .len (.t 84), none⟩, 8, false, []⟩, ⟨⟨some 86, .bin .neq (.t 82) (.t 85), none⟩, 9, false, []⟩, ⟨⟨some 87, .mov (.t 86), none⟩, 10, false, []⟩, ⟨⟨some 88, .fa 9 (.t 1), (some (87, false))⟩, 11, false, []⟩, ⟨⟨some 89, .ld false 1 (.t 88), (some (87, false))⟩, 12, false, []⟩, ⟨⟨some 90, .mov (.t 6), (some (87, false))⟩, 13, false, []⟩, ⟨⟨some 91, .isl 1 (.t 89) (.t 90), (some (87, false))⟩, 14, false, []⟩, ⟨⟨some 92, .ld false 1 (.t 91), (some (87, false))⟩, 15, false, []⟩, ⟨⟨some 93, .mov (.t 6), (some (87, false))⟩, 16, false, []⟩, ⟨⟨some 94, .isl 1 (.t 92) (.t 93), (some (87, false))⟩, 17, false, []⟩, ⟨⟨some 95, .ld false 1 (.t 94), (some (87, false))⟩, 18, false, []⟩, ⟨⟨some 96, .bin .neq (.t 95) (.c (.int .i64 0)), (some (87, false))⟩, 19, false, []⟩, ⟨⟨some 97, .pick (.t 87) (.c (.bool true)) (.t 96), none⟩, 20, false, []⟩])
 (.cond (.t 97)
 (.seq
 (.region [⟨some 2, .mov (.c (.int .i64 1)), none⟩])
 .ret)
 .skip))
 (.seq
 (.region [⟨some 7, .mov (.c (.int .i64 0)), none⟩])
 (.block 4
 (.loop
 (.seq
 (.seq
 (.region [⟨some 98, .mov (.t 7), none⟩, ⟨some 99, .fa 9 (.t 1), none⟩, ⟨some 100, .ld false 1 (.t 99), none⟩, ⟨some 101, .len (.t 100), none⟩, ⟨some 102, .bin .lss (.t 98) (.t 101), none⟩])
 (.cond (.t 102)
 .skip
 (.exit 4)))
 (.seq
 (.block 5
 (.seq
 (.region [⟨some 105, .fa 9 (.t 1), none⟩, ⟨some 106, .ld false 1 (.t 105), none⟩, ⟨some 107, .mov (.t 6), none⟩, ⟨some 108, .isl 1 (.t 106) (.t 107), none⟩, ⟨some 109, .ld false 1 (.t 108), none⟩, ⟨some 110, .mov (.t 7), none⟩, ⟨some 111, .isl 1 (.t 109) (.t 110), none⟩, ⟨some 112, .ld false 1 (.t 111), none⟩, ⟨some 113, .call (.c (.func (.func 63) #[] #[])) [(.t 112), (.c (.int .i64 0)), (.c (.int .i64 3000))], none⟩, ⟨some 114, .not (.t 113), none⟩])
 (.cond (.t 114)
 (.seq
 (.region [⟨some 2, .mov (.c (.int .i64 1)), none⟩])
 .ret)
 .skip)))
 (.region [⟨some 103, .mov (.t 7), none⟩, ⟨some 104, .bin .add (.t 103) (.c (.int .i64 1)), none⟩, ⟨some 7, .mov (.t 104), none⟩]))))))))
 (.region [⟨some 75, .mov (.t 6), none⟩, ⟨some 76, .bin .add (.t 75) (.c (.int .i64 1)), none⟩, ⟨some 6, .mov (.t 76), none⟩]))))))
 (.seq
 (.seq
 (.region [⟨some 8, .mov (.c (.int .i64 0)), none⟩])
 (.block 6
 (.loop
 (.seq
 (.seq
 (.region [⟨some 115, .mov (.t 8), none⟩, ⟨some 116, .fa 8 (.t 1), none⟩, ⟨some 117, .ld false 1 (.t 116), none⟩, ⟨some 118, .len (.t 117), none⟩, ⟨some 119, .bin .lss (.t 115) (.t 118), none⟩])
 (.cond (.t 119)
 .skip
 (.exit 6)))
 (.seq
 (.block 7
 (.seq
 (.region [⟨some 122, .fa 8 (.t 1), none⟩, ⟨some 123, .ld false 1 (.t 122), none⟩, ⟨some 124, .mov (.t 8), none⟩, ⟨some 125, .isl 1 (.t 123) (.t 124), none⟩, ⟨some 126, .ld false 1 (.t 125), none⟩, ⟨some 9, .mov (.t 126), none⟩])
 (.seq
 (.seq
 (.region [⟨some 127, .mov (.t 9), none⟩, ⟨some 128, .len (.t 127), none⟩, ⟨some 129, .bin .lss (.t 128) (.c (.int .i64 2)), none⟩])
 (.cond (.t 129)
 (.seq
 (.region [⟨some 2, .mov (.c (.int .i64 1)), none⟩])
 .ret)
 .skip))
 (.seq
 (.region [⟨some 10, .mov (.c (.int .i64 0)), none⟩])
 (.block 8
 (.loop
 (.seq
 (.seq
 (.region [⟨some 130, .mov (.t 10), none⟩, ⟨some 131, .mov (.t 9), none⟩, ⟨some 132, .len (.t 131), none⟩, ⟨some 133, .bin .lss (.t 130) (.t 132), none⟩])
 (.cond (.t 133)
 .skip
 (.exit 8)))
 (.seq
 (.block 9
 (.seq
 (.seq
 (.draw 36 [⟨⟨some 136, .mov (.t 9), none⟩, 0, false, []⟩, ⟨⟨some 137, .mov (.t 10), none⟩, 1, false, []⟩, ⟨⟨some 138, .isl 3 (.t 136) (.t 137), none⟩, 2, false, []⟩, ⟨⟨some 139, .fa 0 (.t 138), none⟩, 3, false, []⟩, ⟨⟨some 140, .ld false 1 (.t 139), none⟩, 4, false, []⟩, ⟨⟨some 141, .fa 9 (.t 1), none⟩, 5, false, []⟩, ⟨⟨some 142, .ld false 1 (.t 141), none⟩, 6, false, []⟩, ⟨⟨some 143, .len (.t 142), none⟩, 7, false, []⟩, ⟨⟨some 144, .bin .sub (.t 143) (.c (.int .i64 1)), none⟩, 8, false, []⟩, ⟨⟨some 145, .call (.c (.func (.func 63) #[] #[])) [(.t 140), (.c (.int .i64 0)), (.t 144)], none⟩, 9, true, []⟩, ⟨⟨some 146, .not (.t 145), none⟩, 10, false, []⟩, ⟨⟨some 147, .mov (.t 146), none⟩, 11, false, []⟩, ⟨⟨some 148, .mov (.t 9), (some (147, false))⟩, 12, false, []⟩, ⟨⟨some 149, .mov (.t 10), (some (147, false))⟩, 13, false, []⟩, ⟨⟨some 150, .isl 3 (.t 148) (.t 149), (some (147, false))⟩, 14, false, []⟩, ⟨⟨some 151, .fa 1 (.t 150), (some (147, false))⟩, 15, false, []⟩, ⟨⟨some 152, .fa 0 (.t 151), (some (147, false))⟩, 16, false, []⟩, ⟨⟨some 153, .ld false 1 (.t 152), (some (147, false))⟩, 17, false, []⟩, ⟨⟨some 154, .mov (.t 9), (some (147, false))⟩, 18, false, []⟩, ⟨⟨some 155, .mov (.t 10), (some (147, false))⟩, 19, false, []⟩, ⟨⟨some 156, .isl 3 (.t 154) (.t 155), (some (147, false))⟩, 20, false, []⟩, ⟨⟨some 157, .fa 1 (.t 156), (some (147, false))⟩, 21, false, []⟩, ⟨⟨some 158, .fa 1 (.t 157), (some (147, false))⟩, 22, false, []⟩, ⟨⟨some 159, .ld false 1 (.t 158), (some (147, false))⟩, 23, false, []⟩, ⟨⟨some 160, .call (.c (.func (.func 63) #[] #[])) [(.t 153), (.c (.int .i64 0)), (.t 159)], (some (147, false))⟩, 24, true, []⟩, ⟨⟨some 161, .not (.t 160), (some (147, false))⟩, 25, false, []⟩, ⟨⟨some 162, .pick (.t 147) (.c (.bool true)) (.t 161), none⟩, 26, false, []⟩, ⟨⟨some 163, .mov (.t 162), none⟩, 27, false, []⟩, ⟨⟨some 164, .mov (.t 9), (some (163, false))⟩, 28, false, []⟩, ⟨⟨some 165, .mov (.t 10), (some (163, false))⟩, 29, false, []⟩, ⟨⟨some 166, .isl 3 (.t 164) (.t 165), (some (163, false))⟩, 30, false, []⟩, ⟨⟨some 167, .fa 1 (.t 166), (some (163, false))⟩, 31, false, []⟩, ⟨⟨some 168, .fa 1 (.t 167), (some (163, false))⟩, 32, false, []⟩, ⟨⟨some 169, .ld false 1 (.t 168), (some (163, false))⟩, 33, false, []⟩, ⟨⟨some 170, .bin .gtr (.t 169) (.c (.int .i64 3000)), (some (163, false))⟩, 34, false, []⟩, ⟨⟨some 171, .pick (.t 163) (.c (.bool true)) (.t 170), none⟩, 35, false, []⟩])
 (.cond (.t 171)
 (.seq
 (.region [⟨some 2, .mov (.c (.int .i64 1)), none⟩])
 .ret)
 .skip))
 (.seq
 (.draw 34 [⟨⟨some 172, .mov (.t 10), none⟩, 0, false, []⟩, ⟨⟨some 173, .bin .gtr (.t 172) (.c (.int .i64 0)), none⟩, 1, false, []⟩, ⟨⟨some 174, .mov (.t 173), none⟩, 2, false, []⟩, ⟨⟨some 175, .mov (.t 9), (some (174, true))⟩, 3, false, []⟩, ⟨⟨some 176, .mov (.t 10), (some (174, true))⟩, 4, false, []⟩, ⟨⟨some 177, .isl 3 (.t 175) (.t 176), (some (174, true))⟩, 5, false, []⟩, ⟨⟨some 178, .fa 1 (.t 177), (some (174, true))⟩, 6, false, []⟩, ⟨⟨some 179, .fa 0 (.t 178), (some (174, true))⟩, 7, false, []⟩, ⟨⟨some 180, .ld false 1 (.t 179), (some (174, true))⟩, 8, false, []⟩, ⟨⟨some 181, .mov (.t 9), (some (174, true))⟩, 9, false, []⟩, ⟨⟨some 182, .mov (.t 10), (some (174, true))⟩, 10, false, []⟩, ⟨⟨some 183, .bin .sub (.t 182) (.c (.int .i64 1)), (some (174, true))⟩, 11, false, []⟩, ⟨⟨some 184, .isl 3 (.t 181) (.t 183), (some (174, true))⟩, 12, false, []⟩, ⟨⟨some 185, .fa 1 (.t 184), (some (174, true))⟩, 13, false, []⟩, ⟨⟨some 186, .fa 0 (.t 185), (some (174, true))⟩, 14, false, []⟩, ⟨⟨some 187, .ld false 1 (.t 186), (some (174, true))⟩, 15, false, []⟩, ⟨⟨some 188, .bin .lss (.t 180) (.t 187), (some (174, true))⟩, 16, false, []⟩, ⟨⟨some 189, .mov (.t 188), (some (174, true))⟩, 17, false, []⟩, ⟨⟨some 190, .mov (.t 9), (some (189, false))⟩, 18, false, []⟩, ⟨⟨some 191, .mov (.t 10), (some (189, false))⟩, 19, false, []⟩, ⟨⟨some 192, .isl 3 (.t 190) (.t 191), (some (189, false))⟩, 20, false, []⟩, ⟨⟨some 193, .fa 1 (.t 192), (some (189, false))⟩, 21, false, []⟩, ⟨⟨some 194, .fa 1 (.t 193), (some (189, false))⟩, 22, false, []⟩, ⟨⟨some 195, .ld false 1 (.t 194), (some (189, false))⟩, 23, false, []⟩, ⟨⟨some 196, .mov (.t 9), (some (189, false))⟩, 24, false, []⟩, ⟨⟨some 197, .mov (.t 10), (some (189, false))⟩, 25, false, []⟩, ⟨⟨some 198, .bin .sub (.t 197) (.c (.int .i64 1)), (some (189, false))⟩, 26, false, []⟩, ⟨⟨some 199, .isl 3 (.t 196) (.t 198), (some (189, false))⟩, 27, false, []⟩, ⟨⟨some 200, .fa 1 (.t 199), (some (189, false))⟩, 28, false, []⟩, ⟨⟨some 201, .fa 1 (.t 200), (some (189, false))⟩, 29, false, []⟩, ⟨⟨some 202, .ld false 1 (.t 201), (some (189, false))⟩, 30, false, []⟩, ⟨⟨some 203, .bin .lss (.t 195) (.t 202), (some (189, false))⟩, 31, false, []⟩, ⟨⟨some 204, .pick (.t 189) (.c (.bool true)) (.t 203), (some (174, true))⟩, 32, false, []⟩, ⟨⟨some 205, .pick (.t 174) (.t 204) (.c (.bool false)), none⟩, 33, false, []⟩])
 (.cond (.t 205)
 (.seq
 (.region [⟨some 2, .mov (.c (.int .i64 1)), none⟩])
 .ret)
 .skip))))
 (.region [⟨some 134, .mov (.t 10), none⟩, ⟨some 135, .bin .add (.t 134) (.c (.int .i64 1)), none⟩, ⟨some 10, .mov (.t 135), none⟩])))))))))
 (.region [⟨some 120, .mov (.t 8), none⟩, ⟨some 121, .bin .add (.t 120) (.c (.int .i64 1)), none⟩, ⟨some 8, .mov (.t 121), none⟩]))))))
 (.seq
 (.region [⟨some 2, .mov (.c (.int .i64 0)), none⟩])
 .ret)))))))))
def r36 : List AOp := [(.mov (.t 2))]
theorem ok36 : FnOk Tryd.prog 36 Tryd.f36.ntmps a36 r36 := ⟨Tryd.f36, Tryd.func36, by kernel_rfl, by kernel_rfl, by kernel_rfl, fun asv w => by simp⟩

def a37 : ACode :=
 (.seq
 (.region [⟨some 1, .box (.t 0), none⟩, ⟨some 2, .mov (.c (.int .i64 0)), none⟩])
 (.seq
 (.region [⟨some 3, .mov (.c (.int .i64 0)), none⟩])
 (.seq
 (.seq
 (.region [⟨some 4, .mov (.c (.int .i64 0)), none⟩])
 (.block 0
 (.loop
 (.seq
 (.seq
 (.region [⟨some 5, .mov (.t 4), none⟩, ⟨some 6, .fa 8 (.t 1), none⟩, ⟨some 7, .ld false 1 (.t 6), none⟩, ⟨some 8, .len (.t 7), none⟩, ⟨some 9, .bin .lss (.t 5) (.t 8), none⟩])
 (.cond (.t 9)
 .skip
 (.exit 0)))
 (.seq
 (.block 1
 (.region [⟨some 12, .mov (.t 3), none⟩, ⟨some 13, .fa 8 (.t 1), none⟩, ⟨some 14, .ld false 1 (.t 13), none⟩, ⟨some 15, .mov (.t 4), none⟩, ⟨some 16, .isl 1 (.t 14) (.t 15), none⟩, ⟨some 17, .ld false 1 (.t 16), none⟩, ⟨some 18, .len (.t 17), none⟩, ⟨some 19, .bin .sub (.t 18) (.c (.int .i64 1)), none⟩, ⟨some 20, .gen 23 ⟨some 20, (.call ⟨.builtin .max, #[(.const (.int .i64 0)), (.tmp 19)], #[3, 3]⟩), 3, "ref.go:30", #[{ on := 7, ground := Go.Ground.data }], none⟩, none⟩, ⟨some 21, .bin .add (.t 12) (.t 20), none⟩, ⟨some 3, .mov (.t 21), none⟩]))
 (.region [⟨some 10, .mov (.t 4), none⟩, ⟨some 11, .bin .add (.t 10) (.c (.int .i64 1)), none⟩, ⟨some 4, .mov (.t 11), none⟩]))))))
 (.seq
 (.region [⟨some 22, .mov (.t 3), none⟩, ⟨some 2, .mov (.t 22), none⟩])
 .ret))))
def r37 : List AOp := [(.mov (.t 2))]
theorem ok37 : FnOk Tryd.prog 37 Tryd.f37.ntmps a37 r37 := ⟨Tryd.f37, Tryd.func37, by kernel_rfl, by kernel_rfl, by kernel_rfl, fun asv w => by simp⟩

def a41 : ACode :=
 (.seq
 (.region [⟨some 2, .box (.t 0), none⟩, ⟨some 4, .mov (.c (.int .i64 0)), none⟩, ⟨some 5, .mov (.c (.int .i64 0)), none⟩])
 (.seq
 (.seq
 (.region [⟨some 8, .ld true 10 (.t 2), none⟩, ⟨some 9, .call (.c (.func (.func 17) #[] #[])) [(.t 8)], none⟩, ⟨some 6, .mov (.t 9), none⟩])
 (.seq
 (.region [⟨some 10, .mov (.t 6), none⟩, ⟨some 11, .bin .neq (.t 10) (.c (.int .i64 0)), none⟩])
 (.cond (.t 11)
 (.seq
 (.region [⟨some 12, .mov (.t 6), none⟩, ⟨some 4, .mov (.c (.int .i64 0)), none⟩, ⟨some 5, .mov (.t 12), none⟩])
 .ret)
 .skip)))
 (.seq
 (.region [⟨some 13, .ld true 10 (.t 2), none⟩, ⟨some 14, .call (.c (.func (.func 71) #[] #[])) [(.t 13)], none⟩, ⟨some 7, .new [(.int .i64 0), (.int .i64 0), (.int .i64 0), (.int .i64 0), (.int .i64 0), (.int .i64 0), (.int .i64 0), (.int .i64 0), (.slice none 0 0), (.slice none 0 0), (.slice none 0 0), (.slice none 0 0), (.slice none 0 0)], none⟩, ⟨none, .st 13 (.t 7) (.t 14), none⟩])
 (.seq
 (.block 0
 (.seq
 (.seq
 (.region [⟨some 16, .mov (.t 1), none⟩, ⟨some 17, .len (.t 16), none⟩, ⟨some 18, .fa 10 (.t 7), none⟩, ⟨some 19, .ld false 1 (.t 18), none⟩, ⟨some 20, .len (.t 19), none⟩, ⟨some 21, .bin .neq (.t 17) (.t 20), none⟩, ⟨some 15, .mov (.t 21), none⟩])
 (.cond (.t 15)
 .skip
 (.region [⟨some 22, .mov (.t 1), none⟩, ⟨some 23, .call (.c (.func (.func 75) #[] #[])) [(.t 22), (.c (.func (.func 76) #[] #[]))], none⟩, ⟨some 24, .not (.t 23), none⟩, ⟨some 15, .mov (.t 24), none⟩])))
 (.cond (.t 15)
 (.seq
 (.region [⟨some 4, .mov (.c (.int .i64 0)), none⟩, ⟨some 5, .mov (.c (.int .i64 2)), none⟩])
 .ret)
 (.seq
 (.region [⟨some 26, .ld true 13 (.t 7), none⟩, ⟨some 27, .mov (.t 1), none⟩, ⟨some 28, .call (.c (.func (.func 77) #[] #[])) [(.t 26), (.t 27)], none⟩, ⟨some 29, .not (.t 28), none⟩, ⟨some 25, .mov (.t 29), none⟩])
 (.cond (.t 25)
 (.seq
 (.region [⟨some 4, .mov (.c (.int .i64 0)), none⟩, ⟨some 5, .mov (.c (.int .i64 9)), none⟩])
 .ret)
 .skip)))))
 (.seq
 (.region [⟨some 30, .mov (.t 1), none⟩, ⟨some 31, .call (.c (.func (.func 78) #[] #[])) [(.t 30)], none⟩, ⟨some 4, .mov (.t 31), none⟩, ⟨some 5, .mov (.c (.int .i64 0)), none⟩])
 .ret)))))
def r41 : List AOp := [(.mov (.t 4)), (.mov (.t 5))]
theorem ok41 : FnOk Tryd.prog 41 Tryd.f41.ntmps a41 r41 := ⟨Tryd.f41, Tryd.func41, by kernel_rfl, by kernel_rfl, by kernel_rfl, fun asv w => by simp⟩

def a44 : ACode :=
 (.seq
 (.region [⟨some 0, .new [(.int .i64 0), (.int .i64 0), (.int .i64 0), (.int .i64 0), (.int .i64 0), (.int .i64 0), (.int .i64 0), (.int .i64 0), (.slice none 0 0), (.slice none 0 0)], none⟩])
 (.seq
 (.region [⟨some 1, .bld [(.int .i64 0), (.int .i64 0), (.int .i64 0), (.int .i64 0), (.int .i64 0), (.int .i64 0), (.int .i64 0), (.int .i64 0)] [(0, 1, (.c (.int .i64 240))), (1, 1, (.c (.int .i64 420))), (2, 1, (.c (.int .i64 600))), (3, 1, (.c (.int .i64 30))), (4, 1, (.c (.int .i64 10))), (5, 1, (.c (.int .i64 10))), (6, 1, (.c (.int .i64 300))), (7, 1, (.c (.int .i64 2)))], none⟩, ⟨some 2, .bsl 2 [(.int .i64 0), (.int .i64 0)] [(0, 1, (.c (.int .i64 0))), (1, 1, (.c (.int .i64 5)))], none⟩, ⟨some 3, .bsl 2 [(.int .i64 0), (.int .i64 0)] [(0, 1, (.c (.int .i64 5))), (1, 1, (.c (.int .i64 0)))], none⟩, ⟨some 4, .bsl 2 [(.slice none 0 0), (.slice none 0 0)] [(0, 1, (.t 2)), (1, 1, (.t 3))], none⟩, ⟨some 5, .call (.c (.func (.func 79) #[] #[])) [(.c (.int .i64 300)), (.c (.int .i64 300)), (.c (.int .i64 0))], none⟩, ⟨some 6, .call (.c (.func (.func 79) #[] #[])) [(.c (.int .i64 420)), (.c (.int .i64 430)), (.c (.int .i64 1))], none⟩, ⟨some 7, .call (.c (.func (.func 79) #[] #[])) [(.c (.int .i64 530)), (.c (.int .i64 550)), (.c (.int .i64 0))], none⟩, ⟨some 8, .call (.c (.func (.func 79) #[] #[])) [(.c (.int .i64 650)), (.c (.int .i64 670)), (.c (.int .i64 0))], none⟩, ⟨some 9, .bsl 4 [(.int .i64 0), (.int .i64 0), (.int .i64 0), (.int .i64 0), (.int .i64 0), (.int .i64 0), (.int .i64 0), (.int .i64 0), (.int .i64 0), (.int .i64 0), (.int .i64 0), (.int .i64 0)] [(0, 3, (.t 5)), (3, 3, (.t 6)), (6, 3, (.t 7)), (9, 3, (.t 8))], none⟩, ⟨some 10, .call (.c (.func (.func 79) #[] #[])) [(.c (.int .i64 400)), (.c (.int .i64 400)), (.c (.int .i64 0))], none⟩, ⟨some 11, .call (.c (.func (.func 79) #[] #[])) [(.c (.int .i64 500)), (.c (.int .i64 510)), (.c (.int .i64 1))], none⟩, ⟨some 12, .call (.c (.func (.func 79) #[] #[])) [(.c (.int .i64 600)), (.c (.int .i64 620)), (.c (.int .i64 0))], none⟩, ⟨some 13, .bsl 3 [(.int .i64 0), (.int .i64 0), (.int .i64 0), (.int .i64 0), (.int .i64 0), (.int .i64 0), (.int .i64 0), (.int .i64 0), (.int .i64 0)] [(0, 3, (.t 10)), (3, 3, (.t 11)), (6, 3, (.t 12))], none⟩, ⟨some 14, .bsl 2 [(.slice none 0 0), (.slice none 0 0)] [(0, 1, (.t 9)), (1, 1, (.t 13))], none⟩, ⟨some 15, .bld [(.int .i64 0), (.int .i64 0), (.int .i64 0), (.int .i64 0), (.int .i64 0), (.int .i64 0), (.int .i64 0), (.int .i64 0), (.slice none 0 0), (.slice none 0 0)] [(0, 8, (.t 1)), (9, 1, (.t 4)), (8, 1, (.t 14))], none⟩, ⟨none, .st 10 (.t 0) (.t 15), none⟩])
 .ret))
def r44 : List AOp := [(.ld true 10 (.t 0))]
theorem ok44 : FnOk Tryd.prog 44 Tryd.f44.ntmps a44 r44 := ⟨Tryd.f44, Tryd.func44, by kernel_rfl, by kernel_rfl, by kernel_rfl, fun asv w => by simp⟩

def a45 : ACode :=
 (.seq
 (.region [⟨some 1, .box (.t 0), none⟩, ⟨some 2, .mov (.c (.slice none 0 0)), none⟩, ⟨some 3, .mov (.c (.int .i64 0)), none⟩, ⟨some 4, .mov (.c (.int .i64 0)), none⟩])
 (.seq
 (.seq
 (.region [⟨some 7, .ld true 10 (.t 1), none⟩, ⟨some 8, .call (.c (.func (.func 17) #[] #[])) [(.t 7)], none⟩, ⟨some 5, .mov (.t 8), none⟩])
 (.seq
 (.region [⟨some 9, .mov (.t 5), none⟩, ⟨some 10, .bin .neq (.t 9) (.c (.int .i64 0)), none⟩])
 (.cond (.t 10)
 (.seq
 (.region [⟨some 11, .mov (.t 5), none⟩, ⟨some 2, .mov (.c (.slice none 0 0)), none⟩, ⟨some 3, .mov (.c (.int .i64 0)), none⟩, ⟨some 4, .mov (.t 11), none⟩])
 .ret)
 .skip)))
 (.seq
 (.region [⟨some 13, .ld true 10 (.t 1), none⟩, ⟨some 14, .call (.c (.func (.func 71) #[] #[])) [(.t 13)], none⟩, ⟨some 15, .call (.c (.func (.func 80) #[] #[])) [(.t 14)], none⟩, ⟨some 12, .mov (.t 15), none⟩, ⟨some 16, .ext (.t 12) 0, none⟩, ⟨some 17, .ext (.t 12) 1, none⟩, ⟨some 18, .ext (.t 12) 2, none⟩, ⟨some 2, .mov (.t 16), none⟩, ⟨some 3, .mov (.t 17), none⟩, ⟨some 6, .mov (.t 18), none⟩])
 (.seq
 (.seq
 (.region [⟨some 19, .mov (.t 6), none⟩, ⟨some 20, .not (.t 19), none⟩])
 (.cond (.t 20)
 (.seq
 (.region [⟨some 2, .mov (.c (.slice none 0 0)), none⟩, ⟨some 3, .mov (.c (.int .i64 0)), none⟩, ⟨some 4, .mov (.c (.int .i64 9)), none⟩])
 .ret)
 .skip))
 (.seq
 (.region [⟨some 21, .mov (.t 2), none⟩, ⟨some 22, .mov (.t 3), none⟩, ⟨some 2, .mov (.t 21), none⟩, ⟨some 3, .mov (.t 22), none⟩, ⟨some 4, .mov (.c (.int .i64 0)), none⟩])
 .ret)))))
def r45 : List AOp := [(.mov (.t 2)), (.mov (.t 3)), (.mov (.t 4))]
theorem ok45 : FnOk Tryd.prog 45 Tryd.f45.ntmps a45 r45 := ⟨Tryd.f45, Tryd.func45, by kernel_rfl, by kernel_rfl, by kernel_rfl, fun asv w => by simp⟩

def a49 : ACode :=
 (.seq
 (.region [⟨some 2, .box (.t 0), none⟩, ⟨some 4, .mov (.c (.slice none 0 0)), none⟩])
 (.seq
 (.region [⟨some 5, .mov (.c (.slice none 0 0)), none⟩])
 (.seq
 (.seq
 (.region [⟨some 6, .mov (.c (.int .i64 0)), none⟩])
 (.block 0
 (.loop
 (.seq
 (.seq
 (.region [⟨some 7, .mov (.t 6), none⟩, ⟨some 8, .ld true 10 (.t 2), none⟩, ⟨some 9, .call (.c (.func (.func 37) #[] #[])) [(.t 8)], none⟩, ⟨some 10, .bin .lss (.t 7) (.t 9), none⟩])
 (.cond (.t 10)
 .skip
 (.exit 0)))
 (.seq
 (.block 1
 (.seq
 (.region [⟨some 13, .mov (.t 1), none⟩, ⟨some 14, .mov (.t 6), none⟩, ⟨some 15, .cvi .u64 (.t 14), none⟩, ⟨some 16, .gen 30 ⟨some 16, (.binOp .shr 71 (.tmp 13) (.tmp 15) 76), 71, "outright.go:98", #[{ on := 0, ground := Go.Ground.data }, { on := 2, ground := Go.Ground.data }], none⟩, none⟩, ⟨some 17, .bin .rem (.t 16) (.c (.int .u16 2)), none⟩, ⟨some 18, .bin .eql (.t 17) (.c (.int .u16 1)), none⟩])
 (.cond (.t 18)
 (.region [⟨some 19, .mov (.t 5), none⟩, ⟨some 20, .mov (.t 6), none⟩, ⟨some 21, .bsl 1 [(.int .i64 0)] [(0, 1, (.t 20))], none⟩, ⟨some 22, .app 1 8 (.t 19) (.t 21), none⟩, ⟨some 5, .mov (.t 22), none⟩])
 .skip)))
 (.region [⟨some 11, .mov (.t 6), none⟩, ⟨some 12, .bin .add (.t 11) (.c (.int .i64 1)), none⟩, ⟨some 6, .mov (.t 12), none⟩]))))))
 (.seq
 (.seq
 (.region [⟨some 23, .mov (.t 5), none⟩, ⟨some 24, .len (.t 23), none⟩, ⟨some 25, .bin .eql (.t 24) (.c (.int .i64 0)), none⟩])
 (.cond (.t 25)
 (.region [⟨some 26, .mov (.t 5), none⟩, ⟨some 27, .bsl 1 [(.int .i64 0)] [(0, 1, (.c (.int .i64 0)))], none⟩, ⟨some 28, .app 1 8 (.t 26) (.t 27), none⟩, ⟨some 5, .mov (.t 28), none⟩])
 .skip))
 (.seq
 (.region [⟨some 29, .mov (.t 5), none⟩, ⟨some 4, .mov (.t 29), none⟩])
 .ret)))))
def r49 : List AOp := [(.mov (.t 4))]
theorem ok49 : FnOk Tryd.prog 49 Tryd.f49.ntmps a49 r49 := ⟨Tryd.f49, Tryd.func49, by kernel_rfl, by kernel_rfl, by kernel_rfl, fun asv w => by simp⟩

def a52 : ACode :=
 (.seq
 (.region [⟨some 1, .box (.t 0), none⟩, ⟨some 2, .mov (.c (.bool false)), none⟩])
 (.seq
 (.region [⟨some 3, .ld true 10 (.t 1), none⟩, ⟨some 4, .call (.c (.func (.func 15) #[] #[])) [(.t 3)], none⟩, ⟨some 5, .mov (.t 4), none⟩, ⟨some 6, .ld true 10 (.t 1), (some (5, true))⟩, ⟨some 7, .call (.c (.func (.func 36) #[] #[])) [(.t 6)], (some (5, true))⟩, ⟨some 8, .bin .eql (.t 7) (.c (.int .i64 0)), (some (5, true))⟩, ⟨some 9, .pick (.t 5) (.t 8) (.c (.bool false)), none⟩, ⟨some 2, .mov (.t 9), none⟩])
 .ret))
def r52 : List AOp := [(.mov (.t 2))]
theorem ok52 : FnOk Tryd.prog 52 Tryd.f52.ntmps a52 r52 := ⟨Tryd.f52, Tryd.func52, by kernel_rfl, by kernel_rfl, by kernel_rfl, fun asv w => by simp⟩

def a53 : ACode :=
 (.seq
 (.region [⟨some 1, .box (.t 0), none⟩, ⟨some 2, .mov (.c (.int .i64 0)), none⟩])
 (.seq
 (.region [⟨some 7, .ld true 10 (.t 1), none⟩, ⟨some 8, .call (.c (.func (.func 18) #[] #[])) [(.t 7)], none⟩, ⟨some 9, .call (.c (.func (.func 45) #[] #[])) [(.t 8)], none⟩, ⟨some 6, .mov (.t 9), none⟩, ⟨some 10, .ext (.t 6) 0, none⟩, ⟨some 11, .ext (.t 6) 1, none⟩, ⟨some 12, .ext (.t 6) 2, none⟩, ⟨some 3, .mov (.t 10), none⟩, ⟨some 4, .mov (.t 11), none⟩, ⟨some 5, .mov (.t 12), none⟩])
 (.seq
 (.seq
 (.region [⟨some 13, .mov (.t 5), none⟩, ⟨some 14, .bin .neq (.t 13) (.c (.int .i64 0)), none⟩])
 (.cond (.t 14)
 (.seq
 (.region [⟨some 2, .mov (.c (.int .i64 1000)), none⟩])
 .ret)
 .skip))
 (.seq
 (.region [⟨some 15, .mov (.t 3), none⟩, ⟨some 16, .len (.t 15), none⟩, ⟨some 2, .mov (.t 16), none⟩])
 .ret))))
def r53 : List AOp := [(.mov (.t 2))]
theorem ok53 : FnOk Tryd.prog 53 Tryd.f53.ntmps a53 r53 := ⟨Tryd.f53, Tryd.func53, by kernel_rfl, by kernel_rfl, by kernel_rfl, fun asv w => by simp⟩

def a54 : ACode :=
 (.seq
 (.region [⟨some 2, .box (.t 0), none⟩, ⟨some 4, .mov (.c (.int .i64 0)), none⟩, ⟨some 5, .mov (.c (.int .i64 0)), none⟩])
 (.seq
 (.region [⟨some 6, .mov (.c (.int .i64 0)), none⟩])
 (.seq
 (.block 0
 (.loop
 (.seq
 (.seq
 (.region [⟨some 7, .mov (.t 1), none⟩, ⟨some 8, .fa 8 (.t 2), none⟩, ⟨some 9, .ld false 1 (.t 8), none⟩, ⟨some 10, .mov (.t 6), none⟩, ⟨some 11, .isl 1 (.t 9) (.t 10), none⟩, ⟨some 12, .ld false 1 (.t 11), none⟩, ⟨some 13, .len (.t 12), none⟩, ⟨some 14, .bin .sub (.t 13) (.c (.int .i64 1)), none⟩, ⟨some 15, .bin .geq (.t 7) (.t 14), none⟩])
 (.cond (.t 15)
 .skip
 (.exit 0)))
 (.block 1
 (.seq
 (.region [⟨some 16, .mov (.t 1), none⟩, ⟨some 17, .fa 8 (.t 2), none⟩, ⟨some 18, .ld false 1 (.t 17), none⟩, ⟨some 19, .mov (.t 6), none⟩, ⟨some 20, .isl 1 (.t 18) (.t 19), none⟩, ⟨some 21, .ld false 1 (.t 20), none⟩, ⟨some 22, .len (.t 21), none⟩, ⟨some 23, .bin .sub (.t 22) (.c (.int .i64 1)), none⟩, ⟨some 24, .bin .sub (.t 16) (.t 23), none⟩, ⟨some 1, .mov (.t 24), none⟩])
 (.region [⟨some 25, .mov (.t 6), none⟩, ⟨some 26, .bin .add (.t 25) (.c (.int .i64 1)), none⟩, ⟨some 6, .mov (.t 26), none⟩]))))))
 (.seq
 (.region [⟨some 27, .mov (.t 6), none⟩, ⟨some 28, .mov (.t 1), none⟩, ⟨some 4, .mov (.t 27), none⟩, ⟨some 5, .mov (.t 28), none⟩])
 .ret))))
def r54 : List AOp := [(.mov (.t 4)), (.mov (.t 5))]
theorem ok54 : FnOk Tryd.prog 54 Tryd.f54.ntmps a54 r54 := ⟨Tryd.f54, Tryd.func54, by kernel_rfl, by kernel_rfl, by kernel_rfl, fun asv w => by simp⟩

def a55 : ACode :=
 (.seq
 (.region [⟨some 1, .box (.t 0), none⟩, ⟨some 2, .mov (.c (.int .i64 0)), none⟩])
 (.seq
 (.region [⟨some 3, .mov (.c (.int .i64 0)), none⟩])
 (.seq
 (.seq
 (.region [⟨some 6, .fa 8 (.t 1), none⟩, ⟨some 7, .ld false 1 (.t 6), none⟩, ⟨some 8, .len (.t 7), none⟩, ⟨some 9, .mov (.c (.int .i64 0)), none⟩])
 (.block 0
 (.loop
 (.seq
 (.region [⟨some 10, .bin .lss (.t 9) (.t 8), none⟩])
 (.seq
 (.cond (.t 10)
 .skip
 (.exit 0))
 (.seq
 (.block 1
 (.seq
 (.region [⟨some 11, .isl 1 (.t 7) (.t 9), none⟩, ⟨some 12, .ld false 1 (.t 11), none⟩, ⟨some 5, .mov (.t 12), none⟩])
 (.region [⟨some 13, .mov (.t 3), none⟩, ⟨some 14, .mov (.t 5), none⟩, ⟨some 15, .len (.t 14), none⟩, ⟨some 16, .bin .sub (.t 15) (.c (.int .i64 1)), none⟩, ⟨some 17, .gen 21 ⟨some 17, (.call ⟨.builtin .max, #[(.tmp 16), (.const (.int .i64 0))], #[3, 3]⟩), 3, "check.go:55", #[{ on := 3, ground := Go.Ground.data }], none⟩, none⟩, ⟨some 18, .bin .add (.t 13) (.t 17), none⟩, ⟨some 3, .mov (.t 18), none⟩])))
 (.region [⟨some 19, .bin .add (.t 9) (.c (.int .i64 1)), none⟩, ⟨some 9, .mov (.t 19), none⟩])))))))
 (.seq
 (.region [⟨some 20, .mov (.t 3), none⟩, ⟨some 2, .mov (.t 20), none⟩])
 .ret))))
def r55 : List AOp := [(.mov (.t 2))]
theorem ok55 : FnOk Tryd.prog 55 Tryd.f55.ntmps a55 r55 := ⟨Tryd.f55, Tryd.func55, by kernel_rfl, by kernel_rfl, by kernel_rfl, fun asv w => by simp⟩

def a56 : ACode :=
 (.seq
 (.region [⟨some 1, .box (.t 0), none⟩, ⟨some 2, .mov (.c (.bool false)), none⟩])
 (.seq
 (.region [⟨some 4, .fa 0 (.t 1), none⟩, ⟨some 5, .ld false 1 (.t 4), none⟩, ⟨some 6, .fa 1 (.t 1), none⟩, ⟨some 7, .ld false 1 (.t 6), none⟩, ⟨some 8, .fa 2 (.t 1), none⟩, ⟨some 9, .ld false 1 (.t 8), none⟩, ⟨some 10, .fa 3 (.t 1), none⟩, ⟨some 11, .ld false 1 (.t 10), none⟩, ⟨some 12, .fa 4 (.t 1), none⟩, ⟨some 13, .ld false 1 (.t 12), none⟩, ⟨some 14, .fa 5 (.t 1), none⟩, ⟨some 15, .ld false 1 (.t 14), none⟩, ⟨some 16, .fa 6 (.t 1), none⟩, ⟨some 17, .ld false 1 (.t 16), none⟩, ⟨some 18, .bsl 7 [(.int .i64 0), (.int .i64 0), (.int .i64 0), (.int .i64 0), (.int .i64 0), (.int .i64 0), (.int .i64 0)] [(0, 1, (.t 5)), (1, 1, (.t 7)), (2, 1, (.t 9)), (3, 1, (.t 11)), (4, 1, (.t 13)), (5, 1, (.t 15)), (6, 1, (.t 17))], none⟩, ⟨some 3, .mov (.t 18), none⟩])
 (.seq
 (.region [⟨some 19, .mov (.t 3), none⟩, ⟨some 20, .call (.c (.func (.func 75) #[] #[])) [(.t 19), (.c (.func (.func 85) #[] #[]))], none⟩, ⟨some 21, .mov (.t 20), none⟩, ⟨some 22, .fa 3 (.t 1), (some (21, true))⟩, ⟨some 23, .ld false 1 (.t 22), (some (21, true))⟩, ⟨some 24, .bin .gtr (.t 23) (.c (.int .i64 0)), (some (21, true))⟩, ⟨some 25, .pick (.t 21) (.t 24) (.c (.bool false)), none⟩, ⟨some 26, .mov (.t 25), none⟩, ⟨some 27, .fa 7 (.t 1), (some (26, true))⟩, ⟨some 28, .ld false 1 (.t 27), (some (26, true))⟩, ⟨some 29, .call (.c (.func (.func 86) #[] #[])) [(.t 28), (.c (.int .i64 1)), (.c (.int .i64 3))], (some (26, true))⟩, ⟨some 30, .pick (.t 26) (.t 29) (.c (.bool false)), none⟩, ⟨some 2, .mov (.t 30), none⟩])
 .ret)))
def r56 : List AOp := [(.mov (.t 2))]
theorem ok56 : FnOk Tryd.prog 56 Tryd.f56.ntmps a56 r56 := ⟨Tryd.f56, Tryd.func56, by kernel_rfl, by kernel_rfl, by kernel_rfl, fun asv w => by simp⟩

def a57 : ACode :=
 (.seq
 (.region [⟨some 1, .box (.t 0), none⟩, ⟨some 2, .mov (.c (.bool false)), none⟩])
 (.seq
 (.seq
 (.region [⟨some 5, .fa 9 (.t 1), none⟩, ⟨some 6, .ld false 1 (.t 5), none⟩, ⟨some 7, .len (.t 6), none⟩, ⟨some 8, .mov (.c (.int .i64 0)), none⟩])
 (.block 0
 (.loop
 (.seq
 (.region [⟨some 9, .bin .lss (.t 8) (.t 7), none⟩])
 (.seq
 (.cond (.t 9)
 .skip
 (.exit 0))
 (.seq
 (.block 1
 (.seq
 (.region [⟨some 10, .mov (.t 8), none⟩, ⟨some 11, .isl 1 (.t 6) (.t 8), none⟩, ⟨some 12, .ld false 1 (.t 11), none⟩, ⟨some 3, .mov (.t 10), none⟩, ⟨some 4, .mov (.t 12), none⟩])
 (.seq
 (.region [⟨some 13, .mov (.t 4), none⟩, ⟨some 14, .len (.t 13), none⟩, ⟨some 15, .fa 9 (.t 1), none⟩, ⟨some 16, .ld false 1 (.t 15), none⟩, ⟨some 17, .len (.t 16), none⟩, ⟨some 18, .bin .neq (.t 14) (.t 17), none⟩, ⟨some 19, .mov (.t 18), none⟩, ⟨some 20, .mov (.t 4), (some (19, false))⟩, ⟨some 21, .mov (.t 3), (some (19, false))⟩, ⟨some 22, .isl 1 (.t 20) (.t 21), (some (19, false))⟩, ⟨some 23, .ld false 1 (.t 22), (some (19, false))⟩, ⟨some 24, .bin .neq (.t 23) (.c (.int .i64 0)), (some (19, false))⟩, ⟨some 25, .pick (.t 19) (.c (.bool true)) (.t 24), none⟩, ⟨some 26, .mov (.t 25), none⟩, ⟨some 27, .mov (.t 4), (some (26, false))⟩, ⟨some 28, .call (.c (.func (.func 75) #[] #[])) [(.t 27), (.c (.func (.func 85) #[] #[]))], (some (26, false))⟩, ⟨some 29, .not (.t 28), (some (26, false))⟩, ⟨some 30, .pick (.t 26) (.c (.bool true)) (.t 29), none⟩])
 (.cond (.t 30)
 (.seq
 (.region [⟨some 2, .mov (.c (.bool false)), none⟩])
 .ret)
 .skip))))
 (.region [⟨some 31, .bin .add (.t 8) (.c (.int .i64 1)), none⟩, ⟨some 8, .mov (.t 31), none⟩])))))))
 (.seq
 (.region [⟨some 32, .fa 9 (.t 1), none⟩, ⟨some 33, .ld false 1 (.t 32), none⟩, ⟨some 34, .len (.t 33), none⟩, ⟨some 35, .bin .gtr (.t 34) (.c (.int .i64 0)), none⟩, ⟨some 2, .mov (.t 35), none⟩])
 .ret)))
def r57 : List AOp := [(.mov (.t 2))]
theorem ok57 : FnOk Tryd.prog 57 Tryd.f57.ntmps a57 r57 := ⟨Tryd.f57, Tryd.func57, by kernel_rfl, by kernel_rfl, by kernel_rfl, fun asv w => by simp⟩

def a58 : ACode :=
 (.seq
 (.region [⟨some 4, .mov (.c (.bool false)), none⟩])
 (.seq
 (.seq
 (.region [⟨some 7, .mov (.t 0), none⟩, ⟨some 8, .len (.t 7), none⟩, ⟨some 9, .mov (.c (.int .i64 0)), none⟩])
 (.block 0
 (.loop
 (.seq
 (.region [⟨some 10, .bin .lss (.t 9) (.t 8), none⟩])
 (.seq
 (.cond (.t 10)
 .skip
 (.exit 0))
 (.seq
 (.block 1
 (.seq
 (.region [⟨some 11, .isl 1 (.t 7) (.t 9), none⟩, ⟨some 12, .ld false 1 (.t 11), none⟩, ⟨some 6, .mov (.t 12), none⟩])
 (.seq
 (.region [⟨some 13, .mov (.t 1), none⟩, ⟨some 14, .mov (.t 6), none⟩, ⟨some 15, .call (.t 13) [(.t 14)], none⟩, ⟨some 16, .not (.t 15), none⟩])
 (.cond (.t 16)
 (.seq
 (.region [⟨some 4, .mov (.c (.bool false)), none⟩])
 .ret)
 .skip))))
 (.region [⟨some 17, .bin .add (.t 9) (.c (.int .i64 1)), none⟩, ⟨some 9, .mov (.t 17), none⟩])))))))
 (.seq
 (.region [⟨some 4, .mov (.c (.bool true)), none⟩])
 .ret)))
def r58 : List AOp := [(.mov (.t 4))]
theorem ok58 : FnOk Tryd.prog 58 Tryd.f58.ntmps a58 r58 := ⟨Tryd.f58, Tryd.func58, by kernel_rfl, by kernel_rfl, by kernel_rfl, fun asv w => by simp⟩

def a59 : ACode :=
 (.seq
 (.region [⟨some 2, .box (.t 0), none⟩, ⟨some 4, .mov (.c (.bool false)), none⟩])
 (.seq
 (.region [⟨some 6, .bld [(.int .i64 0), (.int .i64 0)] [], none⟩, ⟨some 5, .new [(.int .i64 0), (.int .i64 0)], none⟩, ⟨none, .st 2 (.t 5) (.t 6), none⟩])
 (.seq
 (.region [⟨some 7, .mov (.t 1), none⟩, ⟨some 8, .len (.t 7), none⟩, ⟨some 9, .bin .geq (.t 8) (.c (.int .i64 2)), none⟩, ⟨some 10, .mov (.t 9), none⟩, ⟨some 11, .mov (.t 1), (some (10, true))⟩, ⟨some 12, .fn (.func 88) [] [(.t 5), (.t 2)], (some (10, true))⟩, ⟨some 13, .call (.c (.func (.func 87) #[] #[])) [(.t 11), (.t 12)], (some (10, true))⟩, ⟨some 14, .pick (.t 10) (.t 13) (.c (.bool false)), none⟩, ⟨some 4, .mov (.t 14), none⟩])
 .ret)))
def r59 : List AOp := [(.mov (.t 4))]
theorem ok59 : FnOk Tryd.prog 59 Tryd.f59.ntmps a59 r59 := ⟨Tryd.f59, Tryd.func59, by kernel_rfl, by kernel_rfl, by kernel_rfl, fun asv w => by simp⟩

def a60 : ACode :=
 (.seq
 (.region [⟨some 2, .box (.t 0), none⟩, ⟨some 4, .new [(.int .i64 0), (.int .i64 0), (.int .i64 0), (.int .i64 0), (.int .i64 0), (.int .i64 0), (.int .i64 0), (.int .i64 0), (.slice none 0 0), (.slice none 0 0), (.slice none 0 0), (.slice none 0 0), (.slice none 0 0)], none⟩, ⟨some 5, .mov (.c (.int .u64 0)), none⟩, ⟨some 6, .mov (.c (.int .i64 0)), none⟩])
 (.seq
 (.seq
 (.region [⟨some 11, .ld true 10 (.t 2), none⟩, ⟨some 12, .call (.c (.func (.func 17) #[] #[])) [(.t 11)], none⟩, ⟨some 7, .mov (.t 12), none⟩])
 (.seq
 (.region [⟨some 13, .mov (.t 7), none⟩, ⟨some 14, .bin .neq (.t 13) (.c (.int .i64 0)), none⟩])
 (.cond (.t 14)
 (.seq
 (.region [⟨some 15, .bld [(.int .i64 0), (.int .i64 0), (.int .i64 0), (.int .i64 0), (.int .i64 0), (.int .i64 0), (.int .i64 0), (.int .i64 0), (.slice none 0 0), (.slice none 0 0), (.slice none 0 0), (.slice none 0 0), (.slice none 0 0)] [], none⟩, ⟨some 16, .mov (.t 7), none⟩, ⟨none, .st 13 (.t 4) (.t 15), none⟩, ⟨some 5, .mov (.c (.int .u64 0)), none⟩, ⟨some 6, .mov (.t 16), none⟩])
 .ret)
 .skip)))
 (.seq
 (.region [⟨some 17, .ld true 10 (.t 2), none⟩, ⟨some 18, .call (.c (.func (.func 71) #[] #[])) [(.t 17)], none⟩, ⟨some 8, .new [(.int .i64 0), (.int .i64 0), (.int .i64 0), (.int .i64 0), (.int .i64 0), (.int .i64 0), (.int .i64 0), (.int .i64 0), (.slice none 0 0), (.slice none 0 0), (.slice none 0 0), (.slice none 0 0), (.slice none 0 0)], none⟩, ⟨none, .st 13 (.t 8) (.t 18), none⟩])
 (.seq
 (.region [⟨some 20, .ld true 13 (.t 8), none⟩, ⟨some 21, .mov (.t 1), none⟩, ⟨some 22, .call (.c (.func (.func 90) #[] #[])) [(.t 20), (.t 21)], none⟩, ⟨some 19, .mov (.t 22), none⟩, ⟨some 23, .ext (.t 19) 0, none⟩, ⟨some 24, .ext (.t 19) 1, none⟩, ⟨some 9, .mov (.t 23), none⟩, ⟨some 10, .mov (.t 24), none⟩])
 (.seq
 (.seq
 (.region [⟨some 25, .mov (.t 10), none⟩, ⟨some 26, .not (.t 25), none⟩])
 (.cond (.t 26)
 (.seq
 (.region [⟨some 27, .bld [(.int .i64 0), (.int .i64 0), (.int .i64 0), (.int .i64 0), (.int .i64 0), (.int .i64 0), (.int .i64 0), (.int .i64 0), (.slice none 0 0), (.slice none 0 0), (.slice none 0 0), (.slice none 0 0), (.slice none 0 0)] [], none⟩, ⟨none, .st 13 (.t 4) (.t 27), none⟩, ⟨some 5, .mov (.c (.int .u64 0)), none⟩, ⟨some 6, .mov (.c (.int .i64 2)), none⟩])
 .ret)
 .skip))
 (.seq
 (.region [⟨some 28, .ld true 13 (.t 8), none⟩, ⟨some 29, .mov (.t 9), none⟩, ⟨none, .st 13 (.t 4) (.t 28), none⟩, ⟨some 5, .mov (.t 29), none⟩, ⟨some 6, .mov (.c (.int .i64 0)), none⟩])
 .ret))))))
def r60 : List AOp := [(.ld true 13 (.t 4)), (.mov (.t 5)), (.mov (.t 6))]
theorem ok60 : FnOk Tryd.prog 60 Tryd.f60.ntmps a60 r60 := ⟨Tryd.f60, Tryd.func60, by kernel_rfl, by kernel_rfl, by kernel_rfl, fun asv w => by simp⟩

def a61 : ACode :=
 (.seq
 (.region [⟨some 2, .box (.t 0), none⟩, ⟨some 4, .mov (.c (.bool false)), none⟩])
 (.seq
 (.region [⟨some 5, .ld true 13 (.t 2), none⟩, ⟨some 6, .mov (.t 1), none⟩, ⟨some 7, .call (.c (.func (.func 68) #[] #[])) [(.t 5), (.t 6)], none⟩, ⟨some 8, .fld false 3 1 (.t 7), none⟩, ⟨some 4, .mov (.t 8), none⟩])
 .ret))
def r61 : List AOp := [(.mov (.t 4))]
theorem ok61 : FnOk Tryd.prog 61 Tryd.f61.ntmps a61 r61 := ⟨Tryd.f61, Tryd.func61, by kernel_rfl, by kernel_rfl, by kernel_rfl, fun asv w => by simp⟩

def a62 : ACode :=
 (.seq
 (.region [⟨some 2, .box (.t 0), none⟩, ⟨some 4, .mov (.c (.int .i64 0)), none⟩])
 (.seq
 (.draw 11 [⟨⟨some 5, .ld true 13 (.t 2), none⟩, 0, false, []⟩, ⟨⟨some 6, .mov (.t 1), none⟩, 1, false, []⟩, ⟨⟨some 9, .fa 0 (.t 2), none⟩, 4, false, []⟩, ⟨⟨some 10, .fa 0 (.t 9), none⟩, 5, false, []⟩, ⟨⟨some 11, .fa 6 (.t 10), none⟩, 6, false, []⟩, ⟨⟨some 12, .ld false 1 (.t 11), none⟩, 7, false, []⟩, ⟨⟨some 7, .call (.c (.func (.func 68) #[] #[])) [(.t 5), (.t 6)], none⟩, 2, true, [7]⟩, ⟨⟨some 8, .fld false 1 1 (.t 7), none⟩, 3, false, []⟩, ⟨⟨some 13, .bsl 2 [(.int .i64 0), (.int .i64 0)] [(0, 1, (.t 8)), (1, 1, (.t 12))], none⟩, 8, false, []⟩, ⟨⟨some 14, .call (.c (.func (.func 91) #[] #[])) [(.t 13)], none⟩, 9, true, []⟩, ⟨⟨some 4, .mov (.t 14), none⟩, 10, false, []⟩])
 .ret))
def r62 : List AOp := [(.mov (.t 4))]
theorem ok62 : FnOk Tryd.prog 62 Tryd.f62.ntmps a62 r62 := ⟨Tryd.f62, Tryd.func62, by kernel_rfl, by kernel_rfl, by kernel_rfl, fun asv w => by simp⟩

def a63 : ACode :=
 (.seq
 (.region [⟨some 6, .mov (.c (.bool false)), none⟩])
 (.seq
 (.region [⟨some 7, .mov (.t 0), none⟩, ⟨some 8, .mov (.t 1), none⟩, ⟨some 9, .bin .geq (.t 7) (.t 8), none⟩, ⟨some 10, .mov (.t 9), none⟩, ⟨some 11, .mov (.t 0), (some (10, true))⟩, ⟨some 12, .mov (.t 2), (some (10, true))⟩, ⟨some 13, .bin .leq (.t 11) (.t 12), (some (10, true))⟩, ⟨some 14, .pick (.t 10) (.t 13) (.c (.bool false)), none⟩, ⟨some 6, .mov (.t 14), none⟩])
 .ret))
def r63 : List AOp := [(.mov (.t 6))]
theorem ok63 : FnOk Tryd.prog 63 Tryd.f63.ntmps a63 r63 := ⟨Tryd.f63, Tryd.func63, by kernel_rfl, by kernel_rfl, by kernel_rfl, fun asv w => by simp⟩

def a68 : ACode :=
 (.seq
 (.region [⟨some 2, .box (.t 0), none⟩, ⟨some 4, .new [(.int .i64 0), (.int .i64 0), (.slice none 0 0), (.bool false)], none⟩])
 (.seq
 (.region [⟨some 6, .ld true 13 (.t 2), none⟩, ⟨some 7, .mov (.t 1), none⟩, ⟨some 8, .call (.c (.func (.func 93) #[] #[])) [(.t 6), (.t 7)], none⟩, ⟨some 5, .new [(.int .i64 0), (.int .i64 0), (.slice none 0 0), (.bool false), (.slice none 0 0), (.slice none 0 0)], none⟩, ⟨none, .st 6 (.t 5) (.t 8), none⟩])
 (.seq
 (.region [⟨some 9, .fa 12 (.t 2), none⟩, ⟨some 10, .ld false 1 (.t 9), none⟩, ⟨some 11, .fn (.func 95) [] [(.t 2), (.t 5)], none⟩, ⟨some 12, .call (.c (.func (.func 94) #[] #[])) [(.t 10), (.t 11)], none⟩, ⟨some 13, .fa 0 (.t 5), none⟩, ⟨some 14, .fa 3 (.t 13), none⟩, ⟨none, .st 1 (.t 14) (.t 12), none⟩])
 (.seq
 (.region [⟨some 15, .fa 0 (.t 5), none⟩, ⟨some 16, .ld true 4 (.t 15), none⟩, ⟨none, .st 4 (.t 4) (.t 16), none⟩])
 .ret))))
def r68 : List AOp := [(.ld true 4 (.t 4))]
theorem ok68 : FnOk Tryd.prog 68 Tryd.f68.ntmps a68 r68 := ⟨Tryd.f68, Tryd.func68, by kernel_rfl, by kernel_rfl, by kernel_rfl, fun asv w => by simp⟩

def a71 : ACode :=
 (.seq
 (.region [⟨some 1, .box (.t 0), none⟩, ⟨some 2, .new [(.int .i64 0), (.int .i64 0), (.int .i64 0), (.int .i64 0), (.int .i64 0), (.int .i64 0), (.int .i64 0), (.int .i64 0), (.slice none 0 0), (.slice none 0 0), (.slice none 0 0), (.slice none 0 0), (.slice none 0 0)], none⟩])
 (.seq
 (.draw 5 [⟨⟨some 10, .ld true 10 (.t 1), none⟩, 0, false, []⟩, ⟨⟨some 3, .new [(.int .i64 0), (.int .i64 0), (.int .i64 0), (.int .i64 0), (.int .i64 0), (.int .i64 0), (.int .i64 0), (.int .i64 0), (.slice none 0 0), (.slice none 0 0), (.slice none 0 0), (.slice none 0 0), (.slice none 0 0)], none⟩, 3, false, []⟩, ⟨⟨some 11, .call (.c (.func (.func 96) #[] #[])) [], none⟩, 1, true, [0]⟩, ⟨⟨some 12, .bld [(.int .i64 0), (.int .i64 0), (.int .i64 0), (.int .i64 0), (.int .i64 0), (.int .i64 0), (.int .i64 0), (.int .i64 0), (.slice none 0 0), (.slice none 0 0), (.slice none 0 0), (.slice none 0 0), (.slice none 0 0)] [(0, 10, (.t 10)), (12, 1, (.t 11))], none⟩, 2, false, []⟩, ⟨⟨none, .st 13 (.t 3) (.t 12), none⟩, 4, true, []⟩])
 (.seq
 (.seq
 (.region [⟨some 13, .fa 8 (.t 1), none⟩, ⟨some 14, .ld false 1 (.t 13), none⟩, ⟨some 15, .len (.t 14), none⟩, ⟨some 16, .mov (.c (.int .i64 0)), none⟩])
 (.block 0
 (.loop
 (.seq
 (.region [⟨some 17, .bin .lss (.t 16) (.t 15), none⟩])
 (.seq
 (.cond (.t 17)
 .skip
 (.exit 0))
 (.seq
 (.block 1
 (.seq
 (.region [⟨some 18, .mov (.t 16), none⟩, ⟨some 19, .isl 1 (.t 14) (.t 16), none⟩, ⟨some 20, .ld false 1 (.t 19), none⟩, ⟨some 4, .mov (.t 18), none⟩, ⟨some 5, .mov (.t 20), none⟩])
 (.seq
 (.region [⟨some 6, .mov (.c (.slice none 0 0)), none⟩])
 (.seq
 (.seq
 (.region [⟨some 21, .mov (.t 5), none⟩, ⟨some 22, .len (.t 21), none⟩, ⟨some 23, .mov (.c (.int .i64 0)), none⟩])
 (.block 2
 (.loop
 (.seq
 (.region [⟨some 24, .bin .lss (.t 23) (.t 22), none⟩])
 (.seq
 (.cond (.t 24)
 .skip
 (.exit 2))
 (.seq
 (.block 3
 (.seq
 (.region [⟨some 25, .mov (.t 23), none⟩, ⟨some 26, .isl 3 (.t 21) (.t 23), none⟩, ⟨some 27, .ld true 3 (.t 26), none⟩, ⟨some 8, .new [(.int .i64 0), (.int .i64 0), (.int .i64 0)], none⟩, ⟨some 7, .mov (.t 25), none⟩, ⟨none, .st 3 (.t 8) (.t 27), none⟩])
 (.seq
 (.region [⟨some 28, .mov (.t 6), none⟩, ⟨some 29, .fa 1 (.t 8), none⟩, ⟨some 30, .fa 0 (.t 29), none⟩, ⟨some 31, .ld false 1 (.t 30), none⟩, ⟨some 32, .fa 1 (.t 8), none⟩, ⟨some 33, .fa 1 (.t 32), none⟩, ⟨some 34, .ld false 1 (.t 33), none⟩, ⟨some 35, .bld [(.int .i64 0), (.int .i64 0)] [(0, 1, (.t 31)), (1, 1, (.t 34))], none⟩, ⟨some 36, .bsl 1 [(.int .i64 0), (.int .i64 0)] [(0, 2, (.t 35))], none⟩, ⟨some 37, .app 2 16 (.t 28) (.t 36), none⟩, ⟨some 6, .mov (.t 37), none⟩])
 (.seq
 (.region [⟨some 38, .mov (.t 7), none⟩, ⟨some 39, .bin .gtr (.t 38) (.c (.int .i64 0)), none⟩])
 (.cond (.t 39)
 (.seq
 (.region [⟨some 40, .fa 10 (.t 3), none⟩, ⟨some 41, .ld false 1 (.t 40), none⟩, ⟨some 42, .len (.t 41), none⟩, ⟨some 43, .call (.c (.func (.func 97) #[] #[])) [(.t 42)], none⟩, ⟨some 44, .mov (.t 4), none⟩, ⟨some 45, .mov (.t 7), none⟩, ⟨some 46, .bin .sub (.t 45) (.c (.int .i64 1)), none⟩, ⟨some 47, .bld [(.int .i64 0), (.int .i64 0)] [(0, 1, (.t 44)), (1, 1, (.t 46))], none⟩, ⟨some 48, .mov (.t 4), none⟩, ⟨some 49, .mov (.t 7), none⟩, ⟨some 50, .bld [(.int .i64 0), (.int .i64 0)] [(0, 1, (.t 48)), (1, 1, (.t 49))], none⟩, ⟨some 51, .bld [(.int .u64 0), (.int .i64 0), (.int .i64 0), (.int .i64 0), (.int .i64 0)] [(0, 1, (.t 43)), (1, 2, (.t 47)), (3, 2, (.t 50))], none⟩, ⟨some 9, .new [(.int .u64 0), (.int .i64 0), (.int .i64 0), (.int .i64 0), (.int .i64 0)], none⟩, ⟨none, .st 5 (.t 9) (.t 51), none⟩])
 (.region [⟨some 52, .fa 10 (.t 3), none⟩, ⟨some 53, .ld false 1 (.t 52), none⟩, ⟨some 54, .ld true 5 (.t 9), none⟩, ⟨some 55, .bsl 1 [(.int .u64 0), (.int .i64 0), (.int .i64 0), (.int .i64 0), (.int .i64 0)] [(0, 5, (.t 54))], none⟩, ⟨some 56, .app 5 40 (.t 53) (.t 55), none⟩, ⟨some 57, .fa 10 (.t 3), none⟩, ⟨none, .st 1 (.t 57) (.t 56), none⟩]))
 .skip)))))
 (.region [⟨some 58, .bin .add (.t 23) (.c (.int .i64 1)), none⟩, ⟨some 23, .mov (.t 58), none⟩])))))))
 (.region [⟨some 59, .fa 11 (.t 3), none⟩, ⟨some 60, .ld false 1 (.t 59), none⟩, ⟨some 61, .mov (.t 6), none⟩, ⟨some 62, .bsl 1 [(.slice none 0 0)] [(0, 1, (.t 61))], none⟩, ⟨some 63, .app 1 24 (.t 60) (.t 62), none⟩, ⟨some 64, .fa 11 (.t 3), none⟩, ⟨none, .st 1 (.t 64) (.t 63), none⟩])))))
 (.region [⟨some 65, .bin .add (.t 16) (.c (.int .i64 1)), none⟩, ⟨some 16, .mov (.t 65), none⟩])))))))
 (.seq
 (.region [⟨some 66, .ld true 13 (.t 3), none⟩, ⟨none, .st 13 (.t 2) (.t 66), none⟩])
 .ret))))
def r71 : List AOp := [(.ld true 13 (.t 2))]
theorem ok71 : FnOk Tryd.prog 71 Tryd.f71.ntmps a71 r71 := ⟨Tryd.f71, Tryd.func71, by kernel_rfl, by kernel_rfl, by kernel_rfl, fun asv w => by simp⟩

def a73 : ACode :=
 (.seq
 (.region [⟨some 2, .mov (.c (.slice none 0 0)), none⟩])
 (.seq
 (.region [⟨some 5, .bsl 0 [] [], none⟩, ⟨some 3, .mov (.t 5), none⟩])
 (.seq
 (.seq
 (.region [⟨some 6, .mov (.t 0), none⟩, ⟨some 4, .mov (.t 6), none⟩])
 (.block 0
 (.loop
 (.seq
 (.seq
 (.region [⟨some 7, .mov (.t 4), none⟩, ⟨some 8, .bin .neq (.t 7) (.c (.int .u64 0)), none⟩])
 (.cond (.t 8)
 .skip
 (.exit 0)))
 (.seq
 (.block 1
 (.region [⟨some 13, .mov (.t 3), none⟩, ⟨some 14, .mov (.t 4), none⟩, ⟨some 15, .call (.c (.func (.func 101) #[] #[])) [(.t 14)], none⟩, ⟨some 16, .bsl 1 [(.int .i64 0)] [(0, 1, (.t 15))], none⟩, ⟨some 17, .app 1 8 (.t 13) (.t 16), none⟩, ⟨some 3, .mov (.t 17), none⟩]))
 (.region [⟨some 9, .mov (.t 4), none⟩, ⟨some 10, .mov (.t 4), none⟩, ⟨some 11, .call (.c (.func (.func 100) #[] #[])) [(.t 10)], none⟩, ⟨some 12, .gen 19 ⟨some 12, (.binOp .andNot 102 (.tmp 9) (.tmp 11) 102), 102, "piece.go:21", #[{ on := 0, ground := Go.Ground.data }, { on := 2, ground := Go.Ground.data }], none⟩, none⟩, ⟨some 4, .mov (.t 12), none⟩]))))))
 (.seq
 (.region [⟨some 18, .mov (.t 3), none⟩, ⟨some 2, .mov (.t 18), none⟩])
 .ret))))
def r73 : List AOp := [(.mov (.t 2))]
theorem ok73 : FnOk Tryd.prog 73 Tryd.f73.ntmps a73 r73 := ⟨Tryd.f73, Tryd.func73, by kernel_rfl, by kernel_rfl, by kernel_rfl, fun asv w => by simp⟩

def a75 : ACode :=
 (.seq
 (.region [⟨some 4, .mov (.c (.bool false)), none⟩])
 (.seq
 (.seq
 (.region [⟨some 7, .mov (.t 0), none⟩, ⟨some 8, .len (.t 7), none⟩, ⟨some 9, .mov (.c (.int .i64 0)), none⟩])
 (.block 0
 (.loop
 (.seq
 (.region [⟨some 10, .bin .lss (.t 9) (.t 8), none⟩])
 (.seq
 (.cond (.t 10)
 .skip
 (.exit 0))
 (.seq
 (.block 1
 (.seq
 (.region [⟨some 11, .isl 1 (.t 7) (.t 9), none⟩, ⟨some 12, .ld false 1 (.t 11), none⟩, ⟨some 6, .mov (.t 12), none⟩])
 (.seq
 (.region [⟨some 13, .mov (.t 1), none⟩, ⟨some 14, .mov (.t 6), none⟩, ⟨some 15, .call (.t 13) [(.t 14)], none⟩, ⟨some 16, .not (.t 15), none⟩])
 (.cond (.t 16)
 (.seq
 (.region [⟨some 4, .mov (.c (.bool false)), none⟩])
 .ret)
 .skip))))
 (.region [⟨some 17, .bin .add (.t 9) (.c (.int .i64 1)), none⟩, ⟨some 9, .mov (.t 17), none⟩])))))))
 (.seq
 (.region [⟨some 4, .mov (.c (.bool true)), none⟩])
 .ret)))
def r75 : List AOp := [(.mov (.t 4))]
theorem ok75 : FnOk Tryd.prog 75 Tryd.f75.ntmps a75 r75 := ⟨Tryd.f75, Tryd.func75, by kernel_rfl, by kernel_rfl, by kernel_rfl, fun asv w => by simp⟩

def a76 : ACode :=
 (.seq
 (.region [⟨some 2, .mov (.c (.bool false)), none⟩])
 (.seq
 (.region [⟨some 3, .mov (.t 0), none⟩, ⟨some 4, .call (.c (.func (.func 86) #[] #[])) [(.t 3), (.c (.int .i64 0)), (.c (.int .i64 1000000))], none⟩, ⟨some 2, .mov (.t 4), none⟩])
 .ret))
def r76 : List AOp := [(.mov (.t 2))]
theorem ok76 : FnOk Tryd.prog 76 Tryd.f76.ntmps a76 r76 := ⟨Tryd.f76, Tryd.func76, by kernel_rfl, by kernel_rfl, by kernel_rfl, fun asv w => by simp⟩

def a77 : ACode :=
 (.seq
 (.region [⟨some 2, .box (.t 0), none⟩, ⟨some 3, .box (.t 1), none⟩, ⟨some 4, .mov (.c (.bool false)), none⟩])
 (.seq
 (.region [⟨some 5, .ld true 13 (.t 2), none⟩, ⟨some 6, .call (.c (.func (.func 99) #[] #[])) [(.t 5)], none⟩, ⟨some 7, .fn (.func 103) [] [(.t 3)], none⟩, ⟨some 8, .call (.c (.func (.func 102) #[] #[])) [(.t 6), (.t 7)], none⟩, ⟨some 4, .mov (.t 8), none⟩])
 .ret))
def r77 : List AOp := [(.mov (.t 4))]
theorem ok77 : FnOk Tryd.prog 77 Tryd.f77.ntmps a77 r77 := ⟨Tryd.f77, Tryd.func77, by kernel_rfl, by kernel_rfl, by kernel_rfl, fun asv w => by simp⟩

def a78 : ACode :=
 (.seq
 (.region [⟨some 2, .mov (.c (.int .i64 0)), none⟩])
 (.seq
 (.region [⟨some 3, .mov (.c (.int .i64 0)), none⟩])
 (.seq
 (.seq
 (.region [⟨some 6, .mov (.t 0), none⟩, ⟨some 7, .len (.t 6), none⟩, ⟨some 8, .mov (.c (.int .i64 0)), none⟩])
 (.block 0
 (.loop
 (.seq
 (.region [⟨some 9, .bin .lss (.t 8) (.t 7), none⟩])
 (.seq
 (.cond (.t 9)
 .skip
 (.exit 0))
 (.seq
 (.block 1
 (.seq
 (.region [⟨some 10, .isl 1 (.t 6) (.t 8), none⟩, ⟨some 11, .ld false 1 (.t 10), none⟩, ⟨some 5, .mov (.t 11), none⟩])
 (.region [⟨some 12, .mov (.t 3), none⟩, ⟨some 13, .mov (.t 5), none⟩, ⟨some 14, .bin .add (.t 12) (.t 13), none⟩, ⟨some 3, .mov (.t 14), none⟩])))
 (.region [⟨some 15, .bin .add (.t 8) (.c (.int .i64 1)), none⟩, ⟨some 8, .mov (.t 15), none⟩])))))))
 (.seq
 (.region [⟨some 16, .mov (.t 3), none⟩, ⟨some 17, .bin .add (.t 16) (.c (.int .i64 1000)), none⟩, ⟨some 18, .bin .sub (.t 17) (.c (.int .i64 1)), none⟩, ⟨some 19, .bin .quo (.t 18) (.c (.int .i64 1000)), none⟩, ⟨some 2, .mov (.t 19), none⟩])
 .ret))))
def r78 : List AOp := [(.mov (.t 2))]
theorem ok78 : FnOk Tryd.prog 78 Tryd.f78.ntmps a78 r78 := ⟨Tryd.f78, Tryd.func78, by kernel_rfl, by kernel_rfl, by kernel_rfl, fun asv w => by simp⟩

def a79 : ACode :=
 (.seq
 (.region [⟨some 6, .new [(.int .i64 0), (.int .i64 0), (.int .i64 0)], none⟩])
 (.seq
 (.region [⟨some 7, .mov (.t 2), none⟩, ⟨some 8, .mov (.t 0), none⟩, ⟨some 9, .mov (.t 1), none⟩, ⟨some 10, .bld [(.int .i64 0), (.int .i64 0)] [(0, 1, (.t 8)), (1, 1, (.t 9))], none⟩, ⟨some 11, .bld [(.int .i64 0), (.int .i64 0), (.int .i64 0)] [(0, 1, (.t 7)), (1, 2, (.t 10))], none⟩, ⟨none, .st 3 (.t 6) (.t 11), none⟩])
 .ret))
def r79 : List AOp := [(.ld true 3 (.t 6))]
theorem ok79 : FnOk Tryd.prog 79 Tryd.f79.ntmps a79 r79 := ⟨Tryd.f79, Tryd.func79, by kernel_rfl, by kernel_rfl, by kernel_rfl, fun asv w => by simp⟩

def a80 : ACode :=
 (.seq
 (.region [⟨some 1, .box (.t 0), none⟩, ⟨some 2, .mov (.c (.slice none 0 0)), none⟩, ⟨some 3, .mov (.c (.int .i64 0)), none⟩, ⟨some 4, .mov (.c (.bool false)), none⟩])
 (.seq
 (.region [⟨some 12, .mkm, none⟩, ⟨some 5, .new [(.map none)], none⟩, ⟨none, .st 1 (.t 5) (.t 12), none⟩])
 (.seq
 (.region [⟨some 13, .mkm, none⟩, ⟨some 6, .new [(.map none)], none⟩, ⟨none, .st 1 (.t 6) (.t 13), none⟩])
 (.seq
 (.seq
 (.region [⟨some 14, .ld true 13 (.t 1), none⟩, ⟨some 15, .call (.c (.func (.func 99) #[] #[])) [(.t 14)], none⟩, ⟨some 16, .len (.t 15), none⟩, ⟨some 17, .mov (.c (.int .i64 0)), none⟩])
 (.block 0
 (.loop
 (.seq
 (.region [⟨some 18, .bin .lss (.t 17) (.t 16), none⟩])
 (.seq
 (.cond (.t 18)
 .skip
 (.exit 0))
 (.seq
 (.block 1
 (.seq
 (.region [⟨some 19, .isl 1 (.t 15) (.t 17), none⟩, ⟨some 20, .ld false 1 (.t 19), none⟩, ⟨some 8, .mov (.t 20), none⟩])
 (.seq
 (.draw 6 [⟨⟨some 21, .ld false 1 (.t 5), none⟩, 0, false, []⟩, ⟨⟨some 22, .mov (.t 8), none⟩, 1, false, []⟩, ⟨⟨some 23, .ld true 13 (.t 1), none⟩, 2, false, []⟩, ⟨⟨some 24, .mov (.t 8), none⟩, 3, false, []⟩, ⟨⟨some 25, .call (.c (.func (.func 62) #[] #[])) [(.t 23), (.t 24)], none⟩, 4, true, [0]⟩, ⟨⟨none, .mup 102 (.t 21) (.t 22) (.t 25), none⟩, 5, true, []⟩])
 (.draw 11 [⟨⟨some 26, .ld false 1 (.t 6), none⟩, 0, false, []⟩, ⟨⟨some 27, .mov (.t 8), none⟩, 1, false, []⟩, ⟨⟨some 29, .ld false 1 (.t 6), none⟩, 3, false, []⟩, ⟨⟨some 30, .mov (.t 8), none⟩, 4, false, []⟩, ⟨⟨some 33, .mov (.t 8), none⟩, 7, false, []⟩, ⟨⟨some 34, .bsl 1 [(.int .u64 0)] [(0, 1, (.t 33))], none⟩, 8, false, []⟩, ⟨⟨some 28, .call (.c (.func (.func 100) #[] #[])) [(.t 27)], none⟩, 2, true, [3, 0]⟩, ⟨⟨some 31, .call (.c (.func (.func 100) #[] #[])) [(.t 30)], none⟩, 5, true, [3, 0]⟩, ⟨⟨some 32, .lk1 102 (.slice none 0 0) (.t 29) (.t 31), none⟩, 6, false, []⟩, ⟨⟨some 35, .app 1 8 (.t 32) (.t 34), none⟩, 9, true, [0]⟩, ⟨⟨none, .mup 102 (.t 26) (.t 28) (.t 35), none⟩, 10, true, []⟩]))))
 (.region [⟨some 36, .bin .add (.t 17) (.c (.int .i64 1)), none⟩, ⟨some 17, .mov (.t 36), none⟩])))))))
 (.seq
 (.region [⟨some 37, .mkm, none⟩, ⟨some 38, .bld [(.int .u64 0), (.int .i64 0), (.int .i64 0), (.bool false)] [(3, 1, (.c (.bool true)))], none⟩, ⟨none, .mup 102 (.t 37) (.c (.int .u64 0)) (.t 38), none⟩, ⟨some 39, .mov (.t 37), none⟩, ⟨some 9, .new [(.map none)], none⟩, ⟨none, .st 1 (.t 9) (.t 39), none⟩])
 (.seq
 (.region [⟨some 10, .new [.nilFunc], none⟩])
 (.seq
 (.region [⟨some 40, .fn (.func 104) [] [(.t 9), (.t 6), (.t 10), (.t 5)], none⟩, ⟨none, .st 1 (.t 10) (.t 40), none⟩])
 (.seq
 (.draw 6 [⟨⟨some 41, .ld false 1 (.t 10), none⟩, 0, false, []⟩, ⟨⟨some 42, .ld true 13 (.t 1), none⟩, 1, false, []⟩, ⟨⟨some 11, .new [(.int .u64 0), (.int .i64 0), (.int .i64 0), (.bool false)], none⟩, 4, false, []⟩, ⟨⟨some 43, .call (.c (.func (.func 98) #[] #[])) [(.t 42)], none⟩, 2, true, [0]⟩, ⟨⟨some 44, .call (.t 41) [(.t 43)], none⟩, 3, true, []⟩, ⟨⟨none, .st 4 (.t 11) (.t 44), none⟩, 5, true, []⟩])
 (.seq
 (.draw 11 [⟨⟨some 45, .ld true 13 (.t 1), none⟩, 0, false, []⟩, ⟨⟨some 47, .ld false 1 (.t 9), none⟩, 2, false, []⟩, ⟨⟨some 49, .fa 2 (.t 11), none⟩, 4, false, []⟩, ⟨⟨some 50, .ld false 1 (.t 49), none⟩, 5, false, []⟩, ⟨⟨some 51, .fa 3 (.t 11), none⟩, 6, false, []⟩, ⟨⟨some 52, .ld false 1 (.t 51), none⟩, 7, false, []⟩, ⟨⟨some 46, .call (.c (.func (.func 98) #[] #[])) [(.t 45)], none⟩, 1, true, [7, 5, 2]⟩, ⟨⟨some 48, .call (.c (.func (.func 106) #[] #[])) [(.t 46), (.t 47)], none⟩, 3, true, [7, 5]⟩, ⟨⟨some 2, .mov (.t 48), none⟩, 8, false, []⟩, ⟨⟨some 3, .mov (.t 50), none⟩, 9, false, []⟩, ⟨⟨some 4, .mov (.t 52), none⟩, 10, false, []⟩])
 .ret)))))))))
def r80 : List AOp := [(.mov (.t 2)), (.mov (.t 3)), (.mov (.t 4))]
theorem ok80 : FnOk Tryd.prog 80 Tryd.f80.ntmps a80 r80 := ⟨Tryd.f80, Tryd.func80, by kernel_rfl, by kernel_rfl, by kernel_rfl, fun asv w => by simp⟩

def a85 : ACode :=
 (.seq
 (.region [⟨some 2, .mov (.c (.bool false)), none⟩])
 (.seq
 (.region [⟨some 3, .mov (.t 0), none⟩, ⟨some 4, .call (.c (.func (.func 86) #[] #[])) [(.t 3), (.c (.int .i64 0)), (.c (.int .i64 3000))], none⟩, ⟨some 2, .mov (.t 4), none⟩])
 .ret))
def r85 : List AOp := [(.mov (.t 2))]
theorem ok85 : FnOk Tryd.prog 85 Tryd.f85.ntmps a85 r85 := ⟨Tryd.f85, Tryd.func85, by kernel_rfl, by kernel_rfl, by kernel_rfl, fun asv w => by simp⟩

def a86 : ACode :=
 (.seq
 (.region [⟨some 6, .mov (.c (.bool false)), none⟩])
 (.seq
 (.region [⟨some 7, .mov (.t 1), none⟩, ⟨some 8, .mov (.t 0), none⟩, ⟨some 9, .bin .leq (.t 7) (.t 8), none⟩, ⟨some 10, .mov (.t 9), none⟩, ⟨some 11, .mov (.t 0), (some (10, true))⟩, ⟨some 12, .mov (.t 2), (some (10, true))⟩, ⟨some 13, .bin .leq (.t 11) (.t 12), (some (10, true))⟩, ⟨some 14, .pick (.t 10) (.t 13) (.c (.bool false)), none⟩, ⟨some 6, .mov (.t 14), none⟩])
 .ret))
def r86 : List AOp := [(.mov (.t 6))]
theorem ok86 : FnOk Tryd.prog 86 Tryd.f86.ntmps a86 r86 := ⟨Tryd.f86, Tryd.func86, by kernel_rfl, by kernel_rfl, by kernel_rfl, fun asv w => by simp⟩

def a87 : ACode :=
 (.seq
 (.region [⟨some 4, .mov (.c (.bool false)), none⟩])
 (.seq
 (.seq
 (.region [⟨some 7, .mov (.t 0), none⟩, ⟨some 8, .len (.t 7), none⟩, ⟨some 9, .mov (.c (.int .i64 0)), none⟩])
 (.block 0
 (.loop
 (.seq
 (.region [⟨some 10, .bin .lss (.t 9) (.t 8), none⟩])
 (.seq
 (.cond (.t 10)
 .skip
 (.exit 0))
 (.seq
 (.block 1
 (.seq
 (.region [⟨some 11, .isl 3 (.t 7) (.t 9), none⟩, ⟨some 12, .ld true 3 (.t 11), none⟩, ⟨some 6, .new [(.int .i64 0), (.int .i64 0), (.int .i64 0)], none⟩, ⟨none, .st 3 (.t 6) (.t 12), none⟩])
 (.seq
 (.region [⟨some 13, .mov (.t 1), none⟩, ⟨some 14, .ld true 3 (.t 6), none⟩, ⟨some 15, .call (.t 13) [(.t 14)], none⟩, ⟨some 16, .not (.t 15), none⟩])
 (.cond (.t 16)
 (.seq
 (.region [⟨some 4, .mov (.c (.bool false)), none⟩])
 .ret)
 .skip))))
 (.region [⟨some 17, .bin .add (.t 9) (.c (.int .i64 1)), none⟩, ⟨some 9, .mov (.t 17), none⟩])))))))
 (.seq
 (.region [⟨some 4, .mov (.c (.bool true)), none⟩])
 .ret)))
def r87 : List AOp := [(.mov (.t 4))]
theorem ok87 : FnOk Tryd.prog 87 Tryd.f87.ntmps a87 r87 := ⟨Tryd.f87, Tryd.func87, by kernel_rfl, by kernel_rfl, by kernel_rfl, fun asv w => by simp⟩

def a88 : ACode :=
 (.seq
 (.region [⟨some 3, .box (.t 0), none⟩, ⟨some 4, .mov (.c (.bool false)), none⟩])
 (.seq
 (.region [⟨some 6, .fa 0 (.t 1), none⟩, ⟨some 7, .ld false 1 (.t 6), none⟩, ⟨some 8, .fa 1 (.t 3), none⟩, ⟨some 9, .fa 0 (.t 8), none⟩, ⟨some 10, .ld false 1 (.t 9), none⟩, ⟨some 11, .bin .leq (.t 7) (.t 10), none⟩, ⟨some 12, .mov (.t 11), none⟩, ⟨some 13, .fa 1 (.t 1), (some (12, true))⟩, ⟨some 14, .ld false 1 (.t 13), (some (12, true))⟩, ⟨some 15, .fa 1 (.t 3), (some (12, true))⟩, ⟨some 16, .fa 1 (.t 15), (some (12, true))⟩, ⟨some 17, .ld false 1 (.t 16), (some (12, true))⟩, ⟨some 18, .bin .leq (.t 14) (.t 17), (some (12, true))⟩, ⟨some 19, .pick (.t 12) (.t 18) (.c (.bool false)), none⟩, ⟨some 5, .mov (.t 19), none⟩])
 (.seq
 (.region [⟨some 20, .fa 1 (.t 3), none⟩, ⟨some 21, .ld true 2 (.t 20), none⟩, ⟨none, .st 2 (.t 1) (.t 21), none⟩])
 (.seq
 (.region [⟨some 22, .mov (.t 5), none⟩, ⟨some 23, .mov (.t 22), none⟩, ⟨some 24, .ld true 10 (.t 2), (some (23, true))⟩, ⟨some 25, .ld true 3 (.t 3), (some (23, true))⟩, ⟨some 26, .call (.c (.func (.func 89) #[] #[])) [(.t 24), (.t 25)], (some (23, true))⟩, ⟨some 27, .pick (.t 23) (.t 26) (.c (.bool false)), none⟩, ⟨some 4, .mov (.t 27), none⟩])
 .ret))))
def r88 : List AOp := [(.mov (.t 4))]
theorem ok88 : FnOk Tryd.prog 88 Tryd.f88.ntmps a88 r88 := ⟨Tryd.f88, Tryd.func88, by kernel_rfl, by kernel_rfl, by kernel_rfl, fun asv w => by simp⟩

def a89 : ACode :=
 (.seq
 (.region [⟨some 2, .box (.t 0), none⟩, ⟨some 3, .box (.t 1), none⟩, ⟨some 4, .mov (.c (.bool false)), none⟩])
 (.seq
 (.region [⟨some 5, .fa 0 (.t 3), none⟩, ⟨some 6, .ld false 1 (.t 5), none⟩, ⟨some 7, .fa 9 (.t 2), none⟩, ⟨some 8, .ld false 1 (.t 7), none⟩, ⟨some 9, .len (.t 8), none⟩, ⟨some 10, .bin .sub (.t 9) (.c (.int .i64 1)), none⟩, ⟨some 11, .call (.c (.func (.func 86) #[] #[])) [(.t 6), (.c (.int .i64 0)), (.t 10)], none⟩, ⟨some 12, .mov (.t 11), none⟩, ⟨some 13, .fa 1 (.t 3), (some (12, true))⟩, ⟨some 14, .fa 1 (.t 13), (some (12, true))⟩, ⟨some 15, .ld false 1 (.t 14), (some (12, true))⟩, ⟨some 16, .call (.c (.func (.func 86) #[] #[])) [(.t 15), (.c (.int .i64 0)), (.c (.int .i64 3000))], (some (12, true))⟩, ⟨some 17, .pick (.t 12) (.t 16) (.c (.bool false)), none⟩, ⟨some 18, .mov (.t 17), none⟩, ⟨some 19, .fa 1 (.t 3), (some (18, true))⟩, ⟨some 20, .fa 0 (.t 19), (some (18, true))⟩, ⟨some 21, .ld false 1 (.t 20), (some (18, true))⟩, ⟨some 22, .fa 1 (.t 3), (some (18, true))⟩, ⟨some 23, .fa 1 (.t 22), (some (18, true))⟩, ⟨some 24, .ld false 1 (.t 23), (some (18, true))⟩, ⟨some 25, .call (.c (.func (.func 86) #[] #[])) [(.t 21), (.c (.int .i64 0)), (.t 24)], (some (18, true))⟩, ⟨some 26, .pick (.t 18) (.t 25) (.c (.bool false)), none⟩, ⟨some 4, .mov (.t 26), none⟩])
 .ret))
def r89 : List AOp := [(.mov (.t 4))]
theorem ok89 : FnOk Tryd.prog 89 Tryd.f89.ntmps a89 r89 := ⟨Tryd.f89, Tryd.func89, by kernel_rfl, by kernel_rfl, by kernel_rfl, fun asv w => by simp⟩

def a90 : ACode :=
 (.seq
 (.region [⟨some 2, .box (.t 0), none⟩, ⟨some 4, .mov (.c (.int .u64 0)), none⟩, ⟨some 5, .mov (.c (.bool false)), none⟩])
 (.seq
 (.region [⟨some 6, .new [(.int .u64 0)], none⟩, ⟨some 7, .new [(.int .i64 0)], none⟩, ⟨none, .st 1 (.t 6) (.c (.int .u64 0)), none⟩, ⟨none, .st 1 (.t 7) (.c (.int .i64 (-1))), none⟩])
 (.seq
 (.region [⟨some 9, .mov (.t 1), none⟩, ⟨some 10, .fn (.func 109) [] [(.t 7), (.t 2), (.t 6)], none⟩, ⟨some 11, .call (.c (.func (.func 75) #[] #[])) [(.t 9), (.t 10)], none⟩, ⟨some 8, .mov (.t 11), none⟩])
 (.seq
 (.draw 8 [⟨⟨some 12, .ld false 1 (.t 6), none⟩, 0, false, []⟩, ⟨⟨some 13, .mov (.t 8), none⟩, 1, false, []⟩, ⟨⟨some 14, .mov (.t 13), none⟩, 2, false, []⟩, ⟨⟨some 15, .ld false 1 (.t 6), (some (14, true))⟩, 3, false, []⟩, ⟨⟨some 16, .bin .neq (.t 15) (.c (.int .u64 0)), (some (14, true))⟩, 4, false, []⟩, ⟨⟨some 17, .pick (.t 14) (.t 16) (.c (.bool false)), none⟩, 5, false, []⟩, ⟨⟨some 4, .mov (.t 12), none⟩, 6, false, []⟩, ⟨⟨some 5, .mov (.t 17), none⟩, 7, false, []⟩])
 .ret))))
def r90 : List AOp := [(.mov (.t 4)), (.mov (.t 5))]
theorem ok90 : FnOk Tryd.prog 90 Tryd.f90.ntmps a90 r90 := ⟨Tryd.f90, Tryd.func90, by kernel_rfl, by kernel_rfl, by kernel_rfl, fun asv w => by simp⟩

def a91 : ACode :=
 (.seq
 (.region [⟨some 2, .mov (.c (.int .i64 0)), none⟩])
 (.seq
 (.region [⟨some 3, .mov (.c (.int .i64 0)), none⟩])
 (.seq
 (.seq
 (.region [⟨some 6, .mov (.t 0), none⟩, ⟨some 7, .len (.t 6), none⟩, ⟨some 8, .mov (.c (.int .i64 0)), none⟩])
 (.block 0
 (.loop
 (.seq
 (.region [⟨some 9, .bin .lss (.t 8) (.t 7), none⟩])
 (.seq
 (.cond (.t 9)
 .skip
 (.exit 0))
 (.seq
 (.block 1
 (.seq
 (.region [⟨some 10, .isl 1 (.t 6) (.t 8), none⟩, ⟨some 11, .ld false 1 (.t 10), none⟩, ⟨some 5, .mov (.t 11), none⟩])
 (.region [⟨some 12, .mov (.t 3), none⟩, ⟨some 13, .mov (.t 5), none⟩, ⟨some 14, .gen 17 ⟨some 14, (.call ⟨.builtin .max, #[(.tmp 12), (.tmp 13)], #[3, 3]⟩), 3, "law.go:81", #[{ on := 0, ground := Go.Ground.data }, { on := 1, ground := Go.Ground.data }], none⟩, none⟩, ⟨some 3, .mov (.t 14), none⟩])))
 (.region [⟨some 15, .bin .add (.t 8) (.c (.int .i64 1)), none⟩, ⟨some 8, .mov (.t 15), none⟩])))))))
 (.seq
 (.region [⟨some 16, .mov (.t 3), none⟩, ⟨some 2, .mov (.t 16), none⟩])
 .ret))))
def r91 : List AOp := [(.mov (.t 2))]
theorem ok91 : FnOk Tryd.prog 91 Tryd.f91.ntmps a91 r91 := ⟨Tryd.f91, Tryd.func91, by kernel_rfl, by kernel_rfl, by kernel_rfl, fun asv w => by simp⟩

noncomputable def c93x0 : Code := (rfN Tryd.f93.body 0).1
noncomputable def c93y0 : Code := (rfN Tryd.f93.body 0).2
noncomputable def a93x0 : ACode :=
  (.region [⟨(some 8), (.new [(.int .u64 0), (.int .i64 0), (.int .i64 0), (.int .i64 0), (.int .i64 0)]), none⟩, ⟨none, (.st 5 (.t 8) (.t 14)), none⟩])
theorem ok93x0 : ccode Tryd.prog 88 (cdraw Tryd.prog 88) c93x0 = some a93x0 := by kernel_rfl
def a93y0 : ACode :=
 (.block 1
 (.seq
 (.seq
 (.region [⟨some 15, .ld true 5 (.t 7), none⟩, ⟨some 16, .bld [(.int .u64 0), (.int .i64 0), (.int .i64 0), (.int .i64 0), (.int .i64 0)] [], none⟩, ⟨some 17, .gen 88 ⟨some 17, (.binOp .eql 149 (.tmp 15) (.tmp 16) 149), 4, "law.go:47", #[{ on := 0, ground := Go.Ground.data }, { on := 1, ground := Go.Ground.data }], none⟩, none⟩])
 (.cond (.t 17)
 (.region [⟨some 18, .ld true 5 (.t 8), none⟩, ⟨none, .st 5 (.t 6) (.t 18), none⟩])
 (.seq
 (.draw 10 [⟨⟨some 19, .ld true 13 (.t 2), none⟩, 0, false, []⟩, ⟨⟨some 20, .fa 1 (.t 8), none⟩, 1, false, []⟩, ⟨⟨some 21, .ld true 2 (.t 20), none⟩, 2, false, []⟩, ⟨⟨some 23, .ld true 13 (.t 2), none⟩, 4, false, []⟩, ⟨⟨some 24, .fa 3 (.t 7), none⟩, 5, false, []⟩, ⟨⟨some 25, .ld true 2 (.t 24), none⟩, 6, false, []⟩, ⟨⟨some 22, .call (.c (.func (.func 111) #[] #[])) [(.t 19), (.t 21), (.c (.int .i64 0))], none⟩, 3, true, [6, 4]⟩, ⟨⟨some 26, .call (.c (.func (.func 111) #[] #[])) [(.t 23), (.t 25), (.c (.int .i64 1))], none⟩, 7, true, []⟩, ⟨⟨some 27, .bin .sub (.t 22) (.t 26), none⟩, 8, false, []⟩, ⟨⟨some 9, .mov (.t 27), none⟩, 9, false, []⟩])
 (.seq
 (.region [⟨some 28, .fa 0 (.t 5), none⟩, ⟨some 29, .fa 2 (.t 28), none⟩, ⟨some 30, .ld false 1 (.t 29), none⟩, ⟨some 31, .mov (.t 9), none⟩, ⟨some 32, .bsl 1 [(.int .i64 0)] [(0, 1, (.t 31))], none⟩, ⟨some 33, .app 1 8 (.t 30) (.t 32), none⟩, ⟨some 34, .fa 0 (.t 5), none⟩, ⟨some 35, .fa 2 (.t 34), none⟩, ⟨none, .st 1 (.t 35) (.t 33), none⟩])
 (.draw 14 [⟨⟨some 36, .fa 5 (.t 5), none⟩, 0, false, []⟩, ⟨⟨some 37, .ld false 1 (.t 36), none⟩, 1, false, []⟩, ⟨⟨some 38, .mov (.t 9), none⟩, 2, false, []⟩, ⟨⟨some 39, .ld true 13 (.t 2), none⟩, 3, false, []⟩, ⟨⟨some 40, .fa 3 (.t 7), none⟩, 4, false, []⟩, ⟨⟨some 41, .ld true 2 (.t 40), none⟩, 5, false, []⟩, ⟨⟨some 42, .fa 1 (.t 8), none⟩, 6, false, []⟩, ⟨⟨some 43, .ld true 2 (.t 42), none⟩, 7, false, []⟩, ⟨⟨some 44, .call (.c (.func (.func 112) #[] #[])) [(.t 39), (.t 41), (.t 43)], none⟩, 8, true, [1]⟩, ⟨⟨some 45, .bin .sub (.t 38) (.t 44), none⟩, 9, false, []⟩, ⟨⟨some 46, .bsl 1 [(.int .i64 0)] [(0, 1, (.t 45))], none⟩, 10, false, []⟩, ⟨⟨some 47, .app 1 8 (.t 37) (.t 46), none⟩, 11, true, []⟩, ⟨⟨some 48, .fa 5 (.t 5), none⟩, 12, false, []⟩, ⟨⟨none, .st 1 (.t 48) (.t 47), none⟩, 13, true, []⟩])))))
 (.seq
 (.region [⟨some 49, .ld true 13 (.t 2), none⟩, ⟨some 50, .fa 1 (.t 8), none⟩, ⟨some 51, .ld true 2 (.t 50), none⟩, ⟨some 52, .fa 3 (.t 8), none⟩, ⟨some 53, .ld true 2 (.t 52), none⟩, ⟨some 54, .call (.c (.func (.func 113) #[] #[])) [(.t 49), (.t 51), (.t 53)], none⟩, ⟨some 10, .mov (.t 54), none⟩])
 (.seq
 (.region [⟨some 55, .fa 0 (.t 5), none⟩, ⟨some 56, .fa 0 (.t 55), none⟩, ⟨some 57, .ld false 1 (.t 56), none⟩, ⟨some 58, .mov (.t 10), none⟩, ⟨some 59, .bin .add (.t 57) (.t 58), none⟩, ⟨some 60, .fa 0 (.t 5), none⟩, ⟨some 61, .fa 0 (.t 60), none⟩, ⟨none, .st 1 (.t 61) (.t 59), none⟩])
 (.seq
 (.region [⟨some 62, .fa 4 (.t 5), none⟩, ⟨some 63, .ld false 1 (.t 62), none⟩, ⟨some 64, .mov (.t 10), none⟩, ⟨some 65, .bsl 1 [(.int .i64 0)] [(0, 1, (.t 64))], none⟩, ⟨some 66, .app 1 8 (.t 63) (.t 65), none⟩, ⟨some 67, .fa 4 (.t 5), none⟩, ⟨none, .st 1 (.t 67) (.t 66), none⟩])
 (.region [⟨some 68, .ld true 5 (.t 8), none⟩, ⟨none, .st 5 (.t 7) (.t 68), none⟩]))))))
theorem ok93y0 : ccode Tryd.prog 88 (cdraw Tryd.prog 88) c93y0 = some a93y0 := by kernel_rfl
noncomputable def a93 : ACode :=
  (.seq
   (.region [⟨(some 2), (.box (.t 0)), none⟩, ⟨(some 4), (.new [(.int .i64 0), (.int .i64 0), (.slice none 0 0), (.bool false), (.slice none 0 0), (.slice none 0 0)]), none⟩])
   (.seq
    (.region [⟨(some 5), (.new [(.int .i64 0), (.int .i64 0), (.slice none 0 0), (.bool false), (.slice none 0 0), (.slice none 0 0)]), none⟩])
    (.seq
     (.region [⟨(some 6), (.new [(.int .u64 0), (.int .i64 0), (.int .i64 0), (.int .i64 0), (.int .i64 0)]), none⟩, ⟨(some 7), (.new [(.int .u64 0), (.int .i64 0), (.int .i64 0), (.int .i64 0), (.int .i64 0)]), none⟩])
     (.seq
      (.seq
       (.region [⟨(some 11), (.ld true 13 (.t 2)), none⟩, ⟨(some 12), (.mov (.t 1)), none⟩, ⟨(some 13), (.call (.c (.func (.func 110) #[] #[])) [(.t 11), (.t 12)]), none⟩])
       (.block 0
        (.rangeF (.t 13) #[14] c93x0 c93y0 a93x0 a93y0)))
      (.seq
       (.draw 19 [⟨⟨(some 69), (.fa 0 (.t 2)), none⟩, 0, false, []⟩, ⟨⟨(some 70), (.fa 0 (.t 69)), none⟩, 1, false, []⟩, ⟨⟨(some 71), (.fa 4 (.t 70)), none⟩, 2, false, []⟩, ⟨⟨(some 72), (.ld false 1 (.t 71)), none⟩, 3, false, []⟩, ⟨⟨(some 73), (.ld true 13 (.t 2)), none⟩, 4, false, []⟩, ⟨⟨(some 74), (.fa 1 (.t 6)), none⟩, 5, false, []⟩, ⟨⟨(some 75), (.ld true 2 (.t 74)), none⟩, 6, false, []⟩, ⟨⟨(some 76), (.fa 3 (.t 7)), none⟩, 7, false, []⟩, ⟨⟨(some 77), (.ld true 2 (.t 76)), none⟩, 8, false, []⟩, ⟨⟨(some 80), (.fa 0 (.t 2)), none⟩, 11, false, []⟩, ⟨⟨(some 81), (.fa 0 (.t 80)), none⟩, 12, false, []⟩, ⟨⟨(some 82), (.fa 5 (.t 81)), none⟩, 13, false, []⟩, ⟨⟨(some 83), (.ld false 1 (.t 82)), none⟩, 14, false, []⟩, ⟨⟨(some 78), (.call (.c (.func (.func 113) #[] #[])) [(.t 73), (.t 75), (.t 77)]), none⟩, 9, true, [14, 3]⟩, ⟨⟨(some 79), (.bin .add (.t 72) (.t 78)), none⟩, 10, false, []⟩, ⟨⟨(some 84), (.bin .add (.t 79) (.t 83)), none⟩, 15, false, []⟩, ⟨⟨(some 85), (.fa 0 (.t 5)), none⟩, 16, false, []⟩, ⟨⟨(some 86), (.fa 1 (.t 85)), none⟩, 17, false, []⟩, ⟨⟨none, (.st 1 (.t 86) (.t 84)), none⟩, 18, true, []⟩])
       (.seq
        (.region [⟨(some 87), (.ld true 6 (.t 5)), none⟩, ⟨none, (.st 6 (.t 4) (.t 87)), none⟩])
        .ret))))))
def r93 : List AOp := [(.ld true 6 (.t 4))]
theorem ok93 : FnOk Tryd.prog 93 Tryd.f93.ntmps a93 r93 := ⟨Tryd.f93, Tryd.func93, by kernel_rfl, by kernel_rfl, by kernel_rfl, fun asv w => by simp⟩

def a94 : ACode :=
 (.seq
 (.region [⟨some 4, .mov (.c (.bool false)), none⟩])
 (.seq
 (.seq
 (.region [⟨some 7, .mov (.t 0), none⟩, ⟨some 8, .len (.t 7), none⟩, ⟨some 9, .mov (.c (.int .i64 0)), none⟩])
 (.block 0
 (.loop
 (.seq
 (.region [⟨some 10, .bin .lss (.t 9) (.t 8), none⟩])
 (.seq
 (.cond (.t 10)
 .skip
 (.exit 0))
 (.seq
 (.block 1
 (.seq
 (.region [⟨some 11, .isl 1 (.t 7) (.t 9), none⟩, ⟨some 12, .ld true 1 (.t 11), none⟩, ⟨some 6, .new [.nilFunc], none⟩, ⟨none, .st 1 (.t 6) (.t 12), none⟩])
 (.seq
 (.region [⟨some 13, .mov (.t 1), none⟩, ⟨some 14, .ld true 1 (.t 6), none⟩, ⟨some 15, .call (.t 13) [(.t 14)], none⟩, ⟨some 16, .not (.t 15), none⟩])
 (.cond (.t 16)
 (.seq
 (.region [⟨some 4, .mov (.c (.bool false)), none⟩])
 .ret)
 .skip))))
 (.region [⟨some 17, .bin .add (.t 9) (.c (.int .i64 1)), none⟩, ⟨some 9, .mov (.t 17), none⟩])))))))
 (.seq
 (.region [⟨some 4, .mov (.c (.bool true)), none⟩])
 .ret)))
def r94 : List AOp := [(.mov (.t 4))]
theorem ok94 : FnOk Tryd.prog 94 Tryd.f94.ntmps a94 r94 := ⟨Tryd.f94, Tryd.func94, by kernel_rfl, by kernel_rfl, by kernel_rfl, fun asv w => by simp⟩

def a95 : ACode :=
 (.seq
 (.region [⟨some 3, .box (.t 0), none⟩, ⟨some 4, .mov (.c (.bool false)), none⟩])
 (.seq
 (.region [⟨some 5, .fa 0 (.t 3), none⟩, ⟨some 6, .ld false 1 (.t 5), none⟩, ⟨some 7, .fa 0 (.t 1), none⟩, ⟨some 8, .fa 0 (.t 7), none⟩, ⟨some 9, .ld true 8 (.t 8), none⟩, ⟨some 10, .ld true 6 (.t 2), none⟩, ⟨some 11, .call (.t 6) [(.t 9), (.t 10)], none⟩, ⟨some 4, .mov (.t 11), none⟩])
 .ret))
def r95 : List AOp := [(.mov (.t 4))]
theorem ok95 : FnOk Tryd.prog 95 Tryd.f95.ntmps a95 r95 := ⟨Tryd.f95, Tryd.func95, by kernel_rfl, by kernel_rfl, by kernel_rfl, fun asv w => by simp⟩

def a96 : ACode :=
 (.seq
 (.region [⟨some 0, .mov (.c (.slice none 0 0)), none⟩])
 (.seq
 (.region [⟨some 1, .bld [.nilFunc] [(0, 1, (.c (.func (.func 114) #[] #[])))], none⟩, ⟨some 2, .bld [.nilFunc] [(0, 1, (.c (.func (.func 115) #[] #[])))], none⟩, ⟨some 3, .bld [.nilFunc] [(0, 1, (.c (.func (.func 116) #[] #[])))], none⟩, ⟨some 4, .bld [.nilFunc] [(0, 1, (.c (.func (.func 117) #[] #[])))], none⟩, ⟨some 5, .bld [.nilFunc] [(0, 1, (.c (.func (.func 118) #[] #[])))], none⟩, ⟨some 6, .bsl 5 [.nilFunc, .nilFunc, .nilFunc, .nilFunc, .nilFunc] [(0, 1, (.t 1)), (1, 1, (.t 2)), (2, 1, (.t 3)), (3, 1, (.t 4)), (4, 1, (.t 5))], none⟩, ⟨some 0, .mov (.t 6), none⟩])
 .ret))
def r96 : List AOp := [(.mov (.t 0))]
theorem ok96 : FnOk Tryd.prog 96 Tryd.f96.ntmps a96 r96 := ⟨Tryd.f96, Tryd.func96, by kernel_rfl, by kernel_rfl, by kernel_rfl, fun asv w => by simp⟩

def a97 : ACode :=
 (.seq
 (.region [⟨some 2, .mov (.c (.int .u64 0)), none⟩])
 (.seq
 (.region [⟨some 3, .mov (.t 0), none⟩, ⟨some 4, .gen 5 ⟨some 4, (.binOp .shl 102 (.const (.int .u64 1)) (.tmp 3) 3), 102, "piece.go:12", #[{ on := 0, ground := Go.Ground.data }], none⟩, none⟩, ⟨some 2, .mov (.t 4), none⟩])
 .ret))
def r97 : List AOp := [(.mov (.t 2))]
theorem ok97 : FnOk Tryd.prog 97 Tryd.f97.ntmps a97 r97 := ⟨Tryd.f97, Tryd.func97, by kernel_rfl, by kernel_rfl, by kernel_rfl, fun asv w => by simp⟩

def a98 : ACode :=
 (.seq
 (.region [⟨some 1, .box (.t 0), none⟩, ⟨some 2, .mov (.c (.int .u64 0)), none⟩])
 (.seq
 (.region [⟨some 3, .fa 10 (.t 1), none⟩, ⟨some 4, .ld false 1 (.t 3), none⟩, ⟨some 5, .len (.t 4), none⟩, ⟨some 6, .call (.c (.func (.func 97) #[] #[])) [(.t 5)], none⟩, ⟨some 7, .bin .sub (.t 6) (.c (.int .u64 1)), none⟩, ⟨some 2, .mov (.t 7), none⟩])
 .ret))
def r98 : List AOp := [(.mov (.t 2))]
theorem ok98 : FnOk Tryd.prog 98 Tryd.f98.ntmps a98 r98 := ⟨Tryd.f98, Tryd.func98, by kernel_rfl, by kernel_rfl, by kernel_rfl, fun asv w => by simp⟩

def a99 : ACode :=
 (.seq
 (.region [⟨some 1, .box (.t 0), none⟩, ⟨some 2, .mov (.c (.slice none 0 0)), none⟩])
 (.seq
 (.region [⟨some 3, .ld true 13 (.t 1), none⟩, ⟨some 4, .ld true 13 (.t 1), none⟩, ⟨some 5, .fn (.func 61) [(.t 4)] [], none⟩, ⟨some 6, .call (.c (.func (.func 119) #[] #[])) [(.t 3), (.t 5)], none⟩, ⟨some 2, .mov (.t 6), none⟩])
 .ret))
def r99 : List AOp := [(.mov (.t 2))]
theorem ok99 : FnOk Tryd.prog 99 Tryd.f99.ntmps a99 r99 := ⟨Tryd.f99, Tryd.func99, by kernel_rfl, by kernel_rfl, by kernel_rfl, fun asv w => by simp⟩

def a100 : ACode :=
 (.seq
 (.region [⟨some 2, .mov (.c (.int .u64 0)), none⟩])
 (.seq
 (.region [⟨some 3, .mov (.t 0), none⟩, ⟨some 4, .mov (.t 0), none⟩, ⟨some 5, .gen 7 ⟨some 5, (.unOp .neg 102 (.tmp 4)), 102, "piece.go:17", #[{ on := 1, ground := Go.Ground.data }], none⟩, none⟩, ⟨some 6, .gen 7 ⟨some 6, (.binOp .and 102 (.tmp 3) (.tmp 5) 102), 102, "piece.go:17", #[{ on := 0, ground := Go.Ground.data }, { on := 2, ground := Go.Ground.data }], none⟩, none⟩, ⟨some 2, .mov (.t 6), none⟩])
 .ret))
def r100 : List AOp := [(.mov (.t 2))]
theorem ok100 : FnOk Tryd.prog 100 Tryd.f100.ntmps a100 r100 := ⟨Tryd.f100, Tryd.func100, by kernel_rfl, by kernel_rfl, by kernel_rfl, fun asv w => by simp⟩

def a101 : ACode :=
 (.seq
 (.region [⟨some 2, .mov (.c (.int .i64 0)), none⟩])
 (.seq
 (.cond (.c (.bool false))
 (.seq
 (.region [⟨some 3, .mov (.t 0), none⟩, ⟨some 4, .cvi .u32 (.t 3), none⟩, ⟨some 5, .call (.c (.func (.func 120) #[] #[])) [(.t 4)], none⟩, ⟨some 2, .mov (.t 5), none⟩])
 .ret)
 .skip)
 (.seq
 (.region [⟨some 6, .mov (.t 0), none⟩, ⟨some 7, .call (.c (.func (.func 121) #[] #[])) [(.t 6)], none⟩, ⟨some 2, .mov (.t 7), none⟩])
 .ret)))
def r101 : List AOp := [(.mov (.t 2))]
theorem ok101 : FnOk Tryd.prog 101 Tryd.f101.ntmps a101 r101 := ⟨Tryd.f101, Tryd.func101, by kernel_rfl, by kernel_rfl, by kernel_rfl, fun asv w => by simp⟩

def a102 : ACode :=
 (.seq
 (.region [⟨some 4, .mov (.c (.bool false)), none⟩])
 (.seq
 (.seq
 (.region [⟨some 7, .mov (.t 0), none⟩, ⟨some 8, .len (.t 7), none⟩, ⟨some 9, .mov (.c (.int .i64 0)), none⟩])
 (.block 0
 (.loop
 (.seq
 (.region [⟨some 10, .bin .lss (.t 9) (.t 8), none⟩])
 (.seq
 (.cond (.t 10)
 .skip
 (.exit 0))
 (.seq
 (.block 1
 (.seq
 (.region [⟨some 11, .isl 1 (.t 7) (.t 9), none⟩, ⟨some 12, .ld false 1 (.t 11), none⟩, ⟨some 6, .mov (.t 12), none⟩])
 (.seq
 (.region [⟨some 13, .mov (.t 1), none⟩, ⟨some 14, .mov (.t 6), none⟩, ⟨some 15, .call (.t 13) [(.t 14)], none⟩, ⟨some 16, .not (.t 15), none⟩])
 (.cond (.t 16)
 (.seq
 (.region [⟨some 4, .mov (.c (.bool false)), none⟩])
 .ret)
 .skip))))
 (.region [⟨some 17, .bin .add (.t 9) (.c (.int .i64 1)), none⟩, ⟨some 9, .mov (.t 17), none⟩])))))))
 (.seq
 (.region [⟨some 4, .mov (.c (.bool true)), none⟩])
 .ret)))
def r102 : List AOp := [(.mov (.t 4))]
theorem ok102 : FnOk Tryd.prog 102 Tryd.f102.ntmps a102 r102 := ⟨Tryd.f102, Tryd.func102, by kernel_rfl, by kernel_rfl, by kernel_rfl, fun asv w => by simp⟩

def a103 : ACode :=
 (.seq
 (.region [⟨some 3, .mov (.c (.bool false)), none⟩])
 (.seq
 (.region [⟨some 4, .mov (.c (.int .i64 0)), none⟩])
 (.seq
 (.seq
 (.region [⟨some 7, .mov (.t 0), none⟩, ⟨some 8, .call (.c (.func (.func 73) #[] #[])) [(.t 7)], none⟩, ⟨some 9, .len (.t 8), none⟩, ⟨some 10, .mov (.c (.int .i64 0)), none⟩])
 (.block 0
 (.loop
 (.seq
 (.region [⟨some 11, .bin .lss (.t 10) (.t 9), none⟩])
 (.seq
 (.cond (.t 11)
 .skip
 (.exit 0))
 (.seq
 (.block 1
 (.seq
 (.region [⟨some 12, .isl 1 (.t 8) (.t 10), none⟩, ⟨some 13, .ld false 1 (.t 12), none⟩, ⟨some 6, .mov (.t 13), none⟩])
 (.region [⟨some 14, .mov (.t 4), none⟩, ⟨some 15, .ld false 1 (.t 1), none⟩, ⟨some 16, .mov (.t 6), none⟩, ⟨some 17, .isl 1 (.t 15) (.t 16), none⟩, ⟨some 18, .ld false 1 (.t 17), none⟩, ⟨some 19, .bin .add (.t 14) (.t 18), none⟩, ⟨some 4, .mov (.t 19), none⟩])))
 (.region [⟨some 20, .bin .add (.t 10) (.c (.int .i64 1)), none⟩, ⟨some 10, .mov (.t 20), none⟩])))))))
 (.seq
 (.region [⟨some 21, .mov (.t 4), none⟩, ⟨some 22, .bin .leq (.t 21) (.c (.int .i64 1000)), none⟩, ⟨some 3, .mov (.t 22), none⟩])
 .ret))))
def r103 : List AOp := [(.mov (.t 3))]
theorem ok103 : FnOk Tryd.prog 103 Tryd.f103.ntmps a103 r103 := ⟨Tryd.f103, Tryd.func103, by kernel_rfl, by kernel_rfl, by kernel_rfl, fun asv w => by simp⟩

def a104 : ACode :=
 (.seq
 (.region [⟨some 6, .new [(.int .u64 0), (.int .i64 0), (.int .i64 0), (.bool false)], none⟩])
 (.seq
 (.seq
 (.region [⟨some 15, .ld false 1 (.t 1), none⟩, ⟨some 16, .mov (.t 0), none⟩, ⟨some 17, .lkp 102 (.agg #[(.int .u64 0), (.int .i64 0), (.int .i64 0), (.bool false)]) (.t 15) (.t 16), none⟩, ⟨some 14, .mov (.t 17), none⟩, ⟨some 18, .ext (.t 14) 0, none⟩, ⟨some 19, .ext (.t 14) 1, none⟩, ⟨some 7, .new [(.int .u64 0), (.int .i64 0), (.int .i64 0), (.bool false)], none⟩, ⟨none, .st 4 (.t 7) (.t 18), none⟩, ⟨some 8, .mov (.t 19), none⟩])
 (.seq
 (.region [⟨some 20, .mov (.t 8), none⟩])
 (.cond (.t 20)
 (.seq
 (.region [⟨some 21, .ld true 4 (.t 7), none⟩, ⟨none, .st 4 (.t 6) (.t 21), none⟩])
 .ret)
 .skip)))
 (.seq
 (.region [⟨some 9, .new [(.int .u64 0), (.int .i64 0), (.int .i64 0), (.bool false)], none⟩])
 (.seq
 (.seq
 (.draw 6 [⟨⟨some 22, .ld false 1 (.t 2), none⟩, 0, false, []⟩, ⟨⟨some 23, .mov (.t 0), none⟩, 1, false, []⟩, ⟨⟨some 27, .mov (.c (.int .i64 0)), none⟩, 5, false, []⟩, ⟨⟨some 24, .call (.c (.func (.func 100) #[] #[])) [(.t 23)], none⟩, 2, true, [0]⟩, ⟨⟨some 25, .lk1 102 (.slice none 0 0) (.t 22) (.t 24), none⟩, 3, false, []⟩, ⟨⟨some 26, .len (.t 25), none⟩, 4, false, []⟩])
 (.block 0
 (.loop
 (.seq
 (.region [⟨some 28, .bin .lss (.t 27) (.t 26), none⟩])
 (.seq
 (.cond (.t 28)
 .skip
 (.exit 0))
 (.seq
 (.block 1
 (.seq
 (.region [⟨some 29, .isl 1 (.t 25) (.t 27), none⟩, ⟨some 30, .ld false 1 (.t 29), none⟩, ⟨some 11, .mov (.t 30), none⟩])
 (.seq
 (.seq
 (.region [⟨some 31, .mov (.t 11), none⟩, ⟨some 32, .mov (.t 0), none⟩, ⟨some 33, .gen 62 ⟨some 33, (.binOp .andNot 102 (.tmp 31) (.tmp 32) 102), 102, "plan.go:54", #[{ on := 0, ground := Go.Ground.data }, { on := 1, ground := Go.Ground.data }], none⟩, none⟩, ⟨some 34, .bin .neq (.t 33) (.c (.int .u64 0)), none⟩])
 (.cond (.t 34)
 (.exit 1)
 .skip))
 (.seq
 (.region [⟨some 35, .ld false 1 (.t 3), none⟩, ⟨some 36, .mov (.t 0), none⟩, ⟨some 37, .mov (.t 11), none⟩, ⟨some 38, .gen 62 ⟨some 38, (.binOp .andNot 102 (.tmp 36) (.tmp 37) 102), 102, "plan.go:57", #[{ on := 1, ground := Go.Ground.data }, { on := 2, ground := Go.Ground.data }], none⟩, none⟩, ⟨some 39, .call (.t 35) [(.t 38)], none⟩, ⟨some 12, .new [(.int .u64 0), (.int .i64 0), (.int .i64 0), (.bool false)], none⟩, ⟨none, .st 4 (.t 12) (.t 39), none⟩])
 (.seq
 (.region [⟨some 40, .mov (.t 11), none⟩, ⟨some 41, .fa 1 (.t 12), none⟩, ⟨some 42, .ld false 1 (.t 41), none⟩, ⟨some 43, .bin .add (.t 42) (.c (.int .i64 1)), none⟩, ⟨some 44, .fa 2 (.t 12), none⟩, ⟨some 45, .ld false 1 (.t 44), none⟩, ⟨some 46, .ld false 1 (.t 4), none⟩, ⟨some 47, .mov (.t 11), none⟩, ⟨some 48, .lk1 102 (.int .i64 0) (.t 46) (.t 47), none⟩, ⟨some 49, .bin .add (.t 45) (.t 48), none⟩, ⟨some 50, .fa 3 (.t 12), none⟩, ⟨some 51, .ld false 1 (.t 50), none⟩, ⟨some 52, .bld [(.int .u64 0), (.int .i64 0), (.int .i64 0), (.bool false)] [(0, 1, (.t 40)), (1, 1, (.t 43)), (2, 1, (.t 49)), (3, 1, (.t 51))], none⟩, ⟨some 13, .new [(.int .u64 0), (.int .i64 0), (.int .i64 0), (.bool false)], none⟩, ⟨none, .st 4 (.t 13) (.t 52), none⟩])
 (.seq
 (.region [⟨some 53, .ld true 4 (.t 13), none⟩, ⟨some 54, .ld true 4 (.t 9), none⟩, ⟨some 55, .call (.c (.func (.func 105) #[] #[])) [(.t 53), (.t 54)], none⟩])
 (.cond (.t 55)
 (.region [⟨some 56, .ld true 4 (.t 13), none⟩, ⟨none, .st 4 (.t 9) (.t 56), none⟩])
 .skip)))))))
 (.region [⟨some 57, .bin .add (.t 27) (.c (.int .i64 1)), none⟩, ⟨some 27, .mov (.t 57), none⟩])))))))
 (.seq
 (.region [⟨some 58, .ld false 1 (.t 1), none⟩, ⟨some 59, .mov (.t 0), none⟩, ⟨some 60, .ld true 4 (.t 9), none⟩, ⟨none, .mup 102 (.t 58) (.t 59) (.t 60), none⟩])
 (.seq
 (.region [⟨some 61, .ld true 4 (.t 9), none⟩, ⟨none, .st 4 (.t 6) (.t 61), none⟩])
 .ret))))))
def r104 : List AOp := [(.ld true 4 (.t 6))]
theorem ok104 : FnOk Tryd.prog 104 Tryd.f104.ntmps a104 r104 := ⟨Tryd.f104, Tryd.func104, by kernel_rfl, by kernel_rfl, by kernel_rfl, fun asv w => by simp⟩

def a105 : ACode :=
 (.seq
 (.region [⟨some 2, .box (.t 0), none⟩, ⟨some 3, .box (.t 1), none⟩, ⟨some 4, .mov (.c (.bool false)), none⟩])
 (.seq
 (.block 0
 (.seq
 (.region [⟨some 6, .fa 3 (.t 2), none⟩, ⟨some 7, .ld false 1 (.t 6), none⟩, ⟨some 8, .not (.t 7), none⟩, ⟨some 9, .mov (.t 8), none⟩, ⟨some 10, .fa 3 (.t 3), (some (9, false))⟩, ⟨some 11, .ld false 1 (.t 10), (some (9, false))⟩, ⟨some 12, .not (.t 11), (some (9, false))⟩, ⟨some 13, .pick (.t 9) (.c (.bool true)) (.t 12), none⟩, ⟨some 5, .mov (.t 13), none⟩])
 (.cond (.t 5)
 (.seq
 (.region [⟨some 14, .fa 3 (.t 2), none⟩, ⟨some 15, .ld false 1 (.t 14), none⟩, ⟨some 4, .mov (.t 15), none⟩])
 .ret)
 (.seq
 (.region [⟨some 17, .fa 1 (.t 2), none⟩, ⟨some 18, .ld false 1 (.t 17), none⟩, ⟨some 19, .fa 1 (.t 3), none⟩, ⟨some 20, .ld false 1 (.t 19), none⟩, ⟨some 21, .bin .neq (.t 18) (.t 20), none⟩, ⟨some 16, .mov (.t 21), none⟩])
 (.cond (.t 16)
 (.seq
 (.region [⟨some 22, .fa 1 (.t 2), none⟩, ⟨some 23, .ld false 1 (.t 22), none⟩, ⟨some 24, .fa 1 (.t 3), none⟩, ⟨some 25, .ld false 1 (.t 24), none⟩, ⟨some 26, .bin .lss (.t 23) (.t 25), none⟩, ⟨some 4, .mov (.t 26), none⟩])
 .ret)
 .skip)))))
 (.seq
 (.region [⟨some 27, .fa 2 (.t 2), none⟩, ⟨some 28, .ld false 1 (.t 27), none⟩, ⟨some 29, .fa 2 (.t 3), none⟩, ⟨some 30, .ld false 1 (.t 29), none⟩, ⟨some 31, .bin .lss (.t 28) (.t 30), none⟩, ⟨some 4, .mov (.t 31), none⟩])
 .ret)))
def r105 : List AOp := [(.mov (.t 4))]
theorem ok105 : FnOk Tryd.prog 105 Tryd.f105.ntmps a105 r105 := ⟨Tryd.f105, Tryd.func105, by kernel_rfl, by kernel_rfl, by kernel_rfl, fun asv w => by simp⟩

def a106 : ACode :=
 (.seq
 (.region [⟨some 4, .mov (.c (.slice none 0 0)), none⟩])
 (.seq
 (.region [⟨some 7, .bsl 0 [] [], none⟩, ⟨some 5, .mov (.t 7), none⟩])
 (.seq
 (.seq
 (.region [⟨some 8, .mov (.t 0), none⟩, ⟨some 6, .mov (.t 8), none⟩])
 (.block 0
 (.loop
 (.seq
 (.seq
 (.region [⟨some 9, .mov (.t 1), none⟩, ⟨some 10, .mov (.t 6), none⟩, ⟨some 11, .lk1 102 (.agg #[(.int .u64 0), (.int .i64 0), (.int .i64 0), (.bool false)]) (.t 9) (.t 10), none⟩, ⟨some 12, .fld false 0 1 (.t 11), none⟩, ⟨some 13, .bin .neq (.t 12) (.c (.int .u64 0)), none⟩])
 (.cond (.t 13)
 .skip
 (.exit 0)))
 (.seq
 (.block 1
 (.region [⟨some 20, .mov (.t 5), none⟩, ⟨some 21, .mov (.t 1), none⟩, ⟨some 22, .mov (.t 6), none⟩, ⟨some 23, .lk1 102 (.agg #[(.int .u64 0), (.int .i64 0), (.int .i64 0), (.bool false)]) (.t 21) (.t 22), none⟩, ⟨some 24, .fld false 0 1 (.t 23), none⟩, ⟨some 25, .call (.c (.func (.func 73) #[] #[])) [(.t 24)], none⟩, ⟨some 26, .bsl 1 [(.slice none 0 0)] [(0, 1, (.t 25))], none⟩, ⟨some 27, .app 1 24 (.t 20) (.t 26), none⟩, ⟨some 5, .mov (.t 27), none⟩]))
 (.region [⟨some 14, .mov (.t 6), none⟩, ⟨some 15, .mov (.t 1), none⟩, ⟨some 16, .mov (.t 6), none⟩, ⟨some 17, .lk1 102 (.agg #[(.int .u64 0), (.int .i64 0), (.int .i64 0), (.bool false)]) (.t 15) (.t 16), none⟩, ⟨some 18, .fld false 0 1 (.t 17), none⟩, ⟨some 19, .gen 29 ⟨some 19, (.binOp .andNot 102 (.tmp 14) (.tmp 18) 102), 102, "plan.go:73", #[{ on := 0, ground := Go.Ground.data }, { on := 4, ground := Go.Ground.data }], none⟩, none⟩, ⟨some 6, .mov (.t 19), none⟩]))))))
 (.seq
 (.region [⟨some 28, .mov (.t 5), none⟩, ⟨some 4, .mov (.t 28), none⟩])
 .ret))))
def r106 : List AOp := [(.mov (.t 4))]
theorem ok106 : FnOk Tryd.prog 106 Tryd.f106.ntmps a106 r106 := ⟨Tryd.f106, Tryd.func106, by kernel_rfl, by kernel_rfl, by kernel_rfl, fun asv w => by simp⟩

def a109 : ACode :=
 (.seq
 (.region [⟨some 5, .mov (.c (.bool false)), none⟩])
 (.seq
 (.seq
 (.region [⟨some 6, .mov (.t 0), none⟩, ⟨some 7, .ld false 1 (.t 1), none⟩, ⟨some 8, .bin .add (.t 7) (.c (.int .i64 1)), none⟩, ⟨some 9, .fa 10 (.t 2), none⟩, ⟨some 10, .ld false 1 (.t 9), none⟩, ⟨some 11, .len (.t 10), none⟩, ⟨some 12, .bin .sub (.t 11) (.c (.int .i64 1)), none⟩, ⟨some 13, .call (.c (.func (.func 86) #[] #[])) [(.t 6), (.t 8), (.t 12)], none⟩, ⟨some 14, .not (.t 13), none⟩])
 (.cond (.t 14)
 (.seq
 (.region [⟨some 5, .mov (.c (.bool false)), none⟩])
 .ret)
 .skip))
 (.seq
 (.draw 5 [⟨⟨some 15, .ld false 1 (.t 3), none⟩, 0, false, []⟩, ⟨⟨some 16, .mov (.t 0), none⟩, 1, false, []⟩, ⟨⟨some 17, .call (.c (.func (.func 97) #[] #[])) [(.t 16)], none⟩, 2, true, [0]⟩, ⟨⟨some 18, .gen 20 ⟨some 18, (.binOp .or 102 (.tmp 15) (.tmp 17) 102), 102, "planned.go:73", #[{ on := 0, ground := Go.Ground.data }, { on := 2, ground := Go.Ground.data }], none⟩, none⟩, 3, false, []⟩, ⟨⟨none, .st 1 (.t 3) (.t 18), none⟩, 4, true, []⟩])
 (.seq
 (.region [⟨some 19, .mov (.t 0), none⟩, ⟨none, .st 1 (.t 1) (.t 19), none⟩])
 (.seq
 (.region [⟨some 5, .mov (.c (.bool true)), none⟩])
 .ret)))))
def r109 : List AOp := [(.mov (.t 5))]
theorem ok109 : FnOk Tryd.prog 109 Tryd.f109.ntmps a109 r109 := ⟨Tryd.f109, Tryd.func109, by kernel_rfl, by kernel_rfl, by kernel_rfl, fun asv w => by simp⟩

def a110 : ACode :=
 (.seq
 (.region [⟨some 2, .box (.t 0), none⟩, ⟨some 3, .box (.t 1), none⟩, ⟨some 4, .mov (.c .nilFunc), none⟩])
 (.seq
 (.region [⟨some 5, .fn (.func 122) [] [(.t 3), (.t 2)], none⟩, ⟨some 4, .mov (.t 5), none⟩])
 .ret))
def r110 : List AOp := [(.mov (.t 4))]
theorem ok110 : FnOk Tryd.prog 110 Tryd.f110.ntmps a110 r110 := ⟨Tryd.f110, Tryd.func110, by kernel_rfl, by kernel_rfl, by kernel_rfl, fun asv w => by simp⟩

def a111 : ACode :=
 (.seq
 (.region [⟨some 3, .box (.t 0), none⟩, ⟨some 4, .box (.t 1), none⟩, ⟨some 6, .mov (.c (.int .i64 0)), none⟩])
 (.seq
 (.draw 13 [⟨⟨some 7, .fa 11 (.t 3), none⟩, 0, false, []⟩, ⟨⟨some 8, .ld false 1 (.t 7), none⟩, 1, false, []⟩, ⟨⟨some 9, .fa 0 (.t 4), none⟩, 2, false, []⟩, ⟨⟨some 10, .ld false 1 (.t 9), none⟩, 3, false, []⟩, ⟨⟨some 11, .isl 1 (.t 8) (.t 10), none⟩, 4, false, []⟩, ⟨⟨some 12, .ld false 1 (.t 11), none⟩, 5, false, []⟩, ⟨⟨some 13, .fa 1 (.t 4), none⟩, 6, false, []⟩, ⟨⟨some 14, .ld false 1 (.t 13), none⟩, 7, false, []⟩, ⟨⟨some 15, .mov (.t 2), none⟩, 8, false, []⟩, ⟨⟨some 16, .isl 2 (.t 12) (.t 14), none⟩, 9, false, []⟩, ⟨⟨some 17, .iar 2 1 (.t 16) (.t 15), none⟩, 10, false, []⟩, ⟨⟨some 18, .ld false 1 (.t 17), none⟩, 11, false, []⟩, ⟨⟨some 6, .mov (.t 18), none⟩, 12, false, []⟩])
 .ret))
def r111 : List AOp := [(.mov (.t 6))]
theorem ok111 : FnOk Tryd.prog 111 Tryd.f111.ntmps a111 r111 := ⟨Tryd.f111, Tryd.func111, by kernel_rfl, by kernel_rfl, by kernel_rfl, fun asv w => by simp⟩

def a112 : ACode :=
 (.seq
 (.region [⟨some 3, .box (.t 0), none⟩, ⟨some 4, .box (.t 1), none⟩, ⟨some 5, .box (.t 2), none⟩, ⟨some 6, .mov (.c (.int .i64 0)), none⟩])
 (.seq
 (.draw 16 [⟨⟨some 7, .fa 0 (.t 3), none⟩, 0, false, []⟩, ⟨⟨some 8, .fa 9 (.t 7), none⟩, 1, false, []⟩, ⟨⟨some 9, .ld false 1 (.t 8), none⟩, 2, false, []⟩, ⟨⟨some 10, .ld true 13 (.t 3), none⟩, 3, false, []⟩, ⟨⟨some 11, .ld true 2 (.t 4), none⟩, 4, false, []⟩, ⟨⟨some 16, .ld true 13 (.t 3), none⟩, 9, false, []⟩, ⟨⟨some 17, .ld true 2 (.t 5), none⟩, 10, false, []⟩, ⟨⟨some 12, .call (.c (.func (.func 126) #[] #[])) [(.t 10), (.t 11)], none⟩, 5, true, [10, 9, 2]⟩, ⟨⟨some 13, .fld false 0 1 (.t 12), none⟩, 6, false, []⟩, ⟨⟨some 14, .isl 1 (.t 9) (.t 13), none⟩, 7, false, []⟩, ⟨⟨some 15, .ld false 1 (.t 14), none⟩, 8, false, []⟩, ⟨⟨some 18, .call (.c (.func (.func 126) #[] #[])) [(.t 16), (.t 17)], none⟩, 11, true, [8, 2]⟩, ⟨⟨some 19, .fld false 0 1 (.t 18), none⟩, 12, false, []⟩, ⟨⟨some 20, .isl 1 (.t 15) (.t 19), none⟩, 13, false, []⟩, ⟨⟨some 21, .ld false 1 (.t 20), none⟩, 14, false, []⟩, ⟨⟨some 6, .mov (.t 21), none⟩, 15, false, []⟩])
 .ret))
def r112 : List AOp := [(.mov (.t 6))]
theorem ok112 : FnOk Tryd.prog 112 Tryd.f112.ntmps a112 r112 := ⟨Tryd.f112, Tryd.func112, by kernel_rfl, by kernel_rfl, by kernel_rfl, fun asv w => by simp⟩

def a113 : ACode :=
 (.seq
 (.region [⟨some 3, .box (.t 0), none⟩, ⟨some 4, .box (.t 1), none⟩, ⟨some 5, .box (.t 2), none⟩, ⟨some 6, .mov (.c (.int .i64 0)), none⟩])
 (.seq
 (.draw 8 [⟨⟨some 7, .ld true 13 (.t 3), none⟩, 0, false, []⟩, ⟨⟨some 8, .ld true 2 (.t 5), none⟩, 1, false, []⟩, ⟨⟨some 10, .ld true 13 (.t 3), none⟩, 3, false, []⟩, ⟨⟨some 11, .ld true 2 (.t 4), none⟩, 4, false, []⟩, ⟨⟨some 9, .call (.c (.func (.func 111) #[] #[])) [(.t 7), (.t 8), (.c (.int .i64 1))], none⟩, 2, true, [4, 3]⟩, ⟨⟨some 12, .call (.c (.func (.func 111) #[] #[])) [(.t 10), (.t 11), (.c (.int .i64 0))], none⟩, 5, true, []⟩, ⟨⟨some 13, .bin .sub (.t 9) (.t 12), none⟩, 6, false, []⟩, ⟨⟨some 6, .mov (.t 13), none⟩, 7, false, []⟩])
 .ret))
def r113 : List AOp := [(.mov (.t 6))]
theorem ok113 : FnOk Tryd.prog 113 Tryd.f113.ntmps a113 r113 := ⟨Tryd.f113, Tryd.func113, by kernel_rfl, by kernel_rfl, by kernel_rfl, fun asv w => by simp⟩

def a114 : ACode :=
 (.seq
 (.region [⟨some 2, .box (.t 0), none⟩, ⟨some 3, .box (.t 1), none⟩, ⟨some 4, .mov (.c (.bool false)), none⟩])
 (.seq
 (.region [⟨some 5, .fa 4 (.t 3), none⟩, ⟨some 6, .ld false 1 (.t 5), none⟩, ⟨some 7, .len (.t 6), none⟩, ⟨some 8, .fa 7 (.t 2), none⟩, ⟨some 9, .ld false 1 (.t 8), none⟩, ⟨some 10, .bin .leq (.t 7) (.t 9), none⟩, ⟨some 4, .mov (.t 10), none⟩])
 .ret))
def r114 : List AOp := [(.mov (.t 4))]
theorem ok114 : FnOk Tryd.prog 114 Tryd.f114.ntmps a114 r114 := ⟨Tryd.f114, Tryd.func114, by kernel_rfl, by kernel_rfl, by kernel_rfl, fun asv w => by simp⟩

def a115 : ACode :=
 (.seq
 (.region [⟨some 2, .box (.t 0), none⟩, ⟨some 3, .box (.t 1), none⟩, ⟨some 4, .mov (.c (.bool false)), none⟩])
 (.seq
 (.draw 7 [⟨⟨some 5, .fa 4 (.t 3), none⟩, 0, false, []⟩, ⟨⟨some 6, .ld false 1 (.t 5), none⟩, 1, false, []⟩, ⟨⟨some 8, .fa 0 (.t 2), none⟩, 3, false, []⟩, ⟨⟨some 9, .ld false 1 (.t 8), none⟩, 4, false, []⟩, ⟨⟨some 7, .call (.c (.func (.func 91) #[] #[])) [(.t 6)], none⟩, 2, true, [4]⟩, ⟨⟨some 10, .bin .leq (.t 7) (.t 9), none⟩, 5, false, []⟩, ⟨⟨some 4, .mov (.t 10), none⟩, 6, false, []⟩])
 .ret))
def r115 : List AOp := [(.mov (.t 4))]
theorem ok115 : FnOk Tryd.prog 115 Tryd.f115.ntmps a115 r115 := ⟨Tryd.f115, Tryd.func115, by kernel_rfl, by kernel_rfl, by kernel_rfl, fun asv w => by simp⟩

def a116 : ACode :=
 (.seq
 (.region [⟨some 2, .box (.t 0), none⟩, ⟨some 3, .box (.t 1), none⟩, ⟨some 4, .mov (.c (.bool false)), none⟩])
 (.seq
 (.region [⟨some 5, .fa 0 (.t 3), none⟩, ⟨some 6, .fa 0 (.t 5), none⟩, ⟨some 7, .ld false 1 (.t 6), none⟩, ⟨some 8, .fa 1 (.t 2), none⟩, ⟨some 9, .ld false 1 (.t 8), none⟩, ⟨some 10, .bin .leq (.t 7) (.t 9), none⟩, ⟨some 4, .mov (.t 10), none⟩])
 .ret))
def r116 : List AOp := [(.mov (.t 4))]
theorem ok116 : FnOk Tryd.prog 116 Tryd.f116.ntmps a116 r116 := ⟨Tryd.f116, Tryd.func116, by kernel_rfl, by kernel_rfl, by kernel_rfl, fun asv w => by simp⟩

def a117 : ACode :=
 (.seq
 (.region [⟨some 2, .box (.t 0), none⟩, ⟨some 3, .box (.t 1), none⟩, ⟨some 4, .mov (.c (.bool false)), none⟩])
 (.seq
 (.region [⟨some 5, .fa 5 (.t 3), none⟩, ⟨some 6, .ld false 1 (.t 5), none⟩, ⟨some 7, .fn (.func 127) [] [(.t 2)], none⟩, ⟨some 8, .call (.c (.func (.func 75) #[] #[])) [(.t 6), (.t 7)], none⟩, ⟨some 4, .mov (.t 8), none⟩])
 .ret))
def r117 : List AOp := [(.mov (.t 4))]
theorem ok117 : FnOk Tryd.prog 117 Tryd.f117.ntmps a117 r117 := ⟨Tryd.f117, Tryd.func117, by kernel_rfl, by kernel_rfl, by kernel_rfl, fun asv w => by simp⟩

def a118 : ACode :=
 (.seq
 (.region [⟨some 2, .box (.t 0), none⟩, ⟨some 3, .box (.t 1), none⟩, ⟨some 4, .mov (.c (.bool false)), none⟩])
 (.seq
 (.region [⟨some 5, .fa 0 (.t 3), none⟩, ⟨some 6, .fa 1 (.t 5), none⟩, ⟨some 7, .ld false 1 (.t 6), none⟩, ⟨some 8, .fa 2 (.t 2), none⟩, ⟨some 9, .ld false 1 (.t 8), none⟩, ⟨some 10, .bin .leq (.t 7) (.t 9), none⟩, ⟨some 4, .mov (.t 10), none⟩])
 .ret))
def r118 : List AOp := [(.mov (.t 4))]
theorem ok118 : FnOk Tryd.prog 118 Tryd.f118.ntmps a118 r118 := ⟨Tryd.f118, Tryd.func118, by kernel_rfl, by kernel_rfl, by kernel_rfl, fun asv w => by simp⟩

def a119 : ACode :=
 (.seq
 (.region [⟨some 2, .box (.t 0), none⟩, ⟨some 4, .mov (.c (.slice none 0 0)), none⟩])
 (.seq
 (.region [⟨some 5, .mov (.c (.slice none 0 0)), none⟩])
 (.seq
 (.seq
 (.region [⟨some 6, .mov (.c (.int .u64 1)), none⟩])
 (.block 0
 (.loop
 (.seq
 (.seq
 (.region [⟨some 7, .mov (.t 6), none⟩, ⟨some 8, .ld true 13 (.t 2), none⟩, ⟨some 9, .call (.c (.func (.func 98) #[] #[])) [(.t 8)], none⟩, ⟨some 10, .bin .leq (.t 7) (.t 9), none⟩])
 (.cond (.t 10)
 .skip
 (.exit 0)))
 (.seq
 (.block 1
 (.seq
 (.region [⟨some 13, .mov (.t 1), none⟩, ⟨some 14, .mov (.t 6), none⟩, ⟨some 15, .call (.t 13) [(.t 14)], none⟩])
 (.cond (.t 15)
 (.region [⟨some 16, .mov (.t 5), none⟩, ⟨some 17, .mov (.t 6), none⟩, ⟨some 18, .bsl 1 [(.int .u64 0)] [(0, 1, (.t 17))], none⟩, ⟨some 19, .app 1 8 (.t 16) (.t 18), none⟩, ⟨some 5, .mov (.t 19), none⟩])
 .skip)))
 (.region [⟨some 11, .mov (.t 6), none⟩, ⟨some 12, .bin .add (.t 11) (.c (.int .u64 1)), none⟩, ⟨some 6, .mov (.t 12), none⟩]))))))
 (.seq
 (.region [⟨some 20, .mov (.t 5), none⟩, ⟨some 4, .mov (.t 20), none⟩])
 .ret))))
def r119 : List AOp := [(.mov (.t 4))]
theorem ok119 : FnOk Tryd.prog 119 Tryd.f119.ntmps a119 r119 := ⟨Tryd.f119, Tryd.func119, by kernel_rfl, by kernel_rfl, by kernel_rfl, fun asv w => by simp⟩

def a120 : ACode :=
 (.seq
 (.region [⟨some 2, .mov (.c (.int .i64 0)), none⟩])
 (.seq
 (.seq
 (.region [⟨some 3, .mov (.t 0), none⟩, ⟨some 4, .bin .eql (.t 3) (.c (.int .u32 0)), none⟩])
 (.cond (.t 4)
 (.seq
 (.region [⟨some 2, .mov (.c (.int .i64 32)), none⟩])
 .ret)
 .skip))
 (.seq
 (.region [⟨some 5, .mov (.t 0), none⟩, ⟨some 6, .mov (.t 0), none⟩, ⟨some 7, .gen 14 ⟨some 7, (.unOp .neg 172 (.tmp 6)), 172, "bits.go:86", #[{ on := 1, ground := Go.Ground.data }], none⟩, none⟩, ⟨some 8, .gen 14 ⟨some 8, (.binOp .and 172 (.tmp 5) (.tmp 7) 172), 172, "bits.go:86", #[{ on := 0, ground := Go.Ground.data }, { on := 2, ground := Go.Ground.data }], none⟩, none⟩, ⟨some 9, .bin .mul (.t 8) (.c (.int .u32 125613361)), none⟩, ⟨some 10, .gen 14 ⟨some 10, (.binOp .shr 172 (.tmp 9) (.const (.int .u64 27)) 76), 172, "bits.go:86", #[{ on := 4, ground := Go.Ground.data }], none⟩, none⟩, ⟨some 11, .iar 32 1 (.c (.pointer (some ⟨0, 0, none⟩))) (.t 10), none⟩, ⟨some 12, .ld false 1 (.t 11), none⟩, ⟨some 13, .cvi .i64 (.t 12), none⟩, ⟨some 2, .mov (.t 13), none⟩])
 .ret)))
def r120 : List AOp := [(.mov (.t 2))]
theorem ok120 : FnOk Tryd.prog 120 Tryd.f120.ntmps a120 r120 := ⟨Tryd.f120, Tryd.func120, by kernel_rfl, by kernel_rfl, by kernel_rfl, fun asv w => by simp⟩

def a121 : ACode :=
 (.seq
 (.region [⟨some 2, .mov (.c (.int .i64 0)), none⟩])
 (.seq
 (.seq
 (.region [⟨some 3, .mov (.t 0), none⟩, ⟨some 4, .bin .eql (.t 3) (.c (.int .u64 0)), none⟩])
 (.cond (.t 4)
 (.seq
 (.region [⟨some 2, .mov (.c (.int .i64 64)), none⟩])
 .ret)
 .skip))
 (.seq
 (.region [⟨some 5, .mov (.t 0), none⟩, ⟨some 6, .mov (.t 0), none⟩, ⟨some 7, .gen 14 ⟨some 7, (.unOp .neg 174 (.tmp 6)), 174, "bits.go:105", #[{ on := 1, ground := Go.Ground.data }], none⟩, none⟩, ⟨some 8, .gen 14 ⟨some 8, (.binOp .and 174 (.tmp 5) (.tmp 7) 174), 174, "bits.go:105", #[{ on := 0, ground := Go.Ground.data }, { on := 2, ground := Go.Ground.data }], none⟩, none⟩, ⟨some 9, .bin .mul (.t 8) (.c (.int .u64 285870213051353865)), none⟩, ⟨some 10, .gen 14 ⟨some 10, (.binOp .shr 174 (.tmp 9) (.const (.int .u64 58)) 76), 174, "bits.go:105", #[{ on := 4, ground := Go.Ground.data }], none⟩, none⟩, ⟨some 11, .iar 64 1 (.c (.pointer (some ⟨1, 0, none⟩))) (.t 10), none⟩, ⟨some 12, .ld false 1 (.t 11), none⟩, ⟨some 13, .cvi .i64 (.t 12), none⟩, ⟨some 2, .mov (.t 13), none⟩])
 .ret)))
def r121 : List AOp := [(.mov (.t 2))]
theorem ok121 : FnOk Tryd.prog 121 Tryd.f121.ntmps a121 r121 := ⟨Tryd.f121, Tryd.func121, by kernel_rfl, by kernel_rfl, by kernel_rfl, fun asv w => by simp⟩

def a122 : ACode :=
 (.seq
 (.region [⟨some 4, .mov (.c (.slice none 0 0)), none⟩])
 (.seq
 (.seq
 (.region [⟨some 9, .ld false 1 (.t 1), none⟩, ⟨some 5, .mov (.t 9), none⟩])
 (.block 0
 (.loop
 (.seq
 (.seq
 (.region [⟨some 10, .mov (.t 5), none⟩, ⟨some 11, .bin .neq (.t 10) (.c (.int .u64 0)), none⟩])
 (.cond (.t 11)
 .skip
 (.exit 0)))
 (.block 1
 (.seq
 (.region [⟨some 12, .ld true 13 (.t 2), none⟩, ⟨some 13, .mov (.t 5), none⟩, ⟨some 14, .call (.c (.func (.func 123) #[] #[])) [(.t 12), (.t 13)], none⟩, ⟨some 6, .new [(.int .u64 0), (.int .i64 0), (.int .i64 0), (.int .i64 0), (.int .i64 0)], none⟩, ⟨none, .st 5 (.t 6) (.t 14), none⟩])
 (.seq
 (.region [⟨some 15, .mov (.t 4), none⟩, ⟨some 16, .ld true 5 (.t 6), none⟩, ⟨some 17, .bsl 1 [(.int .u64 0), (.int .i64 0), (.int .i64 0), (.int .i64 0), (.int .i64 0)] [(0, 5, (.t 16))], none⟩, ⟨some 18, .app 5 40 (.t 15) (.t 17), none⟩, ⟨some 4, .mov (.t 18), none⟩])
 (.region [⟨some 19, .mov (.t 5), none⟩, ⟨some 20, .fa 0 (.t 6), none⟩, ⟨some 21, .ld false 1 (.t 20), none⟩, ⟨some 22, .gen 37 ⟨some 22, (.binOp .andNot 102 (.tmp 19) (.tmp 21) 102), 102, "piece.go:65", #[{ on := 0, ground := Go.Ground.data }, { on := 2, ground := Go.Ground.data }], none⟩, none⟩, ⟨some 5, .mov (.t 22), none⟩]))))))))
 (.seq
 (.region [⟨some 23, .mov (.t 4), none⟩, ⟨some 24, .fn (.func 125) [] [(.t 2)], none⟩, ⟨some 25, .call (.c (.func (.func 124) #[] #[])) [(.t 23), (.t 24)], none⟩])
 (.seq
 (.region [⟨some 26, .mov (.t 4), none⟩, ⟨some 27, .len (.t 26), none⟩, ⟨some 28, .mov (.c (.int .i64 0)), none⟩])
 (.block 2
 (.loop
 (.seq
 (.region [⟨some 29, .bin .lss (.t 28) (.t 27), none⟩])
 (.seq
 (.cond (.t 29)
 .skip
 (.exit 2))
 (.seq
 (.block 3
 (.seq
 (.region [⟨some 30, .isl 5 (.t 26) (.t 28), none⟩, ⟨some 31, .ld true 5 (.t 30), none⟩, ⟨some 8, .new [(.int .u64 0), (.int .i64 0), (.int .i64 0), (.int .i64 0), (.int .i64 0)], none⟩, ⟨none, .st 5 (.t 8) (.t 31), none⟩])
 (.seq
 (.region [⟨some 32, .mov (.t 0), none⟩, ⟨some 33, .ld true 5 (.t 8), none⟩, ⟨some 34, .call (.t 32) [(.t 33)], none⟩, ⟨some 35, .not (.t 34), none⟩])
 (.cond (.t 35)
 .ret
 .skip))))
 (.region [⟨some 36, .bin .add (.t 28) (.c (.int .i64 1)), none⟩, ⟨some 28, .mov (.t 36), none⟩]))))))))))
def r122 : List AOp := []
theorem ok122 : FnOk Tryd.prog 122 Tryd.f122.ntmps a122 r122 := ⟨Tryd.f122, Tryd.func122, by kernel_rfl, by kernel_rfl, by kernel_rfl, fun asv w => by simp⟩

def a123 : ACode :=
 (.seq
 (.region [⟨some 2, .box (.t 0), none⟩, ⟨some 4, .new [(.int .u64 0), (.int .i64 0), (.int .i64 0), (.int .i64 0), (.int .i64 0)], none⟩])
 (.seq
 (.region [⟨some 5, .new [(.int .u64 0), (.int .i64 0), (.int .i64 0), (.int .i64 0), (.int .i64 0)], none⟩])
 (.seq
 .skip
 (.seq
 (.seq
 (.region [⟨some 8, .fa 10 (.t 2), none⟩, ⟨some 9, .ld false 1 (.t 8), none⟩, ⟨some 10, .len (.t 9), none⟩, ⟨some 11, .mov (.c (.int .i64 0)), none⟩])
 (.block 0
 (.loop
 (.seq
 (.region [⟨some 12, .bin .lss (.t 11) (.t 10), none⟩])
 (.seq
 (.cond (.t 12)
 .skip
 (.exit 0))
 (.seq
 (.block 1
 (.seq
 (.region [⟨some 13, .mov (.t 11), none⟩, ⟨some 14, .isl 5 (.t 9) (.t 11), none⟩, ⟨some 15, .ld true 5 (.t 14), none⟩, ⟨some 7, .new [(.int .u64 0), (.int .i64 0), (.int .i64 0), (.int .i64 0), (.int .i64 0)], none⟩, ⟨some 6, .mov (.t 13), none⟩, ⟨none, .st 5 (.t 7) (.t 15), none⟩])
 (.block 2
 (.seq
 (.region [⟨some 26, .mov (.t 1), none⟩, ⟨some 27, .mov (.t 6), none⟩, ⟨some 28, .call (.c (.func (.func 128) #[] #[])) [(.t 26), (.t 27)], none⟩, ⟨some 29, .not (.t 28), none⟩, ⟨some 25, .mov (.t 29), none⟩])
 (.cond (.t 25)
 (.exit 1)
 (.seq
 (.region [⟨some 31, .ld true 5 (.t 5), none⟩, ⟨some 32, .bld [(.int .u64 0), (.int .i64 0), (.int .i64 0), (.int .i64 0), (.int .i64 0)] [], none⟩, ⟨some 33, .gen 43 ⟨some 33, (.binOp .eql 149 (.tmp 31) (.tmp 32) 149), 4, "piece.go:45", #[{ on := 0, ground := Go.Ground.data }, { on := 1, ground := Go.Ground.data }], none⟩, none⟩, ⟨some 30, .mov (.t 33), none⟩])
 (.cond (.t 30)
 (.region [⟨some 34, .ld true 5 (.t 7), none⟩, ⟨none, .st 5 (.t 5) (.t 34), none⟩])
 (.seq
 (.region [⟨some 36, .fa 3 (.t 5), none⟩, ⟨some 37, .ld true 2 (.t 36), none⟩, ⟨some 38, .fa 1 (.t 7), none⟩, ⟨some 39, .ld true 2 (.t 38), none⟩, ⟨some 40, .gen 43 ⟨some 40, (.binOp .neq 147 (.tmp 37) (.tmp 39) 147), 4, "piece.go:47", #[{ on := 1, ground := Go.Ground.data }, { on := 3, ground := Go.Ground.data }], none⟩, none⟩, ⟨some 35, .mov (.t 40), none⟩])
 (.cond (.t 35)
 (.exit 0)
 (.seq
 (.region [⟨some 16, .fa 0 (.t 5), none⟩, ⟨some 17, .ld false 1 (.t 16), none⟩, ⟨some 18, .fa 0 (.t 7), none⟩, ⟨some 19, .ld false 1 (.t 18), none⟩, ⟨some 20, .gen 43 ⟨some 20, (.binOp .or 102 (.tmp 17) (.tmp 19) 102), 102, "piece.go:50", #[{ on := 1, ground := Go.Ground.data }, { on := 3, ground := Go.Ground.data }], none⟩, none⟩, ⟨some 21, .fa 0 (.t 5), none⟩, ⟨none, .st 1 (.t 21) (.t 20), none⟩])
 (.region [⟨some 22, .fa 3 (.t 7), none⟩, ⟨some 23, .ld true 2 (.t 22), none⟩, ⟨some 24, .fa 3 (.t 5), none⟩, ⟨none, .st 2 (.t 24) (.t 23), none⟩])))))))))))
 (.region [⟨some 41, .bin .add (.t 11) (.c (.int .i64 1)), none⟩, ⟨some 11, .mov (.t 41), none⟩])))))))
 (.seq
 (.region [⟨some 42, .ld true 5 (.t 5), none⟩, ⟨none, .st 5 (.t 4) (.t 42), none⟩])
 .ret)))))
def r123 : List AOp := [(.ld true 5 (.t 4))]
theorem ok123 : FnOk Tryd.prog 123 Tryd.f123.ntmps a123 r123 := ⟨Tryd.f123, Tryd.func123, by kernel_rfl, by kernel_rfl, by kernel_rfl, fun asv w => by simp⟩

def a124 : ACode :=
 (.region [⟨some 4, .mov (.t 0), none⟩, ⟨some 5, .mov (.t 0), none⟩, ⟨some 6, .len (.t 5), none⟩, ⟨some 7, .mov (.t 1), none⟩, ⟨some 8, .call (.c (.func (.func 129) #[] #[])) [(.t 4), (.t 6), (.t 7)], none⟩])
def r124 : List AOp := []
theorem ok124 : FnOk Tryd.prog 124 Tryd.f124.ntmps a124 r124 := ⟨Tryd.f124, Tryd.func124, by kernel_rfl, by kernel_rfl, by kernel_rfl, fun asv w => by simp⟩

def a125 : ACode :=
 (.seq
 (.region [⟨some 3, .box (.t 0), none⟩, ⟨some 4, .box (.t 1), none⟩, ⟨some 5, .mov (.c (.int .i64 0)), none⟩])
 (.seq
 (.draw 14 [⟨⟨some 6, .ld true 13 (.t 2), none⟩, 0, false, []⟩, ⟨⟨some 7, .fa 1 (.t 3), none⟩, 1, false, []⟩, ⟨⟨some 8, .ld true 2 (.t 7), none⟩, 2, false, []⟩, ⟨⟨some 12, .ld true 13 (.t 2), none⟩, 6, false, []⟩, ⟨⟨some 13, .fa 1 (.t 4), none⟩, 7, false, []⟩, ⟨⟨some 14, .ld true 2 (.t 13), none⟩, 8, false, []⟩, ⟨⟨some 9, .call (.c (.func (.func 126) #[] #[])) [(.t 6), (.t 8)], none⟩, 3, true, [8, 6]⟩, ⟨⟨some 10, .fld true 1 2 (.t 9), none⟩, 4, false, []⟩, ⟨⟨some 11, .fld false 0 1 (.t 10), none⟩, 5, false, []⟩, ⟨⟨some 15, .call (.c (.func (.func 126) #[] #[])) [(.t 12), (.t 14)], none⟩, 9, true, []⟩, ⟨⟨some 16, .fld true 1 2 (.t 15), none⟩, 10, false, []⟩, ⟨⟨some 17, .fld false 0 1 (.t 16), none⟩, 11, false, []⟩, ⟨⟨some 18, .bin .sub (.t 11) (.t 17), none⟩, 12, false, []⟩, ⟨⟨some 5, .mov (.t 18), none⟩, 13, false, []⟩])
 .ret))
def r125 : List AOp := [(.mov (.t 5))]
theorem ok125 : FnOk Tryd.prog 125 Tryd.f125.ntmps a125 r125 := ⟨Tryd.f125, Tryd.func125, by kernel_rfl, by kernel_rfl, by kernel_rfl, fun asv w => by simp⟩

def a126 : ACode :=
 (.seq
 (.region [⟨some 2, .box (.t 0), none⟩, ⟨some 3, .box (.t 1), none⟩, ⟨some 4, .new [(.int .i64 0), (.int .i64 0), (.int .i64 0)], none⟩])
 (.seq
 (.draw 12 [⟨⟨some 5, .fa 0 (.t 2), none⟩, 0, false, []⟩, ⟨⟨some 6, .fa 8 (.t 5), none⟩, 1, false, []⟩, ⟨⟨some 7, .ld false 1 (.t 6), none⟩, 2, false, []⟩, ⟨⟨some 8, .fa 0 (.t 3), none⟩, 3, false, []⟩, ⟨⟨some 9, .ld false 1 (.t 8), none⟩, 4, false, []⟩, ⟨⟨some 10, .isl 1 (.t 7) (.t 9), none⟩, 5, false, []⟩, ⟨⟨some 11, .ld false 1 (.t 10), none⟩, 6, false, []⟩, ⟨⟨some 12, .fa 1 (.t 3), none⟩, 7, false, []⟩, ⟨⟨some 13, .ld false 1 (.t 12), none⟩, 8, false, []⟩, ⟨⟨some 14, .isl 3 (.t 11) (.t 13), none⟩, 9, false, []⟩, ⟨⟨some 15, .ld true 3 (.t 14), none⟩, 10, false, []⟩, ⟨⟨none, .st 3 (.t 4) (.t 15), none⟩, 11, true, []⟩])
 .ret))
def r126 : List AOp := [(.ld true 3 (.t 4))]
theorem ok126 : FnOk Tryd.prog 126 Tryd.f126.ntmps a126 r126 := ⟨Tryd.f126, Tryd.func126, by kernel_rfl, by kernel_rfl, by kernel_rfl, fun asv w => by simp⟩

def a127 : ACode :=
 (.seq
 (.region [⟨some 3, .mov (.c (.bool false)), none⟩])
 (.seq
 (.region [⟨some 4, .mov (.t 0), none⟩, ⟨some 5, .fa 3 (.t 1), none⟩, ⟨some 6, .ld false 1 (.t 5), none⟩, ⟨some 7, .bin .geq (.t 4) (.t 6), none⟩, ⟨some 3, .mov (.t 7), none⟩])
 .ret))
def r127 : List AOp := [(.mov (.t 3))]
theorem ok127 : FnOk Tryd.prog 127 Tryd.f127.ntmps a127 r127 := ⟨Tryd.f127, Tryd.func127, by kernel_rfl, by kernel_rfl, by kernel_rfl, fun asv w => by simp⟩

def a128 : ACode :=
 (.seq
 (.region [⟨some 4, .mov (.c (.bool false)), none⟩])
 (.seq
 (.region [⟨some 5, .mov (.t 0), none⟩, ⟨some 6, .mov (.t 1), none⟩, ⟨some 7, .call (.c (.func (.func 97) #[] #[])) [(.t 6)], none⟩, ⟨some 8, .gen 10 ⟨some 8, (.binOp .and 102 (.tmp 5) (.tmp 7) 102), 102, "piece.go:14", #[{ on := 0, ground := Go.Ground.data }, { on := 2, ground := Go.Ground.data }], none⟩, none⟩, ⟨some 9, .bin .neq (.t 8) (.c (.int .u64 0)), none⟩, ⟨some 4, .mov (.t 9), none⟩])
 .ret))
def r128 : List AOp := [(.mov (.t 4))]
theorem ok128 : FnOk Tryd.prog 128 Tryd.f128.ntmps a128 r128 := ⟨Tryd.f128, Tryd.func128, by kernel_rfl, by kernel_rfl, by kernel_rfl, fun asv w => by simp⟩

def a129 : ACode :=
 (.seq
 (.region [⟨some 6, .mov (.c (.int .i64 20)), none⟩])
 (.seq
 (.region [⟨some 10, .mov (.t 6), none⟩, ⟨some 7, .mov (.c (.int .i64 0)), none⟩, ⟨some 8, .mov (.t 10), none⟩])
 (.seq
 (.block 0
 (.loop
 (.seq
 (.seq
 (.region [⟨some 11, .mov (.t 8), none⟩, ⟨some 12, .mov (.t 1), none⟩, ⟨some 13, .bin .leq (.t 11) (.t 12), none⟩])
 (.cond (.t 13)
 .skip
 (.exit 0)))
 (.block 1
 (.seq
 (.region [⟨some 14, .mov (.t 0), none⟩, ⟨some 15, .mov (.t 7), none⟩, ⟨some 16, .mov (.t 8), none⟩, ⟨some 17, .mov (.t 2), none⟩, ⟨some 18, .call (.c (.func (.func 130) #[] #[])) [(.t 14), (.t 15), (.t 16), (.t 17)], none⟩])
 (.seq
 (.region [⟨some 19, .mov (.t 8), none⟩, ⟨some 7, .mov (.t 19), none⟩])
 (.region [⟨some 20, .mov (.t 8), none⟩, ⟨some 21, .mov (.t 6), none⟩, ⟨some 22, .bin .add (.t 20) (.t 21), none⟩, ⟨some 8, .mov (.t 22), none⟩])))))))
 (.seq
 (.region [⟨some 23, .mov (.t 0), none⟩, ⟨some 24, .mov (.t 7), none⟩, ⟨some 25, .mov (.t 1), none⟩, ⟨some 26, .mov (.t 2), none⟩, ⟨some 27, .call (.c (.func (.func 130) #[] #[])) [(.t 23), (.t 24), (.t 25), (.t 26)], none⟩])
 (.block 2
 (.loop
 (.seq
 (.seq
 (.region [⟨some 28, .mov (.t 6), none⟩, ⟨some 29, .mov (.t 1), none⟩, ⟨some 30, .bin .lss (.t 28) (.t 29), none⟩])
 (.cond (.t 30)
 .skip
 (.exit 2)))
 (.block 3
 (.seq
 (.region [⟨some 31, .mov (.t 6), none⟩, ⟨some 32, .bin .mul (.c (.int .i64 2)) (.t 31), none⟩, ⟨some 7, .mov (.c (.int .i64 0)), none⟩, ⟨some 8, .mov (.t 32), none⟩])
 (.seq
 (.block 4
 (.loop
 (.seq
 (.seq
 (.region [⟨some 33, .mov (.t 8), none⟩, ⟨some 34, .mov (.t 1), none⟩, ⟨some 35, .bin .leq (.t 33) (.t 34), none⟩])
 (.cond (.t 35)
 .skip
 (.exit 4)))
 (.block 5
 (.seq
 (.region [⟨some 36, .mov (.t 0), none⟩, ⟨some 37, .mov (.t 7), none⟩, ⟨some 38, .mov (.t 7), none⟩, ⟨some 39, .mov (.t 6), none⟩, ⟨some 40, .bin .add (.t 38) (.t 39), none⟩, ⟨some 41, .mov (.t 8), none⟩, ⟨some 42, .mov (.t 2), none⟩, ⟨some 43, .call (.c (.func (.func 131) #[] #[])) [(.t 36), (.t 37), (.t 40), (.t 41), (.t 42)], none⟩])
 (.seq
 (.region [⟨some 44, .mov (.t 8), none⟩, ⟨some 7, .mov (.t 44), none⟩])
 (.region [⟨some 45, .mov (.t 8), none⟩, ⟨some 46, .mov (.t 6), none⟩, ⟨some 47, .bin .mul (.c (.int .i64 2)) (.t 46), none⟩, ⟨some 48, .bin .add (.t 45) (.t 47), none⟩, ⟨some 8, .mov (.t 48), none⟩])))))))
 (.seq
 (.seq
 (.region [⟨some 49, .mov (.t 7), none⟩, ⟨some 50, .mov (.t 6), none⟩, ⟨some 51, .bin .add (.t 49) (.t 50), none⟩, ⟨some 9, .mov (.t 51), none⟩])
 (.seq
 (.region [⟨some 52, .mov (.t 9), none⟩, ⟨some 53, .mov (.t 1), none⟩, ⟨some 54, .bin .lss (.t 52) (.t 53), none⟩])
 (.cond (.t 54)
 (.region [⟨some 55, .mov (.t 0), none⟩, ⟨some 56, .mov (.t 7), none⟩, ⟨some 57, .mov (.t 9), none⟩, ⟨some 58, .mov (.t 1), none⟩, ⟨some 59, .mov (.t 2), none⟩, ⟨some 60, .call (.c (.func (.func 131) #[] #[])) [(.t 55), (.t 56), (.t 57), (.t 58), (.t 59)], none⟩])
 .skip)))
 (.region [⟨some 61, .mov (.t 6), none⟩, ⟨some 62, .bin .mul (.t 61) (.c (.int .i64 2)), none⟩, ⟨some 6, .mov (.t 62), none⟩]))))))))))))
def r129 : List AOp := []
theorem ok129 : FnOk Tryd.prog 129 Tryd.f129.ntmps a129 r129 := ⟨Tryd.f129, Tryd.func129, by kernel_rfl, by kernel_rfl, by kernel_rfl, fun asv w => by simp⟩

def a130 : ACode :=
 (.seq
 (.region [⟨some 10, .mov (.t 1), none⟩, ⟨some 11, .bin .add (.t 10) (.c (.int .i64 1)), none⟩, ⟨some 8, .mov (.t 11), none⟩])
 (.block 0
 (.loop
 (.seq
 (.seq
 (.region [⟨some 12, .mov (.t 8), none⟩, ⟨some 13, .mov (.t 2), none⟩, ⟨some 14, .bin .lss (.t 12) (.t 13), none⟩])
 (.cond (.t 14)
 .skip
 (.exit 0)))
 (.seq
 (.block 1
 (.seq
 (.region [⟨some 17, .mov (.t 8), none⟩, ⟨some 9, .mov (.t 17), none⟩])
 (.block 2
 (.loop
 (.seq
 (.seq
 (.draw 17 [⟨⟨some 18, .mov (.t 9), none⟩, 0, false, []⟩, ⟨⟨some 19, .mov (.t 1), none⟩, 1, false, []⟩, ⟨⟨some 20, .bin .gtr (.t 18) (.t 19), none⟩, 2, false, []⟩, ⟨⟨some 21, .mov (.t 20), none⟩, 3, false, []⟩, ⟨⟨some 22, .mov (.t 3), (some (21, true))⟩, 4, false, []⟩, ⟨⟨some 23, .mov (.t 0), (some (21, true))⟩, 5, false, []⟩, ⟨⟨some 24, .mov (.t 9), (some (21, true))⟩, 6, false, []⟩, ⟨⟨some 25, .isl 5 (.t 23) (.t 24), (some (21, true))⟩, 7, false, []⟩, ⟨⟨some 26, .ld true 5 (.t 25), (some (21, true))⟩, 8, false, []⟩, ⟨⟨some 27, .mov (.t 0), (some (21, true))⟩, 9, false, []⟩, ⟨⟨some 28, .mov (.t 9), (some (21, true))⟩, 10, false, []⟩, ⟨⟨some 29, .bin .sub (.t 28) (.c (.int .i64 1)), (some (21, true))⟩, 11, false, []⟩, ⟨⟨some 30, .isl 5 (.t 27) (.t 29), (some (21, true))⟩, 12, false, []⟩, ⟨⟨some 31, .ld true 5 (.t 30), (some (21, true))⟩, 13, false, []⟩, ⟨⟨some 32, .call (.t 22) [(.t 26), (.t 31)], (some (21, true))⟩, 14, true, []⟩, ⟨⟨some 33, .bin .lss (.t 32) (.c (.int .i64 0)), (some (21, true))⟩, 15, false, []⟩, ⟨⟨some 34, .pick (.t 21) (.t 33) (.c (.bool false)), none⟩, 16, false, []⟩])
 (.cond (.t 34)
 .skip
 (.exit 2)))
 (.seq
 (.block 3
 (.draw 18 [⟨⟨some 37, .mov (.t 0), none⟩, 0, false, []⟩, ⟨⟨some 38, .mov (.t 9), none⟩, 1, false, []⟩, ⟨⟨some 39, .mov (.t 0), none⟩, 2, false, []⟩, ⟨⟨some 40, .mov (.t 9), none⟩, 3, false, []⟩, ⟨⟨some 41, .bin .sub (.t 40) (.c (.int .i64 1)), none⟩, 4, false, []⟩, ⟨⟨some 42, .mov (.t 0), none⟩, 5, false, []⟩, ⟨⟨some 43, .mov (.t 9), none⟩, 6, false, []⟩, ⟨⟨some 44, .bin .sub (.t 43) (.c (.int .i64 1)), none⟩, 7, false, []⟩, ⟨⟨some 45, .isl 5 (.t 42) (.t 44), none⟩, 8, false, []⟩, ⟨⟨some 46, .ld true 5 (.t 45), none⟩, 9, false, []⟩, ⟨⟨some 47, .mov (.t 0), none⟩, 10, false, []⟩, ⟨⟨some 48, .mov (.t 9), none⟩, 11, false, []⟩, ⟨⟨some 49, .isl 5 (.t 47) (.t 48), none⟩, 12, false, []⟩, ⟨⟨some 50, .ld true 5 (.t 49), none⟩, 13, false, []⟩, ⟨⟨some 51, .isl 5 (.t 37) (.t 38), none⟩, 14, false, []⟩, ⟨⟨none, .st 5 (.t 51) (.t 46), none⟩, 15, true, []⟩, ⟨⟨some 52, .isl 5 (.t 39) (.t 41), none⟩, 16, false, []⟩, ⟨⟨none, .st 5 (.t 52) (.t 50), none⟩, 17, true, []⟩]))
 (.region [⟨some 35, .mov (.t 9), none⟩, ⟨some 36, .bin .sub (.t 35) (.c (.int .i64 1)), none⟩, ⟨some 9, .mov (.t 36), none⟩])))))))
 (.region [⟨some 15, .mov (.t 8), none⟩, ⟨some 16, .bin .add (.t 15) (.c (.int .i64 1)), none⟩, ⟨some 8, .mov (.t 16), none⟩]))))))
def r130 : List AOp := []
theorem ok130 : FnOk Tryd.prog 130 Tryd.f130.ntmps a130 r130 := ⟨Tryd.f130, Tryd.func130, by kernel_rfl, by kernel_rfl, by kernel_rfl, fun asv w => by simp⟩

def a131 : ACode :=
 (.seq
 (.seq
 (.region [⟨some 25, .mov (.t 2), none⟩, ⟨some 26, .mov (.t 1), none⟩, ⟨some 27, .bin .sub (.t 25) (.t 26), none⟩, ⟨some 28, .bin .eql (.t 27) (.c (.int .i64 1)), none⟩])
 (.cond (.t 28)
 (.seq
 (.region [⟨some 29, .mov (.t 2), none⟩, ⟨some 10, .mov (.t 29), none⟩])
 (.seq
 (.region [⟨some 30, .mov (.t 3), none⟩, ⟨some 11, .mov (.t 30), none⟩])
 (.seq
 (.block 0
 (.loop
 (.seq
 (.seq
 (.region [⟨some 31, .mov (.t 10), none⟩, ⟨some 32, .mov (.t 11), none⟩, ⟨some 33, .bin .lss (.t 31) (.t 32), none⟩])
 (.cond (.t 33)
 .skip
 (.exit 0)))
 (.block 1
 (.seq
 (.region [⟨some 34, .mov (.t 10), none⟩, ⟨some 35, .mov (.t 11), none⟩, ⟨some 36, .bin .add (.t 34) (.t 35), none⟩, ⟨some 37, .cvi .u64 (.t 36), none⟩, ⟨some 38, .gen 220 ⟨some 38, (.binOp .shr 76 (.tmp 37) (.const (.int .u64 1)) 76), 76, "zsortanyfunc.go:389", #[{ on := 3, ground := Go.Ground.data }], none⟩, none⟩, ⟨some 39, .cvi .i64 (.t 38), none⟩, ⟨some 12, .mov (.t 39), none⟩])
 (.seq
 (.draw 11 [⟨⟨some 40, .mov (.t 4), none⟩, 0, false, []⟩, ⟨⟨some 41, .mov (.t 0), none⟩, 1, false, []⟩, ⟨⟨some 42, .mov (.t 12), none⟩, 2, false, []⟩, ⟨⟨some 43, .isl 5 (.t 41) (.t 42), none⟩, 3, false, []⟩, ⟨⟨some 44, .ld true 5 (.t 43), none⟩, 4, false, []⟩, ⟨⟨some 45, .mov (.t 0), none⟩, 5, false, []⟩, ⟨⟨some 46, .mov (.t 1), none⟩, 6, false, []⟩, ⟨⟨some 47, .isl 5 (.t 45) (.t 46), none⟩, 7, false, []⟩, ⟨⟨some 48, .ld true 5 (.t 47), none⟩, 8, false, []⟩, ⟨⟨some 49, .call (.t 40) [(.t 44), (.t 48)], none⟩, 9, true, []⟩, ⟨⟨some 50, .bin .lss (.t 49) (.c (.int .i64 0)), none⟩, 10, false, []⟩])
 (.cond (.t 50)
 (.region [⟨some 51, .mov (.t 12), none⟩, ⟨some 52, .bin .add (.t 51) (.c (.int .i64 1)), none⟩, ⟨some 10, .mov (.t 52), none⟩])
 (.region [⟨some 53, .mov (.t 12), none⟩, ⟨some 11, .mov (.t 53), none⟩]))))))))
 (.seq
 (.seq
 (.region [⟨some 54, .mov (.t 1), none⟩, ⟨some 13, .mov (.t 54), none⟩])
 (.block 2
 (.loop
 (.seq
 (.seq
 (.region [⟨some 55, .mov (.t 13), none⟩, ⟨some 56, .mov (.t 10), none⟩, ⟨some 57, .bin .sub (.t 56) (.c (.int .i64 1)), none⟩, ⟨some 58, .bin .lss (.t 55) (.t 57), none⟩])
 (.cond (.t 58)
 .skip
 (.exit 2)))
 (.seq
 (.block 3
 (.draw 18 [⟨⟨some 61, .mov (.t 0), none⟩, 0, false, []⟩, ⟨⟨some 62, .mov (.t 13), none⟩, 1, false, []⟩, ⟨⟨some 63, .mov (.t 0), none⟩, 2, false, []⟩, ⟨⟨some 64, .mov (.t 13), none⟩, 3, false, []⟩, ⟨⟨some 65, .bin .add (.t 64) (.c (.int .i64 1)), none⟩, 4, false, []⟩, ⟨⟨some 66, .mov (.t 0), none⟩, 5, false, []⟩, ⟨⟨some 67, .mov (.t 13), none⟩, 6, false, []⟩, ⟨⟨some 68, .bin .add (.t 67) (.c (.int .i64 1)), none⟩, 7, false, []⟩, ⟨⟨some 69, .isl 5 (.t 66) (.t 68), none⟩, 8, false, []⟩, ⟨⟨some 70, .ld true 5 (.t 69), none⟩, 9, false, []⟩, ⟨⟨some 71, .mov (.t 0), none⟩, 10, false, []⟩, ⟨⟨some 72, .mov (.t 13), none⟩, 11, false, []⟩, ⟨⟨some 73, .isl 5 (.t 71) (.t 72), none⟩, 12, false, []⟩, ⟨⟨some 74, .ld true 5 (.t 73), none⟩, 13, false, []⟩, ⟨⟨some 75, .isl 5 (.t 61) (.t 62), none⟩, 14, false, []⟩, ⟨⟨none, .st 5 (.t 75) (.t 70), none⟩, 15, true, []⟩, ⟨⟨some 76, .isl 5 (.t 63) (.t 65), none⟩, 16, false, []⟩, ⟨⟨none, .st 5 (.t 76) (.t 74), none⟩, 17, true, []⟩]))
 (.region [⟨some 59, .mov (.t 13), none⟩, ⟨some 60, .bin .add (.t 59) (.c (.int .i64 1)), none⟩, ⟨some 13, .mov (.t 60), none⟩]))))))
 .ret))))
 .skip))
 (.seq
 (.seq
 (.region [⟨some 77, .mov (.t 3), none⟩, ⟨some 78, .mov (.t 2), none⟩, ⟨some 79, .bin .sub (.t 77) (.t 78), none⟩, ⟨some 80, .bin .eql (.t 79) (.c (.int .i64 1)), none⟩])
 (.cond (.t 80)
 (.seq
 (.region [⟨some 81, .mov (.t 1), none⟩, ⟨some 14, .mov (.t 81), none⟩])
 (.seq
 (.region [⟨some 82, .mov (.t 2), none⟩, ⟨some 15, .mov (.t 82), none⟩])
 (.seq
 (.block 4
 (.loop
 (.seq
 (.seq
 (.region [⟨some 83, .mov (.t 14), none⟩, ⟨some 84, .mov (.t 15), none⟩, ⟨some 85, .bin .lss (.t 83) (.t 84), none⟩])
 (.cond (.t 85)
 .skip
 (.exit 4)))
 (.block 5
 (.seq
 (.region [⟨some 86, .mov (.t 14), none⟩, ⟨some 87, .mov (.t 15), none⟩, ⟨some 88, .bin .add (.t 86) (.t 87), none⟩, ⟨some 89, .cvi .u64 (.t 88), none⟩, ⟨some 90, .gen 220 ⟨some 90, (.binOp .shr 76 (.tmp 89) (.const (.int .u64 1)) 76), 76, "zsortanyfunc.go:413", #[{ on := 3, ground := Go.Ground.data }], none⟩, none⟩, ⟨some 91, .cvi .i64 (.t 90), none⟩, ⟨some 16, .mov (.t 91), none⟩])
 (.seq
 (.draw 12 [⟨⟨some 92, .mov (.t 4), none⟩, 0, false, []⟩, ⟨⟨some 93, .mov (.t 0), none⟩, 1, false, []⟩, ⟨⟨some 94, .mov (.t 2), none⟩, 2, false, []⟩, ⟨⟨some 95, .isl 5 (.t 93) (.t 94), none⟩, 3, false, []⟩, ⟨⟨some 96, .ld true 5 (.t 95), none⟩, 4, false, []⟩, ⟨⟨some 97, .mov (.t 0), none⟩, 5, false, []⟩, ⟨⟨some 98, .mov (.t 16), none⟩, 6, false, []⟩, ⟨⟨some 99, .isl 5 (.t 97) (.t 98), none⟩, 7, false, []⟩, ⟨⟨some 100, .ld true 5 (.t 99), none⟩, 8, false, []⟩, ⟨⟨some 101, .call (.t 92) [(.t 96), (.t 100)], none⟩, 9, true, []⟩, ⟨⟨some 102, .bin .lss (.t 101) (.c (.int .i64 0)), none⟩, 10, false, []⟩, ⟨⟨some 103, .not (.t 102), none⟩, 11, false, []⟩])
 (.cond (.t 103)
 (.region [⟨some 104, .mov (.t 16), none⟩, ⟨some 105, .bin .add (.t 104) (.c (.int .i64 1)), none⟩, ⟨some 14, .mov (.t 105), none⟩])
 (.region [⟨some 106, .mov (.t 16), none⟩, ⟨some 15, .mov (.t 106), none⟩]))))))))
 (.seq
 (.seq
 (.region [⟨some 107, .mov (.t 2), none⟩, ⟨some 17, .mov (.t 107), none⟩])
 (.block 6
 (.loop
 (.seq
 (.seq
 (.region [⟨some 108, .mov (.t 17), none⟩, ⟨some 109, .mov (.t 14), none⟩, ⟨some 110, .bin .gtr (.t 108) (.t 109), none⟩])
 (.cond (.t 110)
 .skip
 (.exit 6)))
 (.seq
 (.block 7
 (.draw 18 [⟨⟨some 113, .mov (.t 0), none⟩, 0, false, []⟩, ⟨⟨some 114, .mov (.t 17), none⟩, 1, false, []⟩, ⟨⟨some 115, .mov (.t 0), none⟩, 2, false, []⟩, ⟨⟨some 116, .mov (.t 17), none⟩, 3, false, []⟩, ⟨⟨some 117, .bin .sub (.t 116) (.c (.int .i64 1)), none⟩, 4, false, []⟩, ⟨⟨some 118, .mov (.t 0), none⟩, 5, false, []⟩, ⟨⟨some 119, .mov (.t 17), none⟩, 6, false, []⟩, ⟨⟨some 120, .bin .sub (.t 119) (.c (.int .i64 1)), none⟩, 7, false, []⟩, ⟨⟨some 121, .isl 5 (.t 118) (.t 120), none⟩, 8, false, []⟩, ⟨⟨some 122, .ld true 5 (.t 121), none⟩, 9, false, []⟩, ⟨⟨some 123, .mov (.t 0), none⟩, 10, false, []⟩, ⟨⟨some 124, .mov (.t 17), none⟩, 11, false, []⟩, ⟨⟨some 125, .isl 5 (.t 123) (.t 124), none⟩, 12, false, []⟩, ⟨⟨some 126, .ld true 5 (.t 125), none⟩, 13, false, []⟩, ⟨⟨some 127, .isl 5 (.t 113) (.t 114), none⟩, 14, false, []⟩, ⟨⟨none, .st 5 (.t 127) (.t 122), none⟩, 15, true, []⟩, ⟨⟨some 128, .isl 5 (.t 115) (.t 117), none⟩, 16, false, []⟩, ⟨⟨none, .st 5 (.t 128) (.t 126), none⟩, 17, true, []⟩]))
 (.region [⟨some 111, .mov (.t 17), none⟩, ⟨some 112, .bin .sub (.t 111) (.c (.int .i64 1)), none⟩, ⟨some 17, .mov (.t 112), none⟩]))))))
 .ret))))
 .skip))
 (.seq
 (.region [⟨some 129, .mov (.t 1), none⟩, ⟨some 130, .mov (.t 3), none⟩, ⟨some 131, .bin .add (.t 129) (.t 130), none⟩, ⟨some 132, .cvi .u64 (.t 131), none⟩, ⟨some 133, .gen 220 ⟨some 133, (.binOp .shr 76 (.tmp 132) (.const (.int .u64 1)) 76), 76, "zsortanyfunc.go:427", #[{ on := 3, ground := Go.Ground.data }], none⟩, none⟩, ⟨some 134, .cvi .i64 (.t 133), none⟩, ⟨some 18, .mov (.t 134), none⟩])
 (.seq
 (.region [⟨some 135, .mov (.t 18), none⟩, ⟨some 136, .mov (.t 2), none⟩, ⟨some 137, .bin .add (.t 135) (.t 136), none⟩, ⟨some 19, .mov (.t 137), none⟩])
 (.seq
 (.region [⟨some 20, .mov (.c (.int .i64 0)), none⟩, ⟨some 21, .mov (.c (.int .i64 0)), none⟩])
 (.seq
 (.seq
 (.region [⟨some 138, .mov (.t 2), none⟩, ⟨some 139, .mov (.t 18), none⟩, ⟨some 140, .bin .gtr (.t 138) (.t 139), none⟩])
 (.cond (.t 140)
 (.seq
 (.region [⟨some 141, .mov (.t 19), none⟩, ⟨some 142, .mov (.t 3), none⟩, ⟨some 143, .bin .sub (.t 141) (.t 142), none⟩, ⟨some 20, .mov (.t 143), none⟩])
 (.region [⟨some 144, .mov (.t 18), none⟩, ⟨some 21, .mov (.t 144), none⟩]))
 (.seq
 (.region [⟨some 145, .mov (.t 1), none⟩, ⟨some 20, .mov (.t 145), none⟩])
 (.region [⟨some 146, .mov (.t 2), none⟩, ⟨some 21, .mov (.t 146), none⟩]))))
 (.seq
 (.region [⟨some 147, .mov (.t 19), none⟩, ⟨some 148, .bin .sub (.t 147) (.c (.int .i64 1)), none⟩, ⟨some 22, .mov (.t 148), none⟩])
 (.seq
 (.block 8
 (.loop
 (.seq
 (.seq
 (.region [⟨some 149, .mov (.t 20), none⟩, ⟨some 150, .mov (.t 21), none⟩, ⟨some 151, .bin .lss (.t 149) (.t 150), none⟩])
 (.cond (.t 151)
 .skip
 (.exit 8)))
 (.block 9
 (.seq
 (.region [⟨some 152, .mov (.t 20), none⟩, ⟨some 153, .mov (.t 21), none⟩, ⟨some 154, .bin .add (.t 152) (.t 153), none⟩, ⟨some 155, .cvi .u64 (.t 154), none⟩, ⟨some 156, .gen 220 ⟨some 156, (.binOp .shr 76 (.tmp 155) (.const (.int .u64 1)) 76), 76, "zsortanyfunc.go:440", #[{ on := 3, ground := Go.Ground.data }], none⟩, none⟩, ⟨some 157, .cvi .i64 (.t 156), none⟩, ⟨some 23, .mov (.t 157), none⟩])
 (.seq
 (.draw 14 [⟨⟨some 158, .mov (.t 4), none⟩, 0, false, []⟩, ⟨⟨some 159, .mov (.t 0), none⟩, 1, false, []⟩, ⟨⟨some 160, .mov (.t 22), none⟩, 2, false, []⟩, ⟨⟨some 161, .mov (.t 23), none⟩, 3, false, []⟩, ⟨⟨some 162, .bin .sub (.t 160) (.t 161), none⟩, 4, false, []⟩, ⟨⟨some 163, .isl 5 (.t 159) (.t 162), none⟩, 5, false, []⟩, ⟨⟨some 164, .ld true 5 (.t 163), none⟩, 6, false, []⟩, ⟨⟨some 165, .mov (.t 0), none⟩, 7, false, []⟩, ⟨⟨some 166, .mov (.t 23), none⟩, 8, false, []⟩, ⟨⟨some 167, .isl 5 (.t 165) (.t 166), none⟩, 9, false, []⟩, ⟨⟨some 168, .ld true 5 (.t 167), none⟩, 10, false, []⟩, ⟨⟨some 169, .call (.t 158) [(.t 164), (.t 168)], none⟩, 11, true, []⟩, ⟨⟨some 170, .bin .lss (.t 169) (.c (.int .i64 0)), none⟩, 12, false, []⟩, ⟨⟨some 171, .not (.t 170), none⟩, 13, false, []⟩])
 (.cond (.t 171)
 (.region [⟨some 172, .mov (.t 23), none⟩, ⟨some 173, .bin .add (.t 172) (.c (.int .i64 1)), none⟩, ⟨some 20, .mov (.t 173), none⟩])
 (.region [⟨some 174, .mov (.t 23), none⟩, ⟨some 21, .mov (.t 174), none⟩]))))))))
 (.seq
 (.region [⟨some 175, .mov (.t 19), none⟩, ⟨some 176, .mov (.t 20), none⟩, ⟨some 177, .bin .sub (.t 175) (.t 176), none⟩, ⟨some 24, .mov (.t 177), none⟩])
 (.seq
 (.seq
 (.region [⟨some 178, .mov (.t 20), none⟩, ⟨some 179, .mov (.t 2), none⟩, ⟨some 180, .bin .lss (.t 178) (.t 179), none⟩, ⟨some 181, .mov (.t 180), none⟩, ⟨some 182, .mov (.t 2), (some (181, true))⟩, ⟨some 183, .mov (.t 24), (some (181, true))⟩, ⟨some 184, .bin .lss (.t 182) (.t 183), (some (181, true))⟩, ⟨some 185, .pick (.t 181) (.t 184) (.c (.bool false)), none⟩])
 (.cond (.t 185)
 (.region [⟨some 186, .mov (.t 0), none⟩, ⟨some 187, .mov (.t 20), none⟩, ⟨some 188, .mov (.t 2), none⟩, ⟨some 189, .mov (.t 24), none⟩, ⟨some 190, .mov (.t 4), none⟩, ⟨some 191, .call (.c (.func (.func 132) #[] #[])) [(.t 186), (.t 187), (.t 188), (.t 189), (.t 190)], none⟩])
 .skip))
 (.seq
 (.seq
 (.region [⟨some 192, .mov (.t 1), none⟩, ⟨some 193, .mov (.t 20), none⟩, ⟨some 194, .bin .lss (.t 192) (.t 193), none⟩, ⟨some 195, .mov (.t 194), none⟩, ⟨some 196, .mov (.t 20), (some (195, true))⟩, ⟨some 197, .mov (.t 18), (some (195, true))⟩, ⟨some 198, .bin .lss (.t 196) (.t 197), (some (195, true))⟩, ⟨some 199, .pick (.t 195) (.t 198) (.c (.bool false)), none⟩])
 (.cond (.t 199)
 (.region [⟨some 200, .mov (.t 0), none⟩, ⟨some 201, .mov (.t 1), none⟩, ⟨some 202, .mov (.t 20), none⟩, ⟨some 203, .mov (.t 18), none⟩, ⟨some 204, .mov (.t 4), none⟩, ⟨some 205, .call (.c (.func (.func 131) #[] #[])) [(.t 200), (.t 201), (.t 202), (.t 203), (.t 204)], none⟩])
 .skip))
 (.seq
 (.region [⟨some 206, .mov (.t 18), none⟩, ⟨some 207, .mov (.t 24), none⟩, ⟨some 208, .bin .lss (.t 206) (.t 207), none⟩, ⟨some 209, .mov (.t 208), none⟩, ⟨some 210, .mov (.t 24), (some (209, true))⟩, ⟨some 211, .mov (.t 3), (some (209, true))⟩, ⟨some 212, .bin .lss (.t 210) (.t 211), (some (209, true))⟩, ⟨some 213, .pick (.t 209) (.t 212) (.c (.bool false)), none⟩])
 (.cond (.t 213)
 (.region [⟨some 214, .mov (.t 0), none⟩, ⟨some 215, .mov (.t 18), none⟩, ⟨some 216, .mov (.t 24), none⟩, ⟨some 217, .mov (.t 3), none⟩, ⟨some 218, .mov (.t 4), none⟩, ⟨some 219, .call (.c (.func (.func 131) #[] #[])) [(.t 214), (.t 215), (.t 216), (.t 217), (.t 218)], none⟩])
 .skip)))))))))))))
def r131 : List AOp := []
theorem ok131 : FnOk Tryd.prog 131 Tryd.f131.ntmps a131 r131 := ⟨Tryd.f131, Tryd.func131, by kernel_rfl, by kernel_rfl, by kernel_rfl, fun asv w => by simp⟩

def a132 : ACode :=
 (.seq
 (.region [⟨some 12, .mov (.t 2), none⟩, ⟨some 13, .mov (.t 1), none⟩, ⟨some 14, .bin .sub (.t 12) (.t 13), none⟩, ⟨some 10, .mov (.t 14), none⟩])
 (.seq
 (.region [⟨some 15, .mov (.t 3), none⟩, ⟨some 16, .mov (.t 2), none⟩, ⟨some 17, .bin .sub (.t 15) (.t 16), none⟩, ⟨some 11, .mov (.t 17), none⟩])
 (.seq
 (.block 0
 (.loop
 (.seq
 (.seq
 (.region [⟨some 18, .mov (.t 10), none⟩, ⟨some 19, .mov (.t 11), none⟩, ⟨some 20, .bin .neq (.t 18) (.t 19), none⟩])
 (.cond (.t 20)
 .skip
 (.exit 0)))
 (.block 1
 (.seq
 (.region [⟨some 21, .mov (.t 10), none⟩, ⟨some 22, .mov (.t 11), none⟩, ⟨some 23, .bin .gtr (.t 21) (.t 22), none⟩])
 (.cond (.t 23)
 (.seq
 (.region [⟨some 24, .mov (.t 0), none⟩, ⟨some 25, .mov (.t 2), none⟩, ⟨some 26, .mov (.t 10), none⟩, ⟨some 27, .bin .sub (.t 25) (.t 26), none⟩, ⟨some 28, .mov (.t 2), none⟩, ⟨some 29, .mov (.t 11), none⟩, ⟨some 30, .mov (.t 4), none⟩, ⟨some 31, .call (.c (.func (.func 133) #[] #[])) [(.t 24), (.t 27), (.t 28), (.t 29), (.t 30)], none⟩])
 (.region [⟨some 32, .mov (.t 10), none⟩, ⟨some 33, .mov (.t 11), none⟩, ⟨some 34, .bin .sub (.t 32) (.t 33), none⟩, ⟨some 10, .mov (.t 34), none⟩]))
 (.seq
 (.region [⟨some 35, .mov (.t 0), none⟩, ⟨some 36, .mov (.t 2), none⟩, ⟨some 37, .mov (.t 10), none⟩, ⟨some 38, .bin .sub (.t 36) (.t 37), none⟩, ⟨some 39, .mov (.t 2), none⟩, ⟨some 40, .mov (.t 11), none⟩, ⟨some 41, .bin .add (.t 39) (.t 40), none⟩, ⟨some 42, .mov (.t 10), none⟩, ⟨some 43, .bin .sub (.t 41) (.t 42), none⟩, ⟨some 44, .mov (.t 10), none⟩, ⟨some 45, .mov (.t 4), none⟩, ⟨some 46, .call (.c (.func (.func 133) #[] #[])) [(.t 35), (.t 38), (.t 43), (.t 44), (.t 45)], none⟩])
 (.region [⟨some 47, .mov (.t 11), none⟩, ⟨some 48, .mov (.t 10), none⟩, ⟨some 49, .bin .sub (.t 47) (.t 48), none⟩, ⟨some 11, .mov (.t 49), none⟩]))))))))
 (.region [⟨some 50, .mov (.t 0), none⟩, ⟨some 51, .mov (.t 2), none⟩, ⟨some 52, .mov (.t 10), none⟩, ⟨some 53, .bin .sub (.t 51) (.t 52), none⟩, ⟨some 54, .mov (.t 2), none⟩, ⟨some 55, .mov (.t 10), none⟩, ⟨some 56, .mov (.t 4), none⟩, ⟨some 57, .call (.c (.func (.func 133) #[] #[])) [(.t 50), (.t 53), (.t 54), (.t 55), (.t 56)], none⟩]))))
def r132 : List AOp := []
theorem ok132 : FnOk Tryd.prog 132 Tryd.f132.ntmps a132 r132 := ⟨Tryd.f132, Tryd.func132, by kernel_rfl, by kernel_rfl, by kernel_rfl, fun asv w => by simp⟩

def a133 : ACode :=
 (.seq
 (.region [⟨some 10, .mov (.c (.int .i64 0)), none⟩])
 (.block 0
 (.loop
 (.seq
 (.seq
 (.region [⟨some 11, .mov (.t 10), none⟩, ⟨some 12, .mov (.t 3), none⟩, ⟨some 13, .bin .lss (.t 11) (.t 12), none⟩])
 (.cond (.t 13)
 .skip
 (.exit 0)))
 (.seq
 (.block 1
 (.draw 24 [⟨⟨some 16, .mov (.t 0), none⟩, 0, false, []⟩, ⟨⟨some 17, .mov (.t 1), none⟩, 1, false, []⟩, ⟨⟨some 18, .mov (.t 10), none⟩, 2, false, []⟩, ⟨⟨some 19, .bin .add (.t 17) (.t 18), none⟩, 3, false, []⟩, ⟨⟨some 20, .mov (.t 0), none⟩, 4, false, []⟩, ⟨⟨some 21, .mov (.t 2), none⟩, 5, false, []⟩, ⟨⟨some 22, .mov (.t 10), none⟩, 6, false, []⟩, ⟨⟨some 23, .bin .add (.t 21) (.t 22), none⟩, 7, false, []⟩, ⟨⟨some 24, .mov (.t 0), none⟩, 8, false, []⟩, ⟨⟨some 25, .mov (.t 2), none⟩, 9, false, []⟩, ⟨⟨some 26, .mov (.t 10), none⟩, 10, false, []⟩, ⟨⟨some 27, .bin .add (.t 25) (.t 26), none⟩, 11, false, []⟩, ⟨⟨some 28, .isl 5 (.t 24) (.t 27), none⟩, 12, false, []⟩, ⟨⟨some 29, .ld true 5 (.t 28), none⟩, 13, false, []⟩, ⟨⟨some 30, .mov (.t 0), none⟩, 14, false, []⟩, ⟨⟨some 31, .mov (.t 1), none⟩, 15, false, []⟩, ⟨⟨some 32, .mov (.t 10), none⟩, 16, false, []⟩, ⟨⟨some 33, .bin .add (.t 31) (.t 32), none⟩, 17, false, []⟩, ⟨⟨some 34, .isl 5 (.t 30) (.t 33), none⟩, 18, false, []⟩, ⟨⟨some 35, .ld true 5 (.t 34), none⟩, 19, false, []⟩, ⟨⟨some 36, .isl 5 (.t 16) (.t 19), none⟩, 20, false, []⟩, ⟨⟨none, .st 5 (.t 36) (.t 29), none⟩, 21, true, []⟩, ⟨⟨some 37, .isl 5 (.t 20) (.t 23), none⟩, 22, false, []⟩, ⟨⟨none, .st 5 (.t 37) (.t 35), none⟩, 23, true, []⟩]))
 (.region [⟨some 14, .mov (.t 10), none⟩, ⟨some 15, .bin .add (.t 14) (.c (.int .i64 1)), none⟩, ⟨some 10, .mov (.t 15), none⟩]))))))
def r133 : List AOp := []
theorem ok133 : FnOk Tryd.prog 133 Tryd.f133.ntmps a133 r133 := ⟨Tryd.f133, Tryd.func133, by kernel_rfl, by kernel_rfl, by kernel_rfl, fun asv w => by simp⟩

end Go.Proofs.YtjbbcpeidnkjlaaDoor
