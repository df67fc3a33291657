/-
  Joined texts of a calculus of abstract memory, of the program's code in it, and of contracts.
-/
import Derived.Test.YtfijnkhiojejfaaJ5
import Derived.KernelRfl
import Derived.Test.YtfijnkhiojejfaaChecked
namespace Go.Proofs.Ytfijnkhiojejfaa
open Go Go.Ab

def a104 : ACode :=
 (.seq
 .skip
 (.seq
 (.region [⟨some 8, .fa 0 (.t 1), none⟩, ⟨some 9, .fa 1 (.t 8), none⟩, ⟨some 10, .ld false 1 (.t 9), none⟩, ⟨some 11, .len (.t 10), none⟩, ⟨some 12, .mov (.c (.int .i64 0)), none⟩])
 (.block 0
 (.loop
 (.seq
 (.region [⟨some 13, .bin .lss (.t 12) (.t 11), none⟩])
 (.seq
 (.cond (.t 13)
 .skip
 (.exit 0))
 (.seq
 (.block 1
 (.seq
 (.region [⟨some 14, .mov (.t 12), none⟩, ⟨some 15, .isl 3 (.t 10) (.t 12), none⟩, ⟨some 16, .ld true 3 (.t 15), none⟩, ⟨some 5, .new [(.int .i64 0), (.int .i64 0), (.int .i64 0)], none⟩, ⟨some 4, .mov (.t 14), none⟩, ⟨none, .st 3 (.t 5) (.t 16), none⟩])
 (.seq
 (.seq
 (.region [⟨some 17, .mov (.t 4), none⟩, ⟨some 18, .iar 8 1 (.t 2) (.t 17), none⟩, ⟨some 19, .ld false 1 (.t 18), none⟩, ⟨some 20, .not (.t 19), none⟩])
 (.cond (.t 20)
 (.exit 1)
 .skip))
 (.seq
 (.seq
 (.region [⟨some 21, .fa 0 (.t 1), none⟩, ⟨some 22, .fa 1 (.t 21), none⟩, ⟨some 23, .ld false 1 (.t 22), none⟩, ⟨some 24, .len (.t 23), none⟩, ⟨some 25, .mov (.c (.int .i64 0)), none⟩])
 (.block 2
 (.loop
 (.seq
 (.region [⟨some 26, .bin .lss (.t 25) (.t 24), none⟩])
 (.seq
 (.cond (.t 26)
 .skip
 (.exit 2))
 (.seq
 (.block 3
 (.seq
 (.region [⟨some 27, .mov (.t 25), none⟩, ⟨some 28, .isl 3 (.t 23) (.t 25), none⟩, ⟨some 29, .ld true 3 (.t 28), none⟩, ⟨some 7, .new [(.int .i64 0), (.int .i64 0), (.int .i64 0)], none⟩, ⟨some 6, .mov (.t 27), none⟩, ⟨none, .st 3 (.t 7) (.t 29), none⟩])
 (.seq
 (.region [⟨some 30, .mov (.t 6), none⟩, ⟨some 31, .iar 8 1 (.t 2) (.t 30), none⟩, ⟨some 32, .ld false 1 (.t 31), none⟩, ⟨some 33, .mov (.t 32), none⟩, ⟨some 34, .fa 3 (.t 1), (some (33, true))⟩, ⟨some 35, .fa 1 (.t 34), (some (33, true))⟩, ⟨some 36, .ld false 1 (.t 35), (some (33, true))⟩, ⟨some 37, .ld true 3 (.t 5), (some (33, true))⟩, ⟨some 38, .ld true 3 (.t 7), (some (33, true))⟩, ⟨some 39, .call (.t 36) [(.t 37), (.t 38)], (some (33, true))⟩, ⟨some 40, .not (.t 39), (some (33, true))⟩, ⟨some 41, .pick (.t 33) (.t 40) (.c (.bool false)), none⟩])
 (.cond (.t 41)
 (.exit 1)
 .skip))))
 (.region [⟨some 42, .bin .add (.t 25) (.c (.int .i64 1)), none⟩, ⟨some 25, .mov (.t 42), none⟩])))))))
 (.seq
 (.region [⟨some 43, .mov (.t 0), none⟩, ⟨some 44, .mov (.t 4), none⟩, ⟨some 45, .call (.t 43) [(.t 44)], none⟩, ⟨some 46, .not (.t 45), none⟩])
 (.cond (.t 46)
 .ret
 .skip))))))
 (.region [⟨some 47, .bin .add (.t 12) (.c (.int .i64 1)), none⟩, ⟨some 12, .mov (.t 47), none⟩]))))))))
def r104 : List AOp := []
theorem ok104 : FnOk Try.prog 104 Try.f104.ntmps a104 r104 := ⟨Try.f104, Try.func104, by kernel_rfl, by kernel_rfl, by kernel_rfl, fun asv w => by simp⟩

def a105 : ACode :=
 (.seq
 (.region [⟨some 3, .box (.t 0), none⟩, ⟨some 6, .new [(.bool false), (.bool false), (.bool false), (.bool false), (.bool false), (.bool false), (.bool false), (.bool false), (.int .i64 0), (.int .i64 0)], none⟩])
 (.seq
 (.region [⟨some 7, .mov (.t 1), none⟩, ⟨some 8, .fa 0 (.t 3), none⟩, ⟨some 9, .iar 8 1 (.t 8) (.t 7), none⟩, ⟨none, .st 1 (.t 9) (.c (.bool false)), none⟩])
 (.seq
 (.region [⟨some 10, .fa 8 (.t 3), none⟩, ⟨some 11, .ld false 1 (.t 10), none⟩, ⟨some 12, .mov (.t 2), none⟩, ⟨some 13, .gen 22 ⟨some 13, (.call ⟨.builtin .min, #[(.tmp 11), (.tmp 12)], #[3, 3]⟩), 3, "search.go:25", #[{ on := 1, ground := Go.Ground.data }, { on := 2, ground := Go.Ground.data }], none⟩, none⟩, ⟨some 14, .fa 8 (.t 3), none⟩, ⟨none, .st 1 (.t 14) (.t 13), none⟩])
 (.seq
 (.seq
 (.region [⟨some 15, .mov (.t 2), none⟩, ⟨some 16, .bin .eql (.t 15) (.c (.int .i64 2001)), none⟩])
 (.cond (.t 16)
 (.region [⟨some 17, .fa 9 (.t 3), none⟩, ⟨some 18, .ld false 1 (.t 17), none⟩, ⟨some 19, .bin .sub (.t 18) (.c (.int .i64 1)), none⟩, ⟨some 20, .fa 9 (.t 3), none⟩, ⟨none, .st 1 (.t 20) (.t 19), none⟩])
 .skip))
 (.seq
 (.region [⟨some 21, .ld true 10 (.t 3), none⟩, ⟨none, .st 10 (.t 6) (.t 21), none⟩])
 .ret)))))
def r105 : List AOp := [(.ld true 10 (.t 6))]
theorem ok105 : FnOk Try.prog 105 Try.f105.ntmps a105 r105 := ⟨Try.f105, Try.func105, by kernel_rfl, by kernel_rfl, by kernel_rfl, fun asv w => by simp⟩

def a106 : ACode :=
 (.seq
 (.region [⟨some 6, .mov (.c (.int .i64 20)), none⟩])
 (.seq
 (.region [⟨some 10, .mov (.t 6), none⟩, ⟨some 7, .mov (.c (.int .i64 0)), none⟩, ⟨some 8, .mov (.t 10), none⟩])
 (.seq
 (.block 0
 (.loop
 (.seq
 (.seq
 (.region [⟨some 11, .mov (.t 8), none⟩, ⟨some 12, .mov (.t 1), none⟩, ⟨some 13, .bin .leq (.t 11) (.t 12), none⟩])
 (.cond (.t 13)
 .skip
 (.exit 0)))
 (.block 1
 (.seq
 (.region [⟨some 14, .mov (.t 0), none⟩, ⟨some 15, .mov (.t 7), none⟩, ⟨some 16, .mov (.t 8), none⟩, ⟨some 17, .mov (.t 2), none⟩, ⟨some 18, .call (.c (.func (.func 108) #[] #[])) [(.t 14), (.t 15), (.t 16), (.t 17)], none⟩])
 (.seq
 (.region [⟨some 19, .mov (.t 8), none⟩, ⟨some 7, .mov (.t 19), none⟩])
 (.region [⟨some 20, .mov (.t 8), none⟩, ⟨some 21, .mov (.t 6), none⟩, ⟨some 22, .bin .add (.t 20) (.t 21), none⟩, ⟨some 8, .mov (.t 22), none⟩])))))))
 (.seq
 (.region [⟨some 23, .mov (.t 0), none⟩, ⟨some 24, .mov (.t 7), none⟩, ⟨some 25, .mov (.t 1), none⟩, ⟨some 26, .mov (.t 2), none⟩, ⟨some 27, .call (.c (.func (.func 108) #[] #[])) [(.t 23), (.t 24), (.t 25), (.t 26)], none⟩])
 (.block 2
 (.loop
 (.seq
 (.seq
 (.region [⟨some 28, .mov (.t 6), none⟩, ⟨some 29, .mov (.t 1), none⟩, ⟨some 30, .bin .lss (.t 28) (.t 29), none⟩])
 (.cond (.t 30)
 .skip
 (.exit 2)))
 (.block 3
 (.seq
 (.region [⟨some 31, .mov (.t 6), none⟩, ⟨some 32, .bin .mul (.c (.int .i64 2)) (.t 31), none⟩, ⟨some 7, .mov (.c (.int .i64 0)), none⟩, ⟨some 8, .mov (.t 32), none⟩])
 (.seq
 (.block 4
 (.loop
 (.seq
 (.seq
 (.region [⟨some 33, .mov (.t 8), none⟩, ⟨some 34, .mov (.t 1), none⟩, ⟨some 35, .bin .leq (.t 33) (.t 34), none⟩])
 (.cond (.t 35)
 .skip
 (.exit 4)))
 (.block 5
 (.seq
 (.region [⟨some 36, .mov (.t 0), none⟩, ⟨some 37, .mov (.t 7), none⟩, ⟨some 38, .mov (.t 7), none⟩, ⟨some 39, .mov (.t 6), none⟩, ⟨some 40, .bin .add (.t 38) (.t 39), none⟩, ⟨some 41, .mov (.t 8), none⟩, ⟨some 42, .mov (.t 2), none⟩, ⟨some 43, .call (.c (.func (.func 109) #[] #[])) [(.t 36), (.t 37), (.t 40), (.t 41), (.t 42)], none⟩])
 (.seq
 (.region [⟨some 44, .mov (.t 8), none⟩, ⟨some 7, .mov (.t 44), none⟩])
 (.region [⟨some 45, .mov (.t 8), none⟩, ⟨some 46, .mov (.t 6), none⟩, ⟨some 47, .bin .mul (.c (.int .i64 2)) (.t 46), none⟩, ⟨some 48, .bin .add (.t 45) (.t 47), none⟩, ⟨some 8, .mov (.t 48), none⟩])))))))
 (.seq
 (.seq
 (.region [⟨some 49, .mov (.t 7), none⟩, ⟨some 50, .mov (.t 6), none⟩, ⟨some 51, .bin .add (.t 49) (.t 50), none⟩, ⟨some 9, .mov (.t 51), none⟩])
 (.seq
 (.region [⟨some 52, .mov (.t 9), none⟩, ⟨some 53, .mov (.t 1), none⟩, ⟨some 54, .bin .lss (.t 52) (.t 53), none⟩])
 (.cond (.t 54)
 (.region [⟨some 55, .mov (.t 0), none⟩, ⟨some 56, .mov (.t 7), none⟩, ⟨some 57, .mov (.t 9), none⟩, ⟨some 58, .mov (.t 1), none⟩, ⟨some 59, .mov (.t 2), none⟩, ⟨some 60, .call (.c (.func (.func 109) #[] #[])) [(.t 55), (.t 56), (.t 57), (.t 58), (.t 59)], none⟩])
 .skip)))
 (.region [⟨some 61, .mov (.t 6), none⟩, ⟨some 62, .bin .mul (.t 61) (.c (.int .i64 2)), none⟩, ⟨some 6, .mov (.t 62), none⟩]))))))))))))
def r106 : List AOp := []
theorem ok106 : FnOk Try.prog 106 Try.f106.ntmps a106 r106 := ⟨Try.f106, Try.func106, by kernel_rfl, by kernel_rfl, by kernel_rfl, fun asv w => by simp⟩

def a107 : ACode :=
 (.seq
 (.region [⟨some 2, .mov (.c (.bool false)), none⟩])
 (.seq
 (.region [⟨some 3, .mov (.t 0), none⟩, ⟨some 4, .mov (.t 0), none⟩, ⟨some 5, .bin .neq (.t 3) (.t 4), none⟩, ⟨some 2, .mov (.t 5), none⟩])
 .ret))
def r107 : List AOp := [(.mov (.t 2))]
theorem ok107 : FnOk Try.prog 107 Try.f107.ntmps a107 r107 := ⟨Try.f107, Try.func107, by kernel_rfl, by kernel_rfl, by kernel_rfl, fun asv w => by simp⟩

def a108 : ACode :=
 (.seq
 (.region [⟨some 10, .mov (.t 1), none⟩, ⟨some 11, .bin .add (.t 10) (.c (.int .i64 1)), none⟩, ⟨some 8, .mov (.t 11), none⟩])
 (.block 0
 (.loop
 (.seq
 (.seq
 (.region [⟨some 12, .mov (.t 8), none⟩, ⟨some 13, .mov (.t 2), none⟩, ⟨some 14, .bin .lss (.t 12) (.t 13), none⟩])
 (.cond (.t 14)
 .skip
 (.exit 0)))
 (.seq
 (.block 1
 (.seq
 (.region [⟨some 17, .mov (.t 8), none⟩, ⟨some 9, .mov (.t 17), none⟩])
 (.block 2
 (.loop
 (.seq
 (.seq
 (.draw 17 [⟨⟨some 18, .mov (.t 9), none⟩, 0, false, []⟩, ⟨⟨some 19, .mov (.t 1), none⟩, 1, false, []⟩, ⟨⟨some 20, .bin .gtr (.t 18) (.t 19), none⟩, 2, false, []⟩, ⟨⟨some 21, .mov (.t 20), none⟩, 3, false, []⟩, ⟨⟨some 22, .mov (.t 3), (some (21, true))⟩, 4, false, []⟩, ⟨⟨some 23, .mov (.t 0), (some (21, true))⟩, 5, false, []⟩, ⟨⟨some 24, .mov (.t 9), (some (21, true))⟩, 6, false, []⟩, ⟨⟨some 25, .isl 1 (.t 23) (.t 24), (some (21, true))⟩, 7, false, []⟩, ⟨⟨some 26, .ld false 1 (.t 25), (some (21, true))⟩, 8, false, []⟩, ⟨⟨some 27, .mov (.t 0), (some (21, true))⟩, 9, false, []⟩, ⟨⟨some 28, .mov (.t 9), (some (21, true))⟩, 10, false, []⟩, ⟨⟨some 29, .bin .sub (.t 28) (.c (.int .i64 1)), (some (21, true))⟩, 11, false, []⟩, ⟨⟨some 30, .isl 1 (.t 27) (.t 29), (some (21, true))⟩, 12, false, []⟩, ⟨⟨some 31, .ld false 1 (.t 30), (some (21, true))⟩, 13, false, []⟩, ⟨⟨some 32, .call (.t 22) [(.t 26), (.t 31)], (some (21, true))⟩, 14, true, []⟩, ⟨⟨some 33, .bin .lss (.t 32) (.c (.int .i64 0)), (some (21, true))⟩, 15, false, []⟩, ⟨⟨some 34, .pick (.t 21) (.t 33) (.c (.bool false)), none⟩, 16, false, []⟩])
 (.cond (.t 34)
 .skip
 (.exit 2)))
 (.seq
 (.block 3
 (.draw 18 [⟨⟨some 37, .mov (.t 0), none⟩, 0, false, []⟩, ⟨⟨some 38, .mov (.t 9), none⟩, 1, false, []⟩, ⟨⟨some 39, .mov (.t 0), none⟩, 2, false, []⟩, ⟨⟨some 40, .mov (.t 9), none⟩, 3, false, []⟩, ⟨⟨some 41, .bin .sub (.t 40) (.c (.int .i64 1)), none⟩, 4, false, []⟩, ⟨⟨some 42, .mov (.t 0), none⟩, 5, false, []⟩, ⟨⟨some 43, .mov (.t 9), none⟩, 6, false, []⟩, ⟨⟨some 44, .bin .sub (.t 43) (.c (.int .i64 1)), none⟩, 7, false, []⟩, ⟨⟨some 45, .isl 1 (.t 42) (.t 44), none⟩, 8, false, []⟩, ⟨⟨some 46, .ld false 1 (.t 45), none⟩, 9, false, []⟩, ⟨⟨some 47, .mov (.t 0), none⟩, 10, false, []⟩, ⟨⟨some 48, .mov (.t 9), none⟩, 11, false, []⟩, ⟨⟨some 49, .isl 1 (.t 47) (.t 48), none⟩, 12, false, []⟩, ⟨⟨some 50, .ld false 1 (.t 49), none⟩, 13, false, []⟩, ⟨⟨some 51, .isl 1 (.t 37) (.t 38), none⟩, 14, false, []⟩, ⟨⟨none, .st 1 (.t 51) (.t 46), none⟩, 15, true, []⟩, ⟨⟨some 52, .isl 1 (.t 39) (.t 41), none⟩, 16, false, []⟩, ⟨⟨none, .st 1 (.t 52) (.t 50), none⟩, 17, true, []⟩]))
 (.region [⟨some 35, .mov (.t 9), none⟩, ⟨some 36, .bin .sub (.t 35) (.c (.int .i64 1)), none⟩, ⟨some 9, .mov (.t 36), none⟩])))))))
 (.region [⟨some 15, .mov (.t 8), none⟩, ⟨some 16, .bin .add (.t 15) (.c (.int .i64 1)), none⟩, ⟨some 8, .mov (.t 16), none⟩]))))))
def r108 : List AOp := []
theorem ok108 : FnOk Try.prog 108 Try.f108.ntmps a108 r108 := ⟨Try.f108, Try.func108, by kernel_rfl, by kernel_rfl, by kernel_rfl, fun asv w => by simp⟩

def a109 : ACode :=
 (.seq
 (.seq
 (.region [⟨some 25, .mov (.t 2), none⟩, ⟨some 26, .mov (.t 1), none⟩, ⟨some 27, .bin .sub (.t 25) (.t 26), none⟩, ⟨some 28, .bin .eql (.t 27) (.c (.int .i64 1)), none⟩])
 (.cond (.t 28)
 (.seq
 (.region [⟨some 29, .mov (.t 2), none⟩, ⟨some 10, .mov (.t 29), none⟩])
 (.seq
 (.region [⟨some 30, .mov (.t 3), none⟩, ⟨some 11, .mov (.t 30), none⟩])
 (.seq
 (.block 0
 (.loop
 (.seq
 (.seq
 (.region [⟨some 31, .mov (.t 10), none⟩, ⟨some 32, .mov (.t 11), none⟩, ⟨some 33, .bin .lss (.t 31) (.t 32), none⟩])
 (.cond (.t 33)
 .skip
 (.exit 0)))
 (.block 1
 (.seq
 (.region [⟨some 34, .mov (.t 10), none⟩, ⟨some 35, .mov (.t 11), none⟩, ⟨some 36, .bin .add (.t 34) (.t 35), none⟩, ⟨some 37, .cvi .u64 (.t 36), none⟩, ⟨some 38, .gen 220 ⟨some 38, (.binOp .shr 139 (.tmp 37) (.const (.int .u64 1)) 139), 139, "zsortanyfunc.go:389", #[{ on := 3, ground := Go.Ground.data }], none⟩, none⟩, ⟨some 39, .cvi .i64 (.t 38), none⟩, ⟨some 12, .mov (.t 39), none⟩])
 (.seq
 (.draw 11 [⟨⟨some 40, .mov (.t 4), none⟩, 0, false, []⟩, ⟨⟨some 41, .mov (.t 0), none⟩, 1, false, []⟩, ⟨⟨some 42, .mov (.t 12), none⟩, 2, false, []⟩, ⟨⟨some 43, .isl 1 (.t 41) (.t 42), none⟩, 3, false, []⟩, ⟨⟨some 44, .ld false 1 (.t 43), none⟩, 4, false, []⟩, ⟨⟨some 45, .mov (.t 0), none⟩, 5, false, []⟩, ⟨⟨some 46, .mov (.t 1), none⟩, 6, false, []⟩, ⟨⟨some 47, .isl 1 (.t 45) (.t 46), none⟩, 7, false, []⟩, ⟨⟨some 48, .ld false 1 (.t 47), none⟩, 8, false, []⟩, ⟨⟨some 49, .call (.t 40) [(.t 44), (.t 48)], none⟩, 9, true, []⟩, ⟨⟨some 50, .bin .lss (.t 49) (.c (.int .i64 0)), none⟩, 10, false, []⟩])
 (.cond (.t 50)
 (.region [⟨some 51, .mov (.t 12), none⟩, ⟨some 52, .bin .add (.t 51) (.c (.int .i64 1)), none⟩, ⟨some 10, .mov (.t 52), none⟩])
 (.region [⟨some 53, .mov (.t 12), none⟩, ⟨some 11, .mov (.t 53), none⟩]))))))))
 (.seq
 (.seq
 (.region [⟨some 54, .mov (.t 1), none⟩, ⟨some 13, .mov (.t 54), none⟩])
 (.block 2
 (.loop
 (.seq
 (.seq
 (.region [⟨some 55, .mov (.t 13), none⟩, ⟨some 56, .mov (.t 10), none⟩, ⟨some 57, .bin .sub (.t 56) (.c (.int .i64 1)), none⟩, ⟨some 58, .bin .lss (.t 55) (.t 57), none⟩])
 (.cond (.t 58)
 .skip
 (.exit 2)))
 (.seq
 (.block 3
 (.draw 18 [⟨⟨some 61, .mov (.t 0), none⟩, 0, false, []⟩, ⟨⟨some 62, .mov (.t 13), none⟩, 1, false, []⟩, ⟨⟨some 63, .mov (.t 0), none⟩, 2, false, []⟩, ⟨⟨some 64, .mov (.t 13), none⟩, 3, false, []⟩, ⟨⟨some 65, .bin .add (.t 64) (.c (.int .i64 1)), none⟩, 4, false, []⟩, ⟨⟨some 66, .mov (.t 0), none⟩, 5, false, []⟩, ⟨⟨some 67, .mov (.t 13), none⟩, 6, false, []⟩, ⟨⟨some 68, .bin .add (.t 67) (.c (.int .i64 1)), none⟩, 7, false, []⟩, ⟨⟨some 69, .isl 1 (.t 66) (.t 68), none⟩, 8, false, []⟩, ⟨⟨some 70, .ld false 1 (.t 69), none⟩, 9, false, []⟩, ⟨⟨some 71, .mov (.t 0), none⟩, 10, false, []⟩, ⟨⟨some 72, .mov (.t 13), none⟩, 11, false, []⟩, ⟨⟨some 73, .isl 1 (.t 71) (.t 72), none⟩, 12, false, []⟩, ⟨⟨some 74, .ld false 1 (.t 73), none⟩, 13, false, []⟩, ⟨⟨some 75, .isl 1 (.t 61) (.t 62), none⟩, 14, false, []⟩, ⟨⟨none, .st 1 (.t 75) (.t 70), none⟩, 15, true, []⟩, ⟨⟨some 76, .isl 1 (.t 63) (.t 65), none⟩, 16, false, []⟩, ⟨⟨none, .st 1 (.t 76) (.t 74), none⟩, 17, true, []⟩]))
 (.region [⟨some 59, .mov (.t 13), none⟩, ⟨some 60, .bin .add (.t 59) (.c (.int .i64 1)), none⟩, ⟨some 13, .mov (.t 60), none⟩]))))))
 .ret))))
 .skip))
 (.seq
 (.seq
 (.region [⟨some 77, .mov (.t 3), none⟩, ⟨some 78, .mov (.t 2), none⟩, ⟨some 79, .bin .sub (.t 77) (.t 78), none⟩, ⟨some 80, .bin .eql (.t 79) (.c (.int .i64 1)), none⟩])
 (.cond (.t 80)
 (.seq
 (.region [⟨some 81, .mov (.t 1), none⟩, ⟨some 14, .mov (.t 81), none⟩])
 (.seq
 (.region [⟨some 82, .mov (.t 2), none⟩, ⟨some 15, .mov (.t 82), none⟩])
 (.seq
 (.block 4
 (.loop
 (.seq
 (.seq
 (.region [⟨some 83, .mov (.t 14), none⟩, ⟨some 84, .mov (.t 15), none⟩, ⟨some 85, .bin .lss (.t 83) (.t 84), none⟩])
 (.cond (.t 85)
 .skip
 (.exit 4)))
 (.block 5
 (.seq
 (.region [⟨some 86, .mov (.t 14), none⟩, ⟨some 87, .mov (.t 15), none⟩, ⟨some 88, .bin .add (.t 86) (.t 87), none⟩, ⟨some 89, .cvi .u64 (.t 88), none⟩, ⟨some 90, .gen 220 ⟨some 90, (.binOp .shr 139 (.tmp 89) (.const (.int .u64 1)) 139), 139, "zsortanyfunc.go:413", #[{ on := 3, ground := Go.Ground.data }], none⟩, none⟩, ⟨some 91, .cvi .i64 (.t 90), none⟩, ⟨some 16, .mov (.t 91), none⟩])
 (.seq
 (.draw 12 [⟨⟨some 92, .mov (.t 4), none⟩, 0, false, []⟩, ⟨⟨some 93, .mov (.t 0), none⟩, 1, false, []⟩, ⟨⟨some 94, .mov (.t 2), none⟩, 2, false, []⟩, ⟨⟨some 95, .isl 1 (.t 93) (.t 94), none⟩, 3, false, []⟩, ⟨⟨some 96, .ld false 1 (.t 95), none⟩, 4, false, []⟩, ⟨⟨some 97, .mov (.t 0), none⟩, 5, false, []⟩, ⟨⟨some 98, .mov (.t 16), none⟩, 6, false, []⟩, ⟨⟨some 99, .isl 1 (.t 97) (.t 98), none⟩, 7, false, []⟩, ⟨⟨some 100, .ld false 1 (.t 99), none⟩, 8, false, []⟩, ⟨⟨some 101, .call (.t 92) [(.t 96), (.t 100)], none⟩, 9, true, []⟩, ⟨⟨some 102, .bin .lss (.t 101) (.c (.int .i64 0)), none⟩, 10, false, []⟩, ⟨⟨some 103, .not (.t 102), none⟩, 11, false, []⟩])
 (.cond (.t 103)
 (.region [⟨some 104, .mov (.t 16), none⟩, ⟨some 105, .bin .add (.t 104) (.c (.int .i64 1)), none⟩, ⟨some 14, .mov (.t 105), none⟩])
 (.region [⟨some 106, .mov (.t 16), none⟩, ⟨some 15, .mov (.t 106), none⟩]))))))))
 (.seq
 (.seq
 (.region [⟨some 107, .mov (.t 2), none⟩, ⟨some 17, .mov (.t 107), none⟩])
 (.block 6
 (.loop
 (.seq
 (.seq
 (.region [⟨some 108, .mov (.t 17), none⟩, ⟨some 109, .mov (.t 14), none⟩, ⟨some 110, .bin .gtr (.t 108) (.t 109), none⟩])
 (.cond (.t 110)
 .skip
 (.exit 6)))
 (.seq
 (.block 7
 (.draw 18 [⟨⟨some 113, .mov (.t 0), none⟩, 0, false, []⟩, ⟨⟨some 114, .mov (.t 17), none⟩, 1, false, []⟩, ⟨⟨some 115, .mov (.t 0), none⟩, 2, false, []⟩, ⟨⟨some 116, .mov (.t 17), none⟩, 3, false, []⟩, ⟨⟨some 117, .bin .sub (.t 116) (.c (.int .i64 1)), none⟩, 4, false, []⟩, ⟨⟨some 118, .mov (.t 0), none⟩, 5, false, []⟩, ⟨⟨some 119, .mov (.t 17), none⟩, 6, false, []⟩, ⟨⟨some 120, .bin .sub (.t 119) (.c (.int .i64 1)), none⟩, 7, false, []⟩, ⟨⟨some 121, .isl 1 (.t 118) (.t 120), none⟩, 8, false, []⟩, ⟨⟨some 122, .ld false 1 (.t 121), none⟩, 9, false, []⟩, ⟨⟨some 123, .mov (.t 0), none⟩, 10, false, []⟩, ⟨⟨some 124, .mov (.t 17), none⟩, 11, false, []⟩, ⟨⟨some 125, .isl 1 (.t 123) (.t 124), none⟩, 12, false, []⟩, ⟨⟨some 126, .ld false 1 (.t 125), none⟩, 13, false, []⟩, ⟨⟨some 127, .isl 1 (.t 113) (.t 114), none⟩, 14, false, []⟩, ⟨⟨none, .st 1 (.t 127) (.t 122), none⟩, 15, true, []⟩, ⟨⟨some 128, .isl 1 (.t 115) (.t 117), none⟩, 16, false, []⟩, ⟨⟨none, .st 1 (.t 128) (.t 126), none⟩, 17, true, []⟩]))
 (.region [⟨some 111, .mov (.t 17), none⟩, ⟨some 112, .bin .sub (.t 111) (.c (.int .i64 1)), none⟩, ⟨some 17, .mov (.t 112), none⟩]))))))
 .ret))))
 .skip))
 (.seq
 (.region [⟨some 129, .mov (.t 1), none⟩, ⟨some 130, .mov (.t 3), none⟩, ⟨some 131, .bin .add (.t 129) (.t 130), none⟩, ⟨some 132, .cvi .u64 (.t 131), none⟩, ⟨some 133, .gen 220 ⟨some 133, (.binOp .shr 139 (.tmp 132) (.const (.int .u64 1)) 139), 139, "zsortanyfunc.go:427", #[{ on := 3, ground := Go.Ground.data }], none⟩, none⟩, ⟨some 134, .cvi .i64 (.t 133), none⟩, ⟨some 18, .mov (.t 134), none⟩])
 (.seq
 (.region [⟨some 135, .mov (.t 18), none⟩, ⟨some 136, .mov (.t 2), none⟩, ⟨some 137, .bin .add (.t 135) (.t 136), none⟩, ⟨some 19, .mov (.t 137), none⟩])
 (.seq
 (.region [⟨some 20, .mov (.c (.int .i64 0)), none⟩, ⟨some 21, .mov (.c (.int .i64 0)), none⟩])
 (.seq
 (.seq
 (.region [⟨some 138, .mov (.t 2), none⟩, ⟨some 139, .mov (.t 18), none⟩, ⟨some 140, .bin .gtr (.t 138) (.t 139), none⟩])
 (.cond (.t 140)
 (.seq
 (.region [⟨some 141, .mov (.t 19), none⟩, ⟨some 142, .mov (.t 3), none⟩, ⟨some 143, .bin .sub (.t 141) (.t 142), none⟩, ⟨some 20, .mov (.t 143), none⟩])
 (.region [⟨some 144, .mov (.t 18), none⟩, ⟨some 21, .mov (.t 144), none⟩]))
 (.seq
 (.region [⟨some 145, .mov (.t 1), none⟩, ⟨some 20, .mov (.t 145), none⟩])
 (.region [⟨some 146, .mov (.t 2), none⟩, ⟨some 21, .mov (.t 146), none⟩]))))
 (.seq
 (.region [⟨some 147, .mov (.t 19), none⟩, ⟨some 148, .bin .sub (.t 147) (.c (.int .i64 1)), none⟩, ⟨some 22, .mov (.t 148), none⟩])
 (.seq
 (.block 8
 (.loop
 (.seq
 (.seq
 (.region [⟨some 149, .mov (.t 20), none⟩, ⟨some 150, .mov (.t 21), none⟩, ⟨some 151, .bin .lss (.t 149) (.t 150), none⟩])
 (.cond (.t 151)
 .skip
 (.exit 8)))
 (.block 9
 (.seq
 (.region [⟨some 152, .mov (.t 20), none⟩, ⟨some 153, .mov (.t 21), none⟩, ⟨some 154, .bin .add (.t 152) (.t 153), none⟩, ⟨some 155, .cvi .u64 (.t 154), none⟩, ⟨some 156, .gen 220 ⟨some 156, (.binOp .shr 139 (.tmp 155) (.const (.int .u64 1)) 139), 139, "zsortanyfunc.go:440", #[{ on := 3, ground := Go.Ground.data }], none⟩, none⟩, ⟨some 157, .cvi .i64 (.t 156), none⟩, ⟨some 23, .mov (.t 157), none⟩])
 (.seq
 (.draw 14 [⟨⟨some 158, .mov (.t 4), none⟩, 0, false, []⟩, ⟨⟨some 159, .mov (.t 0), none⟩, 1, false, []⟩, ⟨⟨some 160, .mov (.t 22), none⟩, 2, false, []⟩, ⟨⟨some 161, .mov (.t 23), none⟩, 3, false, []⟩, ⟨⟨some 162, .bin .sub (.t 160) (.t 161), none⟩, 4, false, []⟩, ⟨⟨some 163, .isl 1 (.t 159) (.t 162), none⟩, 5, false, []⟩, ⟨⟨some 164, .ld false 1 (.t 163), none⟩, 6, false, []⟩, ⟨⟨some 165, .mov (.t 0), none⟩, 7, false, []⟩, ⟨⟨some 166, .mov (.t 23), none⟩, 8, false, []⟩, ⟨⟨some 167, .isl 1 (.t 165) (.t 166), none⟩, 9, false, []⟩, ⟨⟨some 168, .ld false 1 (.t 167), none⟩, 10, false, []⟩, ⟨⟨some 169, .call (.t 158) [(.t 164), (.t 168)], none⟩, 11, true, []⟩, ⟨⟨some 170, .bin .lss (.t 169) (.c (.int .i64 0)), none⟩, 12, false, []⟩, ⟨⟨some 171, .not (.t 170), none⟩, 13, false, []⟩])
 (.cond (.t 171)
 (.region [⟨some 172, .mov (.t 23), none⟩, ⟨some 173, .bin .add (.t 172) (.c (.int .i64 1)), none⟩, ⟨some 20, .mov (.t 173), none⟩])
 (.region [⟨some 174, .mov (.t 23), none⟩, ⟨some 21, .mov (.t 174), none⟩]))))))))
 (.seq
 (.region [⟨some 175, .mov (.t 19), none⟩, ⟨some 176, .mov (.t 20), none⟩, ⟨some 177, .bin .sub (.t 175) (.t 176), none⟩, ⟨some 24, .mov (.t 177), none⟩])
 (.seq
 (.seq
 (.region [⟨some 178, .mov (.t 20), none⟩, ⟨some 179, .mov (.t 2), none⟩, ⟨some 180, .bin .lss (.t 178) (.t 179), none⟩, ⟨some 181, .mov (.t 180), none⟩, ⟨some 182, .mov (.t 2), (some (181, true))⟩, ⟨some 183, .mov (.t 24), (some (181, true))⟩, ⟨some 184, .bin .lss (.t 182) (.t 183), (some (181, true))⟩, ⟨some 185, .pick (.t 181) (.t 184) (.c (.bool false)), none⟩])
 (.cond (.t 185)
 (.region [⟨some 186, .mov (.t 0), none⟩, ⟨some 187, .mov (.t 20), none⟩, ⟨some 188, .mov (.t 2), none⟩, ⟨some 189, .mov (.t 24), none⟩, ⟨some 190, .mov (.t 4), none⟩, ⟨some 191, .call (.c (.func (.func 110) #[] #[])) [(.t 186), (.t 187), (.t 188), (.t 189), (.t 190)], none⟩])
 .skip))
 (.seq
 (.seq
 (.region [⟨some 192, .mov (.t 1), none⟩, ⟨some 193, .mov (.t 20), none⟩, ⟨some 194, .bin .lss (.t 192) (.t 193), none⟩, ⟨some 195, .mov (.t 194), none⟩, ⟨some 196, .mov (.t 20), (some (195, true))⟩, ⟨some 197, .mov (.t 18), (some (195, true))⟩, ⟨some 198, .bin .lss (.t 196) (.t 197), (some (195, true))⟩, ⟨some 199, .pick (.t 195) (.t 198) (.c (.bool false)), none⟩])
 (.cond (.t 199)
 (.region [⟨some 200, .mov (.t 0), none⟩, ⟨some 201, .mov (.t 1), none⟩, ⟨some 202, .mov (.t 20), none⟩, ⟨some 203, .mov (.t 18), none⟩, ⟨some 204, .mov (.t 4), none⟩, ⟨some 205, .call (.c (.func (.func 109) #[] #[])) [(.t 200), (.t 201), (.t 202), (.t 203), (.t 204)], none⟩])
 .skip))
 (.seq
 (.region [⟨some 206, .mov (.t 18), none⟩, ⟨some 207, .mov (.t 24), none⟩, ⟨some 208, .bin .lss (.t 206) (.t 207), none⟩, ⟨some 209, .mov (.t 208), none⟩, ⟨some 210, .mov (.t 24), (some (209, true))⟩, ⟨some 211, .mov (.t 3), (some (209, true))⟩, ⟨some 212, .bin .lss (.t 210) (.t 211), (some (209, true))⟩, ⟨some 213, .pick (.t 209) (.t 212) (.c (.bool false)), none⟩])
 (.cond (.t 213)
 (.region [⟨some 214, .mov (.t 0), none⟩, ⟨some 215, .mov (.t 18), none⟩, ⟨some 216, .mov (.t 24), none⟩, ⟨some 217, .mov (.t 3), none⟩, ⟨some 218, .mov (.t 4), none⟩, ⟨some 219, .call (.c (.func (.func 109) #[] #[])) [(.t 214), (.t 215), (.t 216), (.t 217), (.t 218)], none⟩])
 .skip)))))))))))))
def r109 : List AOp := []
theorem ok109 : FnOk Try.prog 109 Try.f109.ntmps a109 r109 := ⟨Try.f109, Try.func109, by kernel_rfl, by kernel_rfl, by kernel_rfl, fun asv w => by simp⟩

def a110 : ACode :=
 (.seq
 (.region [⟨some 12, .mov (.t 2), none⟩, ⟨some 13, .mov (.t 1), none⟩, ⟨some 14, .bin .sub (.t 12) (.t 13), none⟩, ⟨some 10, .mov (.t 14), none⟩])
 (.seq
 (.region [⟨some 15, .mov (.t 3), none⟩, ⟨some 16, .mov (.t 2), none⟩, ⟨some 17, .bin .sub (.t 15) (.t 16), none⟩, ⟨some 11, .mov (.t 17), none⟩])
 (.seq
 (.block 0
 (.loop
 (.seq
 (.seq
 (.region [⟨some 18, .mov (.t 10), none⟩, ⟨some 19, .mov (.t 11), none⟩, ⟨some 20, .bin .neq (.t 18) (.t 19), none⟩])
 (.cond (.t 20)
 .skip
 (.exit 0)))
 (.block 1
 (.seq
 (.region [⟨some 21, .mov (.t 10), none⟩, ⟨some 22, .mov (.t 11), none⟩, ⟨some 23, .bin .gtr (.t 21) (.t 22), none⟩])
 (.cond (.t 23)
 (.seq
 (.region [⟨some 24, .mov (.t 0), none⟩, ⟨some 25, .mov (.t 2), none⟩, ⟨some 26, .mov (.t 10), none⟩, ⟨some 27, .bin .sub (.t 25) (.t 26), none⟩, ⟨some 28, .mov (.t 2), none⟩, ⟨some 29, .mov (.t 11), none⟩, ⟨some 30, .mov (.t 4), none⟩, ⟨some 31, .call (.c (.func (.func 111) #[] #[])) [(.t 24), (.t 27), (.t 28), (.t 29), (.t 30)], none⟩])
 (.region [⟨some 32, .mov (.t 10), none⟩, ⟨some 33, .mov (.t 11), none⟩, ⟨some 34, .bin .sub (.t 32) (.t 33), none⟩, ⟨some 10, .mov (.t 34), none⟩]))
 (.seq
 (.region [⟨some 35, .mov (.t 0), none⟩, ⟨some 36, .mov (.t 2), none⟩, ⟨some 37, .mov (.t 10), none⟩, ⟨some 38, .bin .sub (.t 36) (.t 37), none⟩, ⟨some 39, .mov (.t 2), none⟩, ⟨some 40, .mov (.t 11), none⟩, ⟨some 41, .bin .add (.t 39) (.t 40), none⟩, ⟨some 42, .mov (.t 10), none⟩, ⟨some 43, .bin .sub (.t 41) (.t 42), none⟩, ⟨some 44, .mov (.t 10), none⟩, ⟨some 45, .mov (.t 4), none⟩, ⟨some 46, .call (.c (.func (.func 111) #[] #[])) [(.t 35), (.t 38), (.t 43), (.t 44), (.t 45)], none⟩])
 (.region [⟨some 47, .mov (.t 11), none⟩, ⟨some 48, .mov (.t 10), none⟩, ⟨some 49, .bin .sub (.t 47) (.t 48), none⟩, ⟨some 11, .mov (.t 49), none⟩]))))))))
 (.region [⟨some 50, .mov (.t 0), none⟩, ⟨some 51, .mov (.t 2), none⟩, ⟨some 52, .mov (.t 10), none⟩, ⟨some 53, .bin .sub (.t 51) (.t 52), none⟩, ⟨some 54, .mov (.t 2), none⟩, ⟨some 55, .mov (.t 10), none⟩, ⟨some 56, .mov (.t 4), none⟩, ⟨some 57, .call (.c (.func (.func 111) #[] #[])) [(.t 50), (.t 53), (.t 54), (.t 55), (.t 56)], none⟩]))))
def r110 : List AOp := []
theorem ok110 : FnOk Try.prog 110 Try.f110.ntmps a110 r110 := ⟨Try.f110, Try.func110, by kernel_rfl, by kernel_rfl, by kernel_rfl, fun asv w => by simp⟩

def a111 : ACode :=
 (.seq
 (.region [⟨some 10, .mov (.c (.int .i64 0)), none⟩])
 (.block 0
 (.loop
 (.seq
 (.seq
 (.region [⟨some 11, .mov (.t 10), none⟩, ⟨some 12, .mov (.t 3), none⟩, ⟨some 13, .bin .lss (.t 11) (.t 12), none⟩])
 (.cond (.t 13)
 .skip
 (.exit 0)))
 (.seq
 (.block 1
 (.draw 24 [⟨⟨some 16, .mov (.t 0), none⟩, 0, false, []⟩, ⟨⟨some 17, .mov (.t 1), none⟩, 1, false, []⟩, ⟨⟨some 18, .mov (.t 10), none⟩, 2, false, []⟩, ⟨⟨some 19, .bin .add (.t 17) (.t 18), none⟩, 3, false, []⟩, ⟨⟨some 20, .mov (.t 0), none⟩, 4, false, []⟩, ⟨⟨some 21, .mov (.t 2), none⟩, 5, false, []⟩, ⟨⟨some 22, .mov (.t 10), none⟩, 6, false, []⟩, ⟨⟨some 23, .bin .add (.t 21) (.t 22), none⟩, 7, false, []⟩, ⟨⟨some 24, .mov (.t 0), none⟩, 8, false, []⟩, ⟨⟨some 25, .mov (.t 2), none⟩, 9, false, []⟩, ⟨⟨some 26, .mov (.t 10), none⟩, 10, false, []⟩, ⟨⟨some 27, .bin .add (.t 25) (.t 26), none⟩, 11, false, []⟩, ⟨⟨some 28, .isl 1 (.t 24) (.t 27), none⟩, 12, false, []⟩, ⟨⟨some 29, .ld false 1 (.t 28), none⟩, 13, false, []⟩, ⟨⟨some 30, .mov (.t 0), none⟩, 14, false, []⟩, ⟨⟨some 31, .mov (.t 1), none⟩, 15, false, []⟩, ⟨⟨some 32, .mov (.t 10), none⟩, 16, false, []⟩, ⟨⟨some 33, .bin .add (.t 31) (.t 32), none⟩, 17, false, []⟩, ⟨⟨some 34, .isl 1 (.t 30) (.t 33), none⟩, 18, false, []⟩, ⟨⟨some 35, .ld false 1 (.t 34), none⟩, 19, false, []⟩, ⟨⟨some 36, .isl 1 (.t 16) (.t 19), none⟩, 20, false, []⟩, ⟨⟨none, .st 1 (.t 36) (.t 29), none⟩, 21, true, []⟩, ⟨⟨some 37, .isl 1 (.t 20) (.t 23), none⟩, 22, false, []⟩, ⟨⟨none, .st 1 (.t 37) (.t 35), none⟩, 23, true, []⟩]))
 (.region [⟨some 14, .mov (.t 10), none⟩, ⟨some 15, .bin .add (.t 14) (.c (.int .i64 1)), none⟩, ⟨some 10, .mov (.t 15), none⟩]))))))
def r111 : List AOp := []
theorem ok111 : FnOk Try.prog 111 Try.f111.ntmps a111 r111 := ⟨Try.f111, Try.func111, by kernel_rfl, by kernel_rfl, by kernel_rfl, fun asv w => by simp⟩

end Go.Proofs.Ytfijnkhiojejfaa
