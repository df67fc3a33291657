/-
  NARROWER THAN 'FOR EVERY INPUT', by the rows' own cells (each row's printed sentence says how): DutyLegal: laid · DutyDoes: laid · DutyBars: laid · DutyBounds: laid · DutyNames: laid · DutyTruth: laid · DutyFewest: laid · DutyProved: laid · DutyBarred: laid · DutyEasier: laid · DutyCut: laid · DutyLater: laid.
  DERIVED. THE GIVEN ROWS OF THIS SEAT. 12 by the template 'for every input the law returns true; each argument reads behind the call as it read before'; 0 by the template 'total and deterministic' (their statements: YtjbbcpeidnkjlaaDoorTotals.lean).
  GIVEN WITH THE SEED: the statements are not yours to turn. If you find one false, say at which input.
  Laid BY PROGRAM, IN A SANDBOX (cutbox-rows.mjs): the forced cells as the released guide's own fill.sh prints them over the translation 5219f42361d932a1… (all of the seat's roots in one cut). By AI agents, Wed Nov 11 2026. No macro, syntax, notation, axiom, sorry.
-/
import Derived.Test.YtjbbcpeidnkjlaaDoorChecked
import GoSem.Claim
import GoSem.ClaimJoined
import GoSem.ClaimMapViews
import Derived.JoinedTies
import Derived.KernelRfl
namespace Go.Proofs.YtjbbcpeidnkjlaaDoor
/- THE CELL 'sum', in the pinned program and in every row, IS THE sha256 OF THE DUMP (.gsa) THAT YtjbbcpeidnkjlaaDoorProg.lean LOADS. Nothing in Lean hashes anything: it is a label: what it is worth is what the hold of that sum in a sandbox is worth. -/
noncomputable def Tryd.pinned : Pinned := { name := "ytjbbcpeidnkjlaadoor", sum := "5219f42361d932a17a1d12686bb08842235dbdc0abef0c3ef944f6cec47f48b6", checked := Tryd.checked }
namespace Rows
def none {H : Type} : Left H := { results := [], args := [] }

/- WHAT THE LISTED PACKAGE-LEVEL VARIABLES READ AS WHEN THE CALL BEGINS. Each datum BY PROGRAM (the guide's laid-datum.mjs) off the statement by which the dump's own 'gosem.cut.vars' lays the variable. In a bare row this is a premise. The card (YtjbbcpeidnkjlaaDoorCards.lean) ties it to the program's text. -/
def laid_math_bits_deBruijn32tab {H : Type} : DataW H := .agg [.lit (.int .u8 0), .lit (.int .u8 1), .lit (.int .u8 28), .lit (.int .u8 2), .lit (.int .u8 29), .lit (.int .u8 14), .lit (.int .u8 24), .lit (.int .u8 3), .lit (.int .u8 30), .lit (.int .u8 22), .lit (.int .u8 20), .lit (.int .u8 15), .lit (.int .u8 25), .lit (.int .u8 17), .lit (.int .u8 4), .lit (.int .u8 8), .lit (.int .u8 31), .lit (.int .u8 27), .lit (.int .u8 13), .lit (.int .u8 23), .lit (.int .u8 21), .lit (.int .u8 19), .lit (.int .u8 16), .lit (.int .u8 7), .lit (.int .u8 26), .lit (.int .u8 12), .lit (.int .u8 18), .lit (.int .u8 6), .lit (.int .u8 11), .lit (.int .u8 5), .lit (.int .u8 10), .lit (.int .u8 9)]
def laid_math_bits_deBruijn64tab {H : Type} : DataW H := .agg [.lit (.int .u8 0), .lit (.int .u8 1), .lit (.int .u8 56), .lit (.int .u8 2), .lit (.int .u8 57), .lit (.int .u8 49), .lit (.int .u8 28), .lit (.int .u8 3), .lit (.int .u8 61), .lit (.int .u8 58), .lit (.int .u8 42), .lit (.int .u8 50), .lit (.int .u8 38), .lit (.int .u8 29), .lit (.int .u8 17), .lit (.int .u8 4), .lit (.int .u8 62), .lit (.int .u8 47), .lit (.int .u8 59), .lit (.int .u8 36), .lit (.int .u8 45), .lit (.int .u8 43), .lit (.int .u8 51), .lit (.int .u8 22), .lit (.int .u8 53), .lit (.int .u8 39), .lit (.int .u8 33), .lit (.int .u8 30), .lit (.int .u8 24), .lit (.int .u8 18), .lit (.int .u8 12), .lit (.int .u8 5), .lit (.int .u8 63), .lit (.int .u8 55), .lit (.int .u8 48), .lit (.int .u8 27), .lit (.int .u8 60), .lit (.int .u8 41), .lit (.int .u8 37), .lit (.int .u8 16), .lit (.int .u8 46), .lit (.int .u8 35), .lit (.int .u8 44), .lit (.int .u8 21), .lit (.int .u8 52), .lit (.int .u8 32), .lit (.int .u8 23), .lit (.int .u8 11), .lit (.int .u8 54), .lit (.int .u8 26), .lit (.int .u8 40), .lit (.int .u8 15), .lit (.int .u8 34), .lit (.int .u8 20), .lit (.int .u8 31), .lit (.int .u8 10), .lit (.int .u8 25), .lit (.int .u8 14), .lit (.int .u8 19), .lit (.int .u8 9), .lit (.int .u8 13), .lit (.int .u8 8), .lit (.int .u8 7), .lit (.int .u8 6)]

/-- 'layoverlaw02.DutyLegal': WHATEVER THE INPUT: true; the input reads as it did. -/
def dutyLegalSpec : ChangeSpec := { name := "dutyLegal", fn := fun _ => fun
  | [d1, d2] => { results := [.lit (.bool true)], args := [d1, d2] }
  | _ => none }
def dutyLegalRow : OpenClaim := { program := "ytjbbcpeidnkjlaadoor", sum := "5219f42361d932a17a1d12686bb08842235dbdc0abef0c3ef944f6cec47f48b6", func := "layover/layoverlaw02.DutyLegal", spec := "dutyLegal", unfollowed := true, recurses := true, named := ["math/bits.deBruijn32tab", "math/bits.deBruijn64tab"], apart := false, laid := [("math/bits.deBruijn32tab", laid_math_bits_deBruijn32tab), ("math/bits.deBruijn64tab", laid_math_bits_deBruijn64tab)] }
def DutyLegalSaid : Prop := dutyLegalRow.holds Tryd.pinned (OpenSpec.ofChange dutyLegalSpec)

/-- ITS FALSE NEIGHBOUR: 'it returns false'. Refute it at one input. -/
def dutyLegalWrong : ChangeSpec := { name := "dutyLegal", fn := fun _ => fun
  | [d1, d2] => { results := [.lit (.bool false)], args := [d1, d2] }
  | _ => none }
def DutyLegalWrongFalsely : Prop := dutyLegalRow.holds Tryd.pinned (OpenSpec.ofChange dutyLegalWrong)

/-- 'layoverlaw02.DutyDoes': WHATEVER THE INPUT: true; the input reads as it did. -/
def dutyDoesSpec : ChangeSpec := { name := "dutyDoes", fn := fun _ => fun
  | [d1, d2, d3] => { results := [.lit (.bool true)], args := [d1, d2, d3] }
  | _ => none }
def dutyDoesRow : OpenClaim := { program := "ytjbbcpeidnkjlaadoor", sum := "5219f42361d932a17a1d12686bb08842235dbdc0abef0c3ef944f6cec47f48b6", func := "layover/layoverlaw02.DutyDoes", spec := "dutyDoes", unfollowed := true, recurses := true, named := ["math/bits.deBruijn32tab", "math/bits.deBruijn64tab"], apart := false, laid := [("math/bits.deBruijn32tab", laid_math_bits_deBruijn32tab), ("math/bits.deBruijn64tab", laid_math_bits_deBruijn64tab)] }
def DutyDoesSaid : Prop := dutyDoesRow.holds Tryd.pinned (OpenSpec.ofChange dutyDoesSpec)

/-- ITS FALSE NEIGHBOUR: 'it returns false'. Refute it at one input. -/
def dutyDoesWrong : ChangeSpec := { name := "dutyDoes", fn := fun _ => fun
  | [d1, d2, d3] => { results := [.lit (.bool false)], args := [d1, d2, d3] }
  | _ => none }
def DutyDoesWrongFalsely : Prop := dutyDoesRow.holds Tryd.pinned (OpenSpec.ofChange dutyDoesWrong)

/-- 'layoverlaw02.DutyBars': WHATEVER THE INPUT: true; the input reads as it did. -/
def dutyBarsSpec : ChangeSpec := { name := "dutyBars", fn := fun _ => fun
  | [d] => { results := [.lit (.bool true)], args := [d] }
  | _ => none }
def dutyBarsRow : OpenClaim := { program := "ytjbbcpeidnkjlaadoor", sum := "5219f42361d932a17a1d12686bb08842235dbdc0abef0c3ef944f6cec47f48b6", func := "layover/layoverlaw02.DutyBars", spec := "dutyBars", unfollowed := true, recurses := true, named := ["math/bits.deBruijn32tab", "math/bits.deBruijn64tab"], apart := false, laid := [("math/bits.deBruijn32tab", laid_math_bits_deBruijn32tab), ("math/bits.deBruijn64tab", laid_math_bits_deBruijn64tab)] }
def DutyBarsSaid : Prop := dutyBarsRow.holds Tryd.pinned (OpenSpec.ofChange dutyBarsSpec)

/-- ITS FALSE NEIGHBOUR: 'it returns false'. Refute it at one input. -/
def dutyBarsWrong : ChangeSpec := { name := "dutyBars", fn := fun _ => fun
  | [d] => { results := [.lit (.bool false)], args := [d] }
  | _ => none }
def DutyBarsWrongFalsely : Prop := dutyBarsRow.holds Tryd.pinned (OpenSpec.ofChange dutyBarsWrong)

/-- 'layoverlaw02.DutyBounds': WHATEVER THE INPUT: true; the input reads as it did. -/
def dutyBoundsSpec : ChangeSpec := { name := "dutyBounds", fn := fun _ => fun
  | [d1, d2] => { results := [.lit (.bool true)], args := [d1, d2] }
  | _ => none }
def dutyBoundsRow : OpenClaim := { program := "ytjbbcpeidnkjlaadoor", sum := "5219f42361d932a17a1d12686bb08842235dbdc0abef0c3ef944f6cec47f48b6", func := "layover/layoverlaw02.DutyBounds", spec := "dutyBounds", unfollowed := true, recurses := true, named := ["math/bits.deBruijn32tab", "math/bits.deBruijn64tab"], apart := false, laid := [("math/bits.deBruijn32tab", laid_math_bits_deBruijn32tab), ("math/bits.deBruijn64tab", laid_math_bits_deBruijn64tab)] }
def DutyBoundsSaid : Prop := dutyBoundsRow.holds Tryd.pinned (OpenSpec.ofChange dutyBoundsSpec)

/-- ITS FALSE NEIGHBOUR: 'it returns false'. Refute it at one input. -/
def dutyBoundsWrong : ChangeSpec := { name := "dutyBounds", fn := fun _ => fun
  | [d1, d2] => { results := [.lit (.bool false)], args := [d1, d2] }
  | _ => none }
def DutyBoundsWrongFalsely : Prop := dutyBoundsRow.holds Tryd.pinned (OpenSpec.ofChange dutyBoundsWrong)

/-- 'layoverlaw02.DutyNames': WHATEVER THE INPUT: true; the input reads as it did. -/
def dutyNamesSpec : ChangeSpec := { name := "dutyNames", fn := fun _ => fun
  | [] => { results := [.lit (.bool true)], args := [] }
  | _ => none }
def dutyNamesRow : OpenClaim := { program := "ytjbbcpeidnkjlaadoor", sum := "5219f42361d932a17a1d12686bb08842235dbdc0abef0c3ef944f6cec47f48b6", func := "layover/layoverlaw02.DutyNames", spec := "dutyNames", unfollowed := true, recurses := true, named := ["math/bits.deBruijn32tab", "math/bits.deBruijn64tab"], apart := false, laid := [("math/bits.deBruijn32tab", laid_math_bits_deBruijn32tab), ("math/bits.deBruijn64tab", laid_math_bits_deBruijn64tab)] }
def DutyNamesSaid : Prop := dutyNamesRow.holds Tryd.pinned (OpenSpec.ofChange dutyNamesSpec)

/-- ITS FALSE NEIGHBOUR: 'it returns false'. Refute it at one input. -/
def dutyNamesWrong : ChangeSpec := { name := "dutyNames", fn := fun _ => fun
  | [] => { results := [.lit (.bool false)], args := [] }
  | _ => none }
def DutyNamesWrongFalsely : Prop := dutyNamesRow.holds Tryd.pinned (OpenSpec.ofChange dutyNamesWrong)

/-- 'layoverlaw02.DutyTruth': WHATEVER THE INPUT: true; the input reads as it did. -/
def dutyTruthSpec : ChangeSpec := { name := "dutyTruth", fn := fun _ => fun
  | [d1, d2, d3] => { results := [.lit (.bool true)], args := [d1, d2, d3] }
  | _ => none }
def dutyTruthRow : OpenClaim := { program := "ytjbbcpeidnkjlaadoor", sum := "5219f42361d932a17a1d12686bb08842235dbdc0abef0c3ef944f6cec47f48b6", func := "layover/layoverlaw02.DutyTruth", spec := "dutyTruth", unfollowed := true, recurses := true, named := ["math/bits.deBruijn32tab", "math/bits.deBruijn64tab"], apart := false, laid := [("math/bits.deBruijn32tab", laid_math_bits_deBruijn32tab), ("math/bits.deBruijn64tab", laid_math_bits_deBruijn64tab)] }
def DutyTruthSaid : Prop := dutyTruthRow.holds Tryd.pinned (OpenSpec.ofChange dutyTruthSpec)

/-- ITS FALSE NEIGHBOUR: 'it returns false'. Refute it at one input. -/
def dutyTruthWrong : ChangeSpec := { name := "dutyTruth", fn := fun _ => fun
  | [d1, d2, d3] => { results := [.lit (.bool false)], args := [d1, d2, d3] }
  | _ => none }
def DutyTruthWrongFalsely : Prop := dutyTruthRow.holds Tryd.pinned (OpenSpec.ofChange dutyTruthWrong)

/-- 'layoverlaw02.DutyFewest': WHATEVER THE INPUT: true; the input reads as it did. -/
def dutyFewestSpec : ChangeSpec := { name := "dutyFewest", fn := fun _ => fun
  | [d1, d2] => { results := [.lit (.bool true)], args := [d1, d2] }
  | _ => none }
def dutyFewestRow : OpenClaim := { program := "ytjbbcpeidnkjlaadoor", sum := "5219f42361d932a17a1d12686bb08842235dbdc0abef0c3ef944f6cec47f48b6", func := "layover/layoverlaw02.DutyFewest", spec := "dutyFewest", unfollowed := true, recurses := true, named := ["math/bits.deBruijn32tab", "math/bits.deBruijn64tab"], apart := false, laid := [("math/bits.deBruijn32tab", laid_math_bits_deBruijn32tab), ("math/bits.deBruijn64tab", laid_math_bits_deBruijn64tab)] }
def DutyFewestSaid : Prop := dutyFewestRow.holds Tryd.pinned (OpenSpec.ofChange dutyFewestSpec)

/-- ITS FALSE NEIGHBOUR: 'it returns false'. Refute it at one input. -/
def dutyFewestWrong : ChangeSpec := { name := "dutyFewest", fn := fun _ => fun
  | [d1, d2] => { results := [.lit (.bool false)], args := [d1, d2] }
  | _ => none }
def DutyFewestWrongFalsely : Prop := dutyFewestRow.holds Tryd.pinned (OpenSpec.ofChange dutyFewestWrong)

/-- 'layoverlaw02.DutyProved': WHATEVER THE INPUT: true; the input reads as it did. -/
def dutyProvedSpec : ChangeSpec := { name := "dutyProved", fn := fun _ => fun
  | [d1, d2, d3] => { results := [.lit (.bool true)], args := [d1, d2, d3] }
  | _ => none }
def dutyProvedRow : OpenClaim := { program := "ytjbbcpeidnkjlaadoor", sum := "5219f42361d932a17a1d12686bb08842235dbdc0abef0c3ef944f6cec47f48b6", func := "layover/layoverlaw02.DutyProved", spec := "dutyProved", unfollowed := true, recurses := true, named := ["math/bits.deBruijn32tab", "math/bits.deBruijn64tab"], apart := false, laid := [("math/bits.deBruijn32tab", laid_math_bits_deBruijn32tab), ("math/bits.deBruijn64tab", laid_math_bits_deBruijn64tab)] }
def DutyProvedSaid : Prop := dutyProvedRow.holds Tryd.pinned (OpenSpec.ofChange dutyProvedSpec)

/-- ITS FALSE NEIGHBOUR: 'it returns false'. Refute it at one input. -/
def dutyProvedWrong : ChangeSpec := { name := "dutyProved", fn := fun _ => fun
  | [d1, d2, d3] => { results := [.lit (.bool false)], args := [d1, d2, d3] }
  | _ => none }
def DutyProvedWrongFalsely : Prop := dutyProvedRow.holds Tryd.pinned (OpenSpec.ofChange dutyProvedWrong)

/-- 'layoverlaw02.DutyBarred': WHATEVER THE INPUT: true; the input reads as it did. -/
def dutyBarredSpec : ChangeSpec := { name := "dutyBarred", fn := fun _ => fun
  | [d1, d2] => { results := [.lit (.bool true)], args := [d1, d2] }
  | _ => none }
def dutyBarredRow : OpenClaim := { program := "ytjbbcpeidnkjlaadoor", sum := "5219f42361d932a17a1d12686bb08842235dbdc0abef0c3ef944f6cec47f48b6", func := "layover/layoverlaw02.DutyBarred", spec := "dutyBarred", unfollowed := true, recurses := true, named := ["math/bits.deBruijn32tab", "math/bits.deBruijn64tab"], apart := false, laid := [("math/bits.deBruijn32tab", laid_math_bits_deBruijn32tab), ("math/bits.deBruijn64tab", laid_math_bits_deBruijn64tab)] }
def DutyBarredSaid : Prop := dutyBarredRow.holds Tryd.pinned (OpenSpec.ofChange dutyBarredSpec)

/-- ITS FALSE NEIGHBOUR: 'it returns false'. Refute it at one input. -/
def dutyBarredWrong : ChangeSpec := { name := "dutyBarred", fn := fun _ => fun
  | [d1, d2] => { results := [.lit (.bool false)], args := [d1, d2] }
  | _ => none }
def DutyBarredWrongFalsely : Prop := dutyBarredRow.holds Tryd.pinned (OpenSpec.ofChange dutyBarredWrong)

/-- 'layoverlaw02.DutyEasier': WHATEVER THE INPUT: true; the input reads as it did. -/
def dutyEasierSpec : ChangeSpec := { name := "dutyEasier", fn := fun _ => fun
  | [d1, d2, d3, d4, d5] => { results := [.lit (.bool true)], args := [d1, d2, d3, d4, d5] }
  | _ => none }
def dutyEasierRow : OpenClaim := { program := "ytjbbcpeidnkjlaadoor", sum := "5219f42361d932a17a1d12686bb08842235dbdc0abef0c3ef944f6cec47f48b6", func := "layover/layoverlaw02.DutyEasier", spec := "dutyEasier", unfollowed := true, recurses := true, named := ["math/bits.deBruijn32tab", "math/bits.deBruijn64tab"], apart := false, laid := [("math/bits.deBruijn32tab", laid_math_bits_deBruijn32tab), ("math/bits.deBruijn64tab", laid_math_bits_deBruijn64tab)] }
def DutyEasierSaid : Prop := dutyEasierRow.holds Tryd.pinned (OpenSpec.ofChange dutyEasierSpec)

/-- ITS FALSE NEIGHBOUR: 'it returns false'. Refute it at one input. -/
def dutyEasierWrong : ChangeSpec := { name := "dutyEasier", fn := fun _ => fun
  | [d1, d2, d3, d4, d5] => { results := [.lit (.bool false)], args := [d1, d2, d3, d4, d5] }
  | _ => none }
def DutyEasierWrongFalsely : Prop := dutyEasierRow.holds Tryd.pinned (OpenSpec.ofChange dutyEasierWrong)

/-- 'layoverlaw02.DutyCut': WHATEVER THE INPUT: true; the input reads as it did. -/
def dutyCutSpec : ChangeSpec := { name := "dutyCut", fn := fun _ => fun
  | [d1, d2, d3, d4, d5, d6] => { results := [.lit (.bool true)], args := [d1, d2, d3, d4, d5, d6] }
  | _ => none }
def dutyCutRow : OpenClaim := { program := "ytjbbcpeidnkjlaadoor", sum := "5219f42361d932a17a1d12686bb08842235dbdc0abef0c3ef944f6cec47f48b6", func := "layover/layoverlaw02.DutyCut", spec := "dutyCut", unfollowed := true, recurses := true, named := ["math/bits.deBruijn32tab", "math/bits.deBruijn64tab"], apart := false, laid := [("math/bits.deBruijn32tab", laid_math_bits_deBruijn32tab), ("math/bits.deBruijn64tab", laid_math_bits_deBruijn64tab)] }
def DutyCutSaid : Prop := dutyCutRow.holds Tryd.pinned (OpenSpec.ofChange dutyCutSpec)

/-- ITS FALSE NEIGHBOUR: 'it returns false'. Refute it at one input. -/
def dutyCutWrong : ChangeSpec := { name := "dutyCut", fn := fun _ => fun
  | [d1, d2, d3, d4, d5, d6] => { results := [.lit (.bool false)], args := [d1, d2, d3, d4, d5, d6] }
  | _ => none }
def DutyCutWrongFalsely : Prop := dutyCutRow.holds Tryd.pinned (OpenSpec.ofChange dutyCutWrong)

/-- 'layoverlaw02.DutyLater': WHATEVER THE INPUT: true; the input reads as it did. -/
def dutyLaterSpec : ChangeSpec := { name := "dutyLater", fn := fun _ => fun
  | [d1, d2, d3] => { results := [.lit (.bool true)], args := [d1, d2, d3] }
  | _ => none }
def dutyLaterRow : OpenClaim := { program := "ytjbbcpeidnkjlaadoor", sum := "5219f42361d932a17a1d12686bb08842235dbdc0abef0c3ef944f6cec47f48b6", func := "layover/layoverlaw02.DutyLater", spec := "dutyLater", unfollowed := true, recurses := true, named := ["math/bits.deBruijn32tab", "math/bits.deBruijn64tab"], apart := false, laid := [("math/bits.deBruijn32tab", laid_math_bits_deBruijn32tab), ("math/bits.deBruijn64tab", laid_math_bits_deBruijn64tab)] }
def DutyLaterSaid : Prop := dutyLaterRow.holds Tryd.pinned (OpenSpec.ofChange dutyLaterSpec)

/-- ITS FALSE NEIGHBOUR: 'it returns false'. Refute it at one input. -/
def dutyLaterWrong : ChangeSpec := { name := "dutyLater", fn := fun _ => fun
  | [d1, d2, d3] => { results := [.lit (.bool false)], args := [d1, d2, d3] }
  | _ => none }
def DutyLaterWrongFalsely : Prop := dutyLaterRow.holds Tryd.pinned (OpenSpec.ofChange dutyLaterWrong)

/- THE SECOND FORM. 'bulk': how many values and letters a reading holds, each counted each time it is reached (what is shared counts as often as it is met; a slice's spare places count too). A statement '..UptoSaid' is the law's where the arguments, and the package variables that the reading takes, are together of bulk at most 1048576: NARROWER than '..Said'. Prove '..Said' where nothing that the law and all that it calls make is longer than what came in: it says more and counts as full. Else prove '..UptoSaid'. A law counts once. -/
mutual
def uptoBulk {H : Type} : DataW H → Nat
  | .lit (.string bytes) => bytes.length + 1
  | .lit _ => 1
  | .nil => 1
  | .ptr d => uptoBulk d + 1
  | .slice elems spare => uptoBulkAll elems + uptoBulkAll spare + 1
  | .agg parts => uptoBulkAll parts + 1
  | .iface _ d => uptoBulk d + 1
  | .map entries => uptoBulkEntries entries + 1
  | .held _ => 1
def uptoBulkAll {H : Type} : List (DataW H) → Nat
  | [] => 0
  | d :: r => uptoBulk d + uptoBulkAll r
def uptoBulkEntries {H : Type} : List (Lit × DataW H) → Nat
  | [] => 0
  | x :: r => uptoBulkEntry x + uptoBulkEntries r
def uptoBulkEntry {H : Type} : Lit × DataW H → Nat
  | (.string bytes, d) => bytes.length + uptoBulk d + 1
  | (_, d) => uptoBulk d + 1
 end
def uptoSmall : (H : Type) → List (DataW H) → Bool := fun _ ds => decide (uptoBulkAll ds ≤ 1048576)
def OpenSpec.upto (s : _root_.Go.ChangeSpec) : _root_.Go.OpenSpec := { _root_.Go.OpenSpec.ofChange s with cond := some uptoSmall }

/-- 'layoverlaw02.DutyLegal', WHERE WHAT IT READS IS OF BULK AT MOST 1048576: true; the input reads as it did. -/
def dutyLegalUptoRow : OpenClaim := { program := "ytjbbcpeidnkjlaadoor", sum := "5219f42361d932a17a1d12686bb08842235dbdc0abef0c3ef944f6cec47f48b6", func := "layover/layoverlaw02.DutyLegal", spec := "dutyLegal", unfollowed := true, recurses := true, named := ["math/bits.deBruijn32tab", "math/bits.deBruijn64tab"], apart := false, laid := [("math/bits.deBruijn32tab", laid_math_bits_deBruijn32tab), ("math/bits.deBruijn64tab", laid_math_bits_deBruijn64tab)], narrowed := true }
def DutyLegalUptoSaid : Prop := dutyLegalUptoRow.holds Tryd.pinned (OpenSpec.upto dutyLegalSpec)

/-- 'layoverlaw02.DutyDoes', WHERE WHAT IT READS IS OF BULK AT MOST 1048576: true; the input reads as it did. -/
def dutyDoesUptoRow : OpenClaim := { program := "ytjbbcpeidnkjlaadoor", sum := "5219f42361d932a17a1d12686bb08842235dbdc0abef0c3ef944f6cec47f48b6", func := "layover/layoverlaw02.DutyDoes", spec := "dutyDoes", unfollowed := true, recurses := true, named := ["math/bits.deBruijn32tab", "math/bits.deBruijn64tab"], apart := false, laid := [("math/bits.deBruijn32tab", laid_math_bits_deBruijn32tab), ("math/bits.deBruijn64tab", laid_math_bits_deBruijn64tab)], narrowed := true }
def DutyDoesUptoSaid : Prop := dutyDoesUptoRow.holds Tryd.pinned (OpenSpec.upto dutyDoesSpec)

/-- 'layoverlaw02.DutyBars', WHERE WHAT IT READS IS OF BULK AT MOST 1048576: true; the input reads as it did. -/
def dutyBarsUptoRow : OpenClaim := { program := "ytjbbcpeidnkjlaadoor", sum := "5219f42361d932a17a1d12686bb08842235dbdc0abef0c3ef944f6cec47f48b6", func := "layover/layoverlaw02.DutyBars", spec := "dutyBars", unfollowed := true, recurses := true, named := ["math/bits.deBruijn32tab", "math/bits.deBruijn64tab"], apart := false, laid := [("math/bits.deBruijn32tab", laid_math_bits_deBruijn32tab), ("math/bits.deBruijn64tab", laid_math_bits_deBruijn64tab)], narrowed := true }
def DutyBarsUptoSaid : Prop := dutyBarsUptoRow.holds Tryd.pinned (OpenSpec.upto dutyBarsSpec)

/-- 'layoverlaw02.DutyBounds', WHERE WHAT IT READS IS OF BULK AT MOST 1048576: true; the input reads as it did. -/
def dutyBoundsUptoRow : OpenClaim := { program := "ytjbbcpeidnkjlaadoor", sum := "5219f42361d932a17a1d12686bb08842235dbdc0abef0c3ef944f6cec47f48b6", func := "layover/layoverlaw02.DutyBounds", spec := "dutyBounds", unfollowed := true, recurses := true, named := ["math/bits.deBruijn32tab", "math/bits.deBruijn64tab"], apart := false, laid := [("math/bits.deBruijn32tab", laid_math_bits_deBruijn32tab), ("math/bits.deBruijn64tab", laid_math_bits_deBruijn64tab)], narrowed := true }
def DutyBoundsUptoSaid : Prop := dutyBoundsUptoRow.holds Tryd.pinned (OpenSpec.upto dutyBoundsSpec)

/-- 'layoverlaw02.DutyNames', WHERE WHAT IT READS IS OF BULK AT MOST 1048576: true; the input reads as it did. -/
def dutyNamesUptoRow : OpenClaim := { program := "ytjbbcpeidnkjlaadoor", sum := "5219f42361d932a17a1d12686bb08842235dbdc0abef0c3ef944f6cec47f48b6", func := "layover/layoverlaw02.DutyNames", spec := "dutyNames", unfollowed := true, recurses := true, named := ["math/bits.deBruijn32tab", "math/bits.deBruijn64tab"], apart := false, laid := [("math/bits.deBruijn32tab", laid_math_bits_deBruijn32tab), ("math/bits.deBruijn64tab", laid_math_bits_deBruijn64tab)], narrowed := true }
def DutyNamesUptoSaid : Prop := dutyNamesUptoRow.holds Tryd.pinned (OpenSpec.upto dutyNamesSpec)

/-- 'layoverlaw02.DutyTruth', WHERE WHAT IT READS IS OF BULK AT MOST 1048576: true; the input reads as it did. -/
def dutyTruthUptoRow : OpenClaim := { program := "ytjbbcpeidnkjlaadoor", sum := "5219f42361d932a17a1d12686bb08842235dbdc0abef0c3ef944f6cec47f48b6", func := "layover/layoverlaw02.DutyTruth", spec := "dutyTruth", unfollowed := true, recurses := true, named := ["math/bits.deBruijn32tab", "math/bits.deBruijn64tab"], apart := false, laid := [("math/bits.deBruijn32tab", laid_math_bits_deBruijn32tab), ("math/bits.deBruijn64tab", laid_math_bits_deBruijn64tab)], narrowed := true }
def DutyTruthUptoSaid : Prop := dutyTruthUptoRow.holds Tryd.pinned (OpenSpec.upto dutyTruthSpec)

/-- 'layoverlaw02.DutyFewest', WHERE WHAT IT READS IS OF BULK AT MOST 1048576: true; the input reads as it did. -/
def dutyFewestUptoRow : OpenClaim := { program := "ytjbbcpeidnkjlaadoor", sum := "5219f42361d932a17a1d12686bb08842235dbdc0abef0c3ef944f6cec47f48b6", func := "layover/layoverlaw02.DutyFewest", spec := "dutyFewest", unfollowed := true, recurses := true, named := ["math/bits.deBruijn32tab", "math/bits.deBruijn64tab"], apart := false, laid := [("math/bits.deBruijn32tab", laid_math_bits_deBruijn32tab), ("math/bits.deBruijn64tab", laid_math_bits_deBruijn64tab)], narrowed := true }
def DutyFewestUptoSaid : Prop := dutyFewestUptoRow.holds Tryd.pinned (OpenSpec.upto dutyFewestSpec)

/-- 'layoverlaw02.DutyProved', WHERE WHAT IT READS IS OF BULK AT MOST 1048576: true; the input reads as it did. -/
def dutyProvedUptoRow : OpenClaim := { program := "ytjbbcpeidnkjlaadoor", sum := "5219f42361d932a17a1d12686bb08842235dbdc0abef0c3ef944f6cec47f48b6", func := "layover/layoverlaw02.DutyProved", spec := "dutyProved", unfollowed := true, recurses := true, named := ["math/bits.deBruijn32tab", "math/bits.deBruijn64tab"], apart := false, laid := [("math/bits.deBruijn32tab", laid_math_bits_deBruijn32tab), ("math/bits.deBruijn64tab", laid_math_bits_deBruijn64tab)], narrowed := true }
def DutyProvedUptoSaid : Prop := dutyProvedUptoRow.holds Tryd.pinned (OpenSpec.upto dutyProvedSpec)

/-- 'layoverlaw02.DutyBarred', WHERE WHAT IT READS IS OF BULK AT MOST 1048576: true; the input reads as it did. -/
def dutyBarredUptoRow : OpenClaim := { program := "ytjbbcpeidnkjlaadoor", sum := "5219f42361d932a17a1d12686bb08842235dbdc0abef0c3ef944f6cec47f48b6", func := "layover/layoverlaw02.DutyBarred", spec := "dutyBarred", unfollowed := true, recurses := true, named := ["math/bits.deBruijn32tab", "math/bits.deBruijn64tab"], apart := false, laid := [("math/bits.deBruijn32tab", laid_math_bits_deBruijn32tab), ("math/bits.deBruijn64tab", laid_math_bits_deBruijn64tab)], narrowed := true }
def DutyBarredUptoSaid : Prop := dutyBarredUptoRow.holds Tryd.pinned (OpenSpec.upto dutyBarredSpec)

/-- 'layoverlaw02.DutyEasier', WHERE WHAT IT READS IS OF BULK AT MOST 1048576: true; the input reads as it did. -/
def dutyEasierUptoRow : OpenClaim := { program := "ytjbbcpeidnkjlaadoor", sum := "5219f42361d932a17a1d12686bb08842235dbdc0abef0c3ef944f6cec47f48b6", func := "layover/layoverlaw02.DutyEasier", spec := "dutyEasier", unfollowed := true, recurses := true, named := ["math/bits.deBruijn32tab", "math/bits.deBruijn64tab"], apart := false, laid := [("math/bits.deBruijn32tab", laid_math_bits_deBruijn32tab), ("math/bits.deBruijn64tab", laid_math_bits_deBruijn64tab)], narrowed := true }
def DutyEasierUptoSaid : Prop := dutyEasierUptoRow.holds Tryd.pinned (OpenSpec.upto dutyEasierSpec)

/-- 'layoverlaw02.DutyCut', WHERE WHAT IT READS IS OF BULK AT MOST 1048576: true; the input reads as it did. -/
def dutyCutUptoRow : OpenClaim := { program := "ytjbbcpeidnkjlaadoor", sum := "5219f42361d932a17a1d12686bb08842235dbdc0abef0c3ef944f6cec47f48b6", func := "layover/layoverlaw02.DutyCut", spec := "dutyCut", unfollowed := true, recurses := true, named := ["math/bits.deBruijn32tab", "math/bits.deBruijn64tab"], apart := false, laid := [("math/bits.deBruijn32tab", laid_math_bits_deBruijn32tab), ("math/bits.deBruijn64tab", laid_math_bits_deBruijn64tab)], narrowed := true }
def DutyCutUptoSaid : Prop := dutyCutUptoRow.holds Tryd.pinned (OpenSpec.upto dutyCutSpec)

/-- 'layoverlaw02.DutyLater', WHERE WHAT IT READS IS OF BULK AT MOST 1048576: true; the input reads as it did. -/
def dutyLaterUptoRow : OpenClaim := { program := "ytjbbcpeidnkjlaadoor", sum := "5219f42361d932a17a1d12686bb08842235dbdc0abef0c3ef944f6cec47f48b6", func := "layover/layoverlaw02.DutyLater", spec := "dutyLater", unfollowed := true, recurses := true, named := ["math/bits.deBruijn32tab", "math/bits.deBruijn64tab"], apart := false, laid := [("math/bits.deBruijn32tab", laid_math_bits_deBruijn32tab), ("math/bits.deBruijn64tab", laid_math_bits_deBruijn64tab)], narrowed := true }
def DutyLaterUptoSaid : Prop := dutyLaterUptoRow.holds Tryd.pinned (OpenSpec.upto dutyLaterSpec)

end Rows
end Go.Proofs.YtjbbcpeidnkjlaaDoor
