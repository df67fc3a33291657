/-
  Joined texts of a calculus of abstract memory, and of contracts of the program's functions.
-/
import Derived.Test.YtohohnpjilinmaaJ15
import Derived.Test.YtohohnpjilinmaaRows
import Derived.ProofKit
import Derived.Laws.IdiomArrays
/-
  The arguments of the laws of package run, as the calculus has them.
-/
namespace Go.Proofs.Ytohohnpjilinmaa
open Go Go.Ab Go.RowKit Go.ChangeShapes Go.WideShapes

theorem ownT : ownKnob Try.prog.godebug = none := by kernel_rfl
theorem laidT : laidOutB Try.prog = true := by kernel_rfl
theorem cells3 : Try.prog.cellsOf 3 = 1 := by kernel_rfl
theorem cells38 : Try.prog.cellsOf 38 = 1 := by kernel_rfl
theorem cells22 : Try.prog.cellsOf 22 = 1 := by kernel_rfl
theorem cells23 : Try.prog.cellsOf 23 = 1 := by kernel_rfl
theorem cells25 : Try.prog.cellsOf 25 = 4 := by kernel_rfl
theorem cells66 : Try.prog.cellsOf 66 = 6 := by kernel_rfl

section
variable {H : Type} {enc : TypeId × Value → H} {w : World} {fuel : Nat} {v : Value} {x : DataW H × List MemPlace}

theorem maxLen_lt {n : Nat} (h : n ≤ maxLen) : n < 2 ^ 63 := by
  have : maxLen = 9223372036854775807 := rfl
  omega

theorem read_list (h : DataW.trod enc Try.prog w 0 (fun _ => true) true fuel 38 [v] = some x) : goodV w.heap.size (capM w.heap) v = true ∧ ∃ xs : List Int, IntsAt (absH w.heap) (absV w.heap.size v) xs := by
  obtain ⟨h1, xs, h2, h3, _⟩ := read_ints Try.underlying38 Try.underlying3 cells3 h
  exact ⟨h1, xs, h2, maxLen_lt h3⟩

theorem read_rows (h : DataW.trod enc Try.prog w 0 (fun _ => true) true fuel 22 [v] = some x) : goodV w.heap.size (capM w.heap) v = true ∧ ∃ xs : List (List Int), RowsAt (absH w.heap) (absV w.heap.size v) xs := by
  obtain ⟨h1, l, h2, h3, h4⟩ := read_slice (α := List Int × Value) (f := fun x => [x.2]) (Q := fun x => IntsAt (absH w.heap) x.2 x.1) Try.underlying22 (by rw [cells38]; omega) (fun n cs y hy => by
    obtain ⟨u, hu⟩ : ∃ u, cs = [u] := by
      rcases Deep.open_slice Try.underlying38 hy with ⟨hv, _⟩ | ⟨a, len, cap, m, n, D, Pl, hv, _⟩ <;> exact ⟨_, hv⟩
    subst hu
    obtain ⟨k1, xs, k2⟩ := read_list hy
    exact ⟨by simpa using k1, (xs, absV w.heap.size u), rfl, k2⟩) h
  refine ⟨h1, l.map (·.1), l.map (·.2), ?_, by simpa using maxLen_lt h3, fun i hi => ?_⟩
  · rw [cells38] at h2
    have e : l.flatMap (fun x => [x.2]) = l.map (·.2) := by
      clear h2 h3 h4
      induction l with
      | nil => rfl
      | cons x l ih => simp [ih]
    rw [← e, List.length_map]
    exact h2
  · simp at hi
    exact ⟨l[i].2, by simp [hi], by simpa using h4 _ (List.getElem_mem hi)⟩

theorem list4 {l : List Value} (h : l.length = 4) : ∃ a b c d, l = [a, b, c, d] := by
  match l, h with
  | [a, b, c, d], _ => exact ⟨a, b, c, d, rfl⟩
theorem list6 {l : List Value} (h : l.length = 6) : ∃ a b c d e f, l = [a, b, c, d, e, f] := by
  match l, h with
  | [a, b, c, d, e, f], _ => exact ⟨a, b, c, d, e, f, rfl⟩

theorem read_trip {cs : List Value} (h : DataW.trod enc Try.prog w 0 (fun _ => true) true fuel 66 cs = some x) : (∀ u ∈ cs, goodV w.heap.size (capM w.heap) u = true) ∧ ∃ t : Tr, cs.map (absV w.heap.size) = t.cells ∧ True := by
  obtain ⟨ys, n, _, _, hl, hyl, hf⟩ := DataW.trod_struct Try.underlying66 h
  rw [cells66] at hl
  obtain ⟨c0, c1, c2, c3, c4, c5, rfl⟩ := list6 hl
  have g : ∀ (i : Nat) (u : Value) (y : DataW H × List MemPlace), DataW.trod enc Try.prog w 0 (fun _ => true) true n 3 [u] = some y → ∃ z, u = .int .i64 z := fun i u y hy => by
    obtain ⟨z, hz, _⟩ := DataW.trod_int Try.underlying3 hy
    exact ⟨z, by simpa using hz⟩
  have hy6 : ys.length = 6 := by simpa using hyl
  have e0 := hf 0 _ rfl
  have e1 := hf 1 _ rfl
  have e2 := hf 2 _ rfl
  have e3 := hf 3 _ rfl
  have e4 := hf 4 _ rfl
  have e5 := hf 5 _ rfl
  simp [cells3, hy6] at e0 e1 e2 e3 e4 e5
  obtain ⟨z0, rfl⟩ := g 0 _ _ e0
  obtain ⟨z1, rfl⟩ := g 0 _ _ e1
  obtain ⟨z2, rfl⟩ := g 0 _ _ e2
  obtain ⟨z3, rfl⟩ := g 0 _ _ e3
  obtain ⟨z4, rfl⟩ := g 0 _ _ e4
  obtain ⟨z5, rfl⟩ := g 0 _ _ e5
  exact ⟨by simp [goodV], ⟨z0, z1, z2, z3, z4, z5⟩, rfl, trivial⟩

theorem read_trips (h : DataW.trod enc Try.prog w 0 (fun _ => true) true fuel 23 [v] = some x) : goodV w.heap.size (capM w.heap) v = true ∧ ∃ xs : List Tr, TripsAt (absH w.heap) (absV w.heap.size v) xs := by
  obtain ⟨h1, xs, h2, h3, _⟩ := read_slice (α := Tr) (f := Tr.cells) (Q := fun _ => True) Try.underlying23 (by rw [cells66]; omega) (fun n cs y hy => read_trip hy) h
  rw [cells66] at h2
  exact ⟨h1, xs, h2, maxLen_lt h3⟩

set_option maxRecDepth 100000 in
theorem read_table {base : Nat} {v : Value} {d : DataW H} {p : List MemPlace} (hval : Value.okWide Try.prog w .any base 25 v) (h : DataW.Trod enc Try.prog w 0 (fun _ => true) true 25 v d p) :
    ∃ T e s, VR (absB w.heap) (tabV T e s) v ∧ TabAt (absH w.heap) e s T := by
  simp only [Value.okWide, Try.underlying25] at hval
  obtain ⟨cs, rfl, hsz, _⟩ := hval
  obtain ⟨fuel, h⟩ := h
  simp only [Value.cells] at h
  obtain ⟨ys, n, _, _, hl, hyl, hf⟩ := DataW.trod_struct Try.underlying25 h
  rw [cells25] at hl
  obtain ⟨l, rfl⟩ : ∃ l : List Value, cs = l.toArray := ⟨cs.toList, by simp⟩
  simp only at hl hf
  obtain ⟨c0, c1, c2, c3, rfl⟩ := list4 hl
  have hy4 : ys.length = 4 := by simpa using hyl
  have e0 := hf 0 _ rfl
  have e1 := hf 1 _ rfl
  have e2 := hf 2 _ rfl
  have e3 := hf 3 _ rfl
  simp [cells3, cells22, cells23, hy4] at e0 e1 e2 e3
  obtain ⟨z0, hz0, _⟩ := DataW.trod_int Try.underlying3 e0
  obtain ⟨z1, hz1, _⟩ := DataW.trod_int Try.underlying3 e1
  obtain ⟨g2, xs, k2⟩ := read_rows e2
  obtain ⟨g3, ys, k3⟩ := read_trips e3
  simp at hz0 hz1
  subst hz0 hz1
  refine ⟨⟨z0, z1, xs, ys⟩, absV w.heap.size c2, absV w.heap.size c3, VR.mk_agg ?_, ⟨k2, k3⟩⟩
  exact ⟨.int _ _, .int _ _, good_VR g2, good_VR g3, trivial⟩
end

end Go.Proofs.Ytohohnpjilinmaa

/-
  The arguments of the laws of package run: lists, rows and numbers.
-/
namespace Go.Proofs.Ytohohnpjilinmaa
open Go Go.Ab Go.RowKit Go.ChangeShapes Go.WideShapes

/-- The types of the laws' arguments can be read again. -/
theorem readT {l : List Nat} (h : l.all (fun t => Try.prog.readableRec t && decide (t < Try.prog.types.size)) = true) : ∀ t ∈ l, Try.prog.readableRec t = true ∧ t < Try.prog.types.size := by
  intro t ht
  have := List.all_eq_true.1 h t ht
  simpa using this

section
variable {H : Type} {enc : TypeId × Value → H} {w : World} {base : Nat} {v : Value} {d : DataW H} {p : List MemPlace}

set_option maxRecDepth 100000 in
theorem read_rowsV (hval : Value.okWide Try.prog w .any base 22 v) (h : DataW.Trod enc Try.prog w 0 (fun _ => true) true 22 v d p) : VR (absB w.heap) (absV w.heap.size v) v ∧ ∃ xs, RowsAt (absH w.heap) (absV w.heap.size v) xs := by
  obtain ⟨a0, len, cap, rfl⟩ := okWide_slice Try.underlying22 hval
  obtain ⟨fuel, h⟩ := h
  obtain ⟨h1, h2⟩ := read_rows h
  exact ⟨good_VR h1, h2⟩
set_option maxRecDepth 100000 in
theorem read_listV (hval : Value.okWide Try.prog w .any base 38 v) (h : DataW.Trod enc Try.prog w 0 (fun _ => true) true 38 v d p) : VR (absB w.heap) (absV w.heap.size v) v ∧ ∃ xs, IntsAt (absH w.heap) (absV w.heap.size v) xs := by
  obtain ⟨a0, len, cap, rfl⟩ := okWide_slice Try.underlying38 hval
  obtain ⟨fuel, h⟩ := h
  obtain ⟨h1, h2⟩ := read_list h
  exact ⟨good_VR h1, h2⟩
end

end Go.Proofs.Ytohohnpjilinmaa

/-
  The arguments of the laws of package run: bytes, numbers of 16 bits, fleets and trips.
-/
namespace Go.Proofs.Ytohohnpjilinmaa
open Go Go.Ab Go.RowKit Go.ChangeShapes Go.WideShapes

theorem cells5 : Try.prog.cellsOf 5 = 1 := by kernel_rfl
theorem cells73 : Try.prog.cellsOf 73 = 3 := by kernel_rfl

theorem list3 {l : List Value} (h : l.length = 3) : ∃ a b c, l = [a, b, c] := by
  match l, h with
  | [a, b, c], _ => exact ⟨a, b, c, rfl⟩

section
variable {H : Type} {enc : TypeId × Value → H} {w : World} {base : Nat} {v : Value} {d : DataW H} {p : List MemPlace}

set_option maxRecDepth 100000 in
theorem read_u16V (hval : Value.okWide Try.prog w .any base 69 v) (h : DataW.Trod enc Try.prog w 0 (fun _ => true) true 69 v d p) : ∃ x : Int, VR (absB w.heap) (.int .u16 x) v ∧ (0 ≤ x ∧ x < 65536) := by
  obtain ⟨x, rfl⟩ := okWide_int Try.underlying69 hval
  obtain ⟨fuel, h⟩ := h
  obtain ⟨z, hz, _, hw⟩ := DataW.trod_int Try.underlying69 h
  simp [Value.cells] at hz
  subst hz
  simp [Lit.wf, IntKind.min, IntKind.max, IntKind.signed, IntKind.bits] at hw
  exact ⟨x, .int _ _, by omega⟩
set_option maxRecDepth 100000 in
theorem read_intV (hval : Value.okWide Try.prog w .any base 3 v) (_h : DataW.Trod enc Try.prog w 0 (fun _ => true) true 3 v d p) : ∃ x : Int, VR (absB w.heap) (.int .i64 x) v ∧ x = x := by
  obtain ⟨x, rfl⟩ := okWide_int Try.underlying3 hval
  exact ⟨x, .int _ _, rfl⟩
set_option maxRecDepth 100000 in
theorem read_u8V (hval : Value.okWide Try.prog w .any base 5 v) (h : DataW.Trod enc Try.prog w 0 (fun _ => true) true 5 v d p) : ∃ x : Int, VR (absB w.heap) (.int .u8 x) v ∧ (0 ≤ x ∧ x < 256) := by
  obtain ⟨x, rfl⟩ := okWide_int Try.underlying5 hval
  obtain ⟨fuel, h⟩ := h
  obtain ⟨z, hz, _, hw⟩ := DataW.trod_int Try.underlying5 h
  simp [Value.cells] at hz
  subst hz
  simp [Lit.wf, IntKind.min, IntKind.max, IntKind.signed, IntKind.bits] at hw
  exact ⟨x, .int _ _, by omega⟩
set_option maxRecDepth 100000 in
theorem read_tripV (hval : Value.okWide Try.prog w .any base 66 v) (h : DataW.Trod enc Try.prog w 0 (fun _ => true) true 66 v d p) : ∃ x : Tr, VR (absB w.heap) x.val v := by
  obtain ⟨cs, rfl, hsz⟩ := okWide_struct Try.underlying66 hval
  obtain ⟨fuel, h⟩ := h
  simp only [Value.cells] at h
  obtain ⟨l, rfl⟩ : ∃ l : List Value, cs = l.toArray := ⟨cs.toList, by simp⟩
  simp only at h
  obtain ⟨k1, t, k2, _⟩ := read_trip h
  rw [cells66] at hsz
  obtain ⟨c0, c1, c2, c3, c4, c5, rfl⟩ := list6 (by simpa using hsz)
  simp [Tr.cells] at k2
  obtain ⟨r0, r1, r2, r3, r4, r5⟩ := k2
  refine ⟨t, VR.mk_agg ?_⟩
  simp at k1
  obtain ⟨z0, z1, z2, z3, z4, z5⟩ := k1
  have q0 := good_VR z0
  have q1 := good_VR z1
  have q2 := good_VR z2
  have q3 := good_VR z3
  have q4 := good_VR z4
  have q5 := good_VR z5
  rw [r0] at q0
  rw [r1] at q1
  rw [r2] at q2
  rw [r3] at q3
  rw [r4] at q4
  rw [r5] at q5
  exact ⟨q0, q1, q2, q3, q4, q5, trivial⟩
set_option maxRecDepth 100000 in
theorem read_arr3V (hval : Value.okWide Try.prog w .any base 73 v) (h : DataW.Trod enc Try.prog w 0 (fun _ => true) true 73 v d p) : ∃ x y z : Int, VR (absB w.heap) (.agg #[.int .u8 x, .int .u8 y, .int .u8 z]) v ∧ ((0 ≤ x ∧ x < 256) ∧ (0 ≤ y ∧ y < 256) ∧ (0 ≤ z ∧ z < 256)) := by
  simp only [Value.okWide, Try.underlying73] at hval
  obtain ⟨cs, rfl, hsz, _⟩ := hval
  obtain ⟨fuel, h⟩ := h
  simp only [Value.cells] at h
  obtain ⟨l, rfl⟩ : ∃ l : List Value, cs = l.toArray := ⟨cs.toList, by simp⟩
  rw [cells73] at hsz
  obtain ⟨c0, c1, c2, rfl⟩ := list3 (by simpa using hsz)
  simp only at h
  obtain ⟨y0, y1, y2, n, _, e0, e1, e2⟩ := trod_array3 Try.underlying73 cells5 h
  obtain ⟨z0, hz0, _, hw0⟩ := DataW.trod_int Try.underlying5 e0
  obtain ⟨z1, hz1, _, hw1⟩ := DataW.trod_int Try.underlying5 e1
  obtain ⟨z2, hz2, _, hw2⟩ := DataW.trod_int Try.underlying5 e2
  simp at hz0 hz1 hz2
  subst hz0 hz1 hz2
  simp [Lit.wf, IntKind.min, IntKind.max, IntKind.signed, IntKind.bits] at hw0 hw1 hw2
  refine ⟨z0, z1, z2, VR.mk_agg ⟨.int _ _, .int _ _, .int _ _, trivial⟩, by omega, by omega, by omega⟩
end

end Go.Proofs.Ytohohnpjilinmaa
