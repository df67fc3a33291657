/-
  Joined texts of a calculus of abstract memory, of the program's code in it, and of contracts.
-/
import Derived.Test.YtfijnkhiojejfaaJ9
import Derived.Test.YtfijnkhiojejfaaJ10
import Derived.Test.YtfijnkhiojejfaaJ11
import Derived.ProofKit
import Derived.Test.YtfijnkhiojejfaaRows
namespace Go.Proofs.Ytfijnkhiojejfaa
open Go Go.Ab

theorem awake_spec (A : Heap) : AFun Try.prog 17 [] A (fun r B => r = .bool true ∧ B = A) :=
  Entry.closed eAwake_ok rfl rfl rfl (fun g hg => absurd hg (Nat.not_lt_zero g))

end Go.Proofs.Ytfijnkhiojejfaa


namespace Go.Proofs.Ytfijnkhiojejfaa
open Go Go.Ab

set_option maxHeartbeats 2000000 in
theorem laneShunts_of {Y : Yd} {r b v u w : Value} {H : Heap} {ls os bs : List Int} (h : YardAt H r b Y) (hv : IntsAt H v ls) (hu : IntsAt H u os) (hw : IntsAt H w bs) : AFun Try.prog 4 [yardV Y r b, v, u, w] H (fun r _ => r = .bool true) := by
  refine AFun.mk ok4 hm (Nat.le_of_ble_eq_true rfl) ?_
  have hb := h.buses.one
  have hr := h.room.one
  have g0 : Ge H (H.new (.cells true [r, b, .int .i64 Y.broken] 3)) := Ge.new _ _
  simp [a4, r4]
  refine fcall_fun (thin_spec (h.ge g0)) ?_
  rintro _ H1 ⟨rfl, g1⟩
  have G1 := g0.trans g1
  have k1 := g1.got (n := H.next) (by simp) rfl
  have n1 := g1.next
  simp at k1 n1
  by_cases hr6 : Y.room.length ≤ 6
  case neg =>
    simp [hr6]
    refine fcall_fun (awake_spec _) ?_
    rintro _ _ ⟨rfl, _⟩
    simp
  by_cases hb12 : Y.buses.length ≤ 12
  case neg =>
    simp [hr6, hb12]
    refine fcall_fun (awake_spec _) ?_
    rintro _ _ ⟨rfl, _⟩
    simp
  simp [hr6, hb12, hv.lenV]
  by_cases hx1 : (15 : Int) < ls.length
  · simp [hx1]
    refine fcall_fun (awake_spec _) ?_
    rintro _ _ ⟨rfl, _⟩
    simp
  simp [hx1, hu.lenV]
  by_cases hx2 : (15 : Int) < os.length
  · simp [hx2]
    refine fcall_fun (awake_spec _) ?_
    rintro _ _ ⟨rfl, _⟩
    simp
  simp [hx2, hw.lenV]
  by_cases hx3 : (15 : Int) < bs.length
  · simp [hx3]
    refine fcall_fun (awake_spec _) ?_
    rintro _ _ ⟨rfl, _⟩
    simp
  simp [hx3, k1]
  refine fcall_fun (yard_spec (h.ge G1) hr6 hb12) ?_
  rintro _ H2 ⟨r2, b2, rfl, h2, g2⟩
  have G2 := G1.trans g2
  simp
  refine fcall_fun (list_spec (hv.ge G2) (by omega)) ?_
  rintro v3 H3 ⟨o3, g3⟩
  have G3 := G2.trans g3
  simp
  refine fcall_fun (list_spec (hu.ge G3) (by omega)) ?_
  rintro v4 H4 ⟨o4, g4⟩
  have G4 := G3.trans g4
  simp
  refine fcall_fun (list_spec (hw.ge G4) (by omega)) ?_
  rintro v5 H5 ⟨o5, g5⟩
  have G5 := G4.trans g5
  simp
  refine fcall_fun (shunts_spec (ls := ls) (os := os) (bs := bs) (h2.ge (g3.trans (g4.trans g5))) ((own_ints o3 hv.2).ge (g4.trans g5)) ((own_ints o4 hu.2).ge g5) (own_ints o5 hw.2)) ?_
  rintro _ H6 ⟨q, rfl, g6, hq1, hq2⟩
  have G6 := G5.trans g6
  have k6 := ((g2.trans (g3.trans (g4.trans g5))).trans g6).got (n := H.next) (by omega) k1
  have n6 := ((g2.trans (g3.trans (g4.trans g5))).trans g6).next
  simp [k6]
  refine fcall_fun (asked_spec (h.ge G6) (hv.ge G6) (hu.ge G6) (hw.ge G6) (by omega)) ?_
  rintro _ H7 ⟨rfl, g7⟩
  have G7 := G6.trans g7
  have k7 := g7.got (n := H.next) (by omega) k6
  by_cases hc : checkN Y ls os bs = 0
  case neg =>
    rw [hq1 hc]
    simp [hc]
    refine fcall_fun (awake_spec _) ?_
    rintro _ _ ⟨rfl, _⟩
    simp
  obtain ⟨c1, c2, c3, c4⟩ := checkN_zero hc
  obtain ⟨p1, p2, p3⟩ := possB_in c3
  have c5 := lanesB_len c2
  obtain ⟨_, f2, _, _, _, f6, _, _⟩ := okY_facts c1
  simp [hc, k7]
  refine fcall_fun (shuntsRef_spec (h.ge G7) (hv.ge G7) (hu.ge G7) (hw.ge G7) (by omega) f6 c5 (by omega) p2) ?_
  rintro sv H8 ⟨o8, g8⟩
  have hl : ∀ p, (thoseL Y p).length ≤ Y.buses.length := fun p => by
    refine Nat.le_trans (List.length_filter_le _ _) ?_
    simp [busesL]
  have i6 := own_ints (hq2 hc) (by have := hl (shB Y (standsOf ls os) (inF bs)); unfold shuntsL; omega)
  have i8 := own_ints o8 (by have := hl (shuntR (mornF (laneF ls) os [] (goL Y (inF bs)))); omega)
  rw [shunts_same c5 p1 p2 p3] at i8
  simp
  refine fcall_fun (ints_spec (i6.ge (g7.trans g8)) i8) ?_
  rintro _ H9 ⟨rfl, g9⟩
  simp
  refine fcall_fun (awake_spec _) ?_
  rintro _ _ ⟨rfl, _⟩
  simp

end Go.Proofs.Ytfijnkhiojejfaa


namespace Go.Proofs.Ytfijnkhiojejfaa
open Go Go.Ab Go.RowKit Go.ChangeShapes Go.WideShapes

theorem ownT : ownKnob Try.prog.godebug = none := by kernel_rfl
theorem laidT : laidOutB Try.prog = true := by kernel_rfl
theorem readT {l : List Nat} (h : l.all (fun t => Try.prog.readableRec t && decide (t < Try.prog.types.size)) = true) : ∀ t ∈ l, Try.prog.readableRec t = true ∧ t < Try.prog.types.size := by
  intro t ht
  have := List.all_eq_true.1 h t ht
  simpa using this
theorem cells3 : Try.prog.cellsOf 3 = 1 := by kernel_rfl
theorem cells22 : Try.prog.cellsOf 22 = 1 := by kernel_rfl
theorem cells23 : Try.prog.cellsOf 23 = 1 := by kernel_rfl
theorem cells25 : Try.prog.cellsOf 25 = 3 := by kernel_rfl
theorem cells73 : Try.prog.cellsOf 73 = 3 := by kernel_rfl
theorem list3 {l : List Value} (h : l.length = 3) : ∃ a b c, l = [a, b, c] := by
  match l, h with
  | [a, b, c], _ => exact ⟨a, b, c, rfl⟩
theorem maxLen_lt {n : Nat} (h : n ≤ maxLen) : n < 2 ^ 63 := by
  have : maxLen = 9223372036854775807 := rfl
  omega

section
variable {H : Type} {enc : TypeId × Value → H} {w : World} {fuel : Nat} {v : Value} {x : DataW H × List MemPlace}

theorem read_list (h : DataW.trod enc Try.prog w 0 (fun _ => true) true fuel 22 [v] = some x) : goodV w.heap.size (capM w.heap) v = true ∧ ∃ xs : List Int, IntsAt (absH w.heap) (absV w.heap.size v) xs := by
  obtain ⟨h1, xs, h2, h3, _⟩ := read_ints Try.underlying22 Try.underlying3 cells3 h
  exact ⟨h1, xs, h2, maxLen_lt h3⟩

theorem read_bus {cs : List Value} (h : DataW.trod enc Try.prog w 0 (fun _ => true) true fuel 73 cs = some x) : (∀ u ∈ cs, goodV w.heap.size (capM w.heap) u = true) ∧ ∃ t : Bs, cs.map (absV w.heap.size) = t.cells ∧ True := by
  obtain ⟨ys, n, _, _, hl, hyl, hf⟩ := DataW.trod_struct Try.underlying73 h
  rw [cells73] at hl
  obtain ⟨c0, c1, c2, rfl⟩ := list3 hl
  have hy3 : ys.length = 3 := by simpa using hyl
  have e0 := hf 0 _ rfl
  have e1 := hf 1 _ rfl
  have e2 := hf 2 _ rfl
  simp [cells3, hy3] at e0 e1 e2
  obtain ⟨z0, hz0, _⟩ := DataW.trod_int Try.underlying3 e0
  obtain ⟨z1, hz1, _⟩ := DataW.trod_int Try.underlying3 e1
  obtain ⟨z2, hz2, _⟩ := DataW.trod_int Try.underlying3 e2
  simp at hz0 hz1 hz2
  subst hz0 hz1 hz2
  exact ⟨by simp [goodV], ⟨z0, z1, z2⟩, rfl, trivial⟩

theorem read_buses (h : DataW.trod enc Try.prog w 0 (fun _ => true) true fuel 23 [v] = some x) : goodV w.heap.size (capM w.heap) v = true ∧ ∃ xs : List Bs, BssAt (absH w.heap) (absV w.heap.size v) xs := by
  obtain ⟨h1, xs, h2, h3, _⟩ := read_slice (α := Bs) (f := Bs.cells) (Q := fun _ => True) Try.underlying23 (by rw [cells73]; omega) (fun n cs y hy => read_bus hy) h
  rw [cells73] at h2
  exact ⟨h1, xs, h2, maxLen_lt h3⟩
end

section
variable {H : Type} {enc : TypeId × Value → H} {w : World} {base : Nat} {v : Value} {d : DataW H} {p : List MemPlace}

set_option maxRecDepth 100000 in
theorem read_yardV (hval : Value.okWide Try.prog w .any base 25 v) (h : DataW.Trod enc Try.prog w 0 (fun _ => true) true 25 v d p) :
    ∃ Y r b, VR (absB w.heap) (yardV Y r b) v ∧ YardAt (absH w.heap) r b Y := by
  obtain ⟨cs, rfl, hsz⟩ := okWide_struct Try.underlying25 hval
  obtain ⟨fuel, h⟩ := h
  simp only [Value.cells] at h
  obtain ⟨ys, n, _, _, hl, hyl, hf⟩ := DataW.trod_struct Try.underlying25 h
  rw [cells25] at hl
  obtain ⟨l, rfl⟩ : ∃ l : List Value, cs = l.toArray := ⟨cs.toList, by simp⟩
  simp only at hl hf
  obtain ⟨c0, c1, c2, rfl⟩ := list3 hl
  have hy3 : ys.length = 3 := by simpa using hyl
  have e0 := hf 0 _ rfl
  have e1 := hf 1 _ rfl
  have e2 := hf 2 _ rfl
  simp [cells3, cells22, cells23, hy3] at e0 e1 e2
  obtain ⟨z2, hz2, _⟩ := DataW.trod_int Try.underlying3 e2
  obtain ⟨g0, xs, k0⟩ := read_list e0
  obtain ⟨g1, us, k1⟩ := read_buses e1
  simp at hz2
  subst hz2
  refine ⟨⟨xs, us, z2⟩, absV w.heap.size c0, absV w.heap.size c1, VR.mk_agg ?_, ⟨k0, k1⟩⟩
  exact ⟨good_VR g0, good_VR g1, .int _ _, trivial⟩

set_option maxRecDepth 100000 in
theorem read_listV (hval : Value.okWide Try.prog w .any base 22 v) (h : DataW.Trod enc Try.prog w 0 (fun _ => true) true 22 v d p) : VR (absB w.heap) (absV w.heap.size v) v ∧ ∃ xs, IntsAt (absH w.heap) (absV w.heap.size v) xs := by
  obtain ⟨a0, len, cap, rfl⟩ := okWide_slice Try.underlying22 hval
  obtain ⟨fuel, h⟩ := h
  obtain ⟨h1, h2⟩ := read_list h
  exact ⟨good_VR h1, h2⟩

end

end Go.Proofs.Ytfijnkhiojejfaa

