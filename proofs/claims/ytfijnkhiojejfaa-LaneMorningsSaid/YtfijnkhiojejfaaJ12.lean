/-
  Joined texts of a calculus of abstract memory, of the program's code in it, and of contracts.
-/
import Derived.Test.YtfijnkhiojejfaaJ9
import Derived.Test.YtfijnkhiojejfaaJ10
import Derived.Test.YtfijnkhiojejfaaJ11
import Derived.ProofKit
import Derived.Test.YtfijnkhiojejfaaRows
namespace Go.Proofs.Ytfijnkhiojejfaa
open Go Go.Ab

theorem awake_spec (A : Heap) : AFun Try.prog 17 [] A (fun r B => r = .bool true ∧ B = A) :=
  Entry.closed eAwake_ok rfl rfl rfl (fun g hg => absurd hg (Nat.not_lt_zero g))

end Go.Proofs.Ytfijnkhiojejfaa


namespace Go.Proofs.Ytfijnkhiojejfaa
open Go Go.Ab

theorem ints_cells {H : Heap} {v : Value} {xs : List Int} (h : IntsAt H v xs) : v.cells = #[v] := by
  rcases h.1.cases2 with ⟨rfl, _⟩ | ⟨a, cap, rfl⟩ <;> rfl

set_option maxHeartbeats 2000000 in
theorem morning62_spec {Y : Yd} {r b u : Value} {ls os : List Int} {d : Nat → Bool} {H : Heap} (h : YardAt H r b Y) (hu : IntsAt H u os) (h8 : Y.buses.length ≤ 8)
    (hls : ls.length = Y.buses.length) (ho : os.length = Y.buses.length) (hob : ∀ x ∈ os, isBusB Y x = true) (hn : os.Nodup) :
    AFun Try.prog 62 [nightV Y r b (standsOf ls os) d, u] H (fun v B => RowsAt B v (mornF (laneF ls) os [] (goL Y d)) ∧ Ge H B) := by
  refine AFun.mk ok62 hm (Nat.le_of_ble_eq_true rfl) ?_
  have huc := ints_cells hu
  simp [a62, r62, huc, nightC_rd]
  refine fcall_fun (goingOut_spec _ _) ?_
  rintro _ _ ⟨rfl, rfl⟩
  simp
  refine frange_intro ?_
  have hZ : dnC (fun _ => false) = [Value.bool false, .bool false, .bool false, .bool false, .bool false, .bool false, .bool false, .bool false] := rfl
  rw [← hZ]
  have gA : Ge H (((((((H.new (.cells true (nightC Y r b (standsOf ls os) d) 27)).new (.cells true [u] 1)).new (.cells true [] 0)).new (.cells true [.slice none 0 0] 1)).set (H.next + 3) (.cells true [.slice (some ⟨H.next + 2, 0, none⟩) 0 0] 1)).new (.cells true (dnC fun _ => false) 8)).new (.cells true (nightC Y r b (standsOf ls os) d) 27)) :=
    ((((((Ge.new _ _).newOf _).newOf _).newOf _).setNew (by omega) _).newOf _).newOf _
  refine mo_range (Y := Y) (ls := ls) (os := os) (d := d) (n2 := H.next) (n3 := H.next + 1) (e := H.next + 2) (n5 := H.next + 3) (n6 := H.next + 4) (nb := H.next + 5) (c2 := 27) (c3 := 1) (cb := 27) (w2 := true) (w3 := true) (wb := true) h gA ⟨by omega, by omega, by omega⟩ hu (by simp) (by simp) (by simp) (by simp) (by simp) (by simp) (by simp) (by simp) (by simp) (by simp) (by simp) ⟨by omega, by omega, by omega⟩ ⟨by omega, by omega, by omega⟩ ⟨by omega, by omega, by omega⟩ ⟨by omega, by omega, by omega⟩ (by simp) (by simp) (by simp) (by simp) (by simp) (by simp) h8 hls ho hob hn ?_
  intro B tv k1 k2 k3 k4 k5
  simp only [Heap.new_next, Heap.set_next] at k1 k3
  rw [blockQ_normal, thenQ_normal]
  simp [k4, k3]
  refine ⟨k5 _ (by simp) fun n a1 => ?_, by simp; omega, fun n a1 => ?_⟩
  · have b1 : n ≠ H.next + 6 := a1
    simp [b1]
  · have b1 : n ≠ H.next + 6 := by omega
    simp [b1]
    exact k2 n a1

set_option maxHeartbeats 1000000 in
theorem morning_spec {Y : Yd} {r b v u w : Value} {H : Heap} {ls os bs : List Int} (h : YardAt H r b Y) (hv : IntsAt H v ls) (hu : IntsAt H u os) (hw : IntsAt H w bs) :
    AFun Try.prog 28 [yardV Y r b, v, u, w] H (fun z B => ∃ q, z = .tuple #[q, .int .i64 (checkN Y ls os bs)] ∧ Ge H B ∧ (checkN Y ls os bs ≠ 0 → q = .slice none 0 0) ∧ (checkN Y ls os bs = 0 → RowsAt B q (mornF (laneF ls) os [] (goL Y (inF bs))))) := by
  refine AFun.mk ok28 hm (Nat.le_of_ble_eq_true rfl) ?_
  have hb := h.buses.one
  have hr := h.room.one
  have g0 : Ge H (H.new (.cells true [r, b, .int .i64 Y.broken] 3)) := Ge.new _ _
  simp [a28, r28]
  refine fcall_fun (checkNight_spec (ls := ls) (os := os) (bs := bs) (h.ge g0) (hv.ge g0) (hu.ge g0) (hw.ge g0)) ?_
  rintro _ H1 ⟨rfl, g1⟩
  have G1 := g0.trans g1
  have k1 := g1.got (n := H.next) (by simp) rfl
  have n1 := g1.next
  simp at k1 n1
  by_cases hc : checkN Y ls os bs = 0
  case neg => simp [hc, G1]
  obtain ⟨c1, c2, c3, c4⟩ := checkN_zero hc
  obtain ⟨f1, f2, _⟩ := okY_facts c1
  have hll := lanesB_len c2
  obtain ⟨hol, hom, hon⟩ := possB_in c3
  have hbm := brokenB_in c4
  have lt8 : ∀ x, isBusB Y x = true → 0 ≤ x ∧ x < 8 := fun x hx => by
    obtain ⟨x0, x1, _⟩ := isBus_at hx
    omega
  simp [hc, k1]
  have gX : Ge H1 (⟨H1.get, H1.next + 11⟩ : Heap) := Ge.grow_le (by omega) (Ge.refl _)
  have GX := G1.trans gX
  refine fcall_fun (placesIn_spec (xs := os) (hu.ge GX) fun x hx => lt8 x (hom x hx)) ?_
  rintro _ H2 ⟨rfl, g2⟩
  have G2 := GX.trans g2
  have k2 := g2.got (n := H.next) (by simp; omega) (by simpa using k1)
  simp [k2]
  refine fcall_fun (choose_spec (xs := bs) (hw.ge G2) fun x hx => lt8 x (hbm x hx)) ?_
  rintro _ H3 ⟨rfl, g3⟩
  have G3 := G2.trans g3
  have k3 := g3.got (n := H.next) (by have := g2.next; simp at this; omega) k2
  simp [k3]
  refine fcall_fun (newNight_spec (ls := ls) (h.ge G3) (hv.ge G3) (by omega)) ?_
  rintro _ H4 ⟨rfl, g4⟩
  have G4 := G3.trans g4
  simp
  refine fcall_fun (morning62_spec (ls := ls) (os := os) (h.ge G4) (hu.ge G4) f2 hll hol hom hon) ?_
  rintro q H5 ⟨r5, g5⟩
  simp
  exact ⟨q, ⟨rfl, hc.symm⟩, G4.trans g5, fun e => absurd hc e, fun _ => r5⟩

set_option maxHeartbeats 2000000 in
theorem laneMornings_of {Y : Yd} {r b v u w : Value} {H : Heap} {ls os bs : List Int} (h : YardAt H r b Y) (hv : IntsAt H v ls) (hu : IntsAt H u os) (hw : IntsAt H w bs) : AFun Try.prog 5 [yardV Y r b, v, u, w] H (fun r _ => r = .bool true) := by
  refine AFun.mk ok5 hm (Nat.le_of_ble_eq_true rfl) ?_
  have hb := h.buses.one
  have hr := h.room.one
  have g0 : Ge H (H.new (.cells true [r, b, .int .i64 Y.broken] 3)) := Ge.new _ _
  simp [a5, r5]
  refine fcall_fun (thin_spec (h.ge g0)) ?_
  rintro _ H1 ⟨rfl, g1⟩
  have G1 := g0.trans g1
  have k1 := g1.got (n := H.next) (by simp) rfl
  have n1 := g1.next
  simp at k1 n1
  by_cases hr6 : Y.room.length ≤ 6
  case neg =>
    simp [hr6]
    refine fcall_fun (awake_spec _) ?_
    rintro _ _ ⟨rfl, _⟩
    simp
  by_cases hb12 : Y.buses.length ≤ 12
  case neg =>
    simp [hr6, hb12]
    refine fcall_fun (awake_spec _) ?_
    rintro _ _ ⟨rfl, _⟩
    simp
  simp [hr6, hb12, hv.lenV]
  by_cases hx1 : (15 : Int) < ls.length
  · simp [hx1]
    refine fcall_fun (awake_spec _) ?_
    rintro _ _ ⟨rfl, _⟩
    simp
  simp [hx1, hu.lenV]
  by_cases hx2 : (15 : Int) < os.length
  · simp [hx2]
    refine fcall_fun (awake_spec _) ?_
    rintro _ _ ⟨rfl, _⟩
    simp
  simp [hx2, hw.lenV]
  by_cases hx3 : (15 : Int) < bs.length
  · simp [hx3]
    refine fcall_fun (awake_spec _) ?_
    rintro _ _ ⟨rfl, _⟩
    simp
  simp [hx3, k1]
  refine fcall_fun (yard_spec (h.ge G1) hr6 hb12) ?_
  rintro _ H2 ⟨r2, b2, rfl, h2, g2⟩
  have G2 := G1.trans g2
  simp
  refine fcall_fun (list_spec (hv.ge G2) (by omega)) ?_
  rintro v3 H3 ⟨o3, g3⟩
  have G3 := G2.trans g3
  simp
  refine fcall_fun (list_spec (hu.ge G3) (by omega)) ?_
  rintro v4 H4 ⟨o4, g4⟩
  have G4 := G3.trans g4
  simp
  refine fcall_fun (list_spec (hw.ge G4) (by omega)) ?_
  rintro v5 H5 ⟨o5, g5⟩
  have G5 := G4.trans g5
  simp
  refine fcall_fun (morning_spec (ls := ls) (os := os) (bs := bs) (h2.ge (g3.trans (g4.trans g5))) ((own_ints o3 hv.2).ge (g4.trans g5)) ((own_ints o4 hu.2).ge g5) (own_ints o5 hw.2)) ?_
  rintro _ H6 ⟨q, rfl, g6, hq1, hq2⟩
  have G6 := G5.trans g6
  have k6 := ((g2.trans (g3.trans (g4.trans g5))).trans g6).got (n := H.next) (by omega) k1
  have n6 := ((g2.trans (g3.trans (g4.trans g5))).trans g6).next
  simp [k6]
  refine fcall_fun (asked_spec (h.ge G6) (hv.ge G6) (hu.ge G6) (hw.ge G6) (by omega)) ?_
  rintro _ H7 ⟨rfl, g7⟩
  have G7 := G6.trans g7
  have k7 := g7.got (n := H.next) (by omega) k6
  by_cases hc : checkN Y ls os bs = 0
  case neg =>
    rw [hq1 hc]
    simp [hc]
    refine fcall_fun (awake_spec _) ?_
    rintro _ _ ⟨rfl, _⟩
    simp
  obtain ⟨c1, c2, c3, c4⟩ := checkN_zero hc
  obtain ⟨p1, p2, p3⟩ := possB_in c3
  have c5 := lanesB_len c2
  obtain ⟨_, f2, _, _, _, f6, _, _⟩ := okY_facts c1
  simp [hc, k7]
  refine fcall_fun (morningRef_spec (h.ge G7) (hv.ge G7) (hu.ge G7) (hw.ge G7) (by omega) f6 c5 (by omega) p2) ?_
  rintro sv H8 ⟨r8, g8⟩
  have r6' := (hq2 hc).ge (g7.trans g8)
  have h12 := mornF_length (ls := laneF ls) (os := os) (goL Y (inF bs)) []
  have h13 := goL_len Y (inF bs)
  have hrow := mornF_row (ls := laneF ls) (os := os) (goL Y (inF bs)) []
  generalize mornF (laneF ls) os [] (goL Y (inF bs)) = T at *
  simp [hc, r6'.lenV, r8.lenV]
  refine floop_intro (fun z => z.d = [] ∧ Ge H8 z.H ∧ z.t 9 = q ∧ z.t 12 = sv ∧ ∃ i : Nat, i ≤ T.length ∧ z.t 13 = .int .i64 i) (fun z => T.length - (intOf (z.t 13)).toNat) ?_ ?_
  · exact ⟨rfl, Ge.refl _, by simp, by simp, 0, by simp, by simp⟩
  rintro ⟨t, _, A⟩ ⟨rfl, gA, t9, t12, i, hi, t13⟩
  dsimp only at gA t9 t12 t13
  simp [t9, t13, r6'.lenV]
  by_cases hil : i < T.length
  case neg =>
    simp [hil]
    refine fcall_fun (awake_spec _) ?_
    rintro _ _ ⟨rfl, _⟩
    simp
  obtain ⟨p1, q1, e1, e2, e3⟩ := RowsOf.atAll r6' hil
  obtain ⟨p2, q2, e4, e5, e6⟩ := RowsOf.atAll r8 hil
  have gX : Ge A (⟨A.get, A.next + 10⟩ : Heap) := Ge.grow_le (by omega) (Ge.refl _)
  simp [hil, t9, t12, t13, e1, e2 _ (gA.trans gX), e4, e5 _ (gA.trans gX)]
  refine fcall_fun (ints_spec (e3.ge (gA.trans gX)) (e6.ge (gA.trans gX))) ?_
  rintro _ B ⟨rfl, gB⟩
  simp [t13, add_in (x := i) (y := 1) (by omega) (by omega)]
  exact ⟨⟨gA.trans (gX.trans gB), t9, t12, i + 1, by omega, by omega⟩, by omega⟩

end Go.Proofs.Ytfijnkhiojejfaa


namespace Go.Proofs.Ytfijnkhiojejfaa
open Go Go.Ab Go.RowKit Go.ChangeShapes Go.WideShapes

theorem ownT : ownKnob Try.prog.godebug = none := by kernel_rfl
theorem laidT : laidOutB Try.prog = true := by kernel_rfl
theorem readT {l : List Nat} (h : l.all (fun t => Try.prog.readableRec t && decide (t < Try.prog.types.size)) = true) : ∀ t ∈ l, Try.prog.readableRec t = true ∧ t < Try.prog.types.size := by
  intro t ht
  have := List.all_eq_true.1 h t ht
  simpa using this
theorem cells3 : Try.prog.cellsOf 3 = 1 := by kernel_rfl
theorem cells22 : Try.prog.cellsOf 22 = 1 := by kernel_rfl
theorem cells23 : Try.prog.cellsOf 23 = 1 := by kernel_rfl
theorem cells25 : Try.prog.cellsOf 25 = 3 := by kernel_rfl
theorem cells73 : Try.prog.cellsOf 73 = 3 := by kernel_rfl
theorem list3 {l : List Value} (h : l.length = 3) : ∃ a b c, l = [a, b, c] := by
  match l, h with
  | [a, b, c], _ => exact ⟨a, b, c, rfl⟩
theorem maxLen_lt {n : Nat} (h : n ≤ maxLen) : n < 2 ^ 63 := by
  have : maxLen = 9223372036854775807 := rfl
  omega

section
variable {H : Type} {enc : TypeId × Value → H} {w : World} {fuel : Nat} {v : Value} {x : DataW H × List MemPlace}

theorem read_list (h : DataW.trod enc Try.prog w 0 (fun _ => true) true fuel 22 [v] = some x) : goodV w.heap.size (capM w.heap) v = true ∧ ∃ xs : List Int, IntsAt (absH w.heap) (absV w.heap.size v) xs := by
  obtain ⟨h1, xs, h2, h3, _⟩ := read_ints Try.underlying22 Try.underlying3 cells3 h
  exact ⟨h1, xs, h2, maxLen_lt h3⟩

theorem read_bus {cs : List Value} (h : DataW.trod enc Try.prog w 0 (fun _ => true) true fuel 73 cs = some x) : (∀ u ∈ cs, goodV w.heap.size (capM w.heap) u = true) ∧ ∃ t : Bs, cs.map (absV w.heap.size) = t.cells ∧ True := by
  obtain ⟨ys, n, _, _, hl, hyl, hf⟩ := DataW.trod_struct Try.underlying73 h
  rw [cells73] at hl
  obtain ⟨c0, c1, c2, rfl⟩ := list3 hl
  have hy3 : ys.length = 3 := by simpa using hyl
  have e0 := hf 0 _ rfl
  have e1 := hf 1 _ rfl
  have e2 := hf 2 _ rfl
  simp [cells3, hy3] at e0 e1 e2
  obtain ⟨z0, hz0, _⟩ := DataW.trod_int Try.underlying3 e0
  obtain ⟨z1, hz1, _⟩ := DataW.trod_int Try.underlying3 e1
  obtain ⟨z2, hz2, _⟩ := DataW.trod_int Try.underlying3 e2
  simp at hz0 hz1 hz2
  subst hz0 hz1 hz2
  exact ⟨by simp [goodV], ⟨z0, z1, z2⟩, rfl, trivial⟩

theorem read_buses (h : DataW.trod enc Try.prog w 0 (fun _ => true) true fuel 23 [v] = some x) : goodV w.heap.size (capM w.heap) v = true ∧ ∃ xs : List Bs, BssAt (absH w.heap) (absV w.heap.size v) xs := by
  obtain ⟨h1, xs, h2, h3, _⟩ := read_slice (α := Bs) (f := Bs.cells) (Q := fun _ => True) Try.underlying23 (by rw [cells73]; omega) (fun n cs y hy => read_bus hy) h
  rw [cells73] at h2
  exact ⟨h1, xs, h2, maxLen_lt h3⟩
end

section
variable {H : Type} {enc : TypeId × Value → H} {w : World} {base : Nat} {v : Value} {d : DataW H} {p : List MemPlace}

set_option maxRecDepth 100000 in
theorem read_yardV (hval : Value.okWide Try.prog w .any base 25 v) (h : DataW.Trod enc Try.prog w 0 (fun _ => true) true 25 v d p) :
    ∃ Y r b, VR (absB w.heap) (yardV Y r b) v ∧ YardAt (absH w.heap) r b Y := by
  obtain ⟨cs, rfl, hsz⟩ := okWide_struct Try.underlying25 hval
  obtain ⟨fuel, h⟩ := h
  simp only [Value.cells] at h
  obtain ⟨ys, n, _, _, hl, hyl, hf⟩ := DataW.trod_struct Try.underlying25 h
  rw [cells25] at hl
  obtain ⟨l, rfl⟩ : ∃ l : List Value, cs = l.toArray := ⟨cs.toList, by simp⟩
  simp only at hl hf
  obtain ⟨c0, c1, c2, rfl⟩ := list3 hl
  have hy3 : ys.length = 3 := by simpa using hyl
  have e0 := hf 0 _ rfl
  have e1 := hf 1 _ rfl
  have e2 := hf 2 _ rfl
  simp [cells3, cells22, cells23, hy3] at e0 e1 e2
  obtain ⟨z2, hz2, _⟩ := DataW.trod_int Try.underlying3 e2
  obtain ⟨g0, xs, k0⟩ := read_list e0
  obtain ⟨g1, us, k1⟩ := read_buses e1
  simp at hz2
  subst hz2
  refine ⟨⟨xs, us, z2⟩, absV w.heap.size c0, absV w.heap.size c1, VR.mk_agg ?_, ⟨k0, k1⟩⟩
  exact ⟨good_VR g0, good_VR g1, .int _ _, trivial⟩

set_option maxRecDepth 100000 in
theorem read_listV (hval : Value.okWide Try.prog w .any base 22 v) (h : DataW.Trod enc Try.prog w 0 (fun _ => true) true 22 v d p) : VR (absB w.heap) (absV w.heap.size v) v ∧ ∃ xs, IntsAt (absH w.heap) (absV w.heap.size v) xs := by
  obtain ⟨a0, len, cap, rfl⟩ := okWide_slice Try.underlying22 hval
  obtain ⟨fuel, h⟩ := h
  obtain ⟨h1, h2⟩ := read_list h
  exact ⟨good_VR h1, h2⟩

end

end Go.Proofs.Ytfijnkhiojejfaa

