/-
  Joined texts of a calculus of abstract memory, of the program's code in it, and of contracts.
-/
import Derived.Test.YtjbbcpeidnkjlaaDoorJ11
import Derived.Test.YtjbbcpeidnkjlaaDoorJ13
import Derived.Test.YtjbbcpeidnkjlaaDoorJ14
namespace Go.Proofs.YtjbbcpeidnkjlaaDoor
open Go Go.Ab

theorem cellsB_take (r : List Rl) : ∀ k : Nat, (r.flatMap Rl.cells).take (k * 3) = (r.take k).flatMap Rl.cells := by
  induction r with
  | nil => intro k; simp
  | cons x r ih =>
    intro k
    cases k with
    | zero => simp
    | succ k => simp [List.flatMap_cons, Rl.cells, Nat.succ_mul, ih]
theorem cellsB_drop (r : List Rl) : ∀ k : Nat, (r.flatMap Rl.cells).drop (k * 3) = (r.drop k).flatMap Rl.cells := by
  induction r with
  | nil => intro k; simp
  | cons x r ih =>
    intro k
    cases k with
    | zero => simp
    | succ k => simp [List.flatMap_cons, Rl.cells, Nat.succ_mul, ih]
theorem cellsB_len (r : List Rl) : (r.flatMap Rl.cells).length = r.length * 3 := by
  induction r with
  | nil => rfl
  | cons x r ih => simp [List.flatMap_cons, Rl.cells, Nat.succ_mul, ih]
theorem cellsB_one (r : List Rl) : (r.flatMap Rl.cells).all one = true := by
  induction r with
  | nil => rfl
  | cons x r ih => simp [List.flatMap_cons, Rl.cells, List.all_append]

set_option maxHeartbeats 8000000 in
theorem partB13_spec {D : Dy} {b w : Value} {H A : Heap} {m n1 n18 b0 i0 N : Nat} {t : Nat → Value} {r : List Rl} {x : Rl} (h : DayAt H b w D) (hT : D.Thin) (hc : checkD D = 0) (h7 : segN D ≤ 7) (hpos : 0 < segN D) (hG : Gl H) (hwk : ∀ A, Ge H A → AFun Tryd.prog 16 [] A (fun r B => r = .bool true ∧ Ge A B))
    (GA : Ge H A) (hn1 : n1 < A.next) (h18 : n18 < A.next) (kA : A.get n1 = .cells true [.int .i64 D.law.piece, .int .i64 D.law.drive, .int .i64 D.law.spread, .int .i64 D.law.brk, .int .i64 D.law.on, .int .i64 D.law.off, .int .i64 D.law.least, .int .i64 D.law.pieces, b, w] 10)
    (kx : A.get n18 = .cells true (Rl.cells x) 3) (hr : D.blocks[b0]? = some r) (hi : i0 + 1 < r.length)
    (t5 : t 5 = .int .u16 (m : Int)) (t6 : t 6 = .pointer (some ⟨n1, 0, none⟩)) (t13 : t 13 = .int .i64 ((segsOf (D.blocks.take b0) + i0 : Nat) : Int)) (t14 : t 14 = .int .i64 (b0 : Int)) (t15 : t 15 = .int .i64 (i0 : Int)) (t18 : t 18 = .pointer (some ⟨n18, 0, none⟩)) :
    vc Tryd.prog N none (vdrawD Tryd.prog) partB13 (bodyQ Tryd.prog r13 fun r _ => r = .bool true) ⟨t, [], A⟩ := by
  have hV := valid_of hc
  have hb := h.blocks.one
  have hw := h.walk.one
  obtain ⟨hbl, hrr⟩ := List.getElem?_eq_some_iff.1 hr
  have hrl := hV.blen (List.getElem_mem hbl)
  rw [hrr] at hrl
  have hA1 : n1 ≠ A.next := by omega
  have hA2 : n1 ≠ A.next + 1 := by omega
  obtain ⟨vs, hbs, hb63, hbr⟩ := h.blocks
  have hvl : vs.length = D.blocks.length := by have := hbs.length; omega
  have hfew := hT.few
  simp [partB13, t6, kA, hb, hw, hA1, hA2]
  have hone : vs.all one = true := by
    rw [List.all_eq_true]
    intro u hu
    obtain ⟨i, hi, rfl⟩ := List.mem_iff_getElem.1 hu
    obtain ⟨u', h1, h2⟩ := hbr i (by omega)
    rw [List.getElem?_eq_getElem hi] at h1
    cases h1
    exact RelsAt.one h2
  have hc0 : D.blocks.length ≤ capN 0 0 D.blocks.length := by unfold capN; split <;> omega
  generalize hcap : capN 0 0 D.blocks.length = cap at hc0
  generalize hS : Heap.new (Heap.set _ A.next _) _ = S
  have gS : Ge A S := by rw [← hS]; exact ((Ge.new _ _).setNew (Nat.le_refl _) _).newOf _
  have nS : S.next = A.next + 2 := by rw [← hS]; simp
  have xS : S.get A.next = .cells true [.int .i64 D.law.piece, .int .i64 D.law.drive, .int .i64 D.law.spread, .int .i64 D.law.brk, .int .i64 D.law.on, .int .i64 D.law.off, .int .i64 D.law.least, .int .i64 D.law.pieces, b, w] 10 := by
    rw [← hS]; simp
  have eS : S.get (A.next + 1) = .cells true [] 0 := by rw [← hS]; simp
  clear hS
  refine ⟨0, [], some (A.next + 1), 0, D.blocks.length, vs, by simp [baseOf, eS], (hbs.ge (GA.trans gS)).1, hone, by omega, ?_⟩
  rw [if_neg (by simp), hcap]
  simp
  generalize hC : appHeap S (A.next + 2) (A.next + 3) (some (A.next + 1)) vs cap = C
  have nC : C.next = A.next + 3 := by rw [← hC]; simp [appHeap]
  have xC : C.get A.next = .cells true [.int .i64 D.law.piece, .int .i64 D.law.drive, .int .i64 D.law.spread, .int .i64 D.law.brk, .int .i64 D.law.on, .int .i64 D.law.off, .int .i64 D.law.least, .int .i64 D.law.pieces, b, w] 10 := by
    rw [← hC]; simp [appHeap, xS]
  have qC : C.get (A.next + 2) = .cells true vs cap := by rw [← hC]; simp [appHeap]
  have gC : Ge A C := ⟨by omega, fun q hq => by
    have e1 : q ≠ A.next + 2 := by omega
    have e2 : q ≠ A.next + 1 := by omega
    rw [← hC]; simp [appHeap, e1, e2]; exact gS.get q hq⟩
  clear hC
  simp [xC]
  obtain ⟨v8, hv8⟩ : ∃ v8, Value.slice (some ⟨A.next + 2, 0, none⟩) D.blocks.length cap = v8 := ⟨_, rfl⟩
  rw [hv8]
  generalize hE : Heap.set C A.next _ = E
  have nE : E.next = A.next + 3 := by rw [← hE]; simp [nC]
  have xE : E.get A.next = .cells true [.int .i64 D.law.piece, .int .i64 D.law.drive, .int .i64 D.law.spread, .int .i64 D.law.brk, .int .i64 D.law.on, .int .i64 D.law.off, .int .i64 D.law.least, .int .i64 D.law.pieces, v8, w] 10 := by rw [← hE]; simp
  have qE : E.get (A.next + 2) = .cells true vs cap := by rw [← hE]; simp [qC]
  have gE : Ge A E := by rw [← hE]; exact gC.setNew (Nat.le_refl _) _
  clear hE xC qC gC eS xS
  have kE := gE.got hn1 kA
  have xE18 := gE.got h18 kx
  obtain ⟨u, b1, b2⟩ := hbr b0 hbl
  rw [hrr] at b2
  have w27 : Ge A (⟨E.get, E.next + 27⟩ : Heap) := Ge.grow_le (by omega) gE
  obtain ⟨nb, ob, rb, db, cb, e1, e2, e3, e4⟩ := (hbs.ge (GA.trans gE)).isl (k := .i64) (i := b0) (by omega)
  obtain ⟨p', a1, a2⟩ := (hbs.ge (GA.trans gE)).at1 (k := .i64) (i := b0) (by omega)
  rw [e1] at a1; cases a1
  rw [b1] at a2
  have l1 : ldA (E.get nb) false 1 ob = some u := a2
  have f6 : nb ≠ E.next + 3 := by omega
  have f7 : nb ≠ E.next + 14 := by omega
  have f0 : n1 ≠ E.next + 3 := by omega
  have f1 : A.next ≠ E.next + 3 := by omega
  have f2 : n18 ≠ E.next + 3 := by omega
  have f3 : n1 ≠ E.next + 14 := by omega
  have f4 : A.next ≠ E.next + 14 := by omega
  have f5 : n18 ≠ E.next + 14 := by omega
  simp [t6, t14, t15, t18, kE, xE, e1, xE18, f0, f1, f2, f3, f4, f5, f6, f7, l1, add_in (x := (i0 : Int)) (y := 1) (by omega) (by omega)]
  obtain ⟨nu, ou, capu, rwu, du, cu, rfl, hgu, hru⟩ : ∃ nu ou capu rwu du cu, u = .slice (some ⟨nu, ou, none⟩) r.length capu ∧ H.get nu = .cells rwu du cu ∧ rdL du ou (r.length * 3) = some (r.flatMap Rl.cells) := by
    rcases b2.1.cases with ⟨_, hl, _⟩ | ⟨nu, ou, capu, rwu, du, cu, q1, q2, q3⟩
    · omega
    · exact ⟨nu, ou, capu, rwu, du, cu, q1, q2, q3⟩
  have hnu : nu < H.next := b2.1.2 _ _ _ rfl
  have nHA := GA.next
  have hCE : C.next = E.next := by omega
  rw [hCE]
  rw [aval_sl_to (n := nu) (o := ou) (len := r.length) (cap := capu) (k := i0 + 1) (kd := .i64) (by simp) (by simp) (by omega) (by omega)]
  simp [t6, t14, t15, t18, kE, xE, e1, xE18, f0, f1, f2, f3, f4, f5, f6, f7, l1, add_in (x := (i0 : Int)) (y := 1) (by omega) (by omega), Rl.cells]
  rw [aval_sl_from (n := nu) (o := ou) (len := r.length) (cap := capu) (k := i0 + 1) (kd := .i64) (by simp) (by simp) (by omega) (by omega)]
  simp
  generalize hF0 : Heap.set (Heap.set _ (E.next + 3) _) (E.next + 14) _ = F0
  have gF0 : Ge E F0 := by rw [← hF0]; exact ((Ge.grow_le (by omega) (Ge.refl _)).setNew (by omega) _).setNew (by omega) _
  have nF0 : F0.next = E.next + 27 := by rw [← hF0]; simp
  have eF0 : F0.get (E.next + 3) = .cells true [] 0 := by rw [← hF0]; simp
  have xF0 : F0.get (E.next + 14) = .cells true (Rl.cells x) 3 := by rw [← hF0]; simp [Rl.cells]
  clear hF0
  have GE : Ge H E := GA.trans gE
  obtain ⟨T1, hT1⟩ : ∃ T, (r.take (i0 + 1)).flatMap Rl.cells = T := ⟨_, rfl⟩
  have lT1 : T1.length = (i0 + 1) * 3 := by rw [← hT1, cellsB_len]; simp; omega
  have oT1 : T1.all one = true := by rw [← hT1]; exact cellsB_one _
  obtain ⟨T3, hT3⟩ : ∃ T, (r.drop (i0 + 1)).flatMap Rl.cells = T := ⟨_, rfl⟩
  have lT3 : T3.length = (r.length - (i0 + 1)) * 3 := by rw [← hT3, cellsB_len]; simp
  have oT3 : T3.all one = true := by rw [← hT3]; exact cellsB_one _
  have hu0 := (GE.trans gF0).got hnu hgu
  refine fapp_intro (len := 0) (cs := []) (old := some (E.next + 3)) (cap := 0) (k := i0 + 1) (new := T1) (by simp [baseOf, eF0]) (by rw [slCells_to hu0 hru (by omega), cellsB_take, hT1]) (by omega) oT1 (by omega) ?_
  intro cap1 hcap1
  have w1 : ∀ q, q < E.next → q ≠ E.next + 12 ∧ q ≠ E.next + 3 := fun q hq => ⟨by omega, by omega⟩
  generalize hF1 : appHeap F0 (E.next + 12) (E.next + 27) (some (E.next + 3)) ([] ++ T1) (cap1 * 3) = F1
  have gF1 : Ge E F1 := ⟨by rw [← hF1]; simp [appHeap], fun q hq => by
    rw [← hF1]; simp [appHeap, w1 q hq]; exact gF0.get q hq⟩
  have nF1 : F1.next = E.next + 27 := by rw [← hF1]; simp [appHeap]
  have tF1 : F1.get (E.next + 12) = .cells true T1 (cap1 * 3) := by rw [← hF1]; simp [appHeap]
  have xF1 : F1.get (E.next + 14) = .cells true (Rl.cells x) 3 := by rw [← hF1]; simp [appHeap, xF0]
  clear hF1
  have kF1 := gF1.got (by omega) kE
  have vF1 := gF1.got (by omega) xE
  have yF1 := gF1.got (by omega) xE18
  have bF1 : ldA (F1.get nb) false 1 ob = some (.slice (some ⟨nu, ou, none⟩) r.length capu) := by rw [gF1.get nb e2]; exact l1
  simp [t6, t14, t15, t18, kF1, vF1, yF1, bF1, e1, Rl.cells]
  refine fapp_intro (len := i0 + 1) (cs := T1) (old := some (E.next + 12)) (cap := cap1) (k := 1) (new := Rl.cells x) (by simp [baseOf, tF1, lT1]; omega) (by simp [slCells, xF1, Rl.cells]) (by omega) (by simp [Rl.cells]) (by omega) ?_
  intro cap2 hcap2
  generalize hF2 : appHeap F1 (E.next + 15) F1.next (some (E.next + 12)) (T1 ++ Rl.cells x) (cap2 * 3) = F2
  have gF2 : Ge E F2 := ⟨by rw [← hF2]; simp [appHeap]; omega, fun q hq => by
    have q1 : q ≠ E.next + 15 := by omega
    have q2 : q ≠ E.next + 12 := by omega
    rw [← hF2]; simp [appHeap, q1, q2]; exact gF1.get q hq⟩
  have nF2 : F2.next = E.next + 27 := by rw [← hF2]; simp [appHeap, nF1]
  have tF2 : F2.get (E.next + 15) = .cells true (T1 ++ Rl.cells x) (cap2 * 3) := by rw [← hF2]; simp [appHeap]
  clear hF2
  have kF2 := gF2.got (by omega) kE
  have vF2 := gF2.got (by omega) xE
  have bF2 : ldA (F2.get nb) false 1 ob = some (.slice (some ⟨nu, ou, none⟩) r.length capu) := by rw [gF2.get nb e2]; exact l1
  have hu2 := (GE.trans gF2).got hnu hgu
  simp [t6, t14, t15, t18, kF2, vF2, bF2, e1, Rl.cells]
  refine fapp_intro (len := i0 + 1 + 1) (cs := T1 ++ Rl.cells x) (old := some (E.next + 15)) (cap := cap2) (k := r.length - (i0 + 1)) (new := T3) (by simp [baseOf, tF2, lT1, Rl.cells]; omega) (by rw [slCells_from hu2 hru (by omega), cellsB_drop, hT3]) (by omega) oT3 (by omega) ?_
  intro cap3 hcap3
  generalize hF3 : appHeap F2 (E.next + 24) F2.next (some (E.next + 15)) (T1 ++ Rl.cells x ++ T3) (cap3 * 3) = F3
  have gF3 : Ge E F3 := ⟨by rw [← hF3]; simp [appHeap]; omega, fun q hq => by
    have q1 : q ≠ E.next + 24 := by omega
    have q2 : q ≠ E.next + 15 := by omega
    rw [← hF3]; simp [appHeap, q1, q2]; exact gF2.get q hq⟩
  have nF3 : F3.next = E.next + 27 := by rw [← hF3]; simp [appHeap, nF2]
  have tF3 : F3.get (E.next + 24) = .cells true (T1 ++ Rl.cells x ++ T3) (cap3 * 3) := by rw [← hF3]; simp [appHeap]
  clear hF3
  have vF3 := gF3.got (by omega) xE
  have qF3 := gF3.got (by omega) qE
  have e9 : islV 1 v8 (.int .i64 (b0 : Int)) = some (.pointer (some ⟨A.next + 2, b0, none⟩)) := by
    rw [← hv8, islV_in (by omega) (by omega)]; simp
  have hb0 : b0 + 1 ≤ vs.length := by omega
  simp [t6, t14, t15, t18, vF3, e9, qF3, hb0]
  have hcut := cut_cutR (x := x) hr hi
  have hT' := cut_thin (b := b0) (i := i0) (x := x) hT hV
  generalize hZ : Heap.set F3 (A.next + 2) _ = Z
  have nZ : Z.next = E.next + 27 := by rw [← hZ]; simp [nF3]
  have gZ : Ge A Z := by rw [← hZ]; exact (gE.trans gF3).setNew (by omega) _
  have vZ := (show Z.get A.next = F3.get A.next by rw [← hZ, Heap.set_get, if_neg (by omega)]).trans vF3
  have uZ := (show Z.get (E.next + 24) = F3.get (E.next + 24) by rw [← hZ, Heap.set_get, if_neg (by omega)]).trans tF3
  have qZ : Z.get (A.next + 2) = .cells true (vs.set b0 (.slice (some ⟨E.next + 24, 0, none⟩) (r.length + 1) cap3)) cap := by
    rw [← hZ, Heap.set_get, if_pos rfl]
    have el : i0 + 1 + 1 + (r.length - (i0 + 1)) = r.length + 1 := by omega
    simp [el, wrL_one vs b0 _ (show b0 < vs.length by omega)]
  clear hZ
  have hnew : RelsAt Z (.slice (some ⟨E.next + 24, 0, none⟩) (r.length + 1) cap3) (r.take (i0 + 1) ++ x :: r.drop (i0 + 1)) := by
    have hlen := cut_len (x := x) hi
    refine ⟨⟨?_, fun a n c e => ?_⟩, by omega⟩
    · rw [hlen]
      have e1 : (r.take (i0 + 1) ++ x :: r.drop (i0 + 1)).flatMap Rl.cells = T1 ++ Rl.cells x ++ T3 := by
        rw [List.flatMap_append, List.flatMap_cons, hT1, hT3, List.append_assoc]
      rw [e1]
      have hl : (T1 ++ Rl.cells x ++ T3).length = (r.length + 1) * 3 := by simp [lT1, lT3, Rl.cells]; omega
      simp only [slCells, uZ]
      unfold rdL
      rw [if_pos (by omega), List.drop_zero, List.take_of_length_le (by omega)]
      rfl
    · simp at e
      rw [← e.1]; show E.next + 24 < Z.next; omega
  have hDA : DayAt Z v8 w (cutDay D b0 i0 x) := by
    refine ⟨⟨vs.set b0 (.slice (some ⟨E.next + 24, 0, none⟩) (r.length + 1) cap3), ⟨?_, fun a n c e => ?_⟩, ?_, fun i hi' => ?_⟩, h.walk.ge (GA.trans gZ)⟩
    · rw [← hv8]
      have hl : (vs.set b0 (.slice (some ⟨E.next + 24, 0, none⟩) (r.length + 1) cap3)).length = D.blocks.length := by rw [List.length_set]; exact hvl
      simp only [slCells, qZ, cutDay, List.length_set]
      unfold rdL
      rw [if_pos (by omega), List.drop_zero, List.take_of_length_le (by omega)]
      rfl
    · rw [← hv8] at e
      simp at e
      rw [← e.1]; show A.next + 2 < Z.next; omega
    · simp only [cutDay, List.length_set]; exact hb63
    · by_cases eb : i = b0
      · subst eb
        refine ⟨_, by rw [List.getElem?_set_self (by omega)], ?_⟩
        have hcb := cut_blk (i0 := i0) (x := x) hr
        obtain ⟨_, q2⟩ := List.getElem?_eq_some_iff.1 hcb
        rw [q2]
        exact hnew
      · have hil : i < D.blocks.length := by simpa [cutDay] using hi'
        obtain ⟨u', q1, q2⟩ := hbr i hil
        refine ⟨u', by rw [List.getElem?_set_ne (Ne.symm eb)]; exact q1, ?_⟩
        have ho := cut_other (D := D) (i0 := i0) (x := x) eb
        rw [List.getElem?_eq_getElem hi', List.getElem?_eq_getElem hil] at ho
        rw [Option.some.inj ho]
        exact q2.ge (GA.trans gZ)
  refine rest13_spec (D := D) (D' := cutDay D b0 i0 x) (v8 := v8) (w' := w) (n1 := n1) (n2 := A.next) (s := segsOf (D.blocks.take b0) + i0) (b0 := b0) (i0 := i0) (m := m) h hT hc h7 hpos hG hwk (GA.trans gZ) (by omega) (by omega) (gZ.got hn1 kA) vZ hDA hT' hcut ?_ ?_ ?_ ?_
  · simp [t5]
  · simp [t6]
  · simp [t13]
  · simp

end Go.Proofs.YtjbbcpeidnkjlaaDoor


namespace Go.Proofs.YtjbbcpeidnkjlaaDoor
open Go Go.Ab

set_option maxHeartbeats 4000000 in
theorem dutyCut_of {D : Dy} {b w : Value} {H : Heap} {o p x y z : Int} (h : DayAt H b w D) (ho : 0 ≤ o ∧ o < 2 ^ 8) (hp : 0 ≤ p ∧ p < 2 ^ 8) (hx : 0 ≤ x ∧ x < 2 ^ 16) (hy : 0 ≤ y ∧ y < 2 ^ 16) (hz : 0 ≤ z ∧ z < 2 ^ 16) (hG : Gl H) (hwk : ∀ A, Ge H A → AFun Tryd.prog 16 [] A (fun r B => r = .bool true ∧ Ge A B)) :
    AFun Tryd.prog 13 [dayV D b w, .int .u8 o, .int .u8 p, .int .u16 x, .int .u16 y, .int .u16 z] H (fun r _ => r = .bool true) := by
  obtain ⟨m, rfl⟩ : ∃ m : Nat, z = (m : Int) := ⟨z.toNat, by omega⟩
  obtain ⟨u4, rfl⟩ : ∃ n : Nat, y = (n : Int) := ⟨y.toNat, by omega⟩
  obtain ⟨u3, rfl⟩ : ∃ n : Nat, x = (n : Int) := ⟨x.toNat, by omega⟩
  obtain ⟨u2, rfl⟩ : ∃ n : Nat, p = (n : Int) := ⟨p.toNat, by omega⟩
  obtain ⟨u1, rfl⟩ : ∃ n : Nat, o = (n : Int) := ⟨o.toNat, by omega⟩
  refine AFun.mk ok13 hm (Nat.le_of_ble_eq_true rfl) ?_
  have hb := h.blocks.one
  have hw := h.walk.one
  rw [a13_eqR]
  simp [hb, hw]
  refine fcall_fun (ready_spec (h.ge (by simp))) ?_
  rintro _ H1 ⟨rfl, g1⟩
  have G1 : Ge H H1 := Ge.trans (by simp) g1
  have k1 := g1.got (n := H.next) (by simp) rfl
  have n1 := g1.next
  simp at k1 n1
  cases hre : readyB D
  · simp
    refine fcall_fun (hwk _ G1) ?_
    rintro _ _ ⟨rfl, _⟩
    simp [r13]
  obtain ⟨hT, hc, hV⟩ := ready_facts hre
  have hseg : segsOf D.blocks = segN D := segPs_length.symm
  have h10 := segN_le hV
  simp [k1]
  refine fcall_fun (segments_spec (h.ge G1) hT) ?_
  rintro _ H2 ⟨rfl, g2⟩
  have G2 := G1.trans g2
  have k2 := g2.got (n := H.next) (by omega) k1
  have n2 := g2.next
  rw [hseg]
  by_cases h0 : segN D = 0
  · simp [h0]
    refine fcall_fun (hwk _ G2) ?_
    rintro _ _ ⟨rfl, _⟩
    simp [r13]
  have hpos : 0 < segN D := by omega
  simp [h0, k2]
  refine fcall_fun (segments_spec (h.ge G2) hT) ?_
  rintro _ H3 ⟨rfl, g3⟩
  have G3 := G2.trans g3
  have k3 := g3.got (n := H.next) (by omega) k2
  have n3 := g3.next
  rw [hseg]
  by_cases h7 : (7 : Int) < (segN D : Int)
  · simp [h7]
    refine fcall_fun (hwk _ G3) ?_
    rintro _ _ ⟨rfl, _⟩
    simp [r13]
  have wr1 : IntKind.i64.wrap (u1 : Int) = (u1 : Int) := wrap_i64n (by omega)
  simp [h7, k3, wr1]
  refine fcall_fun (segments_spec (h.ge G3) hT) ?_
  rintro _ H4 ⟨rfl, g4⟩
  have G4 := G3.trans g4
  have k4 := g4.got (n := H.next) (by omega) k3
  have n4 := g4.next
  rw [hseg]
  have rm1 := rem_int (a := u1) (c := segN D) hpos
  have l1 : u1 % segN D < segN D := Nat.mod_lt _ hpos
  obtain ⟨s, hs⟩ : ∃ y, u1 % segN D = y := ⟨_, rfl⟩
  rw [hs] at rm1 l1
  simp [rm1, k4]
  refine fcall_fun (spot54_spec (x := s) (h.ge G4) hT hV (by omega)) ?_
  rintro _ H5 ⟨j, n, rfl, hsp, g5⟩
  have G5 := G4.trans g5
  have k5 := g5.got (n := H.next) (by omega) k4
  have n5 := g5.next
  obtain ⟨j', n', hsp', hj', ⟨l, hl1, hl2⟩, hx⟩ := spots_at (bs := D.blocks) (i := D.blocks.length) (Nat.le_refl _) (x := s) (by rw [List.take_length]; omega)
  rw [hsp] at hsp'
  cases hsp'
  simp
  refine partR13_spec (r := l) (b0 := j) (i0 := n) (u2 := u2) (u3 := u3) (u4 := u4) h hV G5 (by omega) k5 hl1 hl2 (by omega) (by omega) (by omega) (by simp) (by simp) (by simp) (by simp) (by simp) (by simp) fun t' B nx x' ht ht18 gB hnx hnxB kB => ?_
  refine partB13_spec (r := l) (x := x') (n1 := H.next) (n18 := nx) (b0 := j) (i0 := n) (m := m) h hT hc (by omega) hpos hG hwk (G5.trans gB) (by have := gB.next; omega) hnxB (gB.got (by omega) k5) kB hl1 hl2 ?_ ?_ ?_ ?_ ?_ ht18
  · rw [ht 5 (by omega)]; simp
  · rw [ht 6 (by omega)]; simp
  · rw [ht 13 (by omega)]; simp [hx]
  · rw [ht 14 (by omega)]; simp
  · rw [ht 15 (by omega)]; simp

end Go.Proofs.YtjbbcpeidnkjlaaDoor


namespace Go.Proofs.YtjbbcpeidnkjlaaDoor
open Go Go.Ab

theorem gl_of {W : World} (hgl : gmax ≤ W.heap.size) (hgc : ∀ g, g < gmax → ∃ cs c, [gl0, gl1][g]? = some (some (false, cs, c)) ∧ cs.all flat1 = true ∧ (absH W.heap).get g = .cells false cs c) : Gl (absH W.heap) := by
  obtain ⟨cs, c, k1, _, k3⟩ := hgc 1 (by decide)
  have e := Option.some.inj (Option.some.inj k1)
  have e1 : tz64 = cs := congrArg (fun p => p.2.1) e
  subst e1
  exact ⟨Nat.le_trans hgl (abs_size _), c, k3⟩

end Go.Proofs.YtjbbcpeidnkjlaaDoor

