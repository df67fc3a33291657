/-
  Joined texts of a calculus of abstract memory, of the program's code in it, and of contracts.
-/
import Derived.Test.YtllkhaabcfnlpaaDoorJ6
import Derived.Test.YtllkhaabcfnlpaaDoorJ7
import Derived.Test.YtllkhaabcfnlpaaDoorJ11
import Derived.Test.YtllkhaabcfnlpaaDoorJ13
import Derived.Test.YtllkhaabcfnlpaaDoorCards
import Derived.Test.YtllkhaabcfnlpaaDoorTie
import Derived.WalkKit
import Derived.ProofKit
import Derived.OpenShut
import Derived.Deep.DeepHandedRow
/-
  Weights of sets, fair weights, and the bound by them.
-/
namespace Go.Proofs.YtllkhaabcfnlpaaDoor
open Go Go.Ab

/-- What some segments weigh. -/
def sumTo (ws : List Int) (l : List Nat) : Int := (l.map fun s => ws[s]?.getD 0).sum
theorem sumTo_append {ws : List Int} {l : List Nat} {s : Nat} : sumTo ws (l ++ [s]) = sumTo ws l + ws[s]?.getD 0 := by simp [sumTo]
theorem sumTo_bounds {ws : List Int} (h : ∀ x ∈ ws, 0 ≤ x ∧ x ≤ 1000000) : ∀ (l : List Nat), 0 ≤ sumTo ws l ∧ sumTo ws l ≤ 1000000 * l.length
  | [] => by simp [sumTo]
  | s :: l => by
    have ih := sumTo_bounds h l
    have e : sumTo ws (s :: l) = ws[s]?.getD 0 + sumTo ws l := by simp [sumTo]
    have hb : 0 ≤ ws[s]?.getD 0 ∧ ws[s]?.getD 0 ≤ 1000000 := by
      by_cases hs : s < ws.length
      · simp only [List.getElem?_eq_getElem hs, Option.getD_some]; exact h _ (List.getElem_mem hs)
      · simp only [List.getElem?_eq_none (Nat.le_of_not_lt hs), Option.getD_none]; omega
    rw [e, List.length_cons]
    omega
theorem sum_bounds {ws : List Int} (h : ∀ x ∈ ws, 0 ≤ x ∧ x ≤ 1000000) : 0 ≤ ws.sum ∧ ws.sum ≤ 1000000 * ws.length := by
  induction ws with
  | nil => simp
  | cons x l ih =>
    have h1 := h x (List.mem_cons_self ..)
    have h2 := ih fun y hy => h y (List.mem_cons_of_mem _ hy)
    rw [List.sum_cons, List.length_cons]
    omega

theorem quo_in {x y : Int} (h0 : 0 ≤ x) (hx : x < 2 ^ 62) (hy : 0 < y) : binI BinOp.quo (.int .i64 x) (.int .i64 y) = some (.int .i64 (x / y)) := by
  have e : binI BinOp.quo (.int .i64 x) (.int .i64 y) = if y = 0 then none else some (.int .i64 (IntKind.i64.wrap (x.tdiv y))) := rfl
  have h1 : 0 ≤ x / y := Int.ediv_nonneg h0 (by omega)
  have h2 : x / y ≤ x := Int.ediv_le_self y h0
  rw [e, if_neg (by omega), Int.tdiv_eq_ediv_of_nonneg h0, wrap_i64 (by omega) (by omega)]

/-- All of a list of sets pass. -/
theorem every_set_spec {H : Heap} {v pv : Value} {L : List Nat} {p : Nat → Bool} (hv : SlR H 1 v L.length (L.map bitsV)) (hl : L.length < 2 ^ 62)
    (hp : ∀ d A, d ∈ L → Ge H A → ACall Tryd.prog pv [bitsV d] A (fun r B => r = .bool (p d) ∧ Ge A B)) : AFun Tryd.prog 102 [v, pv] H (fun r B => r = .bool (L.all p) ∧ Ge H B) := by
  refine AFun.mk ok102 hm (Nat.le_of_ble_eq_true rfl) ?_
  simp [a102, r102, hv.lenV]
  refine floop_intro (fun z => z.d = [] ∧ Ge H z.H ∧ z.t 1 = pv ∧ z.t 7 = v ∧ z.t 8 = .int .i64 (L.length : Int) ∧ ∃ i : Nat, i ≤ L.length ∧ z.t 9 = .int .i64 (i : Int) ∧ (L.take i).all p = true) (fun z => L.length - (intOf (z.t 9)).toNat) ?_ ?_
  · exact ⟨rfl, by simp, by simp, by simp, by simp, 0, by omega, by simp, by simp⟩
  rintro ⟨t, _, A⟩ ⟨rfl, g, t1, t7, t8, i, hi, t9, hall⟩
  dsimp only at g t1 t7 t8 t9
  simp [t8, t9]
  refine fcond_intro (fun hc => ?_) (fun hc => ?_)
  case refine_2 =>
    have : i = L.length := by simp at hc; omega
    subst this
    rw [List.take_length] at hall
    simp [g, hall]
  have h1 : i < L.length := by simpa using hc
  obtain ⟨q, e1, e2⟩ := (hv.ge g).at1 (k := .i64) (i := i) (by simpa using h1)
  have e3 : (L.map bitsV)[i]? = some (bitsV L[i]) := by simp [h1]
  rw [e3] at e2
  simp [t1, t7, t9, e1, e2]
  refine fcall_intro ((hp L[i] A (List.getElem_mem h1) g).mono ?_)
  rintro _ B ⟨rfl, gB⟩
  cases hpi : p L[i]
  · have hf : L.all p = false := by rw [List.all_eq_false]; exact ⟨L[i], List.getElem_mem h1, by simp [hpi]⟩
    simp [hf, g.trans gB]
  · simp [t9, add_in (x := i) (y := 1) (by omega) (by omega)]
    refine ⟨⟨g.trans gB, t1, t7, t8, i + 1, by omega, by omega, ?_⟩, by omega⟩
    rw [← List.all_eq_true, List.take_succ_eq_append_getElem h1, List.all_append, hall]
    simp [hpi]

theorem fair_spec {ws : List Int} {nb c d : Nat} {rw' : Bool} {v : Value} {H : Heap} (hG : Gl H) (hb : H.get nb = .cells rw' [v] c) (hnb : nb < H.next) (hv : IntsAt H v ws) (hw : ∀ x ∈ ws, 0 ≤ x ∧ x ≤ 1000000) (hd : d < 2 ^ ws.length) (h10 : ws.length ≤ 10) :
    AFun Tryd.prog 103 [bitsV d, .pointer (some ⟨nb, 0, none⟩)] H (fun r B => r = .bool (decide (sumTo ws (bitsL d) ≤ 1000)) ∧ Ge H B) := by
  refine AFun.mk ok103 hm (Nat.le_of_ble_eq_true rfl) ?_
  have hd10 : d < 1024 := Nat.lt_of_lt_of_le hd (Nat.pow_le_pow_right (n := 2) (by omega) h10)
  simp [a103, r103]
  refine fcall_fun (setList_spec hd10 hG) ?_
  rintro v8 H1 ⟨o8, g1⟩
  have k1 := g1.got hnb hb
  have hs8 := o8.slr
  have hlV := o8.lenV
  have hbl : (bitsL d).length ≤ 10 := by
    have := List.length_filter_le (fun x => d.testBit x) (List.range' 0 10)
    simpa [bitsL, bitsFrom] using this
  have hlt : ∀ s ∈ bitsL d, s < ws.length := fun s hs => bit_lt hd (bitsFrom_mem.1 hs).2
  generalize bitsL d = L at *
  simp at hlV
  simp [hlV]
  refine floop_intro (fun z => z.d = [] ∧ z.H = H1 ∧ z.t 1 = .pointer (some ⟨nb, 0, none⟩) ∧ z.t 8 = v8 ∧ z.t 9 = .int .i64 (L.length : Int) ∧ ∃ i : Nat, i ≤ L.length ∧ z.t 10 = .int .i64 (i : Int) ∧ z.t 4 = .int .i64 (sumTo ws (L.take i))) (fun z => L.length - (intOf (z.t 10)).toNat) ?_ ?_
  · exact ⟨rfl, by simp, by simp, by simp, by simp, 0, by omega, by simp, by simp [sumTo]⟩
  rintro ⟨t, _, A⟩ ⟨rfl, rfl, t1, t8, t9, i, hi, t10, t4⟩
  dsimp only at t1 t8 t9 t10 t4 g1 k1 o8 hs8
  simp [t9, t10]
  refine fcond_intro (fun hc => ?_) (fun hc => ?_)
  case refine_2 =>
    have : i = L.length := by simp at hc; omega
    subst this
    rw [List.take_length] at t4
    simp [t4]
    exact g1
  have h1 : i < L.length := by simpa using hc
  obtain ⟨q, e1, e2⟩ := hs8.at1 (k := .i64) (i := i) (by simpa using h1)
  have e3 : (intL L)[i]? = some (.int .i64 (L[i] : Int)) := by simp [h1]
  rw [e3] at e2
  have hli := hlt L[i] (List.getElem_mem h1)
  obtain ⟨p, e4, e5⟩ := (hv.ge g1).at hli
  have hsb := sumTo_bounds hw (L.take (i + 1))
  have hst : sumTo ws (L.take (i + 1)) = sumTo ws (L.take i) + ws[L[i]] := by
    rw [List.take_succ_eq_append_getElem h1, sumTo_append, List.getElem?_eq_getElem hli, Option.getD_some]
  have hl1 : (L.take (i + 1)).length ≤ 10 := by rw [List.length_take]; omega
  have hsb0 := sumTo_bounds hw (L.take i)
  have hin : 0 ≤ sumTo ws (L.take i) + ws[L[i]] ∧ sumTo ws (L.take i) + ws[L[i]] ≤ 10000000 := by rw [← hst]; omega
  simp [t1, t8, t10, e1, e2, t4, k1, e4, e5, add_in (x := sumTo ws (L.take i)) (y := ws[L[i]]) (by omega) (by omega), add_in (x := i) (y := 1) (by omega) (by omega)]
  exact ⟨⟨t9, i + 1, by omega, by omega, by rw [hst]⟩, by omega⟩

/-- Are weights fair? -/
def fairB (D : Dy) (ws : List Int) : Bool := (legalL D (known0 D)).all fun d => decide (sumTo ws (bitsL d) ≤ 1000)
section
variable {D : Dy} {b w s k q : Value} {H : Heap}
theorem isFair_spec {ws : List Int} {v : Value} (hP : PlanAt H b w s k q D (known0 D)) (hV : Valid D) (hG : Gl H) (hv : IntsAt H v ws) (hw : ∀ x ∈ ws, 0 ≤ x ∧ x ≤ 1000000) (hn : ws.length = segN D) :
    AFun Tryd.prog 77 [planV D b w s k q, v] H (fun r B => r = .bool (fairB D ws) ∧ Ge H B) := by
  refine AFun.mk ok77 hm (Nat.le_of_ble_eq_true rfl) ?_
  have hb := hP.day.blocks.one
  have hw' := hP.day.walk.one
  have hs := hP.segs.one
  have hk := hP.known.one
  have hq : one q = true := SlR.one hP.quest
  have hv1 := IntsAt.one hv
  obtain ⟨hp1, hp2⟩ := pow_segN hV
  simp [a77, r77, hb, hw', hs, hk, hq, hv1, one_cells]
  have G0 : Ge H ((H.new (.cells true (planCells D b w s k q) 13)).new (.cells true [v] 1)) := (Ge.new _ _).newOf _
  refine fcall_fun (legalDuties_spec (hP.ge G0) hV (known0_ok hV)) ?_
  rintro v6 H1 ⟨o6, g1⟩
  have G1 := G0.trans g1
  have k1 := g1.got (n := H.next + 1) (by simp) rfl
  simp at k1
  have n1 := g1.next
  simp at n1
  have hs6 := o6.slr
  simp only [List.length_map] at hs6
  have hlen := passL_length (p := legalN D (known0 D)) (i := 2 ^ segN D)
  simp
  refine fcall_fun (every_set_spec (p := fun d => decide (sumTo ws (bitsL d) ≤ 1000)) hs6 (by unfold legalL; omega) fun d A hd gA => ?_) ?_
  · have hd2 : d < 2 ^ segN D := (passL_mem.1 hd).1.2
    refine ACall.of_fun ?_
    have := fair_spec (d := d) ((hG.ge G1).ge gA) (gA.got (by omega) k1) (by have := gA.next; omega) ((hv.ge G1).ge gA) hw (by rw [hn]; exact hd2) (by rw [hn]; exact segN_le hV)
    simpa using this
  rintro _ H2 ⟨rfl, g2⟩
  simp [fairB]
  exact G1.trans g2
end

theorem bound_spec {H : Heap} {v : Value} {ws : List Int} (hv : IntsAt H v ws) (hw : ∀ x ∈ ws, 0 ≤ x ∧ x ≤ 1000000) (h10 : ws.length ≤ 10) :
    AFun Tryd.prog 78 [v] H (fun r B => r = .int .i64 ((ws.sum + 999) / 1000) ∧ B = H) := by
  refine AFun.mk ok78 hm (Nat.le_of_ble_eq_true rfl) ?_
  simp [a78, r78, hv.lenV]
  refine floop_intro (fun z => z.d = [] ∧ z.H = H ∧ z.t 6 = v ∧ z.t 7 = .int .i64 (ws.length : Int) ∧ ∃ i : Nat, i ≤ ws.length ∧ z.t 8 = .int .i64 (i : Int) ∧ z.t 3 = .int .i64 (ws.take i).sum) (fun z => ws.length - (intOf (z.t 8)).toNat) ?_ ?_
  · exact ⟨rfl, by simp, by simp, by simp, 0, by omega, by simp, by simp⟩
  rintro ⟨t, _, A⟩ ⟨rfl, rfl, t6, t7, i, hi, t8, t3⟩
  dsimp only at t6 t7 t8 t3 hv
  simp [t7, t8]
  refine fcond_intro (fun hc => ?_) (fun hc => ?_)
  case refine_2 =>
    have : i = ws.length := by simp at hc; omega
    subst this
    rw [List.take_length] at t3
    have hsb := sum_bounds hw
    have e : ws.sum + 1000 - 1 = ws.sum + 999 := by omega
    simp [t3, add_in (x := ws.sum) (y := 1000) (by omega) (by omega), sub_in (x := ws.sum + 1000) (y := 1) (by omega) (by omega), e, quo_in (x := ws.sum + 999) (y := 1000) (by omega) (by omega) (by omega)]
  have h1 : i < ws.length := by simpa using hc
  obtain ⟨p, e1, e2⟩ := hv.at h1
  have hsb := sum_bounds (ws := ws.take (i + 1)) fun x hx => hw x (List.mem_of_mem_take hx)
  have hst : (ws.take (i + 1)).sum = (ws.take i).sum + ws[i] := by rw [List.take_succ_eq_append_getElem h1]; simp only [List.sum_append, List.sum_cons, List.sum_nil, Int.add_zero]
  have hl1 : (ws.take (i + 1)).length ≤ 10 := by rw [List.length_take]; omega
  simp [t6, t8, e1, e2, t3, add_in (x := (ws.take i).sum) (y := ws[i]) (by omega) (by omega), add_in (x := i) (y := 1) (by omega) (by omega)]
  exact ⟨⟨t7, i + 1, by omega, by omega, by rw [hst]⟩, by omega⟩

end Go.Proofs.YtllkhaabcfnlpaaDoor

/-
  What DutyBounds answers.
-/
namespace Go.Proofs.YtllkhaabcfnlpaaDoor
open Go Go.Ab

theorem weights_ok {ws : List Int} (h : ws.all okWeight = true) : ∀ x ∈ ws, 0 ≤ x ∧ x ≤ 1000000 := fun x hx => by
  have := List.all_eq_true.1 h x hx
  simpa [okWeight] using this

def rightB (D : Dy) (ws : List Int) : Bool := ws.all okWeight && decide (ws.length = segN D)
def boundE (D : Dy) (ws : List Int) : Int := if checkD D = 0 then (if rightB D ws then (if fairB D ws then 0 else 9) else 2) else checkD D
def boundN (D : Dy) (ws : List Int) : Int := if boundE D ws = 0 then (ws.sum + 999) / 1000 else 0

theorem boundF_spec {D : Dy} {b w v : Value} {H : Heap} {ws : List Int} (h : DayAt H b w D) (hT : D.Thin) (hG : Gl H) (hv : IntsAt H v ws) :
    AFun Tryd.prog 41 [dayV D b w, v] H (fun r B => r = .tuple #[.int .i64 (boundN D ws), .int .i64 (boundE D ws)] ∧ Ge H B) := by
  refine AFun.mk ok41 hm (Nat.le_of_ble_eq_true rfl) ?_
  have hb := h.blocks.one
  have hw := h.walk.one
  simp [a41, r41, hb, hw]
  refine fcall_fun (checkDay_spec (h.ge (by simp)) hT) ?_
  rintro _ H1 ⟨rfl, g1⟩
  have G1 : Ge H H1 := Ge.trans (by simp) g1
  have k1 := g1.got (n := H.next) (by simp) rfl
  have n1 := g1.next
  simp at k1 n1
  by_cases hc : checkD D = 0
  case neg =>
    have he : boundE D ws = checkD D := by simp [boundE, hc]
    have hn : boundN D ws = 0 := by simp [boundN, he, hc]
    simp [hc, he, hn]
    exact G1
  have hV := valid_of hc
  simp [hc, k1]
  refine fcall_fun (newPlanned_spec (h.ge G1) hV) ?_
  rintro _ H2 ⟨s, k, q, rfl, hO, g2⟩
  have G2 := G1.trans g2
  have hP : PlanAt H2 b w s k q D (known0 D) := hO.at (h.ge G2)
  have hs := hP.segs.one
  have hk := hP.known.one
  have hq : one q = true := SlR.one hP.quest
  have hsl := hP.segs.lenV
  have G3 : ∀ c, Ge H2 ((H2.new (.cells true [.int .i64 0, .int .i64 0, .int .i64 0, .int .i64 0, .int .i64 0, .int .i64 0, .int .i64 0, .int .i64 0, .slice none 0 0, .slice none 0 0, .slice none 0 0, .slice none 0 0, .slice none 0 0] 13)).set H2.next c) := fun c => (Ge.new _ _).setNew (Nat.le_refl _) _
  simp [hb, hw, hs, hk, hq, hv.lenV, hsl]
  by_cases hli : (ws.length : Int) = ((segPs D).length : Int)
  case neg =>
    have hlen : ¬ ws.length = segN D := fun e => hli (by rw [e])
    have hr : rightB D ws = false := by simp [rightB, hlen]
    have he : boundE D ws = 2 := by simp [boundE, hc, hr]
    have hn : boundN D ws = 0 := by simp [boundN, he]
    simp [hli, he, hn]
    exact G2.trans (G3 _)
  have hlen : ws.length = segN D := by have : ws.length = (segPs D).length := by omega
                                       exact this
  simp [hli]
  refine fcall_fun (every_int_spec (p := okWeight) ((hv.ge G2).ge (G3 _)) fun n A gA => ACall.of_fun ?_) ?_
  · refine (validWeight_spec n A).mono ?_
    rintro _ _ ⟨rfl, rfl⟩
    exact ⟨rfl, Ge.refl _⟩
  rintro _ H3 ⟨rfl, g3⟩
  have G23 := (G3 _).trans g3
  have k3 := g3.got (n := H2.next) (by simp) rfl
  have n3 := g3.next
  simp at k3 n3
  cases hall : ws.all okWeight
  · have hr : rightB D ws = false := by simp only [rightB, hall]; rfl
    have he : boundE D ws = 2 := by simp [boundE, hc, hr]
    have hn : boundN D ws = 0 := by simp [boundN, he]
    simp [he, hn]
    exact G2.trans G23
  have hr : rightB D ws = true := by simp only [rightB, hall, hlen]; simp
  have hwok := weights_ok hall
  simp [k3]
  refine fcall_fun (isFair_spec (hP.ge G23) hV (hG.ge (G2.trans G23)) (hv.ge (G2.trans G23)) hwok hlen) ?_
  rintro _ H4 ⟨rfl, g4⟩
  have G4 := (G2.trans G23).trans g4
  cases hf : fairB D ws
  · have he : boundE D ws = 9 := by simp [boundE, hc, hr, hf]
    have hn : boundN D ws = 0 := by simp [boundN, he]
    simp [he, hn]
    exact G4
  have he : boundE D ws = 0 := by simp [boundE, hc, hr, hf]
  have hn : boundN D ws = (ws.sum + 999) / 1000 := by simp [boundN, he]
  simp
  refine fcall_fun (bound_spec (hv.ge G4) hwok (by rw [hlen]; exact segN_le hV)) ?_
  rintro _ _ ⟨rfl, hB⟩
  subst hB
  simp [he, hn]
  exact G4

theorem rightWeights_spec {D : Dy} {b w v : Value} {H : Heap} {ws : List Int} (h : DayAt H b w D) (hT : D.Thin) (hv : IntsAt H v ws) :
    AFun Tryd.prog 42 [dayV D b w, v] H (fun r B => r = .bool (rightB D ws) ∧ Ge H B) := by
  refine AFun.mk ok42 hm (Nat.le_of_ble_eq_true rfl) ?_
  have hb := h.blocks.one
  have hw := h.walk.one
  have h62 := hv.2
  simp [a42, r42, hb, hw]
  refine floop_intro (fun z => z.d = [] ∧ Ge H z.H ∧ H.next < z.H.next ∧ z.t 1 = v ∧ z.t 2 = .pointer (some ⟨H.next, 0, none⟩) ∧ z.H.get H.next = .cells true (dayV D b w).cells.toList 10 ∧ ∃ i : Nat, i ≤ ws.length ∧ z.t 5 = .int .i64 (i : Int) ∧ (ws.take i).all okWeight = true) (fun z => ws.length - (intOf (z.t 5)).toNat) ?_ ?_
  · exact ⟨rfl, by simp, by simp, by simp, by simp, by simp [Value.cells], 0, by omega, by simp, by simp⟩
  rintro ⟨t, _, A⟩ ⟨rfl, g, hn, t1, t2, kd, i, hi, t5, hall⟩
  dsimp only at g hn t1 t2 kd t5
  simp [Value.cells] at kd
  simp [t1, t5, hv.lenV]
  refine fcond_intro (fun hc => ?_) (fun hc => ?_)
  case refine_2 =>
    have : i = ws.length := by simp at hc; omega
    subst this
    rw [List.take_length] at hall
    simp [t1, t2, kd, hv.lenV]
    refine fcall_fun (segments_spec (h.ge g) hT) ?_
    rintro _ B ⟨rfl, gB⟩
    have hseg : segsOf D.blocks = segN D := segPs_length.symm
    rw [hseg]
    simp [rightB, hall]
    refine ⟨?_, g.trans gB⟩
    by_cases hl : ws.length = segN D
    · simp [hl, List.all_eq_true.1 hall]
    · simp [hl]; omega
  have h1 : i < ws.length := by simpa using hc
  obtain ⟨p, e1, e2⟩ := (hv.ge g).at h1
  simp [t1, t5, e1, e2]
  refine fcall_fun (in_spec _ _ _ _) ?_
  rintro _ B ⟨rfl, hB⟩
  subst hB
  have hok : (decide ((0 : Int) ≤ ws[i]) && decide (ws[i] ≤ 1000000)) = okWeight ws[i] := rfl
  rw [hok]
  cases hpi : okWeight ws[i]
  · have hf : ws.all okWeight = false := by rw [List.all_eq_false]; exact ⟨ws[i], List.getElem_mem h1, by simp [hpi]⟩
    have hr : rightB D ws = false := by simp only [rightB, hf]; rfl
    simp [hr]
    exact g
  · simp [t5, add_in (x := i) (y := 1) (by omega) (by omega)]
    refine ⟨⟨g, hn, t1, t2, by simpa [Value.cells] using kd, i + 1, by omega, by omega, ?_⟩, by omega⟩
    rw [← List.all_eq_true, List.take_succ_eq_append_getElem h1, List.all_append, hall]
    simp [hpi]

theorem weight_spec {H : Heap} {v u : Value} {ws : List Int} {l : List Nat} (hv : IntsAt H v ws) (hu : IntsAt H u (bitsI l)) (hw : ∀ x ∈ ws, 0 ≤ x ∧ x ≤ 1000000) (hl : ∀ s ∈ l, s < ws.length) (h10 : l.length ≤ 10) :
    AFun Tryd.prog 43 [v, u] H (fun r B => r = .int .i64 (sumTo ws l) ∧ B = H) := by
  refine AFun.mk ok43 hm (Nat.le_of_ble_eq_true rfl) ?_
  have hll : (bitsI l).length = l.length := by simp [bitsI]
  have hlV := hu.lenV
  rw [hll] at hlV
  simp [a43, r43]
  refine floop_intro (fun z => z.d = [] ∧ z.H = H ∧ z.t 0 = v ∧ z.t 1 = u ∧ ∃ i : Nat, i ≤ l.length ∧ z.t 6 = .int .i64 (i : Int) ∧ z.t 5 = .int .i64 (sumTo ws (l.take i))) (fun z => l.length - (intOf (z.t 6)).toNat) ?_ ?_
  · exact ⟨rfl, by simp, by simp, by simp, 0, by omega, by simp, by simp [sumTo]⟩
  rintro ⟨t, _, A⟩ ⟨rfl, rfl, t0, t1, i, hi, t6, t5⟩
  dsimp only at t0 t1 t6 t5 hv hu
  simp [t1, t6, hlV]
  refine fcond_intro (fun hc => ?_) (fun hc => ?_)
  case refine_2 =>
    have : i = l.length := by simp at hc; omega
    subst this
    rw [List.take_length] at t5
    simp [t5]
  have h1 : i < l.length := by simpa using hc
  obtain ⟨q, e1, e2⟩ := hu.at (i := i) (by omega)
  have e3 : (bitsI l)[i]'(by omega) = (l[i] : Int) := by simp [bitsI]
  rw [e3] at e2
  have hli := hl l[i] (List.getElem_mem h1)
  obtain ⟨p, e4, e5⟩ := hv.at hli
  have hsb := sumTo_bounds hw (l.take (i + 1))
  have hst : sumTo ws (l.take (i + 1)) = sumTo ws (l.take i) + ws[l[i]] := by
    rw [List.take_succ_eq_append_getElem h1, sumTo_append, List.getElem?_eq_getElem hli, Option.getD_some]
  have hl1 : (l.take (i + 1)).length ≤ 10 := by rw [List.length_take]; omega
  simp [t0, t1, t6, e1, e2, t5, e4, e5, add_in (x := sumTo ws (l.take i)) (y := ws[l[i]]) (by omega) (by omega), add_in (x := i) (y := 1) (by omega) (by omega)]
  exact ⟨⟨i + 1, by omega, by omega, by rw [hst]⟩, by omega⟩

theorem setR_bits {n m : Nat} (h : m < 2 ^ n) (hn : n ≤ 10) : bitsFrom n m 0 = bitsL m := by
  refine rise_ext bitsFrom_rise bitsFrom_rise fun x => ?_
  rw [bitsFrom_mem, bitsFrom_mem]
  exact ⟨fun k => ⟨by omega, k.2⟩, fun k => ⟨bit_lt h k.2, k.2⟩⟩

/-- Are weights fair to the first legal duties? -/
def fairTo (D : Dy) (ws : List Int) (i : Nat) : Bool := ((legalL D (known0 D)).take i).all fun d => decide (sumTo ws (bitsL d) ≤ 1000)

theorem dutyBounds_of {D : Dy} {b w v : Value} {H : Heap} {ws : List Int} (h : DayAt H b w D) (hv : IntsAt H v ws) (hG : Gl H) (hwk : ∀ A, Ge H A → AFun Tryd.prog 16 [] A (fun r B => r = .bool true ∧ Ge A B)) :
    AFun Tryd.prog 6 [dayV D b w, v] H (fun r _ => r = .bool true) := by
  refine AFun.mk ok6 hm (Nat.le_of_ble_eq_true rfl) ?_
  have hb := h.blocks.one
  have hw := h.walk.one
  simp [a6, r6, hb, hw]
  refine fcall_fun (thin_spec (h.ge (by simp))) ?_
  rintro _ H1 ⟨rfl, g1⟩
  have G1 : Ge H H1 := Ge.trans (by simp) g1
  have k1 := g1.got (n := H.next) (by simp) rfl
  have n1 := g1.next
  simp at k1 n1
  cases hth : thinB D
  · simp
    refine fcall_fun (hwk _ G1) ?_
    rintro _ _ ⟨rfl, _⟩
    simp
  have hT := thinB_thin hth
  simp [hv.lenV]
  by_cases hl14 : (14 : Int) < ws.length
  · simp [hl14]
    refine fcall_fun (hwk _ G1) ?_
    rintro _ _ ⟨rfl, _⟩
    simp
  have hlen : ws.length ≤ 14 := by omega
  simp [hl14, k1]
  refine fcall_fun (fault36_spec (h.ge G1) hT) ?_
  rintro _ H2 ⟨rfl, g2⟩
  have G2 := G1.trans g2
  have k2 := g2.got (n := H.next) (by omega) k1
  have n2 := g2.next
  have hfin : ∀ (A : Heap), Ge H A → ∀ (e : Int), e ≠ 0 → boundE D ws = e → True := fun _ _ _ _ _ => trivial
  clear hfin
  by_cases hc : checkD D = 0
  case neg =>
    have he : boundE D ws = checkD D := by simp [boundE, hc]
    have hn : boundN D ws = 0 := by simp [boundN, he, hc]
    simp [hl14, hc, k2]
    refine fcall_fun (day18_spec (h.ge G2) hT) ?_
    rintro _ H3 ⟨b3, w3, rfl, hd3, g3⟩
    have G3 := G2.trans g3
    have k3 := g3.got (n := H.next) (by omega) k2
    have n3 := g3.next
    simp
    refine fcall_fun (list_spec (hv.ge G3) (by omega)) ?_
    rintro v4 H4 ⟨o4, g4⟩
    have G4 := G3.trans g4
    have k4 := g4.got (n := H.next) (by omega) k3
    have n4 := g4.next
    simp
    refine fcall_fun (boundF_spec (hd3.ge g4) hT (hG.ge G4) (own_ints o4 (by omega))) ?_
    rintro _ H5 ⟨rfl, g5⟩
    have G5 := G4.trans g5
    have k5 := g5.got (n := H.next) (by omega) k4
    have n5 := g5.next
    simp [k5]
    refine fcall_fun (faultF_spec (h.ge G5) hT) ?_
    rintro _ H6 ⟨rfl, g6⟩
    have G6 := G5.trans g6
    simp [hc, he, hn]
    refine fcall_fun (hwk _ G6) ?_
    rintro _ _ ⟨rfl, _⟩
    simp [hc, he, hn]
  have hV := valid_of hc
  simp [hl14, hc, k2]
  refine fcall_fun (segments_spec (h.ge G2) hT) ?_
  rintro _ H3 ⟨rfl, g3⟩
  have G3 := G2.trans g3
  have k3 := g3.got (n := H.next) (by omega) k2
  have n3 := g3.next
  have hseg : segsOf D.blocks = segN D := segPs_length.symm
  rw [hseg]
  by_cases h7 : (7 : Int) < segN D
  · simp [hl14, hc, h7]
    refine fcall_fun (hwk _ G3) ?_
    rintro _ _ ⟨rfl, _⟩
    simp
  have h7' : segN D ≤ 7 := by omega
  simp [hl14, hc, h7, k3]
  refine fcall_fun (day18_spec (h.ge G3) hT) ?_
  rintro _ H4 ⟨b4, w4, rfl, hd4, g4⟩
  have G4 := G3.trans g4
  have k4 := g4.got (n := H.next) (by omega) k3
  have n4 := g4.next
  simp
  refine fcall_fun (list_spec (hv.ge G4) (by omega)) ?_
  rintro v5 H5 ⟨o5, g5⟩
  have G5 := G4.trans g5
  have k5 := g5.got (n := H.next) (by omega) k4
  have n5 := g5.next
  simp
  refine fcall_fun (boundF_spec (hd4.ge g5) hT (hG.ge G5) (own_ints o5 (by omega))) ?_
  rintro _ H6 ⟨rfl, g6⟩
  have G6 := G5.trans g6
  have k6 := g6.got (n := H.next) (by omega) k5
  have n6 := g6.next
  simp [k6]
  refine fcall_fun (faultF_spec (h.ge G6) hT) ?_
  rintro _ H7 ⟨rfl, g7⟩
  have G7 := G6.trans g7
  have k7 := g7.got (n := H.next) (by omega) k6
  have n7 := g7.next
  simp [hc, k7]
  refine fcall_fun (rightWeights_spec (h.ge G7) hT (hv.ge G7)) ?_
  rintro _ H8 ⟨rfl, g8⟩
  have G8 := G7.trans g8
  have k8 := g8.got (n := H.next) (by omega) k7
  have n8 := g8.next
  cases hr : rightB D ws
  · have he : boundE D ws = 2 := by simp [boundE, hc, hr]
    have hn : boundN D ws = 0 := by simp [boundN, he]
    simp [hc, he, hn]
    refine fcall_fun (hwk _ G8) ?_
    rintro _ _ ⟨rfl, _⟩
    simp [hc, he, hn]
  have hr2 := hr
  unfold rightB at hr2
  rw [Bool.and_eq_true, decide_eq_true_eq] at hr2
  obtain ⟨hall, hln⟩ := hr2
  have hwok := weights_ok hall
  have he : boundE D ws = if fairB D ws then 0 else 9 := by simp [boundE, hc, hr]
  simp [hc, k8]
  refine fcall_fun (legalDutiesR_spec (h.ge G8) hT hV) ?_
  rintro v9 H9 ⟨hR, g9⟩
  have G9 := G8.trans g9
  have n9 := g9.next
  have hRl := hR.lenV
  have hR62 := selL_length (D := D) (i := 2 ^ segN D)
  obtain ⟨hp1, hp2⟩ := pow_segN hV
  have hsl : (selL D (2 ^ segN D)).length = (legalL D (known0 D)).length := by simp [selL, legalL]
  generalize hS : selL D (2 ^ segN D) = S at *
  simp
  refine floop_intro (fun z => z.d = [] ∧ z.H = H9 ∧ z.t 1 = v ∧ z.t 5 = .int .i64 (boundN D ws) ∧ z.t 6 = .int .i64 (boundE D ws) ∧ z.t 8 = .int .i64 0 ∧ z.t 9 = v9 ∧ ∃ i : Nat, i ≤ S.length ∧ z.t 10 = .int .i64 (i : Int) ∧ z.t 7 = .int .i64 (if fairTo D ws i then 0 else 9)) (fun z => S.length - (intOf (z.t 10)).toNat) ?_ ?_
  · exact ⟨rfl, by simp, by simp, by simp, by simp, by simp, by simp, 0, by omega, by simp, by simp [fairTo]⟩
  rintro ⟨t, _, A⟩ ⟨rfl, hA, t1, t5, t6, t8, t9, i, hi, t10, t7⟩
  dsimp only at hA t1 t5 t6 t8 t9 t10 t7
  subst hA
  simp [t9, t10, hRl]
  by_cases hin : i < S.length
  case pos =>
    obtain ⟨p, u, e1, e2, e3⟩ := hR.at hin
    have hil : i < (legalL D (known0 D)).length := by omega
    have hSi : S[i] = bitsI (bitsL (legalL D (known0 D))[i]) := by
      have hd := passL_mem.1 (List.getElem_mem hil)
      have : S[i] = setR (segN D) (legalL D (known0 D))[i] := by subst hS; simp [selL, legalL]
      rw [this, setR, setR_bits hd.1.2 (by omega)]
    rw [hSi] at e3
    have hd := (passL_mem.1 (List.getElem_mem hil)).1.2
    have htk : fairTo D ws (i + 1) = (fairTo D ws i && decide (sumTo ws (bitsL (legalL D (known0 D))[i]) ≤ 1000)) := by
      unfold fairTo
      rw [List.take_succ_eq_append_getElem hil, List.all_append]; simp
    generalize (legalL D (known0 D))[i] = d at *
    simp [hin, t1, t9, t10, e1, e2]
    have hbl : (bitsL d).length ≤ 10 := by
      have := List.length_filter_le (fun x => d.testBit x) (List.range' 0 10)
      simpa [bitsL, bitsFrom] using this
    refine fcall_fun (weight_spec (hv.ge G9) e3 hwok (fun s hs => by rw [hln]; exact bit_lt hd (bitsFrom_mem.1 hs).2) hbl) ?_
    rintro _ B ⟨rfl, hB⟩
    subst hB
    by_cases hgt : (1000 : Int) < sumTo ws (bitsL d)
    · have ha1 : fairTo D ws (i + 1) = false := by rw [htk, decide_eq_false (by omega)]; simp
      simp [hgt, t10, add_in (x := i) (y := 1) (by omega) (by omega)]
      exact ⟨⟨t1, t5, t6, t8, t9, i + 1, by omega, by omega, by simp [ha1]⟩, by omega⟩
    · have ha1 : fairTo D ws (i + 1) = fairTo D ws i := by rw [htk, decide_eq_true (by omega)]; simp
      simp [hgt, t10, add_in (x := i) (y := 1) (by omega) (by omega)]
      exact ⟨⟨t1, t5, t6, t8, t9, i + 1, by omega, by omega, by rw [ha1]; exact t7⟩, by omega⟩
  have hiS : i = S.length := by omega
  have hfe : (if fairTo D ws i then (0 : Int) else 9) = boundE D ws := by rw [he, hiS, hsl]; unfold fairTo fairB; rw [List.take_length]
  rw [hfe] at t7
  clear he hfe
  simp [hin]
  refine floop_intro (fun z => z.d = [] ∧ z.H = A ∧ z.t 1 = v ∧ z.t 5 = .int .i64 (boundN D ws) ∧ z.t 6 = .int .i64 (boundE D ws) ∧ z.t 7 = .int .i64 (boundE D ws) ∧ ∃ i : Nat, i ≤ ws.length ∧ z.t 11 = .int .i64 (i : Int) ∧ z.t 8 = .int .i64 (ws.take i).sum) (fun z => ws.length - (intOf (z.t 11)).toNat) ?_ ?_
  · exact ⟨rfl, by simp, by simp [t1], by simp [t5], by simp [t6], by simp [t7], 0, by omega, by simp, by simp [t8]⟩
  clear t1 t5 t6 t7 t8 t9 t10
  rintro ⟨t, _, B⟩ ⟨rfl, hB, t1, t5, t6, t7, j, hj, t11, t8⟩
  dsimp only at hB t1 t5 t6 t7 t11 t8
  subst hB
  simp [t1, t11, hv.lenV]
  by_cases hjn : j < ws.length
  case pos =>
    obtain ⟨p, e1, e2⟩ := (hv.ge G9).at hjn
    have hsb := sum_bounds (ws := ws.take (j + 1)) fun x hx => hwok x (List.mem_of_mem_take hx)
    have hst : (ws.take (j + 1)).sum = (ws.take j).sum + ws[j] := by rw [List.take_succ_eq_append_getElem hjn]; simp only [List.sum_append, List.sum_cons, List.sum_nil, Int.add_zero]
    have hl1 : (ws.take (j + 1)).length ≤ 14 := by rw [List.length_take]; omega
    simp [hjn, t1, t11, e1, e2, t8, add_in (x := (ws.take j).sum) (y := ws[j]) (by omega) (by omega), add_in (x := j) (y := 1) (by omega) (by omega)]
    exact ⟨⟨t5, t6, t7, j + 1, by omega, by omega, by rw [hst]⟩, by omega⟩
  have hjS : j = ws.length := by omega
  rw [hjS, List.take_length] at t8
  have hsb := sum_bounds hwok
  by_cases h0 : boundE D ws = 0
  · have hn : boundN D ws = (ws.sum + 999) / 1000 := by simp [boundN, h0]
    simp [hjn, t5, t6, t7, t8, h0, hn, add_in (x := ws.sum) (y := 999) (by omega) (by omega), quo_in (x := ws.sum + 999) (y := 1000) (by omega) (by omega) (by omega)]
    refine fcall_fun (hwk _ G9) ?_
    rintro _ _ ⟨rfl, _⟩
    simp [h0]
  · have hn : boundN D ws = 0 := by simp [boundN, h0]
    simp [hjn, t5, t6, t7, h0, hn]
    refine fcall_fun (hwk _ G9) ?_
    rintro _ _ ⟨rfl, _⟩
    simp [h0]

end Go.Proofs.YtllkhaabcfnlpaaDoor

/-
  The tables of math/bits, and a world for the witness, as the laws of package duty need them.
-/
namespace Go.Proofs.YtllkhaabcfnlpaaDoor
open Go Go.Ab Go.ChangeShapes Go.WideShapes Go.ChangeAt Go.RowKit

theorem ownT : ownKnob Tryd.prog.godebug = none := by kernel_rfl
theorem gTab0 : Tryd.prog.globalNamed "math/bits.deBruijn32tab" = some 0 := by kernel_rfl
theorem gTab1 : Tryd.prog.globalNamed "math/bits.deBruijn64tab" = some 1 := by kernel_rfl
theorem gType0 : (Tryd.prog.globals[0]?).map (·.type) = some 180 := by kernel_rfl
theorem gType1 : (Tryd.prog.globals[1]?).map (·.type) = some 181 := by kernel_rfl
theorem cellsT180 : Tryd.prog.cellsOf 180 = 32 := by kernel_rfl
theorem cellsT181 : Tryd.prog.cellsOf 181 = 64 := by kernel_rfl
theorem cellsT5 : Tryd.prog.cellsOf 5 = 1 := by kernel_rfl

theorem laidT : laidOutB Tryd.prog = true := by kernel_rfl
theorem readT {l : List Nat} (h : l.all (fun t => Tryd.prog.readableRec t && decide (t < Tryd.prog.types.size)) = true) : ∀ t ∈ l, Tryd.prog.readableRec t = true ∧ t < Tryd.prog.types.size := by
  intro t ht
  have := List.all_eq_true.1 h t ht
  simpa using this

/-- What the row's list gives. -/
abbrev tabsL {H : Type} : List (String × DataW H) := [("math/bits.deBruijn32tab", Rows.laid_math_bits_deBruijn32tab), ("math/bits.deBruijn64tab", Rows.laid_math_bits_deBruijn64tab)]
theorem tables {W : World} (h : laidMetH Tryd.prog tabsL W) : gmax ≤ W.heap.size ∧ ∀ g, g < gmax → ∃ cs c, [gl0, gl1][g]? = some (some (false, cs, c)) ∧ cs.all flat1 = true ∧ (absH W.heap).get g = .cells false cs c := by
  have t0 := abs_tab (Lib.tabIs_of_head (k := .u8) (zs := [0, 1, 28, 2, 29, 14, 24, 3, 30, 22, 20, 15, 25, 17, 4, 8, 31, 27, 13, 23, 21, 19, 16, 7, 26, 12, 18, 6, 11, 5, 10, 9]) gTab0 gType0 Tryd.underlying180 Tryd.underlying5 cellsT5 cellsT180 h) gTab0
  have t1 := abs_tab (Lib.tabIs_of_head (k := .u8) (zs := [0, 1, 56, 2, 57, 49, 28, 3, 61, 58, 42, 50, 38, 29, 17, 4, 62, 47, 59, 36, 45, 43, 51, 22, 53, 39, 33, 30, 24, 18, 12, 5, 63, 55, 48, 27, 60, 41, 37, 16, 46, 35, 44, 21, 52, 32, 23, 11, 54, 26, 40, 15, 34, 20, 31, 10, 25, 14, 19, 9, 13, 8, 7, 6]) (rest := []) gTab1 gType1 Tryd.underlying181 Tryd.underlying5 cellsT5 cellsT181 (laidMet.tail h)) gTab1
  refine ⟨t1.1, fun g hg => ?_⟩
  match g, hg with
  | 0, _ => exact ⟨_, _, rfl, rfl, t0.2⟩
  | 1, _ => exact ⟨_, _, rfl, rfl, t1.2⟩

/-- A world for the witness: the settled one with the arguments' memory, the tables holding what their initialisers lay. -/
noncomputable def laidCells (l : Array Value) : Obj → Obj
  | .cells _ t frozen => .cells l t frozen
  | o => o
noncomputable def laidWorld (os : Os) (args : Array Value) : World :=
  { World.holding Tryd.prog os ⟨#[], args, []⟩ with heap := ((World.holding Tryd.prog os ⟨#[], args, []⟩).heap.modify 0 (laidCells #[.int .u8 0, .int .u8 1, .int .u8 28, .int .u8 2, .int .u8 29, .int .u8 14, .int .u8 24, .int .u8 3, .int .u8 30, .int .u8 22, .int .u8 20, .int .u8 15, .int .u8 25, .int .u8 17, .int .u8 4, .int .u8 8, .int .u8 31, .int .u8 27, .int .u8 13, .int .u8 23, .int .u8 21, .int .u8 19, .int .u8 16, .int .u8 7, .int .u8 26, .int .u8 12, .int .u8 18, .int .u8 6, .int .u8 11, .int .u8 5, .int .u8 10, .int .u8 9])).modify 1 (laidCells #[.int .u8 0, .int .u8 1, .int .u8 56, .int .u8 2, .int .u8 57, .int .u8 49, .int .u8 28, .int .u8 3, .int .u8 61, .int .u8 58, .int .u8 42, .int .u8 50, .int .u8 38, .int .u8 29, .int .u8 17, .int .u8 4, .int .u8 62, .int .u8 47, .int .u8 59, .int .u8 36, .int .u8 45, .int .u8 43, .int .u8 51, .int .u8 22, .int .u8 53, .int .u8 39, .int .u8 33, .int .u8 30, .int .u8 24, .int .u8 18, .int .u8 12, .int .u8 5, .int .u8 63, .int .u8 55, .int .u8 48, .int .u8 27, .int .u8 60, .int .u8 41, .int .u8 37, .int .u8 16, .int .u8 46, .int .u8 35, .int .u8 44, .int .u8 21, .int .u8 52, .int .u8 32, .int .u8 23, .int .u8 11, .int .u8 54, .int .u8 26, .int .u8 40, .int .u8 15, .int .u8 34, .int .u8 20, .int .u8 31, .int .u8 10, .int .u8 25, .int .u8 14, .int .u8 19, .int .u8 9, .int .u8 13, .int .u8 8, .int .u8 7, .int .u8 6]) }

end Go.Proofs.YtllkhaabcfnlpaaDoor

/-
  The arguments of the laws of package duty, as the calculus has them: days, lists, rows, words, numbers.
-/
namespace Go.Proofs.YtllkhaabcfnlpaaDoor
open Go Go.Ab Go.RowKit Go.ChangeShapes Go.WideShapes

theorem cells3 : Tryd.prog.cellsOf 3 = 1 := by kernel_rfl
theorem cells28 : Tryd.prog.cellsOf 28 = 1 := by kernel_rfl
theorem cells80 : Tryd.prog.cellsOf 80 = 1 := by kernel_rfl
theorem cells24 : Tryd.prog.cellsOf 24 = 1 := by kernel_rfl
theorem cells25 : Tryd.prog.cellsOf 25 = 1 := by kernel_rfl
theorem cells82 : Tryd.prog.cellsOf 82 = 2 := by kernel_rfl
theorem cells84 : Tryd.prog.cellsOf 84 = 3 := by kernel_rfl
theorem cells23 : Tryd.prog.cellsOf 23 = 8 := by kernel_rfl
theorem cells27 : Tryd.prog.cellsOf 27 = 10 := by kernel_rfl
theorem cells71 : Tryd.prog.cellsOf 71 = 1 := by kernel_rfl

theorem abs_size (hp : Array Obj) : hp.size ≤ (absH hp).next := Nat.le_succ_of_le (Nat.le_mul_of_pos_right _ (Nat.succ_pos _))

theorem list2 {l : List Value} (h : l.length = 2) : ∃ a b, l = [a, b] := by
  match l, h with
  | [a, b], _ => exact ⟨a, b, rfl⟩
theorem list3 {l : List Value} (h : l.length = 3) : ∃ a b c, l = [a, b, c] := by
  match l, h with
  | [a, b, c], _ => exact ⟨a, b, c, rfl⟩
theorem list8 {l : List Value} (h : l.length = 8) : ∃ a b c d e f g i, l = [a, b, c, d, e, f, g, i] := by
  match l, h with
  | [a, b, c, d, e, f, g, i], _ => exact ⟨a, b, c, d, e, f, g, i, rfl⟩
theorem list10 {l : List Value} (h : l.length = 10) : ∃ a b c d e f g i j k, l = [a, b, c, d, e, f, g, i, j, k] := by
  match l, h with
  | [a, b, c, d, e, f, g, i, j, k], _ => exact ⟨a, b, c, d, e, f, g, i, j, k, rfl⟩

section
variable {H : Type} {enc : TypeId × Value → H} {w : World} {fuel : Nat} {v : Value} {x : DataW H × List MemPlace}

theorem maxLen_lt {n : Nat} (h : n ≤ maxLen) : n < 2 ^ 63 := by
  have : maxLen = 9223372036854775807 := rfl
  omega

theorem read_list (h : DataW.trod enc Tryd.prog w 0 (fun _ => true) true fuel 28 [v] = some x) : goodV w.heap.size (capM w.heap) v = true ∧ ∃ xs : List Int, IntsAt (absH w.heap) (absV w.heap.size v) xs := by
  obtain ⟨h1, xs, h2, h3, _⟩ := read_ints Tryd.underlying28 Tryd.underlying3 cells3 h
  exact ⟨h1, xs, h2, maxLen_lt h3⟩

theorem read_of {t e : TypeId} {α : Type} {R : Heap → Value → α → Prop} (ht : Tryd.prog.underlying t = some (.slice e)) (hc : Tryd.prog.cellsOf e = 1)
    (hs : ∀ n cs y, DataW.trod enc Tryd.prog w 0 (fun _ => true) true n e cs = some y → ∃ u, cs = [u])
    (hr : ∀ n u y, DataW.trod enc Tryd.prog w 0 (fun _ => true) true n e [u] = some y → goodV w.heap.size (capM w.heap) u = true ∧ ∃ x : α, R (absH w.heap) (absV w.heap.size u) x)
    (h : DataW.trod enc Tryd.prog w 0 (fun _ => true) true fuel t [v] = some x) : goodV w.heap.size (capM w.heap) v = true ∧ ∃ xs : List α, RowsOf R (absH w.heap) (absV w.heap.size v) xs := by
  obtain ⟨h1, l, h2, h3, h4⟩ := read_slice (α := α × Value) (f := fun x => [x.2]) (Q := fun x => R (absH w.heap) x.2 x.1) ht (by rw [hc]; omega) (fun n cs y hy => by
    obtain ⟨u, rfl⟩ := hs _ _ _ hy
    obtain ⟨k1, xs, k2⟩ := hr _ _ _ hy
    exact ⟨by simpa using k1, (xs, absV w.heap.size u), rfl, k2⟩) h
  refine ⟨h1, l.map (·.1), l.map (·.2), ?_, by simpa using maxLen_lt h3, fun i hi => ?_⟩
  · rw [hc] at h2
    have e : l.flatMap (fun x => [x.2]) = l.map (·.2) := by
      clear h2 h3 h4
      induction l with
      | nil => rfl
      | cons x l ih => simp [ih]
    rw [← e, List.length_map]
    exact h2
  · simp at hi
    exact ⟨l[i].2, by simp [hi], by simpa using h4 _ (List.getElem_mem hi)⟩

theorem one_slice {t e : TypeId} (ht : Tryd.prog.underlying t = some (.slice e)) {n : Nat} {cs : List Value} {y : DataW H × List MemPlace} (hy : DataW.trod enc Tryd.prog w 0 (fun _ => true) true n t cs = some y) : ∃ u, cs = [u] := by
  rcases Deep.open_slice ht hy with ⟨hv, _⟩ | ⟨a, len, cap, m, n, D, Pl, hv, _⟩ <;> exact ⟨_, hv⟩

theorem read_rows (h : DataW.trod enc Tryd.prog w 0 (fun _ => true) true fuel 25 [v] = some x) : goodV w.heap.size (capM w.heap) v = true ∧ ∃ xs : List (List Int), RowsAt (absH w.heap) (absV w.heap.size v) xs :=
  read_of Tryd.underlying25 cells28 (fun _ _ _ hy => one_slice Tryd.underlying28 hy) (fun _ _ _ hy => read_list hy) h

theorem read_relief {cs : List Value} (h : DataW.trod enc Tryd.prog w 0 (fun _ => true) true fuel 84 cs = some x) : (∀ u ∈ cs, goodV w.heap.size (capM w.heap) u = true) ∧ ∃ t : Rl, cs.map (absV w.heap.size) = t.cells ∧ True := by
  obtain ⟨ys, n, _, _, hl, hyl, hf⟩ := DataW.trod_struct Tryd.underlying84 h
  rw [cells84] at hl
  obtain ⟨c0, c1, c2, rfl⟩ := list3 hl
  have hy2 : ys.length = 2 := by simpa using hyl
  have e0 := hf 0 _ rfl
  have e1 := hf 1 _ rfl
  simp [cells3, cells82, hy2] at e0 e1
  obtain ⟨zs, m, _, _, hl', hyl', hf'⟩ := DataW.trod_struct Tryd.underlying82 e1
  have hz2 : zs.length = 2 := by simpa using hyl'
  have e2 := hf' 0 _ rfl
  have e3 := hf' 1 _ rfl
  simp [cells3, hz2] at e2 e3
  obtain ⟨z0, hz0, _⟩ := DataW.trod_int Tryd.underlying3 e0
  obtain ⟨z1, hz1, _⟩ := DataW.trod_int Tryd.underlying3 e2
  obtain ⟨z2, hz2, _⟩ := DataW.trod_int Tryd.underlying3 e3
  simp at hz0 hz1 hz2
  subst hz0 hz1 hz2
  exact ⟨by simp [goodV], ⟨z0, z1, z2⟩, rfl, trivial⟩

theorem read_rels (h : DataW.trod enc Tryd.prog w 0 (fun _ => true) true fuel 80 [v] = some x) : goodV w.heap.size (capM w.heap) v = true ∧ ∃ xs : List Rl, RelsAt (absH w.heap) (absV w.heap.size v) xs := by
  obtain ⟨h1, xs, h2, h3, _⟩ := read_slice (α := Rl) (f := Rl.cells) (Q := fun _ => True) Tryd.underlying80 (by rw [cells84]; omega) (fun n cs y hy => read_relief hy) h
  rw [cells84] at h2
  exact ⟨h1, xs, h2, maxLen_lt h3⟩

theorem read_blks (h : DataW.trod enc Tryd.prog w 0 (fun _ => true) true fuel 24 [v] = some x) : goodV w.heap.size (capM w.heap) v = true ∧ ∃ xs : List (List Rl), BlksAt (absH w.heap) (absV w.heap.size v) xs :=
  read_of Tryd.underlying24 cells80 (fun _ _ _ hy => one_slice Tryd.underlying80 hy) (fun _ _ _ hy => read_rels hy) h
end

section
variable {H : Type} {enc : TypeId × Value → H} {w : World} {base : Nat} {v : Value} {d : DataW H} {p : List MemPlace}

set_option maxRecDepth 100000 in
theorem read_dayV (hval : Value.okWide Tryd.prog w .any base 27 v) (h : DataW.Trod enc Tryd.prog w 0 (fun _ => true) true 27 v d p) :
    ∃ D b u, VR (absB w.heap) (dayV D b u) v ∧ DayAt (absH w.heap) b u D := by
  obtain ⟨cs, rfl, hsz⟩ := okWide_struct Tryd.underlying27 hval
  obtain ⟨fuel, h⟩ := h
  simp only [Value.cells] at h
  obtain ⟨ys, n, _, _, hl, hyl, hf⟩ := DataW.trod_struct Tryd.underlying27 h
  rw [cells27] at hl
  obtain ⟨l, rfl⟩ : ∃ l : List Value, cs = l.toArray := ⟨cs.toList, by simp⟩
  simp only at hl hf
  obtain ⟨c0, c1, c2, c3, c4, c5, c6, c7, c8, c9, rfl⟩ := list10 hl
  have hy3 : ys.length = 3 := by simpa using hyl
  have e0 := hf 0 _ rfl
  have e1 := hf 1 _ rfl
  have e2 := hf 2 _ rfl
  simp [cells23, cells24, cells25, hy3] at e0 e1 e2
  obtain ⟨zs, m, _, _, hl', hyl', hf'⟩ := DataW.trod_struct Tryd.underlying23 e0
  have hz8 : zs.length = 8 := by simpa using hyl'
  have f0 := hf' 0 _ rfl
  have f1 := hf' 1 _ rfl
  have f2 := hf' 2 _ rfl
  have f3 := hf' 3 _ rfl
  have f4 := hf' 4 _ rfl
  have f5 := hf' 5 _ rfl
  have f6 := hf' 6 _ rfl
  have f7 := hf' 7 _ rfl
  simp [cells3, hz8] at f0 f1 f2 f3 f4 f5 f6 f7
  obtain ⟨z0, h0, _⟩ := DataW.trod_int Tryd.underlying3 f0
  obtain ⟨z1, h1, _⟩ := DataW.trod_int Tryd.underlying3 f1
  obtain ⟨z2, h2, _⟩ := DataW.trod_int Tryd.underlying3 f2
  obtain ⟨z3, h3, _⟩ := DataW.trod_int Tryd.underlying3 f3
  obtain ⟨z4, h4, _⟩ := DataW.trod_int Tryd.underlying3 f4
  obtain ⟨z5, h5, _⟩ := DataW.trod_int Tryd.underlying3 f5
  obtain ⟨z6, h6, _⟩ := DataW.trod_int Tryd.underlying3 f6
  obtain ⟨z7, h7, _⟩ := DataW.trod_int Tryd.underlying3 f7
  obtain ⟨g8, xs, k8⟩ := read_blks e1
  obtain ⟨g9, us, k9⟩ := read_rows e2
  simp at h0 h1 h2 h3 h4 h5 h6 h7
  subst h0 h1 h2 h3 h4 h5 h6 h7
  refine ⟨⟨⟨z0, z1, z2, z3, z4, z5, z6, z7⟩, xs, us⟩, absV w.heap.size c8, absV w.heap.size c9, VR.mk_agg ?_, ⟨k8, k9⟩⟩
  exact ⟨.int _ _, .int _ _, .int _ _, .int _ _, .int _ _, .int _ _, .int _ _, .int _ _, good_VR g8, good_VR g9, trivial⟩

set_option maxRecDepth 100000 in
theorem read_rowsV (hval : Value.okWide Tryd.prog w .any base 25 v) (h : DataW.Trod enc Tryd.prog w 0 (fun _ => true) true 25 v d p) : VR (absB w.heap) (absV w.heap.size v) v ∧ ∃ xs, RowsAt (absH w.heap) (absV w.heap.size v) xs := by
  obtain ⟨a0, len, cap, rfl⟩ := okWide_slice Tryd.underlying25 hval
  obtain ⟨fuel, h⟩ := h
  obtain ⟨h1, h2⟩ := read_rows h
  exact ⟨good_VR h1, h2⟩
set_option maxRecDepth 100000 in
theorem read_listV (hval : Value.okWide Tryd.prog w .any base 28 v) (h : DataW.Trod enc Tryd.prog w 0 (fun _ => true) true 28 v d p) : VR (absB w.heap) (absV w.heap.size v) v ∧ ∃ xs, IntsAt (absH w.heap) (absV w.heap.size v) xs := by
  obtain ⟨a0, len, cap, rfl⟩ := okWide_slice Tryd.underlying28 hval
  obtain ⟨fuel, h⟩ := h
  obtain ⟨h1, h2⟩ := read_list h
  exact ⟨good_VR h1, h2⟩

/-- Words of 16 bits. -/
def WordsAt (H : Heap) (v : Value) (xs : List Int) : Prop := SlR H 1 v xs.length (xs.map (.int .u16)) ∧ xs.length < 2 ^ 63 ∧ ∀ x ∈ xs, 0 ≤ x ∧ x < 2 ^ 16

set_option maxRecDepth 100000 in
theorem read_wordsV (hval : Value.okWide Tryd.prog w .any base 72 v) (h : DataW.Trod enc Tryd.prog w 0 (fun _ => true) true 72 v d p) : VR (absB w.heap) (absV w.heap.size v) v ∧ ∃ xs, WordsAt (absH w.heap) (absV w.heap.size v) xs := by
  obtain ⟨a0, len, cap, rfl⟩ := okWide_slice Tryd.underlying72 hval
  obtain ⟨fuel, h⟩ := h
  obtain ⟨h1, xs, h2, h3, h4⟩ := read_ints Tryd.underlying72 Tryd.underlying71 cells71 h
  refine ⟨good_VR h1, xs, h2, maxLen_lt h3, fun x hx => ?_⟩
  have := h4 x hx
  simp [Lit.wf, IntKind.min, IntKind.max, IntKind.signed, IntKind.bits] at this
  omega
set_option maxRecDepth 100000 in
theorem read_u16V (hval : Value.okWide Tryd.prog w .any base 71 v) (h : DataW.Trod enc Tryd.prog w 0 (fun _ => true) true 71 v d p) : ∃ x : Int, VR (absB w.heap) (.int .u16 x) v ∧ (0 ≤ x ∧ x < 65536) := by
  obtain ⟨x, rfl⟩ := okWide_int Tryd.underlying71 hval
  obtain ⟨fuel, h⟩ := h
  obtain ⟨z, hz, _, hw⟩ := DataW.trod_int Tryd.underlying71 h
  simp [Value.cells] at hz
  subst hz
  simp [Lit.wf, IntKind.min, IntKind.max, IntKind.signed, IntKind.bits] at hw
  exact ⟨x, .int _ _, by omega⟩
set_option maxRecDepth 100000 in
theorem read_u8V (hval : Value.okWide Tryd.prog w .any base 5 v) (h : DataW.Trod enc Tryd.prog w 0 (fun _ => true) true 5 v d p) : ∃ x : Int, VR (absB w.heap) (.int .u8 x) v ∧ (0 ≤ x ∧ x < 256) := by
  obtain ⟨x, rfl⟩ := okWide_int Tryd.underlying5 hval
  obtain ⟨fuel, h⟩ := h
  obtain ⟨z, hz, _, hw⟩ := DataW.trod_int Tryd.underlying5 h
  simp [Value.cells] at hz
  subst hz
  simp [Lit.wf, IntKind.min, IntKind.max, IntKind.signed, IntKind.bits] at hw
  exact ⟨x, .int _ _, by omega⟩
end

end Go.Proofs.YtllkhaabcfnlpaaDoor

/-
  The table of the package math/bits in the program's memory.
-/
namespace Go.Proofs.YtllkhaabcfnlpaaDoor
open Go Go.Ab

theorem gl_of {W : World} (hgl : gmax ≤ W.heap.size) (hgc : ∀ g, g < gmax → ∃ cs c, [gl0, gl1][g]? = some (some (false, cs, c)) ∧ cs.all flat1 = true ∧ (absH W.heap).get g = .cells false cs c) : Gl (absH W.heap) := by
  obtain ⟨cs, c, k1, _, k3⟩ := hgc 1 (by decide)
  have e := Option.some.inj (Option.some.inj k1)
  have e1 : tz64 = cs := congrArg (fun p => p.2.1) e
  subst e1
  exact ⟨Nat.le_trans hgl (abs_size _), c, k3⟩

end Go.Proofs.YtllkhaabcfnlpaaDoor
