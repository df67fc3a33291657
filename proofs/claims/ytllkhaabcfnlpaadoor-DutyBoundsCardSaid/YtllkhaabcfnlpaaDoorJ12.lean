/-
  Joined texts of a calculus of abstract memory, of the program's code in it, and of contracts.
-/
import Derived.Test.YtllkhaabcfnlpaaDoorJ11
/-
  The questions of the law, and what a duty is.
-/
namespace Go.Proofs.YtllkhaabcfnlpaaDoor
open Go Go.Ab

abbrev lawV (D : Dy) : Value := .agg #[.int .i64 D.law.piece, .int .i64 D.law.drive, .int .i64 D.law.spread, .int .i64 D.law.brk, .int .i64 D.law.on, .int .i64 D.law.off, .int .i64 D.law.least, .int .i64 D.law.pieces]
abbrev shiftV (dr sp : Int) (vB vL vR : Value) : Value := .agg #[.int .i64 dr, .int .i64 sp, vB, .bool false, vL, vR]
structure ShAt (H : Heap) (vB vL vR : Value) (bl ll rl : List Int) : Prop where
  b : IntsAt H vB bl
  l : IntsAt H vL ll
  r : IntsAt H vR rl
theorem ShAt.ge {H H' : Heap} {vB vL vR : Value} {bl ll rl : List Int} (h : ShAt H vB vL vR bl ll rl) (g : Ge H H') : ShAt H' vB vL vR bl ll rl := ⟨h.b.ge g, h.l.ge g, h.r.ge g⟩

theorem ShAt.ob {H : Heap} {vB vL vR : Value} {bl ll rl : List Int} (h : ShAt H vB vL vR bl ll rl) : one vB = true := SlR.one h.b.1
theorem ShAt.ol {H : Heap} {vB vL vR : Value} {bl ll rl : List Int} (h : ShAt H vB vL vR bl ll rl) : one vL = true := SlR.one h.l.1
theorem ShAt.or {H : Heap} {vB vL vR : Value} {bl ll rl : List Int} (h : ShAt H vB vL vR bl ll rl) : one vR = true := SlR.one h.r.1

theorem greatest_spec {H : Heap} {v : Value} {xs : List Int} (hv : IntsAt H v xs) : AFun Tryd.prog 91 [v] H (fun r B => r = .int .i64 (xs.foldl max 0) ∧ B = H) := by
  refine AFun.mk ok91 hm (Nat.le_of_ble_eq_true rfl) ?_
  have h62 := hv.2
  simp [a91, r91, hv.lenV]
  refine floop_intro (fun s => s.d = [] ∧ s.H = H ∧ s.t 6 = v ∧ s.t 7 = .int .i64 xs.length ∧ ∃ i : Nat, i ≤ xs.length ∧ s.t 8 = .int .i64 i ∧ s.t 3 = .int .i64 ((xs.take i).foldl max 0)) (fun s => xs.length - (intOf (s.t 8)).toNat) ?_ ?_
  · exact ⟨rfl, rfl, by simp, by simp, 0, by simp, by simp, by simp⟩
  · rintro ⟨t, _, _⟩ ⟨rfl, rfl, h6, h7, i, hi, h8, h3⟩
    dsimp only at h6 h7 h8 h3 hv
    simp [h7, h8]
    refine fcond_intro (fun hc => ?_) (fun hc => ?_)
    · have hi' : i < xs.length := by simpa using hc
      obtain ⟨p, e1, e2⟩ := hv.at hi'
      simp [h6, h8, h3, e1, e2]
      rw [aval_max (k := .i64) (m := (xs.take i).foldl max 0) (n := xs[i]) (by simp) (by simp) (by decide) (by decide)]
      simp [h8, add_in (x := i) (y := 1) (by omega) (by omega)]
      refine ⟨⟨h6, h7, i + 1, by omega, by omega, ?_⟩, by omega⟩
      rw [List.take_succ_eq_append_getElem hi', List.foldl_append]; simp
    · have : i = xs.length := by simp at hc; omega
      subst this
      simp [h3]

section
variable {D : Dy} {dr sp : Int} {vB vL vR : Value} {bl ll rl : List Int} {H : Heap}
theorem q1_spec (h : ShAt H vB vL vR bl ll rl) : AFun Tryd.prog 114 [lawV D, shiftV dr sp vB vL vR] H (fun r B => r = .bool (decide ((ll.length : Int) ≤ D.law.pieces)) ∧ Ge H B) := by
  refine AFun.mk ok114 hm (Nat.le_of_ble_eq_true rfl) ?_
  simp [a114, r114, h.l.lenV, h.ob, h.ol, h.or]
theorem q2_spec (h : ShAt H vB vL vR bl ll rl) : AFun Tryd.prog 115 [lawV D, shiftV dr sp vB vL vR] H (fun r B => r = .bool (decide (ll.foldl max 0 ≤ D.law.piece)) ∧ Ge H B) := by
  refine AFun.mk ok115 hm (Nat.le_of_ble_eq_true rfl) ?_
  simp [a115, r115, h.ob, h.ol, h.or]
  refine fcall_fun (greatest_spec (h.l.ge (Ge.grow_le (by omega) ((Ge.new _ _).newOf _)))) ?_
  rintro _ _ ⟨rfl, rfl⟩
  simp
  exact Ge.grow_le (by omega) ((Ge.new _ _).newOf _)
theorem q3_spec (h : ShAt H vB vL vR bl ll rl) : AFun Tryd.prog 116 [lawV D, shiftV dr sp vB vL vR] H (fun r B => r = .bool (decide (dr ≤ D.law.drive)) ∧ Ge H B) := by
  refine AFun.mk ok116 hm (Nat.le_of_ble_eq_true rfl) ?_
  simp [a116, r116, h.ob, h.ol, h.or]
theorem q4_spec (h : ShAt H vB vL vR bl ll rl) : AFun Tryd.prog 117 [lawV D, shiftV dr sp vB vL vR] H (fun r B => r = .bool (rl.all fun x => decide (D.law.brk ≤ x)) ∧ Ge H B) := by
  refine AFun.mk ok117 hm (Nat.le_of_ble_eq_true rfl) ?_
  simp [a117, r117, h.ob, h.ol, h.or]
  refine fcall_fun (every_int_spec (xs := rl) (p := fun x => decide (D.law.brk ≤ x)) (h.r.ge (by simp)) fun n A g => ACall.of_fun ?_) ?_
  · refine AFun.mk ok127 hm (Nat.le_of_ble_eq_true rfl) ?_
    have := g.got (n := H.next) (by simp) rfl
    simp at this
    simp [a127, r127, this]
  · rintro _ B ⟨rfl, g⟩
    simp
    exact Ge.trans (by simp) g
theorem q5_spec (h : ShAt H vB vL vR bl ll rl) : AFun Tryd.prog 118 [lawV D, shiftV dr sp vB vL vR] H (fun r B => r = .bool (decide (sp ≤ D.law.spread)) ∧ Ge H B) := by
  refine AFun.mk ok118 hm (Nat.le_of_ble_eq_true rfl) ?_
  simp [a118, r118, h.ob, h.ol, h.or]

def answers (D : Dy) (dr sp : Int) (ll rl : List Int) : List Bool := [decide ((ll.length : Int) ≤ D.law.pieces), decide (ll.foldl max 0 ≤ D.law.piece), decide (dr ≤ D.law.drive), rl.all fun x => decide (D.law.brk ≤ x), decide (sp ≤ D.law.spread)]

theorem q_spec (h : ShAt H vB vL vR bl ll rl) {i : Nat} (hi : i < 5) : ACall Tryd.prog (questVs[i]'(by simpa [questVs] using hi)) [lawV D, shiftV dr sp vB vL vR] H (fun r B => r = .bool ((answers D dr sp ll rl)[i]'(by simpa [answers] using hi)) ∧ Ge H B) := by
  match i, hi with
  | 0, _ => exact ACall.plain (q1_spec h)
  | 1, _ => exact ACall.plain (q2_spec h)
  | 2, _ => exact ACall.plain (q3_spec h)
  | 3, _ => exact ACall.plain (q4_spec h)
  | 4, _ => exact ACall.plain (q5_spec h)
end

theorem every_q_inv {I : Nat → Heap → Prop} {F : Heap → Prop} {H : Heap} {v pv : Value} (h0 : I 0 H) (hv : ∀ i A, I i A → QuestAt A v) (hge : ∀ i A B, I i A → Ge A B → I i B)
    (hp : ∀ i A (h : i < 5), I i A → ACall Tryd.prog pv [.agg #[questVs[i]'(by simpa [questVs] using h)]] A (fun r B => ∃ b, r = .bool b ∧ (b = true → I (i + 1) B) ∧ (b = false → F B))) :
    AFun Tryd.prog 94 [v, pv] H (fun r B => ∃ b, r = .bool b ∧ (b = true → I 5 B) ∧ (b = false → F B)) := by
  refine AFun.mk ok94 hm (Nat.le_of_ble_eq_true rfl) ?_
  simp [a94, r94, (hv _ _ h0).lenV]
  refine floop_intro (fun s => s.d = [] ∧ s.t 1 = pv ∧ s.t 7 = v ∧ s.t 8 = .int .i64 5 ∧ ∃ i : Nat, i ≤ 5 ∧ s.t 9 = .int .i64 i ∧ I i s.H) (fun s => 5 - (intOf (s.t 9)).toNat) ?_ ?_
  · exact ⟨rfl, by simp, by simp, by simp, 0, by simp, by simp, h0⟩
  · rintro ⟨t, _, A⟩ ⟨rfl, h1, h7, h8, i, hi, h9, hn⟩
    dsimp only at h1 h7 h8 h9 hn
    simp [h8, h9]
    refine fcond_intro (fun hc => ?_) (fun hc => ?_)
    · have hi' : i < 5 := by simp at hc; omega
      have hq5 : i < questVs.length := by simpa [questVs] using hi'
      obtain ⟨n, o, rw', ds, c, e1, _, e2, e3⟩ := SlR.isl (hv _ _ hn) (k := .i64) hi'
      have e4 : rdL ds o 1 = some [questVs[i]] := by
        rw [e3]
        simp only [Nat.mul_one, Option.some.injEq]
        rw [List.drop_eq_getElem_cons hq5]; rfl
      have hone : one questVs[i] = true := by
        have : ∀ x ∈ questVs, one x = true := by simp [questVs]
        exact this _ (List.getElem_mem _)
      have hp' := fun A hA => hp i A hi' hA
      generalize questVs[i] = qv at e4 hone hp'
      simp [h1, h7, h9, e1, e2, e4, hone, one_cells]
      refine fcall_intro ((hp' _ (hge _ _ _ hn ((Ge.new A _).setNew (Nat.le_refl _) _))).mono ?_)
      rintro _ B ⟨b, rfl, k1, k2⟩
      cases b
      · simp [k2 rfl]
      · simp [h9, add_in (x := i) (y := 1) (by omega) (by omega)]
        exact ⟨⟨h1, h7, h8, i + 1, by omega, by omega, k1 rfl⟩, by omega⟩
    · have : i = 5 := by simp at hc; omega
      subst this
      simp [hn]

def legalB (D : Dy) (K : List (List (Int × Int))) (ps : List Pc) : Bool := (answers D (lTo K ps ps.length).sum (spreadOf D K ps) (lTo K ps ps.length) (bTo (freeOf D K) ps ps.length)).all id

theorem work_spec {D : Dy} {K : List (List (Int × Int))} {b w s k q : Value} {H : Heap} {m : Nat} (hP : PlanAt H b w s k q D K) (hV : Valid D) (hK : KOk D K) (hlt : m < 2 ^ (segPs D).length) (hne : 0 < (piecesL D m).length) :
    AFun Tryd.prog 68 [planV D b w s k q, bitsV m] H (fun r B => ∃ vB, r = .agg #[.int .i64 (lTo K (piecesL D m) (piecesL D m).length).sum, .int .i64 (spreadOf D K (piecesL D m)), vB, .bool (legalB D K (piecesL D m))] ∧
      OwnSl B H.next vB ((bTo (restOf K) (piecesL D m) (piecesL D m).length).map (Value.int .i64)) ∧ Ge H B) := by
  refine AFun.mk ok68 hm (Nat.le_of_ble_eq_true rfl) ?_
  have hb := hP.day.blocks.one
  have hw := hP.day.walk.one
  have hs := hP.segs.one
  have hk := hP.known.one
  have hq : one q = true := SlR.one hP.quest
  simp [a68, r68, hb, hw, hs, hk, hq]
  refine fcall_fun (shift_spec (hP.ge (by simp)) hV hK hlt hne) ?_
  rintro _ H1 ⟨vB, vL, vR, rfl, i0, i2, i3, g1⟩
  have hp16 := piecesL_length (D := D) (m := m)
  have i1 := own_ints i0 (by simp [bTo]; omega)
  have n1 := g1.next
  have k0 := g1.got (n := H.next) (by simp) rfl
  have k1 := g1.got (n := H.next + 1) (by simp) rfl
  simp at k0 k1 n1
  have hsh : ShAt H1 vB vL vR (bTo (restOf K) (piecesL D m) (piecesL D m).length) (lTo K (piecesL D m) (piecesL D m).length) (bTo (freeOf D K) (piecesL D m) (piecesL D m).length) := ⟨i1, i2, i3⟩
  have G1 : Ge H H1 := Ge.trans (by simp) g1
  have ne0 : H.next ≠ H1.next := by omega
  have ne1 : H.next + 1 ≠ H1.next := by omega
  unfold legalB
  generalize hans : answers D (lTo K (piecesL D m) (piecesL D m).length).sum (spreadOf D K (piecesL D m)) (lTo K (piecesL D m) (piecesL D m).length) (bTo (freeOf D K) (piecesL D m) (piecesL D m).length) = an
  have hanl : an.length = 5 := by rw [← hans]; rfl
  generalize (lTo K (piecesL D m) (piecesL D m).length).sum = dr at *
  generalize spreadOf D K (piecesL D m) = sp at *
  generalize bTo (restOf K) (piecesL D m) (piecesL D m).length = bl at *
  generalize lTo K (piecesL D m) (piecesL D m).length = ll at *
  generalize bTo (freeOf D K) (piecesL D m) (piecesL D m).length = rl at *
  have g2 : Ge H1 ((H1.new (.cells true [.int .i64 0, .int .i64 0, .slice none 0 0, .bool false, .slice none 0 0, .slice none 0 0] 6)).set H1.next (.cells true [.int .i64 dr, .int .i64 sp, vB, .bool false, vL, vR] 6)) := (Ge.new _ _).setNew (Nat.le_refl _) _
  simp [hsh.ob, hsh.ol, hsh.or, ne0, k0]
  refine fcall_fun (every_q_inv (I := fun i A => Ge ((H1.new (.cells true [.int .i64 0, .int .i64 0, .slice none 0 0, .bool false, .slice none 0 0, .slice none 0 0] 6)).set H1.next (.cells true [.int .i64 dr, .int .i64 sp, vB, .bool false, vL, vR] 6)) A ∧ ∀ j (h : j < an.length), j < i → an[j] = true)
    (F := fun A => Ge ((H1.new (.cells true [.int .i64 0, .int .i64 0, .slice none 0 0, .bool false, .slice none 0 0, .slice none 0 0] 6)).set H1.next (.cells true [.int .i64 dr, .int .i64 sp, vB, .bool false, vL, vR] 6)) A ∧ an.all id = false) ⟨Ge.refl _, fun j _ h => by omega⟩ (fun i A hI => SlR.ge hP.quest ((G1.trans g2).trans hI.1)) (fun i A B hI gg => ⟨hI.1.trans gg, hI.2⟩) ?_) ?_
  · rintro i A hi ⟨gA, hall⟩
    refine ACall.of_fun ?_
    refine AFun.mk ok95 hm (Nat.le_of_ble_eq_true rfl) ?_
    have c0 := gA.got (n := H.next) (by simp; omega) rfl
    have c1 := gA.got (n := H1.next) (by simp) rfl
    simp [ne0, k0] at c0 c1
    have nA := gA.next
    simp at nA
    have m0 : H.next ≠ A.next := by omega
    have m1 : H1.next ≠ A.next := by omega
    have hq5 : i < questVs.length := by simpa [questVs] using hi
    have hone : one questVs[i] = true := by
      have : ∀ x ∈ questVs, one x = true := by simp [questVs]
      exact this _ (List.getElem_mem _)
    have hcall := fun (A' : Heap) (hA' : Ge A A') => q_spec (D := D) (dr := dr) (sp := sp) (H := A') (((hsh.ge g2).ge gA).ge hA') hi
    generalize questVs[i] = qv at hone hcall
    simp [a95, r95, hone, c0, c1, m0, m1]
    refine fcall_intro ((hcall _ (by simp)).mono ?_)
    rintro _ B ⟨rfl, gB⟩
    have gAB : Ge A B := Ge.trans (by simp) gB
    have hai : i < an.length := by omega
    have hval : (answers D dr sp ll rl)[i]'(by simpa [answers] using hi) = an[i] := by simp only [hans]
    rw [hval]
    cases hai2 : an[i]
    · simp
      refine ⟨gA.trans gAB, ?_⟩
      exact List.mem_of_getElem? (by rw [List.getElem?_eq_getElem hai, hai2])
    · simp
      refine ⟨gA.trans gAB, fun j hj hji => ?_⟩
      by_cases e : j = i
      · subst e; exact hai2
      · exact hall j hj (by omega)
  rintro _ B ⟨c, rfl, q1, q2⟩
  have gB : Ge ((H1.new (.cells true [.int .i64 0, .int .i64 0, .slice none 0 0, .bool false, .slice none 0 0, .slice none 0 0] 6)).set H1.next (.cells true [.int .i64 dr, .int .i64 sp, vB, .bool false, vL, vR] 6)) B ∧ an.all id = c := by
    cases c
    · exact q2 rfl
    · refine ⟨(q1 rfl).1, ?_⟩
      rw [List.all_eq_true]; intro y hy
      obtain ⟨j, hj, rfl⟩ := List.mem_iff_getElem.1 hy
      exact (q1 rfl).2 j hj (by omega)
  obtain ⟨gB, rfl⟩ := gB
  have c1 := gB.got (n := H1.next) (by simp) rfl
  have c2 := gB.got (n := H.next + 1) (by simp; omega) rfl
  simp [ne1, k1] at c1 c2
  have nB := gB.next
  simp at nB
  have f1 : H1.next ≠ H.next + 1 := by omega
  have f2 : H.next + 1 ≠ H1.next := by omega
  simp [c1, c2, f1, f2, hsh.ob, hsh.ol, hsh.or]
  have gend : ∀ y1 y2, Ge H ((B.set H1.next y1).set (H.next + 1) y2) := fun y1 y2 => (((G1.trans g2).trans gB).setNew (n := H1.next) (by omega) _).setNew (n := H.next + 1) (by omega) _
  refine ⟨?_, gend _ _⟩
  have o1 := (((i0.ge g2).ge gB).lower (lo' := H.next) (by simp))
  refine o1.keep (by simp) fun n hn => ?_
  have := i0.names hn
  simp at this
  have e1 : n ≠ H1.next := by omega
  have e2 : n ≠ H.next + 1 := by omega
  simp [e1, e2]

end Go.Proofs.YtllkhaabcfnlpaaDoor

/-
  Contracts of the exported functions on one duty.
-/
namespace Go.Proofs.YtllkhaabcfnlpaaDoor
open Go Go.Ab

theorem segPs_length {D : Dy} : (segPs D).length = segsOf D.blocks := by rw [segPs, alone_length, spotsTo_length (Nat.le_refl _), List.take_length]
theorem piecesL_pos {D : Dy} {m : Nat} (h : m ≠ 0) : 0 < (piecesL D m).length := by
  unfold piecesL insSort
  rw [insTo_length]
  simp [runsK, h]
theorem duty_mask {D : Dy} {xs : List Int} (h : isDutyB (segsOf D.blocks) xs = true) : maskL xs < 2 ^ (segPs D).length ∧ maskL xs ≠ 0 := by
  unfold isDutyB at h
  rw [Bool.and_eq_true, decide_eq_true_eq] at h
  refine ⟨?_, fun e => ?_⟩
  · rw [segPs_length]
    refine maskL_lt fun x hx => ?_
    obtain ⟨j, hj, rfl⟩ := List.mem_iff_getElem.1 hx
    have := riseB_bounds (n := segsOf D.blocks) (xs := xs) (k := xs.length) (fun i hi => by
      have := List.all_eq_true.1 h.1 i (by simpa using hi); exact this) (Nat.le_refl _) j hj
    omega
  · have := maskL_zero.1 e
    subst this; simp at h

section
variable {D : Dy} {K : List (List (Int × Int))} {b w s k q : Value} {H : Heap} {m : Nat}
theorem isLegal_spec (hP : PlanAt H b w s k q D K) (hV : Valid D) (hK : KOk D K) (hlt : m < 2 ^ (segPs D).length) (h0 : m ≠ 0) :
    AFun Tryd.prog 61 [planV D b w s k q, bitsV m] H (fun r B => r = .bool (legalB D K (piecesL D m)) ∧ Ge H B) := by
  refine AFun.mk ok61 hm (Nat.le_of_ble_eq_true rfl) ?_
  have hb := hP.day.blocks.one
  have hw := hP.day.walk.one
  have hs := hP.segs.one
  have hk := hP.known.one
  have hq : one q = true := SlR.one hP.quest
  simp [a61, r61, hb, hw, hs, hk, hq]
  refine fcall_fun (work_spec (hP.ge (by simp)) hV hK hlt (piecesL_pos h0)) ?_
  rintro _ B ⟨vB, rfl, o1, g1⟩
  simp
  exact Ge.trans (by simp) g1
def payOf (D : Dy) (K : List (List (Int × Int))) (ps : List Pc) : Int := max (max 0 (spreadOf D K ps)) D.law.least
theorem pay_spec (hP : PlanAt H b w s k q D K) (hV : Valid D) (hK : KOk D K) (hlt : m < 2 ^ (segPs D).length) (h0 : m ≠ 0) :
    AFun Tryd.prog 62 [planV D b w s k q, bitsV m] H (fun r B => r = .int .i64 (payOf D K (piecesL D m)) ∧ Ge H B) := by
  refine AFun.mk ok62 hm (Nat.le_of_ble_eq_true rfl) ?_
  have hb := hP.day.blocks.one
  have hw := hP.day.walk.one
  have hs := hP.segs.one
  have hk := hP.known.one
  have hq : one q = true := SlR.one hP.quest
  simp [a62, r62, hb, hw, hs, hk, hq]
  refine fcall_fun (work_spec (hP.ge (Ge.grow_le (by omega) (Ge.new _ _))) hV hK hlt (piecesL_pos h0)) ?_
  rintro _ B ⟨vB, rfl, o1, g1⟩
  have n1 := g1.next
  have k0 := g1.got (n := H.next) (by simp) rfl
  simp at k0 n1
  simp [k0]
  refine fcall_fun (greatest_spec (xs := [spreadOf D K (piecesL D m), D.law.least]) ?_) ?_
  · refine ⟨⟨?_, ?_⟩, by simp⟩
    · simp [slCells]
    · intro a n c e; simp at e; simp [← e.1]; omega
  rintro _ _ ⟨rfl, rfl⟩
  simp [payOf]
  exact Ge.setNew (Ge.trans (Ge.grow_le (by omega) (Ge.new _ _)) g1) (by omega) _
end

def legalD (D : Dy) (xs : List Int) : Bool := legalB D (known0 D) (piecesL D (maskL xs))
def payD (D : Dy) (xs : List Int) : Int := payOf D (known0 D) (piecesL D (maskL xs))

theorem errD_le {D : Dy} {xs : List Int} : errD D xs = 0 ∨ errD D xs ≠ 0 := by omega

section
variable {D : Dy} {b w v : Value} {H : Heap} {xs : List Int}
theorem legal_spec (h : DayAt H b w D) (hT : D.Thin) (hv : IntsAt H v xs) (hlen : xs.length < 2 ^ 31) :
    AFun Tryd.prog 19 [dayV D b w, v] H (fun r B => r = .tuple #[.bool (decide (errD D xs = 0) && legalD D xs), .int .i64 (errD D xs)] ∧ Ge H B) := by
  refine AFun.mk ok19 hm (Nat.le_of_ble_eq_true rfl) ?_
  have hb := h.blocks.one
  have hw := h.walk.one
  simp [a19, r19, hb, hw]
  refine fcall_fun (newPlannedDuty_spec (h.ge (by simp)) hT (hv.ge (by simp)) hlen) ?_
  rintro _ H1 ⟨pv, m, rfl, ⟨hl, hone⟩, g1, hgood⟩
  have G1 : Ge H H1 := Ge.trans (by simp) g1
  by_cases he : errD D xs = 0
  case neg =>
    simp [hl]
    rw [if_pos hone]
    simp [he]
    exact G1.trans ((Ge.new _ _).setNew (Nat.le_refl _) _)
  obtain ⟨hV, hd, s, k, q, hpv, hP, rfl⟩ := hgood he
  obtain ⟨hlt, h0⟩ := duty_mask hd
  have hpl : pv = [.int .i64 D.law.piece, .int .i64 D.law.drive, .int .i64 D.law.spread, .int .i64 D.law.brk, .int .i64 D.law.on, .int .i64 D.law.off, .int .i64 D.law.least, .int .i64 D.law.pieces, b, w, s, k, q] := by
    simpa using hpv
  subst hpl
  have hs := hP.segs.one
  have hk := hP.known.one
  have hq : one q = true := SlR.one hP.quest
  simp [he, hb, hw, hs, hk, hq]
  refine fcall_fun (isLegal_spec (hP.ge ((Ge.new _ _).setNew (Nat.le_refl _) _)) hV (known0_ok hV) hlt h0) ?_
  rintro _ H2 ⟨rfl, g2⟩
  simp [he, legalD]
  exact G1.trans (Ge.trans ((Ge.new _ _).setNew (Nat.le_refl _) _) g2)
def payE (D : Dy) (xs : List Int) : Int := if errD D xs = 0 then (if legalD D xs then 0 else 10) else errD D xs
theorem payF_spec (h : DayAt H b w D) (hT : D.Thin) (hv : IntsAt H v xs) (hlen : xs.length < 2 ^ 31) :
    AFun Tryd.prog 21 [dayV D b w, v] H (fun r B => r = .tuple #[.int .i64 (if payE D xs = 0 then payD D xs else 0), .int .i64 (payE D xs)] ∧ Ge H B) := by
  refine AFun.mk ok21 hm (Nat.le_of_ble_eq_true rfl) ?_
  have hb := h.blocks.one
  have hw := h.walk.one
  simp [a21, r21, hb, hw]
  refine fcall_fun (newPlannedDuty_spec (h.ge (by simp)) hT (hv.ge (by simp)) hlen) ?_
  rintro _ H1 ⟨pv, m, rfl, ⟨hl, hone⟩, g1, hgood⟩
  have G1 : Ge H H1 := Ge.trans (by simp) g1
  unfold payE
  by_cases he : errD D xs = 0
  case neg =>
    simp [hl]
    rw [if_pos hone]
    simp [he]
    exact G1.trans ((Ge.new _ _).setNew (Nat.le_refl _) _)
  obtain ⟨hV, hd, s, k, q, hpv, hP, rfl⟩ := hgood he
  obtain ⟨hlt, h0⟩ := duty_mask hd
  have hpl : pv = [.int .i64 D.law.piece, .int .i64 D.law.drive, .int .i64 D.law.spread, .int .i64 D.law.brk, .int .i64 D.law.on, .int .i64 D.law.off, .int .i64 D.law.least, .int .i64 D.law.pieces, b, w, s, k, q] := by
    simpa using hpv
  subst hpl
  have hs := hP.segs.one
  have hk := hP.known.one
  have hq : one q = true := SlR.one hP.quest
  have g2 : Ge H1 ((H1.new (.cells true [.int .i64 0, .int .i64 0, .int .i64 0, .int .i64 0, .int .i64 0, .int .i64 0, .int .i64 0, .int .i64 0, .slice none 0 0, .slice none 0 0, .slice none 0 0, .slice none 0 0, .slice none 0 0] 13)).set H1.next (.cells true [.int .i64 D.law.piece, .int .i64 D.law.drive, .int .i64 D.law.spread, .int .i64 D.law.brk, .int .i64 D.law.on, .int .i64 D.law.off, .int .i64 D.law.least, .int .i64 D.law.pieces, b, w, s, k, q] 13)) := (Ge.new _ _).setNew (Nat.le_refl _) _
  simp [he, hb, hw, hs, hk, hq]
  refine fcall_fun (isLegal_spec (hP.ge g2) hV (known0_ok hV) hlt h0) ?_
  rintro _ H2 ⟨rfl, g3⟩
  have hlg : legalB D (known0 D) (piecesL D (maskL xs)) = legalD D xs := rfl
  rw [hlg]
  cases hld : legalD D xs
  · simp [he]
    exact G1.trans (g2.trans g3)
  have k1 := g3.got (n := H1.next) (by simp) rfl
  simp at k1
  simp [k1]
  refine fcall_fun (pay_spec (hP.ge (g2.trans g3)) hV (known0_ok hV) hlt h0) ?_
  rintro _ H3 ⟨rfl, g4⟩
  simp [he, payD]
  exact (G1.trans (g2.trans g3)).trans g4
end

end Go.Proofs.YtllkhaabcfnlpaaDoor

/-
  The reference: where segments begin, rows of times.
-/
namespace Go.Proofs.YtllkhaabcfnlpaaDoor
open Go Go.Ab

section
variable {D : Dy} {b w : Value} {H : Heap}

theorem lo69_spec {x y : Nat} (h : DayAt H b w D) (hs : D.has x y) : AFun Tryd.prog 69 [dayV D b w, .int .i64 x, .int .i64 y] H (fun r B => r = .int .i64 (D.rel x y).lo ∧ Ge H B) := by
  refine AFun.mk ok69 hm (Nat.le_of_ble_eq_true rfl) ?_
  obtain ⟨bl, h1, h2⟩ := hs
  obtain ⟨hx, rfl⟩ := List.getElem?_eq_some_iff.1 h1
  have hb := h.blocks.one
  have hw := h.walk.one
  obtain ⟨p, u, e1, e2, e3⟩ := h.blocks.atAll hx
  obtain ⟨n, o, f1, f2, _, f3, _⟩ := e3.at h2
  have c1 := f3 1 (by omega)
  simp [Rl.cells] at c1
  have n0 : n ≠ H.next := by omega
  have e21 := e2 (H.new (.cells true [.int .i64 D.law.piece, .int .i64 D.law.drive, .int .i64 D.law.spread, .int .i64 D.law.brk, .int .i64 D.law.on, .int .i64 D.law.off, .int .i64 D.law.least, .int .i64 D.law.pieces, b, w] 10)) (Ge.new _ _)
  have hrel : D.rel x y = D.blocks[x][y] := by simp [Dy.rel, hx, h2]
  rw [hrel]
  simp [a69, r69, hb, hw, e1, e21, f1, c1, n0]

/-- The spot of a segment. -/
theorem spots_at {bs : List (List Rl)} : ∀ {i : Nat}, i ≤ bs.length → ∀ {x : Nat}, x < segsOf (bs.take i) → ∃ j n, (spotsTo bs i)[x]? = some (j, n) ∧ j < i ∧ (∃ l, bs[j]? = some l ∧ n + 1 < l.length) ∧ x = segsOf (bs.take j) + n
  | 0, _, x, hx => by simp [segsOf] at hx
  | i + 1, hi, x, hx => by
    rw [segsOf_take (by omega)] at hx
    rw [spotsTo_succ (by omega)]
    have hl := spotsTo_length (bs := bs) (i := i) (by omega)
    by_cases h1 : x < segsOf (bs.take i)
    · obtain ⟨j, n, h2, h3, h4, h5⟩ := spots_at (i := i) (by omega) h1
      exact ⟨j, n, by rw [List.getElem?_append_left (by omega)]; exact h2, by omega, h4, h5⟩
    · refine ⟨i, x - segsOf (bs.take i), ?_, by omega, ⟨_, List.getElem?_eq_getElem (by omega), by omega⟩, by omega⟩
      rw [List.getElem?_append_right (by omega), hl, List.getElem?_map, List.getElem?_range (by omega)]
      rfl

/-- The reference finds the spot. -/
theorem spot54_spec {x : Nat} (h : DayAt H b w D) (hT : D.Thin) (hV : Valid D) (hx : x < segsOf D.blocks) : AFun Tryd.prog 54 [dayV D b w, .int .i64 x] H (fun r B => ∃ j n : Nat, r = .tuple #[.int .i64 j, .int .i64 n] ∧ (spotsTo D.blocks D.blocks.length)[x]? = some (j, n) ∧ Ge H B) := by
  refine AFun.mk ok54 hm (Nat.le_of_ble_eq_true rfl) ?_
  have hb := h.blocks.one
  have hw := h.walk.one
  obtain ⟨j, n, hsp, hj, ⟨l, hl1, hl2⟩, hxe⟩ := spots_at (bs := D.blocks) (i := D.blocks.length) (Nat.le_refl _) (by rw [List.take_length]; exact hx)
  obtain ⟨hjl, rfl⟩ := List.getElem?_eq_some_iff.1 hl1
  have hfew := hT.few
  simp [a54, r54, hb, hw]
  refine floop_intro (fun z => z.d = [] ∧ Ge H z.H ∧ H.next < z.H.next ∧ z.t 2 = .pointer (some ⟨H.next, 0, none⟩) ∧ z.H.get H.next = .cells true (dayV D b w).cells.toList 10 ∧ ∃ i : Nat, i ≤ j ∧ z.t 6 = .int .i64 i ∧ z.t 1 = .int .i64 ((x : Int) - segsOf (D.blocks.take i))) (fun z => j - (intOf (z.t 6)).toNat) ?_ ?_
  · exact ⟨rfl, by simp, by simp, by simp, by simp [Value.cells], 0, by omega, by simp, by simp [segsOf]⟩
  rintro ⟨t, _, A⟩ ⟨rfl, g, hn, t2, kd, i, hi, t6, t1⟩
  dsimp only at g hn t2 kd t6 t1
  simp [Value.cells] at kd
  have hil : i < D.blocks.length := by omega
  obtain ⟨p, u, e1, e2, e3⟩ := h.blocks.atAll hil
  have e21 := e2 A g
  have hlen := hT.short _ (List.getElem_mem hil)
  have h2l := hV.two (List.getElem_mem hil)
  have hseg := hT.segs i
  have hsegx : segsOf D.blocks ≤ 140 := by have := hT.segs D.blocks.length; rwa [List.take_length] at this
  have hmono : ∀ i, i ≤ j → segsOf (D.blocks.take i) ≤ segsOf (D.blocks.take j) := fun i hi => by
    have : ∀ (bs : List (List Rl)) a c, a ≤ c → segsOf (bs.take a) ≤ segsOf (bs.take c) := fun bs => by
      induction bs with
      | nil => intro a c _; simp [segsOf]
      | cons y bs ih =>
        intro a c hac
        cases a with
        | zero => simp [segsOf]
        | succ a => cases c with
          | zero => omega
          | succ c => rw [List.take_succ_cons, List.take_succ_cons, segsOf_cons, segsOf_cons]; have := ih a c (by omega); omega
    exact this _ _ _ hi
  have hle := hmono i hi
  simp [t1, t2, kd, t6, e1, e21, e3.lenV]
  rw [sub_in (by omega) (by omega)]
  simp
  have hseg1 := segsOf_take hil
  by_cases hij : i = j
  · subst hij
    have hcond : ¬ ((D.blocks[i].length : Int) - 1 ≤ (x : Int) - segsOf (D.blocks.take i)) := by omega
    simp [hcond, t6, t1]
    exact ⟨i, n, ⟨rfl, by omega⟩, hsp, g⟩
  · have hle2 := hmono (i + 1) (by omega)
    have hcond : ((D.blocks[i].length : Int) - 1 ≤ (x : Int) - segsOf (D.blocks.take i)) := by
      have : 1 ≤ D.blocks[i].length ∨ D.blocks[i].length = 0 := by omega
      omega
    simp [hcond, t1, t2, kd, t6, e1, e21, e3.lenV]
    rw [sub_in (by omega) (by omega)]
    simp
    rw [sub_in (by omega) (by omega)]
    simp [t6, add_in (x := i) (y := 1) (by omega) (by omega)]
    refine ⟨⟨g, hn, t2, by simpa [Value.cells] using kd, i + 1, by omega, by omega, by omega⟩, by omega⟩
end

end Go.Proofs.YtllkhaabcfnlpaaDoor

/-
  The reference's rows of the least and of the greatest times.
-/
namespace Go.Proofs.YtllkhaabcfnlpaaDoor
open Go Go.Ab

def iCell (x : Int) : List Value := [.int .i64 x]
theorem iCell_flat (l : List Int) : l.flatMap iCell = l.map (Value.int .i64) := by
  induction l with
  | nil => rfl
  | cons x l ih => rw [List.flatMap_cons, ih]; rfl
def lowsD (D : Dy) : List (List Int) := D.blocks.map fun b => b.map Rl.lo
def highsD (D : Dy) : List (List Int) := D.blocks.map fun b => b.map Rl.hi

theorem rows_done {A : Heap} {lo : Nat} {v : Value} {rows : List (List Int)} (h : RowsG 1 iCell A lo (fun _ => False) v rows) (hl : rows.length < 2 ^ 63) (hs : ∀ r ∈ rows, r.length < 2 ^ 63) : RowsAt A v rows := by
  refine h.rows (R := IntsAt) hl fun u r hr ho => ⟨?_, hs r hr⟩
  have := ho.slr
  rw [iCell_flat] at this
  exact this

theorem lows_spec {D : Dy} {b w : Value} {H : Heap} (h : DayAt H b w D) (hV : Valid D) : AFun Tryd.prog 64 [dayV D b w] H (fun r B => RowsAt B r (lowsD D) ∧ Ge H B) := by
  refine AFun.mk ok64 hm (Nat.le_of_ble_eq_true rfl) ?_
  have hb := h.blocks.one
  have hw := h.walk.one
  have hfew := hV.few
  simp [a64, r64, hb, hw]
  refine floop_intro (fun z => z.d = [] ∧ Ge H z.H ∧ H.next < z.H.next ∧ z.t 1 = .pointer (some ⟨H.next, 0, none⟩) ∧ z.H.get H.next = .cells true (dayV D b w).cells.toList 10 ∧ ∃ i : Nat, i ≤ D.blocks.length ∧ z.t 4 = .int .i64 i ∧ RowsG 1 iCell z.H (H.next + 1) (fun _ => False) (z.t 3) ((lowsD D).take i)) (fun z => D.blocks.length - (intOf (z.t 4)).toNat) ?_ ?_
  · exact ⟨rfl, by simp, by simp, by simp, by simp [Value.cells], 0, by omega, by simp, RowsG.nil (by simp)⟩
  rintro ⟨t, _, A⟩ ⟨rfl, g, hn, t1, kd, i, hi, t4, hR⟩
  dsimp only at g hn t1 kd t4 hR
  simp [Value.cells] at kd
  generalize t3 : t 3 = v3 at hR
  simp [t1, kd, t4, h.blocks.lenV]
  refine fcond_intro (fun hc => ?_) (fun hc => ?_)
  case refine_2 =>
    have : i = D.blocks.length := by simp at hc; omega
    subst this
    have hfull : (lowsD D).take D.blocks.length = lowsD D := by rw [List.take_of_length_le]; simp [lowsD]
    rw [hfull] at hR
    simp [t3]
    refine ⟨rows_done hR (by simp [lowsD]; omega) fun r hr => ?_, g⟩
    simp only [lowsD, List.mem_map] at hr
    obtain ⟨x, hx, rfl⟩ := hr
    have := hV.blen hx
    simp; omega
  have hi' : i < D.blocks.length := by simpa using hc
  obtain ⟨p, u, e1, e2, e3⟩ := h.blocks.atAll hi'
  have hl := hV.blen (List.getElem_mem hi')
  simp
  refine floop_intro (fun z => z.d = [] ∧ Ge H z.H ∧ H.next < z.H.next ∧ z.t 1 = .pointer (some ⟨H.next, 0, none⟩) ∧ z.H.get H.next = .cells true (dayV D b w).cells.toList 10 ∧ z.t 4 = .int .i64 i ∧ z.t 3 = v3 ∧ ∃ j : Nat, j ≤ D.blocks[i].length ∧ z.t 6 = .int .i64 j ∧ OwnS z.H (H.next + 1) 1 (z.t 5) j (((D.blocks[i].take j).map Rl.lo).flatMap iCell) ∧ RowsG 1 iCell z.H (H.next + 1) (fun m => slName (z.t 5) = some m) v3 ((lowsD D).take i)) (fun z => D.blocks[i].length - (intOf (z.t 6)).toNat) ?_ ?_
  · exact ⟨rfl, g, hn, by simp [t1], by simp [Value.cells, kd], by simp [t4], by simp [t3], 0, by omega, by simp, .inl ⟨by simp, rfl, by simp⟩, hR.keep (Nat.le_refl _) (fun _ _ _ _ => rfl) (fun m _ hm => by simp [slName] at hm)⟩
  have t4o := t4
  clear t1 kd t4 t3 hR g hn hc
  rintro ⟨t, _, A⟩ ⟨rfl, g, hn, t1, kd, t4, t3, j, hj, t6, o5, hR⟩
  dsimp only at g hn t1 kd t4 t3 t6 o5 hR
  simp [Value.cells] at kd
  generalize t5 : t 5 = v5 at o5 hR
  have e21 := e2 A g
  simp [t1, kd, t4, t6, e1, e21, e3.lenV]
  refine fcond_intro (fun hc => ?_) (fun hc => ?_)
  case refine_2 =>
    have : j = D.blocks[i].length := by simp at hc; omega
    subst this
    have hv5 := o5.one
    simp [t3, t5, hv5, one_cells]
    have hR1 := hR.keep (B := A.new (.cells true [v5] 1)) (X' := fun m => slName v5 = some m) (by simp) (fun n _ h2 _ => by simp [Nat.ne_of_lt h2]) (fun m _ hm => hm)
    have hlr : ((D.blocks[i].take D.blocks[i].length).map Rl.lo).length = D.blocks[i].length := by simp
    refine hR1.push (r := (D.blocks[i].take D.blocks[i].length).map Rl.lo) (x := v5) (X' := fun _ => False) (by rw [hlr]; exact o5.ge (Ge.new _ _)) (fun m hm => ⟨fun e => hR1.own m e hm, fun hf => hf⟩) (fun m hm => hm.elim) (slCells_new (rw := true) (c := 1) (by simp)) ?_ (by simp) (by omega) (by simp; omega) fun u' B k1 k2 k3 k4 => ?_
    · rw [List.length_take]; simp [lowsD]; omega
    have h3 : ∀ m, slName v3 = some m → H.next + 1 ≤ m := fun m hm => (hR.names hm).1
    have gB : Ge H B := ⟨by have := g.next; omega, fun n hn2 => by
      have f1 : n ≠ A.next := by have := g.next; omega
      rw [k4 n (by have := g.next; omega) (fun e => by have := h3 n e; omega)]; simp [f1, g.get n hn2]⟩
    have kB : B.get H.next = A.get H.next := (k4 H.next (by omega) (fun e => by have := h3 _ e; omega)).trans (by rw [Heap.new_get, if_neg (by omega)])
    simp [t4, add_in (x := i) (y := 1) (by omega) (by omega)]
    refine ⟨⟨gB, by omega, t1, by simpa [Value.cells] using kB.trans kd, i + 1, by omega, by omega, ?_⟩, by rw [t4o]; simp; omega⟩
    have hrows : (lowsD D).take i ++ [(D.blocks[i].take D.blocks[i].length).map Rl.lo] = (lowsD D).take (i + 1) := by
      rw [List.take_succ_eq_append_getElem (by simp [lowsD]; exact hi')]
      simp [lowsD]
    rw [← hrows]; exact k1
  have hj' : j < D.blocks[i].length := by simpa using hc
  have hhas : D.has i j := ⟨_, List.getElem?_eq_getElem hi', hj'⟩
  have hrel : D.rel i j = D.blocks[i][j] := by simp [Dy.rel, hi', hj']
  simp [t1, kd, t4, t6, t5]
  refine fcall_fun (lo69_spec (h.ge g) hhas) ?_
  rintro _ A1 ⟨rfl, g1⟩
  rw [hrel]
  simp [t5]
  have g2 := Ge.new A1 (.cells true [.int .i64 D.blocks[i][j].lo] 1)
  refine fapp_ownS (lo := H.next + 1) (xs := [.int .i64 D.blocks[i][j].lo]) ((o5.ge g1).ge g2) (by simp [slCells, rdL]) rfl (by simp) (by omega) (by omega) (by simp) (by omega) (by simp; have := g1.next; omega) fun u5 B k1 k2 k3 k4 => ?_
  have n1 := g1.next
  have hcs : ((D.blocks[i].take j).map Rl.lo).flatMap iCell ++ [.int .i64 D.blocks[i][j].lo] = ((D.blocks[i].take (j + 1)).map Rl.lo).flatMap iCell := by
    rw [List.take_succ_eq_append_getElem hj', List.map_append, List.flatMap_append]; rfl
  rw [hcs] at k1
  have h5n : ∀ m, slName v5 = some m → H.next + 1 ≤ m := fun m hm => (o5.names hm).1
  have gB : Ge H B := ⟨by have := g.next; omega, fun n hn2 => by
    have f0 := g.next
    have f1 : n ≠ A1.next := by omega
    rw [k4 n (by omega) (fun e => by have := h5n n e; omega)]; simp [f1]
    rw [g1.get n (by omega)]; exact g.get n hn2⟩
  have kB : B.get H.next = A.get H.next := (k4 H.next (by omega) (fun e => by have := h5n _ e; omega)).trans (by rw [Heap.new_get, if_neg (by omega), g1.get _ hn])
  simp [t6, add_in (x := j) (y := 1) (by omega) (by omega)]
  refine ⟨⟨gB, by omega, t1, by simpa [Value.cells] using kB.trans kd, t4, t3, j + 1, by omega, by omega, by simpa using k1, ?_⟩, by omega⟩
  refine hR.keep (by omega) (fun n h1 h2 h3 => ?_) fun m hm hx => ?_
  · have f1 : n ≠ A1.next := by omega
    rw [k4 n (by omega) h3]; simp [f1]
    exact g1.get n h2
  · rw [k2] at hx; cases hx; omega

theorem highs_spec {D : Dy} {b w : Value} {H : Heap} (h : DayAt H b w D) (hV : Valid D) : AFun Tryd.prog 65 [dayV D b w] H (fun r B => RowsAt B r (highsD D) ∧ Ge H B) := by
  refine AFun.mk ok65 hm (Nat.le_of_ble_eq_true rfl) ?_
  have hb := h.blocks.one
  have hw := h.walk.one
  have hfew := hV.few
  simp [a65, r65, hb, hw]
  refine floop_intro (fun z => z.d = [] ∧ Ge H z.H ∧ H.next < z.H.next ∧ z.t 1 = .pointer (some ⟨H.next, 0, none⟩) ∧ z.H.get H.next = .cells true (dayV D b w).cells.toList 10 ∧ ∃ i : Nat, i ≤ D.blocks.length ∧ z.t 4 = .int .i64 i ∧ RowsG 1 iCell z.H (H.next + 1) (fun _ => False) (z.t 3) ((highsD D).take i)) (fun z => D.blocks.length - (intOf (z.t 4)).toNat) ?_ ?_
  · exact ⟨rfl, by simp, by simp, by simp, by simp [Value.cells], 0, by omega, by simp, RowsG.nil (by simp)⟩
  rintro ⟨t, _, A⟩ ⟨rfl, g, hn, t1, kd, i, hi, t4, hR⟩
  dsimp only at g hn t1 kd t4 hR
  simp [Value.cells] at kd
  generalize t3 : t 3 = v3 at hR
  simp [t1, kd, t4, h.blocks.lenV]
  refine fcond_intro (fun hc => ?_) (fun hc => ?_)
  case refine_2 =>
    have : i = D.blocks.length := by simp at hc; omega
    subst this
    have hfull : (highsD D).take D.blocks.length = highsD D := by rw [List.take_of_length_le]; simp [highsD]
    rw [hfull] at hR
    simp [t3]
    refine ⟨rows_done hR (by simp [highsD]; omega) fun r hr => ?_, g⟩
    simp only [highsD, List.mem_map] at hr
    obtain ⟨x, hx, rfl⟩ := hr
    have := hV.blen hx
    simp; omega
  have hi' : i < D.blocks.length := by simpa using hc
  obtain ⟨p, u, e1, e2, e3⟩ := h.blocks.atAll hi'
  have hl := hV.blen (List.getElem_mem hi')
  simp
  refine floop_intro (fun z => z.d = [] ∧ Ge H z.H ∧ H.next < z.H.next ∧ z.t 1 = .pointer (some ⟨H.next, 0, none⟩) ∧ z.H.get H.next = .cells true (dayV D b w).cells.toList 10 ∧ z.t 4 = .int .i64 i ∧ z.t 3 = v3 ∧ ∃ j : Nat, j ≤ D.blocks[i].length ∧ z.t 6 = .int .i64 j ∧ OwnS z.H (H.next + 1) 1 (z.t 5) j (((D.blocks[i].take j).map Rl.hi).flatMap iCell) ∧ RowsG 1 iCell z.H (H.next + 1) (fun m => slName (z.t 5) = some m) v3 ((highsD D).take i)) (fun z => D.blocks[i].length - (intOf (z.t 6)).toNat) ?_ ?_
  · exact ⟨rfl, g, hn, by simp [t1], by simp [Value.cells, kd], by simp [t4], by simp [t3], 0, by omega, by simp, .inl ⟨by simp, rfl, by simp⟩, hR.keep (Nat.le_refl _) (fun _ _ _ _ => rfl) (fun m _ hm => by simp [slName] at hm)⟩
  have t4o := t4
  clear t1 kd t4 t3 hR g hn hc
  rintro ⟨t, _, A⟩ ⟨rfl, g, hn, t1, kd, t4, t3, j, hj, t6, o5, hR⟩
  dsimp only at g hn t1 kd t4 t3 t6 o5 hR
  simp [Value.cells] at kd
  generalize t5 : t 5 = v5 at o5 hR
  have e21 := e2 A g
  simp [t1, kd, t4, t6, e1, e21, e3.lenV]
  refine fcond_intro (fun hc => ?_) (fun hc => ?_)
  case refine_2 =>
    have : j = D.blocks[i].length := by simp at hc; omega
    subst this
    have hv5 := o5.one
    simp [t3, t5, hv5, one_cells]
    have hR1 := hR.keep (B := A.new (.cells true [v5] 1)) (X' := fun m => slName v5 = some m) (by simp) (fun n _ h2 _ => by simp [Nat.ne_of_lt h2]) (fun m _ hm => hm)
    have hlr : ((D.blocks[i].take D.blocks[i].length).map Rl.hi).length = D.blocks[i].length := by simp
    refine hR1.push (r := (D.blocks[i].take D.blocks[i].length).map Rl.hi) (x := v5) (X' := fun _ => False) (by rw [hlr]; exact o5.ge (Ge.new _ _)) (fun m hm => ⟨fun e => hR1.own m e hm, fun hf => hf⟩) (fun m hm => hm.elim) (slCells_new (rw := true) (c := 1) (by simp)) ?_ (by simp) (by omega) (by simp; omega) fun u' B k1 k2 k3 k4 => ?_
    · rw [List.length_take]; simp [highsD]; omega
    have h3 : ∀ m, slName v3 = some m → H.next + 1 ≤ m := fun m hm => (hR.names hm).1
    have gB : Ge H B := ⟨by have := g.next; omega, fun n hn2 => by
      have f1 : n ≠ A.next := by have := g.next; omega
      rw [k4 n (by have := g.next; omega) (fun e => by have := h3 n e; omega)]; simp [f1, g.get n hn2]⟩
    have kB : B.get H.next = A.get H.next := (k4 H.next (by omega) (fun e => by have := h3 _ e; omega)).trans (by rw [Heap.new_get, if_neg (by omega)])
    simp [t4, add_in (x := i) (y := 1) (by omega) (by omega)]
    refine ⟨⟨gB, by omega, t1, by simpa [Value.cells] using kB.trans kd, i + 1, by omega, by omega, ?_⟩, by rw [t4o]; simp; omega⟩
    have hrows : (highsD D).take i ++ [(D.blocks[i].take D.blocks[i].length).map Rl.hi] = (highsD D).take (i + 1) := by
      rw [List.take_succ_eq_append_getElem (by simp [highsD]; exact hi')]
      simp [highsD]
    rw [← hrows]; exact k1
  have hj' : j < D.blocks[i].length := by simpa using hc
  have hhas : D.has i j := ⟨_, List.getElem?_eq_getElem hi', hj'⟩
  have hrel : D.rel i j = D.blocks[i][j] := by simp [Dy.rel, hi', hj']
  obtain ⟨n, o, f1, f2, _, f3, _⟩ := (e3.ge g).at hj'
  have c2 := f3 2 (by omega)
  simp [Rl.cells] at c2
  simp [t1, kd, t4, t6, t5, e1, e21, f1, c2]
  obtain ⟨A1, hA1⟩ : ∃ A1, A1 = A := ⟨A, rfl⟩
  have g1 : Ge A A1 := by rw [hA1]; exact Ge.refl _
  rw [← hA1]
  have g2 := Ge.new A1 (.cells true [.int .i64 D.blocks[i][j].hi] 1)
  refine fapp_ownS (lo := H.next + 1) (xs := [.int .i64 D.blocks[i][j].hi]) ((o5.ge g1).ge g2) (by simp [slCells, rdL]) rfl (by simp) (by omega) (by omega) (by simp) (by omega) (by simp; have := g1.next; omega) fun u5 B k1 k2 k3 k4 => ?_
  have n1 := g1.next
  have hcs : ((D.blocks[i].take j).map Rl.hi).flatMap iCell ++ [.int .i64 D.blocks[i][j].hi] = ((D.blocks[i].take (j + 1)).map Rl.hi).flatMap iCell := by
    rw [List.take_succ_eq_append_getElem hj', List.map_append, List.flatMap_append]; rfl
  rw [hcs] at k1
  have h5n : ∀ m, slName v5 = some m → H.next + 1 ≤ m := fun m hm => (o5.names hm).1
  have gB : Ge H B := ⟨by have := g.next; omega, fun n hn2 => by
    have f0 := g.next
    have f1 : n ≠ A1.next := by omega
    rw [k4 n (by omega) (fun e => by have := h5n n e; omega)]; simp [f1]
    rw [g1.get n (by omega)]; exact g.get n hn2⟩
  have kB : B.get H.next = A.get H.next := (k4 H.next (by omega) (fun e => by have := h5n _ e; omega)).trans (by rw [Heap.new_get, if_neg (by omega), g1.get _ hn])
  simp [t6, add_in (x := j) (y := 1) (by omega) (by omega)]
  refine ⟨⟨gB, by omega, t1, by simpa [Value.cells] using kB.trans kd, t4, t3, j + 1, by omega, by omega, by simpa using k1, ?_⟩, by omega⟩
  refine hR.keep (by omega) (fun n h1 h2 h3 => ?_) fun m hm hx => ?_
  · have f1 : n ≠ A1.next := by omega
    rw [k4 n (by omega) h3]; simp [f1]
    exact g1.get n h2
  · rw [k2] at hx; cases hx; omega

end Go.Proofs.YtllkhaabcfnlpaaDoor

/-
  The reference: pieces, how long they last, the breaks between them.
-/
namespace Go.Proofs.YtllkhaabcfnlpaaDoor
open Go Go.Ab

structure Rp where
  b : Nat
  f : Nat
  t : Nat
  g : Nat
deriving DecidableEq
def rz : Rp := ⟨0, 0, 0, 0⟩
def Rp.cells (x : Rp) : List Value := [.int .i64 x.b, .int .i64 x.f, .int .i64 x.t, .int .i64 x.g]
abbrev Rp.val (x : Rp) : Value := .agg #[.int .i64 x.b, .int .i64 x.f, .int .i64 x.t, .int .i64 x.g]
def RpsAt (H : Heap) (v : Value) (xs : List Rp) : Prop := SlR H 4 v xs.length (xs.flatMap Rp.cells) ∧ xs.length < 2 ^ 63
theorem RpsAt.ge {H H' : Heap} {v : Value} {xs : List Rp} (h : RpsAt H v xs) (g : Ge H H') : RpsAt H' v xs := ⟨h.1.ge g, h.2⟩
theorem RpsAt.lenV {H : Heap} {v : Value} {xs : List Rp} (h : RpsAt H v xs) : Go.Ab.lenV v = some (.int .i64 xs.length) := h.1.lenV
theorem RpsAt.one {H : Heap} {v : Value} {xs : List Rp} (h : RpsAt H v xs) : Go.Ab.one v = true := SlR.one h.1
theorem RpsAt.at {H : Heap} {v : Value} {xs : List Rp} (h : RpsAt H v xs) {i : Nat} (hi : i < xs.length) : ∃ n o, islV 4 v (.int .i64 i) = some (.pointer (some ⟨n, o, none⟩)) ∧ n < H.next ∧ ldA (H.get n) true 4 o = some xs[i].val ∧
    ldA (H.get n) false 1 o = some (.int .i64 xs[i].b) ∧ ldA (H.get n) false 1 (o + 1) = some (.int .i64 xs[i].f) ∧ ldA (H.get n) false 1 (o + 2) = some (.int .i64 xs[i].t) ∧ ldA (H.get n) false 1 (o + 3) = some (.int .i64 xs[i].g) := by
  obtain ⟨n, o, rw', ds, c, h1, hn, h2, h3⟩ := h.1.isl (k := .i64) hi
  rw [flatMap_at (f := Rp.cells) (fun _ => rfl) xs i hi] at h3
  obtain ⟨h4, _⟩ := rdL_some h3
  have hf : ∀ k, k < 4 → ldA (H.get n) false 1 (o + k) = xs[i].cells[k]? := fun k hk => by
    rw [h2, ldA_one, h4]; simp [hk]
  refine ⟨n, o, h1, hn, ?_, hf 0 (by omega), hf 1 (by omega), hf 2 (by omega), hf 3 (by omega)⟩
  rw [h2, ldA_agg, h3]; rfl

/-- A time, by its spot. -/
def tAt (B : List (List Int)) (b n : Nat) : Int := ((B[b]?).bind fun x => x[n]?).getD 0
structure TOk (D : Dy) (B : List (List Int)) : Prop where
  spots : ∀ b n, D.has b n → ∃ x, B[b]? = some x ∧ n < x.length
  bound : ∀ x ∈ B, ∀ y ∈ x, 0 ≤ y ∧ y ≤ 3000
theorem TOk.at {D : Dy} {B : List (List Int)} (h : TOk D B) {b n : Nat} (hs : D.has b n) : 0 ≤ tAt B b n ∧ tAt B b n ≤ 3000 := by
  obtain ⟨x, h1, h2⟩ := h.spots b n hs
  have : tAt B b n = x[n] := by simp [tAt, h1, h2]
  rw [this]
  exact h.bound x (List.mem_of_getElem? h1) _ (List.getElem_mem h2)
/-- The loads of a time. -/
theorem time_at {D : Dy} {B : List (List Int)} {H : Heap} {v : Value} (h : TOk D B) (hB : RowsAt H v B) {b n : Nat} (hs : D.has b n) : ∃ p u q, islV 1 v (.int .i64 b) = some p ∧ (∀ A, Ge H A → ldV A false 1 p = some u) ∧ islV 1 u (.int .i64 n) = some q ∧ (∀ A, Ge H A → ldV A false 1 q = some (.int .i64 (tAt B b n))) := by
  obtain ⟨x, h1, h2⟩ := h.spots b n hs
  obtain ⟨hb, rfl⟩ := List.getElem?_eq_some_iff.1 h1
  obtain ⟨p, u, e1, e2, e3⟩ := RowsOf.atAll hB hb
  obtain ⟨q, f1, f2⟩ := e3.at h2
  have hv : tAt B b n = B[b][n] := by simp [tAt, hb, h2]
  refine ⟨p, u, q, e1, e2, f1, fun A g => ?_⟩
  obtain ⟨q', f3, f4⟩ := (e3.ge g).at h2
  rw [f1] at f3; cases f3
  rw [hv]; exact f4

structure RpOk (D : Dy) (x : Rp) : Prop where
  fst : D.has x.b x.f
  lst : D.has x.b x.t
def rLast (B E : List (List Int)) (x : Rp) : Int := tAt E x.b x.t - tAt B x.b x.f
def rRest (B E : List (List Int)) (x y : Rp) : Int := tAt B y.b y.f - tAt E x.b x.t

section
variable {D : Dy} {B E : List (List Int)} {l : List Rp} {H : Heap} {v vb ve : Value}

theorem rLast_bound (hB : TOk D B) (hE : TOk D E) {x : Rp} (hx : RpOk D x) : -3000 ≤ rLast B E x ∧ rLast B E x ≤ 3000 := by
  have h1 := hB.at hx.fst
  have h2 := hE.at hx.lst
  unfold rLast; omega
theorem rRest_bound (hB : TOk D B) (hE : TOk D E) {x y : Rp} (hx : RpOk D x) (hy : RpOk D y) : -3000 ≤ rRest B E x y ∧ rRest B E x y ≤ 3000 := by
  have h1 := hB.at hy.fst
  have h2 := hE.at hx.lst
  unfold rRest; omega

theorem drive_spec (hl : RpsAt H v l) (hBt : RowsAt H vb B) (hEt : RowsAt H ve E) (hB : TOk D B) (hE : TOk D E) (hok : ∀ x ∈ l, RpOk D x) (h16 : l.length ≤ 16) :
    AFun Tryd.prog 31 [v, vb, ve] H (fun r A => r = .int .i64 (l.map (rLast B E)).sum ∧ Ge H A) := by
  refine AFun.mk ok31 hm (Nat.le_of_ble_eq_true rfl) ?_
  simp [a31, r31]
  refine floop_intro (fun z => z.d = [] ∧ Ge H z.H ∧ z.t 0 = v ∧ z.t 1 = vb ∧ z.t 2 = ve ∧ ∃ i : Nat, i ≤ l.length ∧ z.t 8 = .int .i64 i ∧ z.t 7 = .int .i64 ((l.map (rLast B E)).take i).sum) (fun z => l.length - (intOf (z.t 8)).toNat) ?_ ?_
  · exact ⟨rfl, by simp, by simp, by simp, by simp, 0, by omega, by simp, by simp⟩
  rintro ⟨t, _, A⟩ ⟨rfl, g, t0, t1, t2, i, hi, t8, t7⟩
  dsimp only at g t0 t1 t2 t8 t7
  simp [t0, t8, hl.lenV]
  refine fcond_intro (fun hc => ?_) (fun hc => ?_)
  case refine_2 =>
    have : i = l.length := by simp at hc; omega
    subst this
    have hfull : (l.map (rLast B E)).take l.length = l.map (rLast B E) := by rw [List.take_of_length_le (by simp)]
    rw [hfull] at t7
    simp [t7, g]
  have hi' : i < l.length := by simpa using hc
  have hx := hok _ (List.getElem_mem hi')
  obtain ⟨n, o, e1, e2, _, f0, f1, f2, _⟩ := (hl.ge g).at hi'
  obtain ⟨p, u, q, b1, b2, b3, b4⟩ := time_at hB hBt hx.fst
  obtain ⟨p', u', q', c1, c2, c3, c4⟩ := time_at hE hEt hx.lst
  have g34 := g.grow 34
  have b2' := b2 _ g34
  have b4' := b4 _ g34
  have c2' := c2 _ g34
  have c4' := c4 _ g34
  have hb := rLast_bound hB hE hx
  have hsum := sum_bound (l := (l.map (rLast B E)).take i) fun y hy => by
    obtain ⟨z, hz, rfl⟩ := List.mem_map.1 (List.mem_of_mem_take hy)
    exact rLast_bound hB hE (hok z hz)
  have hlen : ((l.map (rLast B E)).take i).length ≤ 16 := by rw [List.length_take]; simp; omega
  have k1 := hB.at hx.fst
  have k2 := hE.at hx.lst
  simp [t0, t1, t2, t8, t7, e1, f0, f1, f2, b1, b2', b3, b4', c1, c2', c3, c4']
  rw [sub_in (by omega) (by omega)]
  have hr : tAt E l[i].b l[i].t - tAt B l[i].b l[i].f = rLast B E l[i] := rfl
  rw [hr]
  simp
  rw [add_in (by omega) (by omega)]
  simp [t8, add_in (x := i) (y := 1) (by omega) (by omega)]
  refine ⟨⟨g34, t0, t1, t2, i + 1, by omega, by omega, ?_⟩, by omega⟩
  rw [List.take_succ_eq_append_getElem (by simpa using hi'), List.sum_append]; simp

def rSpread (D : Dy) (B E : List (List Int)) (l : List Rp) : Int := tAt E (l[l.length - 1]?.getD rz).b (l[l.length - 1]?.getD rz).t + D.law.off - tAt B (l[0]?.getD rz).b (l[0]?.getD rz).f + D.law.on
theorem spread_spec {b w : Value} (hl : RpsAt H v l) (hBt : RowsAt H vb B) (hEt : RowsAt H ve E) (hV : Valid D) (hD : DayAt H b w D) (hB : TOk D B) (hE : TOk D E) (hok : ∀ x ∈ l, RpOk D x) (h16 : l.length ≤ 16) (h0 : 0 < l.length) :
    AFun Tryd.prog 32 [dayV D b w, v, vb, ve] H (fun r A => r = .int .i64 (rSpread D B E l) ∧ Ge H A) := by
  refine AFun.mk ok32 hm (Nat.le_of_ble_eq_true rfl) ?_
  have hb := hD.blocks.one
  have hw := hD.walk.one
  have hll : l.length - 1 < l.length := by omega
  have hx := hok _ (List.getElem_mem hll)
  have hy := hok _ (List.getElem_mem h0)
  have glast : l[l.length - 1]?.getD rz = l[l.length - 1] := by simp [hll]
  have gfst : l[0]?.getD rz = l[0] := by simp [h0]
  have g0 : Ge H (⟨(H.new (.cells true [.int .i64 D.law.piece, .int .i64 D.law.drive, .int .i64 D.law.spread, .int .i64 D.law.brk, .int .i64 D.law.on, .int .i64 D.law.off, .int .i64 D.law.least, .int .i64 D.law.pieces, b, w] 10)).get, H.next + 39⟩ : Heap) := Ge.grow_le (by omega) (Ge.new _ _)
  obtain ⟨n, o, e1, en, _, f0, f1, f2, _⟩ := hl.at hll
  obtain ⟨n', o', e1', en', _, f0', f1', f2', _⟩ := hl.at h0
  obtain ⟨p, u, q, b1, b2, b3, b4⟩ := time_at hB hBt hy.fst
  obtain ⟨p', u', q', c1, c2, c3, c4⟩ := time_at hE hEt hx.lst
  have b2' := b2 _ g0
  have b4' := b4 _ g0
  have c2' := c2 _ g0
  have c4' := c4 _ g0
  have k1 := hB.at hy.fst
  have k2 := hE.at hx.lst
  have hlaw := law_bounds hV
  have hc1 : ((l.length - 1 : Nat) : Int) = (l.length : Int) - 1 := by omega
  rw [hc1] at e1
  have m1 : n ≠ H.next := by omega
  have m2 : n' ≠ H.next := by omega
  have hz : ((0 : Nat) : Int) = 0 := rfl
  rw [hz] at e1'
  unfold rSpread
  rw [glast, gfst]
  simp [a32, r32, hb, hw, hl.lenV]
  rw [sub_in (by omega) (by omega)]
  simp [e1, f0, f2, c1, c2', c3, c4', m1, m2, e1', f0', f1', b1, b2', b3, b4']
  rw [add_in (by omega) (by omega)]
  simp [e1, f0, f2, c1, c2', c3, c4', m1, m2, e1', f0', f1', b1, b2', b3, b4']
  rw [sub_in (by omega) (by omega)]
  simp
  rw [add_in (by omega) (by omega)]
  simp

theorem breaks_spec (hl : RpsAt H v l) (hBt : RowsAt H vb B) (hEt : RowsAt H ve E) (hB : TOk D B) (hE : TOk D E) (hok : ∀ x ∈ l, RpOk D x) (h16 : l.length ≤ 16) :
    AFun Tryd.prog 34 [v, vb, ve] H (fun r A => IntsAt A r ((List.range (l.length - 1)).map fun j => rRest B E (l[j]?.getD rz) (l[j + 1]?.getD rz)) ∧ Ge H A) := by
  refine AFun.mk ok34 hm (Nat.le_of_ble_eq_true rfl) ?_
  simp [a34, r34]
  refine floop_intro (fun z => z.d = [] ∧ Ge H z.H ∧ z.t 0 = v ∧ z.t 1 = vb ∧ z.t 2 = ve ∧ ∃ i : Nat, 1 ≤ i ∧ i ≤ max 1 l.length ∧ z.t 8 = .int .i64 i ∧ OwnSl z.H H.next (z.t 7) (((List.range (i - 1)).map fun j => rRest B E (l[j]?.getD rz) (l[j + 1]?.getD rz)).map (Value.int .i64))) (fun z => l.length - (intOf (z.t 8)).toNat) ?_ ?_
  · exact ⟨rfl, by simp, by simp, by simp, by simp, 1, by omega, by omega, by simp, .inl ⟨by simp, by simp⟩⟩
  rintro ⟨t, _, A⟩ ⟨rfl, g, t0, t1, t2, i, hi1, hi, t8, o7⟩
  dsimp only at g t0 t1 t2 t8 o7
  generalize t7 : t 7 = v7 at o7
  simp [t0, t8, hl.lenV]
  refine fcond_intro (fun hc => ?_) (fun hc => ?_)
  case refine_2 =>
    have hle : l.length ≤ i := by simp at hc; omega
    have hii : i - 1 = l.length - 1 := by omega
    rw [hii] at o7
    simp [t7]
    exact ⟨own_ints o7 (by simp; omega), g⟩
  have hi' : i < l.length := by simpa using hc
  have him : i - 1 < l.length := by omega
  have hy := hok _ (List.getElem_mem hi')
  have hx := hok _ (List.getElem_mem him)
  obtain ⟨n, o, e1, en, _, f0, f1, f2, _⟩ := (hl.ge g).at hi'
  obtain ⟨n', o', e1', en', _, f0', f1', f2', _⟩ := (hl.ge g).at him
  have hc1 : ((i - 1 : Nat) : Int) = (i : Int) - 1 := by omega
  rw [hc1] at e1'
  obtain ⟨p, u, q, b1, b2, b3, b4⟩ := time_at hB hBt hy.fst
  obtain ⟨p', u', q', c1, c2, c3, c4⟩ := time_at hE hEt hx.lst
  have g37 := g.grow 37
  have b2' := b2 _ g37
  have b4' := b4 _ g37
  have c2' := c2 _ g37
  have c4' := c4 _ g37
  have k1 := hB.at hy.fst
  have k2 := hE.at hx.lst
  simp [t0, t1, t2, t8, t7, e1, f0, f1, b1, b2', b3, b4', sub_in (x := (i : Int)) (y := 1) (by omega) (by omega), e1', f0', f2', c1, c2', c3, c4']
  rw [sub_in (by omega) (by omega)]
  have hr : tAt B l[i].b l[i].f - tAt E l[i - 1].b l[i - 1].t = rRest B E l[i - 1] l[i] := rfl
  rw [hr]
  simp
  have gn := g.next
  have o71 : OwnSl (({ get := A.get, next := A.next + 37 } : Heap).set (A.next + 34) (.cells true [.int .i64 (rRest B E l[i - 1] l[i])] 1)) H.next v7 (((List.range (i - 1)).map fun j => rRest B E (l[j]?.getD rz) (l[j + 1]?.getD rz)).map (Value.int .i64)) := o7.keep (by simp) fun m hm => by
    have := (o7.names hm).2
    have : m ≠ A.next + 34 := by omega
    simp [this]
  refine fapp_own' (x := .int .i64 (rRest B E l[i - 1] l[i])) o71 (slCells_new (rw := true) (c := 1) (by simp)) rfl (by simp; omega) (by omega) (by omega) (by omega) fun u7 C k3 k4 k5 k6 => ?_
  have h7n : ∀ m, slName v7 = some m → H.next ≤ m := fun m hm => (o7.names hm).1
  have gC : Ge H C := ⟨by omega, fun m hm => by
    have f3 : m ≠ A.next + 34 := by omega
    rw [k6 m (by omega) (fun e => by have := h7n m e; omega)]; simp [f3, g.get m hm]⟩
  simp [t8, add_in (x := i) (y := 1) (by omega) (by omega)]
  refine ⟨⟨gC, t0, t1, t2, i + 1, by omega, by omega, by omega, ?_⟩, by omega⟩
  have hrange : (List.range (i + 1 - 1)).map (fun j => rRest B E (l[j]?.getD rz) (l[j + 1]?.getD rz)) = ((List.range (i - 1)).map fun j => rRest B E (l[j]?.getD rz) (l[j + 1]?.getD rz)) ++ [rRest B E l[i - 1] l[i]] := by
    have e : i + 1 - 1 = (i - 1) + 1 := by omega
    have e2 : i - 1 + 1 = i := by omega
    rw [e, List.range_succ, List.map_append]
    simp [e2, hi', him]
  have k3' : OwnSl C H.next u7 (((List.range (i + 1 - 1)).map fun j => rRest B E (l[j]?.getD rz) (l[j + 1]?.getD rz)).map (Value.int .i64)) := by
    rw [hrange, List.map_append]; exact k3
  simpa using k3'
end

end Go.Proofs.YtllkhaabcfnlpaaDoor

/-
  The reference: are pieces legal?
-/
namespace Go.Proofs.YtllkhaabcfnlpaaDoor
open Go Go.Ab

def rStep (D : Dy) (B E : List (List Int)) (l : List Rp) (i : Nat) : Bool := decide (rLast B E (l[i]?.getD rz) ≤ D.law.piece) && (decide (i = 0) || decide (D.law.brk + D.walkOf (l[i - 1]?.getD rz).b (l[i - 1]?.getD rz).t (l[i]?.getD rz).b (l[i]?.getD rz).f ≤ rRest B E (l[i - 1]?.getD rz) (l[i]?.getD rz)))
def rHead (D : Dy) (B E : List (List Int)) (l : List Rp) : Bool := decide ((l.length : Int) ≤ D.law.pieces) && (decide ((l.map (rLast B E)).sum ≤ D.law.drive) && decide (rSpread D B E l ≤ D.law.spread))
def rObeys (D : Dy) (B E : List (List Int)) (l : List Rp) : Bool := rHead D B E l && (List.range l.length).all (rStep D B E l)

theorem rObeys_no {D : Dy} {B E : List (List Int)} {l : List Rp} {i : Nat} (hi : i < l.length) (h : rStep D B E l i = false) : rObeys D B E l = false := by
  unfold rObeys
  rw [Bool.and_eq_false_iff]; right
  rw [List.all_eq_false]; exact ⟨i, by simpa using hi, by simp [h]⟩

theorem rObeys_head {D : Dy} {B E : List (List Int)} {l : List Rp} (h : rHead D B E l = false) : rObeys D B E l = false := by rw [rObeys, h]; rfl

theorem obeys_spec {D : Dy} {B E : List (List Int)} {l : List Rp} {H : Heap} {v vb ve b w : Value} (hl : RpsAt H v l) (hBt : RowsAt H vb B) (hEt : RowsAt H ve E) (hV : Valid D) (hD : DayAt H b w D) (hB : TOk D B) (hE : TOk D E) (hok : ∀ x ∈ l, RpOk D x) (h16 : l.length ≤ 16) (h0 : 0 < l.length) :
    AFun Tryd.prog 35 [dayV D b w, v, vb, ve] H (fun r A => r = .bool (rObeys D B E l) ∧ Ge H A) := by
  refine AFun.mk ok35 hm (Nat.le_of_ble_eq_true rfl) ?_
  have hb := hD.blocks.one
  have hw := hD.walk.one
  have hlaw := law_bounds hV
  simp [a35, r35, hb, hw, hl.lenV]
  have g0 : Ge H (⟨(H.new (.cells true [.int .i64 D.law.piece, .int .i64 D.law.drive, .int .i64 D.law.spread, .int .i64 D.law.brk, .int .i64 D.law.on, .int .i64 D.law.off, .int .i64 D.law.least, .int .i64 D.law.pieces, b, w] 10)).get, H.next + 28⟩ : Heap) := Ge.grow_le (by omega) (Ge.new _ _)
  by_cases c1 : D.law.pieces < (l.length : Int)
  · have c1n : ¬ (l.length : Int) ≤ D.law.pieces := by omega
    have hno : rObeys D B E l = false := rObeys_head (by simp [rHead, c1n])
    simp [c1, hno, g0]
  have c1' : (l.length : Int) ≤ D.law.pieces := by omega
  simp [c1]
  refine fcall_fun (drive_spec (hl.ge g0) (hBt.ge g0) (hEt.ge g0) hB hE hok h16) ?_
  rintro _ H1 ⟨rfl, g1⟩
  have n1 := g1.next
  simp only at n1
  have k0 := g1.got (n := H.next) (by simp) rfl
  simp at k0
  have G1 := g0.trans g1
  by_cases c2 : D.law.drive < (l.map (rLast B E)).sum
  · have c2n : ¬ (l.map (rLast B E)).sum ≤ D.law.drive := by omega
    have hno : rObeys D B E l = false := rObeys_head (by simp [rHead, c2n])
    simp [c1, c2, k0, hno, G1]
  simp [c1, c2, k0]
  refine fcall_fun (spread_spec (hl.ge G1) (hBt.ge G1) (hEt.ge G1) hV (hD.ge G1) hB hE hok h16 h0) ?_
  rintro _ H2 ⟨rfl, g2⟩
  have G2 := G1.trans g2
  have k2 := g2.got (n := H.next) (by omega) k0
  by_cases c3 : D.law.spread < rSpread D B E l
  · have c3n : ¬ rSpread D B E l ≤ D.law.spread := by omega
    have hno : rObeys D B E l = false := rObeys_head (by simp [rHead, c3n])
    simp [c1, c2, c3, k2, hno, G2]
  simp [c1, c2, c3, k2]
  refine fcall_fun (breaks_spec (hl.ge G2) (hBt.ge G2) (hEt.ge G2) hB hE hok h16) ?_
  rintro vr H3 ⟨hr, g3⟩
  have G3 := G2.trans g3
  have n2 := g2.next
  have n3 := g3.next
  have k3 := g3.got (n := H.next) (by omega) k2
  have hhead : rHead D B E l = true := by simp [rHead]; omega
  simp
  refine floop_intro (fun z => z.d = [] ∧ Ge H3 z.H ∧ z.t 1 = v ∧ z.t 2 = vb ∧ z.t 3 = ve ∧ z.t 4 = .pointer (some ⟨H.next, 0, none⟩) ∧ z.t 9 = vr ∧ ∃ i : Nat, i ≤ l.length ∧ z.t 10 = .int .i64 i ∧ ∀ j, j < i → rStep D B E l j = true) (fun z => l.length - (intOf (z.t 10)).toNat) ?_ ?_
  · exact ⟨rfl, by simp, by simp, by simp, by simp, by simp, by simp, 0, by omega, by simp, fun j hj => by omega⟩
  rintro ⟨t, _, A⟩ ⟨rfl, g, t1, t2, t3, t4, t9, i, hi, t10, hall⟩
  dsimp only at g t1 t2 t3 t4 t9 t10
  simp [t1, t10, hl.lenV]
  have GA := G3.trans g
  refine fcond_intro (fun hc => ?_) (fun hc => ?_)
  case refine_2 =>
    have : i = l.length := by simp at hc; omega
    subst this
    simp [GA]
    have : (List.range l.length).all (rStep D B E l) = true := by rw [List.all_eq_true]; intro j hj; exact hall j (by simpa using hj)
    rw [rObeys, hhead, this]; rfl
  have hi' : i < l.length := by simpa using hc
  have hx := hok _ (List.getElem_mem hi')
  obtain ⟨n, o, e1, en, _, f0, f1, f2, _⟩ := (hl.ge GA).at hi'
  obtain ⟨p, u, q, b1, b2, b3, b4⟩ := time_at hB hBt hx.fst
  obtain ⟨p', u', q', d1, d2, d3, d4⟩ := time_at hE hEt hx.lst
  have kd := g.got (n := H.next) (by omega) k3
  have g35 := GA.grow 35
  have b2' := b2 _ g35
  have b4' := b4 _ g35
  have d2' := d2 _ g35
  have d4' := d4 _ g35
  have q1 := hB.at hx.fst
  have q2 := hE.at hx.lst
  have hi0 : l[i]?.getD rz = l[i] := by simp [hi']
  simp [t1, t2, t3, t4, t10, e1, f0, f1, f2, b1, b2', b3, b4', d1, d2', d3, d4', kd]
  rw [sub_in (by omega) (by omega)]
  have hrl : tAt E l[i].b l[i].t - tAt B l[i].b l[i].f = rLast B E l[i] := rfl
  rw [hrl]
  simp [t4, kd]
  by_cases c4 : D.law.piece < rLast B E l[i]
  · have hno : rObeys D B E l = false := rObeys_no hi' (by simp [rStep, hi0]; omega)
    simp [c4, hno, g35]
  simp [c4, t10]
  by_cases hz : i = 0
  · have hzn : ¬ 0 < i := by omega
    have hzi : ¬ (0 : Int) < i := by omega
    simp [hzn, hzi, t10, add_in (x := i) (y := 1) (by omega) (by omega)]
    refine ⟨⟨g.grow 35, t1, t2, t3, t4, t9, i + 1, by omega, by omega, fun j hj => ?_⟩, by omega⟩
    have : j = i := by omega
    subst this
    simp [rStep, hi0]; omega
  have hzn : 0 < i := by omega
  have hzi : (0 : Int) < i := by omega
  have him : i - 1 < l.length := by omega
  have hxm := hok _ (List.getElem_mem him)
  obtain ⟨n', o', e1', en', _, f0', f1', f2', _⟩ := (hl.ge GA).at him
  have hc1 : ((i - 1 : Nat) : Int) = (i : Int) - 1 := by omega
  rw [hc1] at e1'
  have him2 : l[i - 1]?.getD rz = l[i - 1] := by simp [him]
  obtain ⟨xb, hxb, hxl⟩ := hxm.lst
  obtain ⟨hxb1, rfl⟩ := List.getElem?_eq_some_iff.1 hxb
  obtain ⟨xc, hxc, hxcl⟩ := hx.fst
  obtain ⟨hxc1, rfl⟩ := List.getElem?_eq_some_iff.1 hxc
  obtain ⟨r1, v1, y1, y2, y3⟩ := hD.blocks.atAll hxb1
  obtain ⟨r2, v2, w1, w2, w3⟩ := hD.blocks.atAll hxc1
  have g73 := GA.grow 73
  have y2' := y2 _ g73
  have w2' := w2 _ g73
  obtain ⟨z1, o1, y4, _, _, y5, _⟩ := (y3.ge GA).at hxl
  obtain ⟨z2, o2, w4, _, _, w5, _⟩ := (w3.ge GA).at hxcl
  have y6 := y5 0 (by omega)
  have w6 := w5 0 (by omega)
  simp [Rl.cells] at y6 w6
  have hpl1 : D.blocks[l[i - 1].b][l[i - 1].t].place = (D.rel l[i - 1].b l[i - 1].t).place := by simp [Dy.rel, hxb1, hxl]
  have hpl2 : D.blocks[l[i].b][l[i].f].place = (D.rel l[i].b l[i].f).place := by simp [Dy.rel, hxc1, hxcl]
  rw [hpl1] at y6
  rw [hpl2] at w6
  simp [hzn, hzi, t1, t4, t10, kd, sub_in (x := (i : Int)) (y := 1) (by omega) (by omega), e1', f0', f2', y1, y2', y4, y6, e1, f0, f1, w1, w2', w4, w6]
  have hrest : (((List.range (l.length - 1)).map fun j => rRest B E (l[j]?.getD rz) (l[j + 1]?.getD rz)))[i - 1]'(by simp; omega) = rRest B E l[i - 1] l[i] := by
    have e2 : i - 1 + 1 = i := by omega
    simp [e2, hi0, him2]
  obtain ⟨pr, r3, r4⟩ := (hr.ge g).at (i := i - 1) (by simp; omega)
  rw [hrest] at r4
  rw [hc1] at r3
  obtain ⟨row, wk1, wk2⟩ := walk_at hV hxm.lst hx.fst
  obtain ⟨hwx, rfl⟩ := List.getElem?_eq_some_iff.1 wk1
  have p1 := rel_valid hV hxm.lst
  have p2 := rel_valid hV hx.fst
  have hwk : D.walkOf l[i - 1].b l[i - 1].t l[i].b l[i].f = D.walk[(D.rel l[i - 1].b l[i - 1].t).place.toNat][(D.rel l[i].b l[i].f).place.toNat] := by simp [Dy.walkOf, hwx, wk2]
  obtain ⟨pw, uw, s1, s2, s3⟩ := hD.walk.atAll hwx
  obtain ⟨qw, s4, s5⟩ := (s3.ge GA).at wk2
  have hpa : (((D.rel l[i - 1].b l[i - 1].t).place.toNat : Nat) : Int) = (D.rel l[i - 1].b l[i - 1].t).place := by omega
  have hpb : (((D.rel l[i].b l[i].f).place.toNat : Nat) : Int) = (D.rel l[i].b l[i].f).place := by omega
  rw [hpa] at s1
  rw [hpb] at s4
  rw [← hwk] at s5
  have s2' : ∀ k, ldV (⟨A.get, A.next + k⟩ : Heap) false 1 pw = some uw := fun k => s2 _ (GA.grow k)
  have s5' : ∀ k, ldV (⟨A.get, A.next + k⟩ : Heap) false 1 qw = some (.int .i64 (D.walkOf l[i - 1].b l[i - 1].t l[i].b l[i].f)) := fun k => s5
  have r4' : ∀ k, ldV (⟨A.get, A.next + k⟩ : Heap) false 1 pr = some (.int .i64 (rRest B E l[i - 1] l[i])) := fun k => r4
  have wb := walkOf_bound hV hxm.lst hx.fst
  simp [t9, t10, t4, kd, sub_in (x := (i : Int)) (y := 1) (by omega) (by omega), r3, r4', s1, s2', s4, s5']
  rw [add_in (by omega) (by omega)]
  simp
  by_cases c5 : rRest B E l[i - 1] l[i] < D.law.brk + D.walkOf l[i - 1].b l[i - 1].t l[i].b l[i].f
  · have c5n : ¬ D.law.brk + D.walkOf l[i - 1].b l[i - 1].t l[i].b l[i].f ≤ rRest B E l[i - 1] l[i] := by omega
    have hno : rObeys D B E l = false := rObeys_no hi' (by simp [rStep, hi0, him2, hz, c5n])
    simp [c5, hno]
    exact GA.grow _
  · have c5n : D.law.brk + D.walkOf l[i - 1].b l[i - 1].t l[i].b l[i].f ≤ rRest B E l[i - 1] l[i] := by omega
    have c4n : rLast B E l[i] ≤ D.law.piece := by omega
    simp [c5, t10, add_in (x := i) (y := 1) (by omega) (by omega)]
    refine ⟨⟨g.grow _, t1, t2, t3, t4, t9, i + 1, by omega, by omega, fun j hj => ?_⟩, by omega⟩
    by_cases e : j = i
    · subst e
      simp [rStep, hi0, him2, c5n, c4n]
    · exact hall j (by omega)

end Go.Proofs.YtllkhaabcfnlpaaDoor

/-
  The reference: the pieces of a duty, in order.
-/
namespace Go.Proofs.YtllkhaabcfnlpaaDoor
open Go Go.Ab

def rLo (D : Dy) (x : Rp) : Int := (D.rel x.b x.f).lo
def rBefore (D : Dy) (x y : Rp) : Bool := if rLo D x = rLo D y then decide (x.g < y.g) else decide (rLo D x < rLo D y)

theorem before_spec {D : Dy} {b w : Value} {H : Heap} {x y : Rp} (h : DayAt H b w D) (hx : D.has x.b x.f) (hy : D.has y.b y.f) : AFun Tryd.prog 70 [dayV D b w, x.val, y.val] H (fun r B => r = .bool (rBefore D x y) ∧ Ge H B) := by
  refine AFun.mk ok70 hm (Nat.le_of_ble_eq_true rfl) ?_
  have hb := h.blocks.one
  have hw := h.walk.one
  simp [a70, r70, hb, hw]
  refine fcall_fun (lo69_spec (h.ge (Ge.grow_le (by omega) (((Ge.new _ _).newOf _).newOf _))) hx) ?_
  rintro _ H1 ⟨rfl, g1⟩
  have n1 := g1.next
  have k0 := g1.got (n := H.next) (by simp) rfl
  have k1 := g1.got (n := H.next + 1) (by simp) rfl
  have k2 := g1.got (n := H.next + 2) (by simp) rfl
  have G1 : Ge H H1 := Ge.trans (Ge.grow_le (by omega) (((Ge.new _ _).newOf _).newOf _)) g1
  simp at k0 k1 k2 n1
  simp [k0, k2]
  refine fcall_fun (lo69_spec (h.ge G1) hy) ?_
  rintro _ H2 ⟨rfl, g2⟩
  have c1 := g2.got (n := H.next + 1) (by omega) k1
  have c2 := g2.got (n := H.next + 2) (by omega) k2
  have e1 : (D.rel x.b x.f).lo = rLo D x := rfl
  have e2 : (D.rel y.b y.f).lo = rLo D y := rfl
  rw [e1, e2]
  simp
  unfold rBefore
  by_cases hz : rLo D x = rLo D y
  · simp [hz, c1, c2]
    exact G1.trans g2
  · simp [hz]
    exact G1.trans g2

theorem flat_len4 (l : List Rp) : (l.flatMap Rp.cells).length = l.length * 4 := by
  induction l with
  | nil => rfl
  | cons x l ih => rw [List.flatMap_cons, List.length_append, ih, List.length_cons, Nat.succ_mul, Nat.add_comm]; rfl
theorem wr_flat4 {l : List Rp} {j : Nat} (hj : j < l.length) (y : Rp) : wrL (l.flatMap Rp.cells) (j * 4) y.cells = (l.set j y).flatMap Rp.cells := by
  have hs : l = l.take j ++ l[j] :: l.drop (j + 1) := by rw [← List.drop_eq_getElem_cons hj, List.take_append_drop]
  have hset : l.set j y = l.take j ++ y :: l.drop (j + 1) := by rw [List.set_eq_take_append_cons_drop, if_pos hj]
  have hl : ((l.take j).flatMap Rp.cells).length = j * 4 := by rw [flat_len4]; simp; omega
  rw [hset]
  conv => lhs; rw [hs]
  rw [List.flatMap_append, List.flatMap_append, List.flatMap_cons, List.flatMap_cons]
  generalize (l.take j).flatMap Rp.cells = A at hl
  unfold wrL
  have h1 : (A ++ (l[j].cells ++ (l.drop (j + 1)).flatMap Rp.cells)).take (j * 4) = A := by rw [← hl, List.take_left]
  have h2 : (A ++ (l[j].cells ++ (l.drop (j + 1)).flatMap Rp.cells)).drop (j * 4 + y.cells.length) = (l.drop (j + 1)).flatMap Rp.cells := by
    rw [← hl, ← List.drop_drop, List.drop_left]
    exact List.drop_left' rfl
  rw [h1, h2]
theorem rd_flat4 {l : List Rp} {j : Nat} (hj : j < l.length) : rdL (l.flatMap Rp.cells) (j * 4) 4 = some l[j].cells := by
  unfold rdL
  have : j * 4 + 4 ≤ (l.flatMap Rp.cells).length := by rw [flat_len4]; omega
  rw [if_pos this, flatMap_at (f := Rp.cells) (fun _ => rfl) l j hj]
theorem st_flat4 {H' : Heap} {n c : Nat} {m : List Rp} {j : Nat} (hj : j < m.length) (y : Rp) : stA H' n (j * 4) 4 y.val (.cells true (m.flatMap Rp.cells) c) = some (H'.set n (.cells true ((m.set j y).flatMap Rp.cells) c)) := by
  rw [stA_cells, ← wr_flat4 hj]
  have : j * 4 + 4 ≤ (m.flatMap Rp.cells).length := by rw [flat_len4]; omega
  rw [if_pos ⟨rfl, this, rfl⟩]
  rfl
/-- The end of a piece is moved. -/
theorem st_to4 {H' : Heap} {n c : Nat} {m : List Rp} {j : Nat} (hj : j < m.length) (k : Nat) : stA H' n (j * 4 + 2) 1 (.int .i64 k) (.cells true (m.flatMap Rp.cells) c) = some (H'.set n (.cells true ((m.set j { m[j] with t := k }).flatMap Rp.cells) c)) := by
  rw [stA_cells, ← wr_flat4 hj]
  have hlen : j * 4 + 4 ≤ (m.flatMap Rp.cells).length := by rw [flat_len4]; omega
  rw [if_pos ⟨rfl, by omega, rfl⟩]
  have hd : (m.flatMap Rp.cells).drop (j * 4) = m[j].cells ++ (m.flatMap Rp.cells).drop (j * 4 + 4) := by
    have h1 := rd_flat4 hj
    unfold rdL at h1
    rw [if_pos hlen, Option.some.injEq] at h1
    rw [← h1, ← List.drop_drop, List.take_append_drop]
  have e : wrL (m.flatMap Rp.cells) (j * 4 + 2) (Value.int .i64 k).cells.toList = wrL (m.flatMap Rp.cells) (j * 4) (Rp.cells { m[j] with t := k }) := by
    generalize m.flatMap Rp.cells = L at hd hlen
    have h2 : L.take (j * 4 + 2) = L.take (j * 4) ++ [.int .i64 m[j].b, .int .i64 m[j].f] := by
      rw [List.take_add, hd]; rfl
    have h3 : L.drop (j * 4 + 3) = .int .i64 m[j].g :: L.drop (j * 4 + 4) := by
      have : L.drop (j * 4 + 3) = (L.drop (j * 4)).drop 3 := by rw [List.drop_drop]
      rw [this, hd]; rfl
    show L.take (j * 4 + 2) ++ ([.int .i64 k] ++ L.drop (j * 4 + 2 + 1)) = L.take (j * 4) ++ ([.int .i64 m[j].b, .int .i64 m[j].f, .int .i64 k, .int .i64 m[j].g] ++ L.drop (j * 4 + 4))
    rw [h2, h3]; simp
  rw [e]

end Go.Proofs.YtllkhaabcfnlpaaDoor

/-
  The contract of the reference's function that lists the pieces of a duty.
-/
namespace Go.Proofs.YtllkhaabcfnlpaaDoor
open Go Go.Ab

def spD (D : Dy) (x : Int) : Nat × Nat := (spotsTo D.blocks D.blocks.length)[x.toNat]?.getD (0, 0)
def grpTo (D : Dy) (xs : List Int) : Nat → List Rp
  | 0 => []
  | i + 1 =>
    if 0 < i ∧ xs[i - 1]?.getD 0 = xs[i]?.getD 0 - 1 ∧ ((grpTo D xs i)[(grpTo D xs i).length - 1]?.getD rz).b = (spD D (xs[i]?.getD 0)).1 then (grpTo D xs i).set ((grpTo D xs i).length - 1) { ((grpTo D xs i)[(grpTo D xs i).length - 1]?.getD rz) with t := (spD D (xs[i]?.getD 0)).2 + 1 }
    else grpTo D xs i ++ [⟨(spD D (xs[i]?.getD 0)).1, (spD D (xs[i]?.getD 0)).2, (spD D (xs[i]?.getD 0)).2 + 1, (xs[i]?.getD 0).toNat⟩]

theorem grpTo_pos {D : Dy} {xs : List Int} : ∀ {i : Nat}, 0 < i → 0 < (grpTo D xs i).length
  | i + 1, _ => by
    unfold grpTo
    split
    · rename_i h
      rw [List.length_set]; exact grpTo_pos h.1
    · simp
theorem grpTo_length {D : Dy} {xs : List Int} : ∀ (i : Nat), (grpTo D xs i).length ≤ i
  | 0 => Nat.le_refl _
  | i + 1 => by
    have := grpTo_length (D := D) (xs := xs) i
    unfold grpTo
    split
    · rw [List.length_set]; omega
    · simp; exact this
theorem spD_has {D : Dy} {x : Int} (h0 : 0 ≤ x) (h1 : x.toNat < segsOf D.blocks) : D.has (spD D x).1 (spD D x).2 ∧ D.has (spD D x).1 ((spD D x).2 + 1) := by
  obtain ⟨j, n, hsp, hj, ⟨l, hl1, hl2⟩, _⟩ := spots_at (bs := D.blocks) (i := D.blocks.length) (Nat.le_refl _) (by rw [List.take_length]; exact h1)
  have : spD D x = (j, n) := by simp [spD, hsp]
  rw [this]
  exact ⟨⟨l, hl1, by simp only; omega⟩, ⟨l, hl1, by simp only; omega⟩⟩
theorem grpTo_ok {D : Dy} {xs : List Int} (hb : ∀ x ∈ xs, 0 ≤ x ∧ x.toNat < segsOf D.blocks) : ∀ {i : Nat}, i ≤ xs.length → ∀ y ∈ grpTo D xs i, RpOk D y
  | 0, _, y, hy => by cases hy
  | i + 1, hi, y, hy => by
    have hix : xs[i]?.getD 0 = xs[i] := by simp [(by omega : i < xs.length)]
    have hx := hb xs[i] (List.getElem_mem _)
    have hs := spD_has (D := D) hx.1 hx.2
    unfold grpTo at hy
    split at hy
    · rename_i h
      have hpos := grpTo_pos (D := D) (xs := xs) h.1
      have hq := grpTo_ok hb (i := i) (by omega) _ (List.getElem_mem (h := (by omega : (grpTo D xs i).length - 1 < (grpTo D xs i).length)))
      rcases List.mem_or_eq_of_mem_set hy with hy | rfl
      · exact grpTo_ok hb (by omega) y hy
      · have hg : (grpTo D xs i)[(grpTo D xs i).length - 1]?.getD rz = (grpTo D xs i)[(grpTo D xs i).length - 1] := by
          rw [List.getElem?_eq_getElem (by omega)]; rfl
        rw [hg] at h ⊢
        refine ⟨hq.fst, ?_⟩
        simp only
        rw [h.2.2, hix]; exact hs.2
    · rcases List.mem_append.1 hy with hy | hy
      · exact grpTo_ok hb (by omega) y hy
      · rw [List.mem_singleton] at hy
        subst hy
        rw [hix]
        exact ⟨hs.1, hs.2⟩

theorem pieces30_spec {D : Dy} {b w v : Value} {H : Heap} {xs : List Int} (h : DayAt H b w D) (hT : D.Thin) (hV : Valid D) (hv : IntsAt H v xs) (hb0 : ∀ x ∈ xs, 0 ≤ x ∧ x.toNat < segsOf D.blocks) (h16 : xs.length ≤ 16) :
    AFun Tryd.prog 30 [dayV D b w, v] H (fun r B => RpsAt B r (insSort (rBefore D) (grpTo D xs xs.length)) ∧ Ge H B) := by
  refine AFun.mk ok30 hm (Nat.le_of_ble_eq_true rfl) ?_
  have hb := h.blocks.one
  have hw := h.walk.one
  simp [a30, r30, hb, hw]
  refine floop_intro (fun z => z.d = [] ∧ Ge H z.H ∧ H.next < z.H.next ∧ z.t 1 = v ∧ z.t 2 = .pointer (some ⟨H.next, 0, none⟩) ∧ z.H.get H.next = .cells true (dayV D b w).cells.toList 10 ∧ ∃ i : Nat, i ≤ xs.length ∧ z.t 6 = .int .i64 i ∧ OwnS z.H (H.next + 1) 4 (z.t 5) (grpTo D xs i).length ((grpTo D xs i).flatMap Rp.cells)) (fun z => xs.length - (intOf (z.t 6)).toNat) ?_ ?_
  · exact ⟨rfl, by simp, by simp, by simp, by simp, by simp [Value.cells], 0, by omega, by simp, .inl ⟨by simp, rfl, rfl⟩⟩
  rintro ⟨t, _, A⟩ ⟨rfl, g, hn, t1, t2, kd, i, hi, t6, o5⟩
  dsimp only at g hn t1 t2 kd t6 o5
  simp [Value.cells] at kd
  generalize t5 : t 5 = v5 at o5
  simp [t1, t6, hv.lenV]
  refine fcond_intro (fun hc => ?_) (fun hc => ?_)
  case refine_2 =>
    have : i = xs.length := by simp at hc; omega
    subst this
    have hgl := grpTo_length (D := D) (xs := xs) xs.length
    have hgok := grpTo_ok (D := D) hb0 (Nat.le_refl xs.length)
    generalize grpTo D xs xs.length = l at *
    simp
    refine floop_intro (fun z => z.d = [] ∧ Ge H z.H ∧ H.next < z.H.next ∧ z.t 2 = .pointer (some ⟨H.next, 0, none⟩) ∧ z.H.get H.next = .cells true (dayV D b w).cells.toList 10 ∧ z.t 5 = v5 ∧ ∃ i : Nat, i ≤ l.length ∧ z.t 10 = .int .i64 i ∧ OwnS z.H (H.next + 1) 4 v5 l.length ((insTo (rBefore D) l i).flatMap Rp.cells)) (fun z => l.length - (intOf (z.t 10)).toNat) ?_ ?_
    · exact ⟨rfl, g, hn, by simp [t2], by simp [Value.cells, kd], by simp [t5], 0, by omega, by simp, o5⟩
    clear t1 t2 kd t5 o5 g hn hc t6
    rintro ⟨t, _, A⟩ ⟨rfl, g, hn, t2, kd, t5, i, hi, t10, o5⟩
    dsimp only at g hn t2 kd t5 t10 o5
    simp [t10, t5, o5.slr.lenV]
    refine fcond_intro (fun hc => ?_) (fun hc => ?_)
    case refine_2 =>
      have : i = l.length := by simp at hc; omega
      subst this
      simp [t5]
      refine ⟨⟨?_, ?_⟩, g⟩
      · have := o5.slr
        unfold insSort
        rw [insTo_length]; exact this
      · unfold insSort; rw [insTo_length]; omega
    have hi' : i < l.length := by simpa using hc
    have hil : (insTo (rBefore D) l i).length = l.length := insTo_length _ l i
    simp [t10]
    refine floop_intro (fun z => z.d = [] ∧ Ge H z.H ∧ H.next < z.H.next ∧ z.t 2 = .pointer (some ⟨H.next, 0, none⟩) ∧ z.H.get H.next = .cells true (dayV D b w).cells.toList 10 ∧ z.t 5 = v5 ∧ z.t 10 = .int .i64 i ∧ ∃ j : Nat, j ≤ i ∧ z.t 11 = .int .i64 j ∧ ∃ m : List Rp, m.length = l.length ∧ (∀ x ∈ m, x ∈ l) ∧ sink (rBefore D) m j = sink (rBefore D) (insTo (rBefore D) l i) i ∧ OwnS z.H (H.next + 1) 4 v5 l.length (m.flatMap Rp.cells)) (fun z => (intOf (z.t 11)).toNat) ?_ ?_
    · exact ⟨rfl, g, hn, by simp [t2], by simpa [Value.cells] using kd, by simp [t5], by simp [t10], i, Nat.le_refl _, by simp, insTo (rBefore D) l i, hil, fun x hx => insTo_mem _ l i hx, rfl, o5⟩
    have t10o := t10
    clear t2 kd t5 o5 g hn hc t10
    rintro ⟨t, _, A⟩ ⟨rfl, g, hn, t2, kd, t5, t10, j, hj, t11, m, hml, hmm, hsink, hown⟩
    dsimp only at g hn t2 kd t5 t10 t11 hown
    simp [Value.cells] at kd
    by_cases hj0 : j = 0
    · have hjn2 : ¬ 0 < j := by omega
      have hs0 : OwnS A (H.next + 1) 4 v5 l.length ((insTo (rBefore D) l (i + 1)).flatMap Rp.cells) := by
        rw [insTo, ← hsink, hj0]; exact hown
      simp [t11, hjn2, t10, add_in (x := i) (y := 1) (by omega) (by omega)]
      exact ⟨⟨g.grow _, by omega, t2, by simpa [Value.cells] using kd, t5, i + 1, by omega, by simp, hs0.keep (by simp) fun _ _ => rfl⟩, by rw [t10o]; simp; omega⟩
    obtain ⟨j', rfl⟩ : ∃ j', j = j' + 1 := ⟨j - 1, by omega⟩
    rcases hown with ⟨_, h0, _⟩ | ⟨n, cap, c, hv5, h2, h3, h4, h5, h6, h7⟩
    · omega
    have i1 : islV 4 v5 (.int .i64 ((j' : Int) + 1)) = some (.pointer (some ⟨n, (j' + 1) * 4, none⟩)) := by
      rw [hv5, islV_in (by omega) (by omega)]; simp
    have i0 : islV 4 v5 (.int .i64 (j' : Int)) = some (.pointer (some ⟨n, j' * 4, none⟩)) := by
      rw [hv5, islV_in (by omega) (by omega)]; simp
    have hm1 : j' + 1 < m.length := by omega
    have hm0 : j' < m.length := by omega
    have l1 : ∀ B' : Heap, B'.get n = .cells true (m.flatMap Rp.cells) c → ldA (B'.get n) true 4 ((j' + 1) * 4) = some m[j' + 1].val := fun B' e => by
      rw [e, ldA_agg, rd_flat4 hm1]; rfl
    have l0 : ∀ B' : Heap, B'.get n = .cells true (m.flatMap Rp.cells) c → ldA (B'.get n) true 4 (j' * 4) = some m[j'].val := fun B' e => by
      rw [e, ldA_agg, rd_flat4 hm0]; rfl
    have ok1 := hgok _ (hmm _ (List.getElem_mem hm1))
    have ok0 := hgok _ (hmm _ (List.getElem_mem hm0))
    have hjn2 : (0 : Int) < (j' : Int) + 1 := by omega
    simp [t11, hjn2, t2, kd, t5, i1, i0, l1 A h4, l0 A h4, sub_in (x := (j' : Int) + 1) (y := 1) (by omega) (by omega)]
    refine fcall_fun (before_spec (h.ge (g.grow 15)) ok1.fst ok0.fst) ?_
    rintro _ C ⟨rfl, gC⟩
    have nC := gC.next
    simp at nC
    have h4C : C.get n = .cells true (m.flatMap Rp.cells) c := gC.got (by simp; omega) h4
    have kdC : C.get H.next = _ := gC.got (by simp; omega) kd
    have gHC : Ge H C := (g.grow 15).trans gC
    cases hbf : rBefore D m[j' + 1] m[j']
    · have hs1 : sink (rBefore D) m (j' + 1) = m := by simp [sink, hm1, hm0, hbf]
      simp [hjn2, t10, add_in (x := i) (y := 1) (by omega) (by omega)]
      refine ⟨⟨gHC, by omega, t2, by simpa [Value.cells] using kdC, t5, i + 1, by omega, by simp, ?_⟩, by rw [t10o]; simp; omega⟩
      rw [insTo, ← hsink, hs1]; exact .inr ⟨n, cap, c, hv5, h2, by omega, h4C, h5, h6, h7⟩
    simp [hjn2, t11, t5, i1, i0, l1 C h4C, l0 C h4C, sub_in (x := (j' : Int) + 1) (y := 1) (by omega) (by omega), -stA_cells]
    rw [h4C, st_flat4 hm1]
    simp [i0, t5, -stA_cells]
    rw [st_flat4 (by simp; omega)]
    have hsw : (m.set (j' + 1) m[j']).set j' m[j' + 1] = swapL m j' := (swapL_eq hm1).symm
    rw [hsw]
    simp [t11, sub_in (x := (j' : Int) + 1) (y := 1) (by omega) (by omega)]
    have hne : H.next ≠ n := by omega
    refine ⟨?_, by omega, t2, by simpa [Value.cells, hne] using kdC, t5, t10, j', by omega, rfl, swapL m j', by rw [swapL_length]; exact hml, fun x hx => hmm x (swapL_mem hx), ?_, .inr ⟨n, cap, c, hv5, h2, by simp; omega, by simp, ?_, h6, h7⟩⟩
    · exact ((gHC.grow 18).setNew (n := n) (by omega) _).setNew (n := n) (by omega) _
    · rw [← hsink]; simp [sink, hm1, hm0, hbf]
    · rw [flat_len4, swapL_length, hml]
  have hi' : i < xs.length := by simpa using hc
  obtain ⟨p, e1, e2⟩ := (hv.ge (g.grow 11)).at hi'
  have hx := hb0 _ (List.getElem_mem hi')
  have hix : xs[i]?.getD 0 = xs[i] := by simp [hi']
  have hxi : ((xs[i].toNat : Nat) : Int) = xs[i] := by omega
  simp [t1, t2, t6, kd, e1, e2]
  rw [← hxi]
  refine fcall_fun (spot54_spec (h.ge (g.grow 11)) hT hV hx.2) ?_
  rintro _ A1 ⟨sj, sn, rfl, hsp, g1⟩
  have hsd : spD D xs[i] = (sj, sn) := by simp [spD, hsp]
  have n1 := g1.next
  simp only at n1
  have gA : Ge A A1 := (Ge.more A 11).trans g1
  have o51 := o5.ge gA
  have kd1 := gA.got hn kd
  have hgl := grpTo_length (D := D) (xs := xs) i
  simp [t5, o51.slr.lenV]
  rw [sub_in (by omega) (by omega)]
  simp [t6]
  have hsegs := hV.segs
  have hss := spD_has (D := D) hx.1 hx.2
  rw [hsd] at hss
  have hsn : sn + 1 ≤ 11 := by
    obtain ⟨l, hl, hlt⟩ := hss.2
    have := hV.blen (List.mem_of_getElem? hl)
    simp only at hlt
    omega
  obtain ⟨p2, f1, f2⟩ := (hv.ge ((g.trans gA).grow 24)).at hi'
  have hnew : ∀ (l : List Rp), l ++ [(⟨(spD D (xs[i]?.getD 0)).1, (spD D (xs[i]?.getD 0)).2, (spD D (xs[i]?.getD 0)).2 + 1, (xs[i]?.getD 0).toNat⟩ : Rp)] = l ++ [⟨sj, sn, sn + 1, xs[i].toNat⟩] := fun l => by rw [hix, hsd]
  by_cases hz : i = 0
  · have hzn : ¬ 0 < i := by omega
    have hg1 : grpTo D xs (i + 1) = grpTo D xs i ++ [⟨sj, sn, sn + 1, xs[i].toNat⟩] := by rw [grpTo, if_neg (by omega), hnew]
    simp [hzn, t5, t1, t6, f1, f2, add_in (x := (sn : Int)) (y := 1) (by omega) (by omega)]
    have gB1 := Ge.new (⟨A1.get, A1.next + 24⟩ : Heap) (.cells true [.int .i64 sj, .int .i64 sn, .int .i64 ((sn : Int) + 1), .int .i64 xs[i]] 4)
    refine fapp_ownS (lo := H.next + 1) (xs := [.int .i64 sj, .int .i64 sn, .int .i64 ((sn : Int) + 1), .int .i64 xs[i]]) ((o51.ge (Ge.more A1 24)).ge gB1) (by simp [slCells, rdL]) rfl (by simp) (by omega) (by omega) (by simp) (by omega) (by simp; omega) fun u B k1 k2 k3 k4 => ?_
    have h5n : ∀ m, slName v5 = some m → H.next + 1 ≤ m := fun m hm => (o5.names hm).1
    have gB : Ge H B := ⟨by have := g.next; omega, fun m hm2' => by
      have f0 := g.next
      have f3 : m ≠ A1.next + 24 := by omega
      rw [k4 m (by omega) (fun e => by have := h5n m e; omega)]; simp [f3]
      rw [gA.get m (by omega)]; exact g.get m hm2'⟩
    have kB : B.get H.next = A.get H.next := (k4 H.next (by omega) (fun e => by have := h5n _ e; omega)).trans (by rw [Heap.new_get, if_neg (by simp; omega)]; exact gA.get _ hn)
    have hcell : [Value.int .i64 sj, .int .i64 sn, .int .i64 ((sn : Int) + 1), .int .i64 xs[i]] = (⟨sj, sn, sn + 1, xs[i].toNat⟩ : Rp).cells := by
      simp only [Rp.cells, hxi]; rfl
    simp [t6, add_in (x := i) (y := 1) (by omega) (by omega)]
    refine ⟨⟨gB, by omega, t1, t2, by simpa [Value.cells] using kB.trans kd, i + 1, by omega, by omega, ?_⟩, by omega⟩
    rw [hg1, List.length_append, List.flatMap_append]
    rw [hcell] at k1
    simpa using k1
  have hzn : 0 < i := by omega
  have him : i - 1 < xs.length := by omega
  have himx : xs[i - 1]?.getD 0 = xs[i - 1] := by simp [him]
  obtain ⟨p', e1', e2'⟩ := (hv.ge ((g.trans gA).grow 24)).at him
  have hc1 : ((i - 1 : Nat) : Int) = (i : Int) - 1 := by omega
  rw [hc1] at e1'
  simp [hzn, t1, t6, sub_in (x := (i : Int)) (y := 1) (by omega) (by omega), e1', e2', f1, f2]
  rw [sub_in (by omega) (by omega)]
  simp [hzn]
  by_cases hm2 : xs[i - 1] = xs[i] - 1
  case neg =>
    have hg1 : grpTo D xs (i + 1) = grpTo D xs i ++ [⟨sj, sn, sn + 1, xs[i].toNat⟩] := by
      rw [grpTo, if_neg (fun hh => hm2 (by rw [← himx, ← hix]; exact hh.2.1)), hnew]
    simp [hzn, hm2, t5, t1, t6, f1, f2, add_in (x := (sn : Int)) (y := 1) (by omega) (by omega)]
    have gB1 := Ge.new (⟨A1.get, A1.next + 24⟩ : Heap) (.cells true [.int .i64 sj, .int .i64 sn, .int .i64 ((sn : Int) + 1), .int .i64 xs[i]] 4)
    refine fapp_ownS (lo := H.next + 1) (xs := [.int .i64 sj, .int .i64 sn, .int .i64 ((sn : Int) + 1), .int .i64 xs[i]]) ((o51.ge (Ge.more A1 24)).ge gB1) (by simp [slCells, rdL]) rfl (by simp) (by omega) (by omega) (by simp) (by omega) (by simp; omega) fun u B k1 k2 k3 k4 => ?_
    have h5n : ∀ m, slName v5 = some m → H.next + 1 ≤ m := fun m hm => (o5.names hm).1
    have gB : Ge H B := ⟨by have := g.next; omega, fun m hm2' => by
      have f0 := g.next
      have f3 : m ≠ A1.next + 24 := by omega
      rw [k4 m (by omega) (fun e => by have := h5n m e; omega)]; simp [f3]
      rw [gA.get m (by omega)]; exact g.get m hm2'⟩
    have kB : B.get H.next = A.get H.next := (k4 H.next (by omega) (fun e => by have := h5n _ e; omega)).trans (by rw [Heap.new_get, if_neg (by simp; omega)]; exact gA.get _ hn)
    have hcell : [Value.int .i64 sj, .int .i64 sn, .int .i64 ((sn : Int) + 1), .int .i64 xs[i]] = (⟨sj, sn, sn + 1, xs[i].toNat⟩ : Rp).cells := by
      simp only [Rp.cells, hxi]; rfl
    simp [t6, add_in (x := i) (y := 1) (by omega) (by omega)]
    refine ⟨⟨gB, by omega, t1, t2, by simpa [Value.cells] using kB.trans kd, i + 1, by omega, by omega, ?_⟩, by omega⟩
    rw [hg1, List.length_append, List.flatMap_append]
    rw [hcell] at k1
    simpa using k1
  have hpos := grpTo_pos (D := D) (xs := xs) hzn
  have hgstep : grpTo D xs (i + 1) = if 0 < i ∧ xs[i - 1]?.getD 0 = xs[i]?.getD 0 - 1 ∧ ((grpTo D xs i)[(grpTo D xs i).length - 1]?.getD rz).b = (spD D (xs[i]?.getD 0)).1 then (grpTo D xs i).set ((grpTo D xs i).length - 1) { ((grpTo D xs i)[(grpTo D xs i).length - 1]?.getD rz) with t := (spD D (xs[i]?.getD 0)).2 + 1 } else grpTo D xs i ++ [⟨(spD D (xs[i]?.getD 0)).1, (spD D (xs[i]?.getD 0)).2, (spD D (xs[i]?.getD 0)).2 + 1, (xs[i]?.getD 0).toNat⟩] := rfl
  generalize hout : grpTo D xs i = out at *
  have hlast : out.length - 1 < out.length := by omega
  have hgk : out[out.length - 1]?.getD rz = out[out.length - 1] := by rw [List.getElem?_eq_getElem hlast]; rfl
  rw [hgk, hix, himx, hsd] at hgstep
  rcases o51 with ⟨_, h0, _⟩ | ⟨n, cap, c, hv5, l2, l3, l4, l5, l6, l7⟩
  · omega
  have ik : islV 4 v5 (.int .i64 ((out.length : Int) - 1)) = some (.pointer (some ⟨n, (out.length - 1) * 4, none⟩)) := by
    rw [hv5, islV_in (by omega) (by omega)]
    congr 4; omega
  have lk : (out.flatMap Rp.cells)[(out.length - 1) * 4]? = some (.int .i64 (out[out.length - 1]).b) := by
    have h1 := rd_flat4 hlast
    unfold rdL at h1
    split at h1
    · rw [Option.some.injEq] at h1
      have : (out[out.length - 1].cells)[0]? = some (.int .i64 (out[out.length - 1]).b) := rfl
      rw [← this, ← h1]; simp
    · cases h1
  simp [hzn, hm2, t5, ik, l4, lk]
  by_cases hbj : out[out.length - 1].b = sj
  · have hbi : (out[out.length - 1].b : Int) = sj := by omega
    have hg2 : grpTo D xs (i + 1) = out.set (out.length - 1) { out[out.length - 1] with t := sn + 1 } := by
      rw [hgstep, if_pos ⟨hzn, hm2, hbj⟩]
    have hst : ∀ H' : Heap, stA H' n ((out.length - 1) * 4 + 2) 1 (.int .i64 ((sn : Int) + 1)) (.cells true (out.flatMap Rp.cells) c) = some (H'.set n (.cells true ((out.set (out.length - 1) { out[out.length - 1] with t := sn + 1 }).flatMap Rp.cells) c)) := fun H' => by
      have := st_to4 (H' := H') (n := n) (c := c) hlast (sn + 1)
      push_cast at this
      exact this
    simp [hbi, t5, ik, add_in (x := (sn : Int)) (y := 1) (by omega) (by omega), -stA_cells]
    rw [l4, hst]
    simp [t6, add_in (x := i) (y := 1) (by omega) (by omega)]
    have f0 := g.next
    have gB : Ge H ((⟨A1.get, A1.next + 24⟩ : Heap).set n (.cells true ((out.set (out.length - 1) { out[out.length - 1] with t := sn + 1 }).flatMap Rp.cells) c)) := ((g.trans gA).grow 24).setNew (by omega) _
    have hne : H.next ≠ n := by omega
    refine ⟨⟨gB, by omega, t1, t2, by simpa [hne, Value.cells] using kd1, i + 1, by omega, by omega, ?_⟩, by omega⟩
    rw [hg2, List.length_set]
    refine .inr ⟨n, cap, c, by rw [t5, hv5], l2, by simp; omega, by simp, ?_, l6, l7⟩
    rw [flat_len4, List.length_set]
  · have hg1 : grpTo D xs (i + 1) = out ++ [⟨sj, sn, sn + 1, xs[i].toNat⟩] := by
      rw [hgstep, if_neg (fun hh => hbj hh.2.2)]
    have hbi : ¬ (out[out.length - 1].b : Int) = sj := by omega
    have o51 : OwnS A1 (H.next + 1) 4 v5 out.length (out.flatMap Rp.cells) := .inr ⟨n, cap, c, hv5, l2, l3, l4, l5, l6, l7⟩
    simp [hbi, t5, t1, t6, f1, f2, add_in (x := (sn : Int)) (y := 1) (by omega) (by omega)]
    have gB1 := Ge.new (⟨A1.get, A1.next + 24⟩ : Heap) (.cells true [.int .i64 sj, .int .i64 sn, .int .i64 ((sn : Int) + 1), .int .i64 xs[i]] 4)
    refine fapp_ownS (lo := H.next + 1) (xs := [.int .i64 sj, .int .i64 sn, .int .i64 ((sn : Int) + 1), .int .i64 xs[i]]) ((o51.ge (Ge.more A1 24)).ge gB1) (by simp [slCells, rdL]) rfl (by simp) (by omega) (by omega) (by simp) (by omega) (by simp; omega) fun u B k1 k2 k3 k4 => ?_
    have h5n : ∀ m, slName v5 = some m → H.next + 1 ≤ m := fun m hm => (o5.names hm).1
    have gB : Ge H B := ⟨by have := g.next; omega, fun m hm2' => by
      have f0 := g.next
      have f3 : m ≠ A1.next + 24 := by omega
      rw [k4 m (by omega) (fun e => by have := h5n m e; omega)]; simp [f3]
      rw [gA.get m (by omega)]; exact g.get m hm2'⟩
    have kB : B.get H.next = A.get H.next := (k4 H.next (by omega) (fun e => by have := h5n _ e; omega)).trans (by rw [Heap.new_get, if_neg (by simp; omega)]; exact gA.get _ hn)
    have hcell : [Value.int .i64 sj, .int .i64 sn, .int .i64 ((sn : Int) + 1), .int .i64 xs[i]] = (⟨sj, sn, sn + 1, xs[i].toNat⟩ : Rp).cells := by
      simp only [Rp.cells, hxi]; rfl
    simp [t6, add_in (x := i) (y := 1) (by omega) (by omega)]
    refine ⟨⟨gB, by omega, t1, t2, by simpa [Value.cells] using kB.trans kd, i + 1, by omega, by omega, ?_⟩, by omega⟩
    rw [hg1, List.length_append, List.flatMap_append]
    rw [hcell] at k1
    simpa using k1

end Go.Proofs.YtllkhaabcfnlpaaDoor

/-
  The pieces of the program and those of the reference are the same.
-/
namespace Go.Proofs.YtllkhaabcfnlpaaDoor
open Go Go.Ab

/-- A segment, as a piece alone. -/
def segP (D : Dy) (x : Nat) : Pc := ⟨2 ^ x, (spD D x).1, (spD D x).2, (spD D x).1, (spD D x).2 + 1⟩
theorem segP_at {D : Dy} {x : Nat} (hx : x < (segPs D).length) : (segPs D)[x] = segP D x := by
  have h2 : x < (spotsTo D.blocks D.blocks.length).length := by rw [segPs, alone_length] at hx; exact hx
  have : spD D (x : Int) = (spotsTo D.blocks D.blocks.length)[x] := by simp [spD, h2]
  unfold segP
  rw [this]
  simp [segPs, alone]

/-- Are a piece's end and a segment's beginning the same? -/
def joins (D : Dy) (fo : Pc) (x : Nat) : Bool := decide (fo.e = (spD D x).1) && decide (fo.t = (spD D x).2)
def ext (D : Dy) (fo : Pc) (x : Nat) : Pc := ⟨fo.s ||| 2 ^ x, fo.b, fo.f, (spD D x).1, (spD D x).2 + 1⟩
/-- The search along the segments of a duty. -/
def goL (D : Dy) : List Nat → Pc → Pc
  | [], fo => fo
  | x :: l, fo => if fo = fz then goL D l (segP D x) else if joins D fo x then goL D l (ext D fo x) else fo
def restL (D : Dy) : List Nat → Pc → List Nat
  | [], _ => []
  | x :: l, fo => if joins D fo x then restL D l (ext D fo x) else x :: l

/-- The segments from i on. -/
def bitsFrom (n m i : Nat) : List Nat := (List.range' i (n - i)).filter fun x => m.testBit x
theorem bitsFrom_end {n m i : Nat} (h : n ≤ i) : bitsFrom n m i = [] := by
  unfold bitsFrom
  rw [Nat.sub_eq_zero_of_le h]; rfl
theorem bitsFrom_step {n m i : Nat} (h : i < n) : bitsFrom n m i = if m.testBit i then i :: bitsFrom n m (i + 1) else bitsFrom n m (i + 1) := by
  unfold bitsFrom
  have : n - i = (n - (i + 1)) + 1 := by omega
  rw [this, List.range'_succ, List.filter_cons]

theorem firstGo_goL {D : Dy} {m : Nat} : ∀ (k i : Nat) (fo : Pc), i + k = (segPs D).length → firstGo m ((segPs D).drop i) i fo = goL D (bitsFrom (segPs D).length m i) fo
  | 0, i, fo, h => by
    rw [List.drop_of_length_le (by omega), bitsFrom_end (by omega)]; rfl
  | k + 1, i, fo, h => by
    have hi : i < (segPs D).length := by omega
    rw [List.drop_eq_getElem_cons hi, firstGo_cons, bitsFrom_step hi, segP_at hi]
    have ih := fun fo => firstGo_goL (D := D) (m := m) k (i + 1) fo (by omega)
    cases hb : m.testBit i
    · have : stepF m i fo (segP D i) = some fo := by simp [stepF, hb]
      rw [this]; simp only [ih]; rfl
    · simp only [if_true]
      by_cases hz : fo = fz
      · have : stepF m i fo (segP D i) = some (segP D i) := by simp [stepF, hb, hz]
        rw [this]; simp only [ih]
        rw [goL, if_pos hz]
      · cases hj : joins D fo i
        · have : stepF m i fo (segP D i) = none := by
            simp [joins] at hj
            simp [stepF, hb, hz, segP]
            exact hj
          rw [this, goL, if_neg hz, hj]; rfl
        · have : stepF m i fo (segP D i) = some (ext D fo i) := by
            simp [joins] at hj
            simp [stepF, hb, hz, segP, hj.1, hj.2, ext]
          rw [this]; simp only [ih]
          rw [goL, if_neg hz, hj]; rfl

/-- The pieces of a list of segments. -/
def segs : Nat → Dy → List Nat → List Pc
  | 0, _, _ => []
  | _ + 1, _, [] => []
  | k + 1, D, x :: l => goL D l (segP D x) :: segs k D (restL D l (segP D x))

theorem goL_start {D : Dy} {x : Nat} {l : List Nat} : goL D (x :: l) fz = goL D l (segP D x) := by rw [goL, if_pos rfl]
theorem nz_segP {D : Dy} {x : Nat} : segP D x ≠ fz := fun e => by have := congrArg Pc.s e; simp [segP, fz] at this
theorem or_nz {a b : Nat} (h : a ≠ 0) : a ||| b ≠ 0 := fun e => h (by
  apply Nat.eq_of_testBit_eq
  intro q
  have : (a ||| b).testBit q = false := by rw [e]; simp
  rw [Nat.testBit_or] at this
  simp at this ⊢
  exact this.1)

/-- What the search takes, and what it leaves. -/
theorem goL_rest {D : Dy} : ∀ (l : List Nat) (fo : Pc), fo.s ≠ 0 → ∃ pre, l = pre ++ restL D l fo ∧ ∀ q, (goL D l fo).s.testBit q = (fo.s.testBit q || decide (q ∈ pre))
  | [], fo, _ => ⟨[], rfl, fun q => by simp [goL]⟩
  | x :: l, fo, h => by
    have hz : fo ≠ fz := fun e => h (by rw [e]; rfl)
    cases hj : joins D fo x
    · refine ⟨[], by simp [restL, hj], fun q => ?_⟩
      rw [goL, if_neg hz, hj]; simp
    · obtain ⟨pre, h1, h2⟩ := goL_rest l (ext D fo x) (or_nz h)
      refine ⟨x :: pre, ?_, fun q => ?_⟩
      · rw [restL, hj]; simp only [if_true, List.cons_append]; rw [← h1]
      · rw [goL, if_neg hz, hj]
        simp only [if_true]
        rw [h2 q]
        simp only [ext, Nat.testBit_or, Nat.testBit_two_pow]
        by_cases e : q = x
        · subst e; simp
        · have e2 : ¬ x = q := fun h => e h.symm
          simp [e, e2]

theorem rise_ext : ∀ {l1 l2 : List Nat}, l1.Pairwise (· < ·) → l2.Pairwise (· < ·) → (∀ x, x ∈ l1 ↔ x ∈ l2) → l1 = l2
  | [], [], _, _, _ => rfl
  | [], y :: l2, _, _, h => by have := (h y).2 (by simp); cases this
  | x :: l1, [], _, _, h => by have := (h x).1 (by simp); cases this
  | x :: l1, y :: l2, h1, h2, h => by
    rw [List.pairwise_cons] at h1 h2
    have hxy : x = y := by
      have a := (h x).1 (by simp)
      have b := (h y).2 (by simp)
      rcases List.mem_cons.1 a with e | a
      · exact e
      · rcases List.mem_cons.1 b with e | b
        · exact e.symm
        · have := h2.1 x a; have := h1.1 y b; omega
    subst hxy
    congr 1
    refine rise_ext h1.2 h2.2 fun z => ?_
    have := h z
    simp only [List.mem_cons] at this
    constructor
    · intro hz
      have hlt := h1.1 z hz
      rcases this.1 (.inr hz) with e | e
      · omega
      · exact e
    · intro hz
      have hlt := h2.1 z hz
      rcases this.2 (.inr hz) with e | e
      · omega
      · exact e
theorem bitsFrom_rise {n m : Nat} : (bitsFrom n m 0).Pairwise (· < ·) := by
  unfold bitsFrom
  exact List.Pairwise.filter _ List.pairwise_lt_range'
theorem bitsFrom_mem {n m x : Nat} : x ∈ bitsFrom n m 0 ↔ x < n ∧ m.testBit x = true := by
  unfold bitsFrom
  rw [List.mem_filter, List.mem_range']
  constructor
  · rintro ⟨⟨i, hi, rfl⟩, h⟩; exact ⟨by omega, h⟩
  · rintro ⟨h1, h2⟩; exact ⟨⟨x, by omega, by omega⟩, h2⟩

theorem runsK_segs {D : Dy} : ∀ (k m : Nat), m < 2 ^ (segPs D).length → runsK D k m = segs k D (bitsFrom (segPs D).length m 0)
  | 0, _, _ => rfl
  | k + 1, m, hm => by
    unfold runsK
    have hf := firstGo_goL (D := D) (m := m) (segPs D).length 0 fz (by omega)
    rw [List.drop_zero] at hf
    have hmem := fun x => @bitsFrom_mem (segPs D).length m x
    have hrise := @bitsFrom_rise (segPs D).length m
    generalize hl : bitsFrom (segPs D).length m 0 = l at hf hmem hrise
    by_cases h0 : m = 0
    · rw [if_pos h0]
      cases l with
      | nil => rfl
      | cons x l =>
        have := (hmem x).1 (by simp)
        rw [h0] at this; simp at this
    · rw [if_neg h0]
      cases l with
      | nil =>
        exfalso
        obtain ⟨j, hj⟩ := Nat.exists_testBit_of_ne_zero h0
        have hjn : j < (segPs D).length := by
          apply Decidable.byContradiction
          intro hn
          have : m.testBit j = false := Nat.testBit_lt_two_pow (Nat.lt_of_lt_of_le hm (Nat.pow_le_pow_right (by omega) (by omega)))
          rw [this] at hj; cases hj
        have := (hmem j).2 ⟨hjn, hj⟩
        cases this
      | cons x l =>
        rw [goL_start] at hf
        rw [hf]
        show _ = goL D l (segP D x) :: segs k D (restL D l (segP D x))
        congr 1
        obtain ⟨pre, h1, h2⟩ := goL_rest (D := D) l (segP D x) (by simp [segP])
        have hless : diffN m (goL D l (segP D x)).s < 2 ^ (segPs D).length := diff_lt hm
        rw [runsK_segs k _ hless]
        congr 1
        refine rise_ext bitsFrom_rise ?_ fun z => ?_
        · rw [List.pairwise_cons] at hrise
          rw [h1] at hrise
          exact (List.pairwise_append.1 hrise.2).2.1
        · rw [bitsFrom_mem, testBit_diff, h2 z]
          have hz := hmem z
          rw [List.pairwise_cons] at hrise
          rw [h1, List.pairwise_append] at hrise
          rw [h1] at hz
          simp only [List.mem_cons, List.mem_append] at hz
          simp only [segP, Nat.testBit_two_pow]
          constructor
          · rintro ⟨a, b⟩
            simp only [Bool.and_eq_true, Bool.not_eq_true', Bool.or_eq_false_iff, decide_eq_false_iff_not] at b
            rcases hz.2 ⟨a, b.1⟩ with e | e | e
            · exact absurd e.symm b.2.1
            · exact absurd e b.2.2
            · exact e
          · intro e
            have hb := hz.1 (.inr (.inr e))
            refine ⟨hb.1, ?_⟩
            simp only [Bool.and_eq_true, Bool.not_eq_true', Bool.or_eq_false_iff, decide_eq_false_iff_not]
            refine ⟨hb.2, fun e2 => ?_, fun e2 => ?_⟩
            · have := hrise.1 z (List.mem_append.2 (.inr e)); omega
            · have := hrise.2.2.2 z e2 z e; omega

end Go.Proofs.YtllkhaabcfnlpaaDoor

/-
  The reference's pieces are the program's, and are sorted alike.
-/
namespace Go.Proofs.YtllkhaabcfnlpaaDoor
open Go Go.Ab

def newR (D : Dy) (x : Nat) : Rp := ⟨(spD D x).1, (spD D x).2, (spD D x).2 + 1, x⟩
def toR (p : Pc) (g : Nat) : Rp := ⟨p.b, p.f, p.t, g⟩
def joinR (D : Dy) (cur : Rp) (prev y : Nat) : Bool := decide (prev + 1 = y) && decide (cur.b = (spD D y).1)
def grpF (D : Dy) : Rp → Nat → List Nat → List Rp
  | cur, _, [] => [cur]
  | cur, prev, y :: l => if joinR D cur prev y then grpF D { cur with t := (spD D y).2 + 1 } y l else cur :: grpF D (newR D y) y l
/-- Pieces with their first segments. -/
def segsG : Nat → Dy → List Nat → List (Pc × Nat)
  | 0, _, _ => []
  | _ + 1, _, [] => []
  | k + 1, D, x :: l => (goL D l (segP D x), x) :: segsG k D (restL D l (segP D x))

theorem segsG_fst {D : Dy} : ∀ (k : Nat) (l : List Nat), (segsG k D l).map Prod.fst = segs k D l
  | 0, _ => rfl
  | _ + 1, [] => rfl
  | k + 1, x :: l => by simp only [segsG, segs, List.map_cons, segsG_fst k]

theorem sp_next {D : Dy} {x y : Nat} (hx : x < segsOf D.blocks) (hy : y < segsOf D.blocks) (hb : (spD D x).1 = (spD D y).1) : x + 1 = y ↔ (spD D x).2 + 1 = (spD D y).2 := by
  obtain ⟨j, n, h1, _, _, h4⟩ := spots_at (bs := D.blocks) (i := D.blocks.length) (Nat.le_refl _) (x := x) (by rw [List.take_length]; exact hx)
  obtain ⟨j', n', h1', _, _, h4'⟩ := spots_at (bs := D.blocks) (i := D.blocks.length) (Nat.le_refl _) (x := y) (by rw [List.take_length]; exact hy)
  have e1 : spD D x = (j, n) := by simp [spD, h1]
  have e2 : spD D y = (j', n') := by simp [spD, h1']
  rw [e1, e2] at hb ⊢
  simp only at hb ⊢
  subst hb
  omega

/-- How a piece and the reference's piece hang together. -/
structure Alike (D : Dy) (fo : Pc) (cur : Rp) (prev : Nat) : Prop where
  b : fo.b = cur.b
  f : fo.f = cur.f
  t : fo.t = cur.t
  e : fo.e = cur.b
  eb : cur.b = (spD D prev).1
  et : cur.t = (spD D prev).2 + 1
  nz : fo.s ≠ 0

theorem Alike.new {D : Dy} {x : Nat} : Alike D (segP D x) (newR D x) x := ⟨rfl, rfl, rfl, rfl, rfl, rfl, by simp [segP]⟩
theorem Alike.join {D : Dy} {fo : Pc} {cur : Rp} {x y : Nat} (h : Alike D fo cur x) (hx : x < segsOf D.blocks) (hy : y < segsOf D.blocks) : joinR D cur x y = joins D fo y := by
  unfold joinR joins
  rw [h.e]
  by_cases hb : cur.b = (spD D y).1
  · have := sp_next hx hy (by rw [← h.eb]; exact hb)
    rw [h.t, h.et]
    simp [hb, this]
  · simp [hb]

theorem grpF_segs {D : Dy} : ∀ (l : List Nat) (fo : Pc) (cur : Rp) (prev k : Nat), Alike D fo cur prev → prev < segsOf D.blocks → (∀ y ∈ l, y < segsOf D.blocks) → l.length ≤ k →
    grpF D cur prev l = toR (goL D l fo) cur.g :: (segsG k D (restL D l fo)).map fun z => toR z.1 z.2
  | [], fo, cur, prev, k, h, _, _, _ => by
    have hs : segsG k D (restL D [] fo) = [] := by cases k <;> rfl
    rw [hs]
    simp [grpF, goL, toR, h.b, h.f, h.t]
  | y :: l, fo, cur, prev, k, h, hp, hl, hk => by
    have hy := hl y (by simp)
    have hj := h.join hp hy
    have hz : fo ≠ fz := fun e => h.nz (by rw [e]; rfl)
    unfold grpF
    rw [hj]
    cases hjo : joins D fo y
    · rw [goL, if_neg hz, hjo]
      simp only [if_false, Bool.false_eq_true]
      have hr : restL D (y :: l) fo = y :: l := by simp [restL, hjo]
      rw [hr]
      cases k with
      | zero => simp at hk
      | succ k =>
        have ih := grpF_segs l (segP D y) (newR D y) y k Alike.new hy (fun z hz => hl z (by simp [hz])) (by simpa using hk)
        rw [ih]
        simp only [segsG, List.map_cons]
        congr 1
        simp [toR, h.b, h.f, h.t]
    · rw [goL, if_neg hz, hjo]
      simp only [if_true]
      have hr : restL D (y :: l) fo = restL D l (ext D fo y) := by simp [restL, hjo]
      rw [hr]
      have hjb : fo.e = (spD D y).1 ∧ fo.t = (spD D y).2 := by simpa [joins] using hjo
      have ha : Alike D (ext D fo y) { cur with t := (spD D y).2 + 1 } y := ⟨h.b, h.f, rfl, by simp only [ext]; rw [← hjb.1, h.e], by simp only; rw [← h.e, hjb.1], rfl, or_nz h.nz⟩
      exact grpF_segs l (ext D fo y) _ y k ha hy (fun z hz => hl z (by simp [hz])) (by simp at hk; omega)

/-- The scan by places, and along the list. -/
theorem grpTo_grpF {D : Dy} {ns : List Nat} : ∀ (k i : Nat), i + k = ns.length → 0 < i → ∀ (pre : List Rp) (cur : Rp), grpTo D (ns.map Int.ofNat) i = pre ++ [cur] → grpTo D (ns.map Int.ofNat) ns.length = pre ++ grpF D cur (ns[i - 1]?.getD 0) (ns.drop i)
  | 0, i, h, _, pre, cur, hg => by
    have : i = ns.length := by omega
    subst this
    rw [hg, List.drop_of_length_le (Nat.le_refl _)]; rfl
  | k + 1, i, h, h0, pre, cur, hg => by
    have hi : i < ns.length := by omega
    have hx : (ns.map Int.ofNat)[i]?.getD 0 = (ns[i] : Int) := by simp [hi]
    have hp : (ns.map Int.ofNat)[i - 1]?.getD 0 = ((ns[i - 1]'(by omega) : Nat) : Int) := by simp [(by omega : i - 1 < ns.length)]
    have hpn : ns[i - 1]?.getD 0 = ns[i - 1]'(by omega) := by simp [(by omega : i - 1 < ns.length)]
    rw [List.drop_eq_getElem_cons hi, hpn]
    have hlast : (pre ++ [cur])[(pre ++ [cur]).length - 1]?.getD rz = cur := by simp
    have hstep : grpTo D (ns.map Int.ofNat) (i + 1) = if joinR D cur (ns[i - 1]'(by omega)) ns[i] then pre ++ [{ cur with t := (spD D ns[i]).2 + 1 }] else (pre ++ [cur]) ++ [newR D ns[i]] := by
      show (if 0 < i ∧ _ ∧ _ then _ else _) = _
      rw [hg, hx, hp, hlast]
      by_cases hc : ns[i - 1]'(by omega) + 1 = ns[i] ∧ cur.b = (spD D ns[i]).1
      · have c1 : joinR D cur (ns[i - 1]'(by omega)) ns[i] = true := by simp [joinR, hc.1, hc.2]
        rw [c1, if_pos ⟨h0, by omega, hc.2⟩]
        simp
      · have c1 : joinR D cur (ns[i - 1]'(by omega)) ns[i] = false := by
          simp only [joinR, Bool.and_eq_false_iff, decide_eq_false_iff_not]
          by_cases e : ns[i - 1]'(by omega) + 1 = ns[i]
          · right; exact fun e2 => hc ⟨e, e2⟩
          · left; exact e
        rw [c1, if_neg (fun hh => hc ⟨by omega, hh.2.2⟩)]
        simp [newR]
    have hin : ns[i + 1 - 1]?.getD 0 = ns[i] := by simp [hi]
    unfold grpF
    cases hj : joinR D cur (ns[i - 1]'(by omega)) ns[i]
    · rw [hj] at hstep
      simp only [Bool.false_eq_true, if_false] at hstep ⊢
      have := grpTo_grpF k (i + 1) (by omega) (by omega) (pre ++ [cur]) (newR D ns[i]) hstep
      rw [this, hin, List.append_assoc]; rfl
    · rw [hj] at hstep
      simp only [if_true] at hstep ⊢
      have := grpTo_grpF k (i + 1) (by omega) (by omega) pre _ hstep
      rw [this, hin]

end Go.Proofs.YtllkhaabcfnlpaaDoor

/-
  Both sort alike; what the program asks is what the reference asks.
-/
namespace Go.Proofs.YtllkhaabcfnlpaaDoor
open Go Go.Ab

section
variable {α β : Type}
theorem swapL_map (f : α → β) (l : List α) (j : Nat) : swapL (l.map f) j = (swapL l j).map f := by
  unfold swapL
  rw [List.getElem?_map, List.getElem?_map]
  cases l[j]? <;> cases l[j + 1]? <;> simp [List.map_set]
theorem sink_map (f : α → β) (lt : β → β → Bool) : ∀ (j : Nat) (l : List α), sink lt (l.map f) j = (sink (fun x y => lt (f x) (f y)) l j).map f
  | 0, _ => rfl
  | j + 1, l => by
    unfold sink
    rw [List.getElem?_map, List.getElem?_map]
    cases h1 : l[j]? with
    | none => simp
    | some x => cases h2 : l[j + 1]? with
      | none => simp
      | some y =>
        simp only [Option.map_some]
        split
        · rw [swapL_map, sink_map f lt j]
        · rfl
theorem insSort_map (f : α → β) (lt : β → β → Bool) (l : List α) : insSort lt (l.map f) = (insSort (fun x y => lt (f x) (f y)) l).map f := by
  unfold insSort
  rw [List.length_map]
  generalize l.length = n
  induction n with
  | zero => rfl
  | succ n ih => rw [insTo, ih, sink_map]; rfl

/-- Where the one that sinks is asked alike. -/
theorem sink_congr (lt lt' : α → α → Bool) : ∀ (j : Nat) (l : List α) (hj : j < l.length), (∀ k (h : k < j), lt l[j] (l[k]'(by omega)) = lt' l[j] (l[k]'(by omega))) → sink lt l j = sink lt' l j
  | 0, _, _, _ => rfl
  | j + 1, l, hj, h => by
    have hj0 : j < l.length := by omega
    unfold sink
    simp only [hj0, hj, List.getElem?_eq_getElem]
    rw [h j (by omega)]
    split
    · have hs : swapL l j = (l.set (j + 1) l[j]).set j l[j + 1] := swapL_eq hj
      refine sink_congr lt lt' j (swapL l j) (by rw [swapL_length]; omega) fun k hk => ?_
      have e1 : (swapL l j)[j]'(by rw [swapL_length]; omega) = l[j + 1] := by simp only [hs]; simp
      have e2 : (swapL l j)[k]'(by rw [swapL_length]; omega) = l[k] := by
        simp only [hs]
        rw [List.getElem_set_ne (by omega), List.getElem_set_ne (by omega)]
      rw [e1, e2]
      exact h k (by omega)
    · rfl
/-- Those behind stay. -/
theorem sink_stay (lt : α → α → Bool) : ∀ (j : Nat) (l : List α) (k : Nat), j < k → (sink lt l j)[k]? = l[k]?
  | 0, _, _, _ => rfl
  | j + 1, l, k, hk => by
    unfold sink
    split
    · split
      · rename_i x y h1 h2 _
        rw [sink_stay lt j _ k (by omega)]
        unfold swapL
        rw [h1, h2]
        simp only
        rw [List.getElem?_set_ne (by omega), List.getElem?_set_ne (by omega)]
      · rfl
    · rfl
theorem insTo_stay (lt : α → α → Bool) (l : List α) : ∀ (i k : Nat), i ≤ k → (insTo lt l i)[k]? = l[k]?
  | 0, _, _ => rfl
  | i + 1, k, hk => by rw [insTo, sink_stay lt i _ k (by omega), insTo_stay lt l i k (by omega)]
/-- Those before come from before. -/
theorem sink_from (lt : α → α → Bool) : ∀ (j : Nat) (l : List α) (k : Nat), k ≤ j → ∀ x, (sink lt l j)[k]? = some x → ∃ q, q ≤ j ∧ l[q]? = some x
  | 0, l, k, hk, x, h => ⟨k, hk, h⟩
  | j + 1, l, k, hk, x, h => by
    unfold sink at h
    split at h
    · rename_i a b h1 h2
      split at h
      · by_cases hkj : k = j + 1
        · subst hkj
          rw [sink_stay lt j _ (j + 1) (by omega)] at h
          have hj1 : j + 1 < l.length := (List.getElem?_eq_some_iff.1 h2).1
          unfold swapL at h
          rw [h1, h2] at h
          simp only at h
          rw [List.getElem?_set_ne (by omega), List.getElem?_set_self (by omega)] at h
          cases h
          exact ⟨j, by omega, h1⟩
        · obtain ⟨q, hq, hx⟩ := sink_from lt j _ k (by omega) x h
          unfold swapL at hx
          rw [h1, h2] at hx
          simp only at hx
          have hj1 : j + 1 < l.length := (List.getElem?_eq_some_iff.1 h2).1
          by_cases hqj : q = j
          · subst hqj
            rw [List.getElem?_set_self (by simp; omega)] at hx
            cases hx
            exact ⟨q + 1, by omega, h2⟩
          · rw [List.getElem?_set_ne (by omega), List.getElem?_set_ne (by omega)] at hx
            exact ⟨q, by omega, hx⟩
      · exact ⟨k, hk, h⟩
    · exact ⟨k, hk, h⟩
theorem insTo_from (lt : α → α → Bool) (l : List α) : ∀ (i k : Nat), k < i → ∀ x, (insTo lt l i)[k]? = some x → ∃ q, q < i ∧ l[q]? = some x
  | i + 1, k, hk, x, h => by
    rw [insTo] at h
    obtain ⟨q, hq, hx⟩ := sink_from lt i _ k (by omega) x h
    by_cases hqi : q < i
    · obtain ⟨q', h1, h2⟩ := insTo_from lt l i q hqi x hx
      exact ⟨q', by omega, h2⟩
    · have : q = i := by omega
      subst this
      rw [insTo_stay lt l q q (Nat.le_refl _)] at hx
      exact ⟨q, by omega, hx⟩

theorem insSort_congr (lt lt' : α → α → Bool) (l : List α) (h : ∀ i k (hi : i < l.length) (hk : k < i), lt l[i] (l[k]'(by omega)) = lt' l[i] (l[k]'(by omega))) : insSort lt l = insSort lt' l := by
  unfold insSort
  have : ∀ i, i ≤ l.length → insTo lt l i = insTo lt' l i := fun i => by
    induction i with
    | zero => intro _; rfl
    | succ i ih =>
      intro hi
      rw [insTo, insTo, ← ih (by omega)]
      have hlen := insTo_length lt l i
      refine sink_congr lt lt' i _ (by omega) fun k hk => ?_
      have e1 : (insTo lt l i)[i]'(by omega) = l[i] := by
        have := insTo_stay lt l i i (Nat.le_refl _)
        rw [List.getElem?_eq_getElem (by omega), List.getElem?_eq_getElem (by omega)] at this
        exact Option.some.inj this
      obtain ⟨q, hq, hx⟩ := insTo_from lt l i k hk ((insTo lt l i)[k]'(by omega)) (List.getElem?_eq_getElem (by omega))
      rw [List.getElem?_eq_getElem (by omega)] at hx
      rw [e1, ← Option.some.inj hx]
      exact h i q (by omega) hq
  exact this _ (Nat.le_refl _)
end

theorem restL_sub {D : Dy} : ∀ (l : List Nat) (fo : Pc), (restL D l fo).Sublist l
  | [], _ => List.Sublist.refl _
  | x :: l, fo => by
    unfold restL
    split
    · exact (restL_sub l _).cons x
    · exact List.Sublist.refl _
theorem segsG_mem {D : Dy} : ∀ (k : Nat) (l : List Nat), ∀ z ∈ segsG k D l, z.2 ∈ l
  | 0, _, z, h => by cases h
  | _ + 1, [], z, h => by cases h
  | k + 1, x :: l, z, h => by
    rcases List.mem_cons.1 h with rfl | h
    · simp
    · exact List.mem_cons_of_mem _ ((restL_sub l _).subset (segsG_mem k _ z h))
theorem segsG_rise {D : Dy} : ∀ (k : Nat) (l : List Nat), l.Pairwise (· < ·) → (segsG k D l).Pairwise fun a b => a.2 < b.2
  | 0, _, _ => List.Pairwise.nil
  | _ + 1, [], _ => List.Pairwise.nil
  | k + 1, x :: l, h => by
    rw [List.pairwise_cons] at h
    simp only [segsG]
    rw [List.pairwise_cons]
    exact ⟨fun z hz => h.1 _ ((restL_sub l _).subset (segsG_mem k _ z hz)), segsG_rise k _ (h.2.sublist (restL_sub l _))⟩

end Go.Proofs.YtllkhaabcfnlpaaDoor
