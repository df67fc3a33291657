/-
  Joined texts of a calculus of abstract memory, of the program's code in it, and of contracts.
-/
import Derived.Test.YtjbbcpeidnkjlaaDoorJ10
namespace Go.Proofs.YtjbbcpeidnkjlaaDoor
open Go Go.Ab

abbrev lawV (D : Dy) : Value := .agg #[.int .i64 D.law.piece, .int .i64 D.law.drive, .int .i64 D.law.spread, .int .i64 D.law.brk, .int .i64 D.law.on, .int .i64 D.law.off, .int .i64 D.law.least, .int .i64 D.law.pieces]
abbrev shiftV (dr sp : Int) (vB vL vR : Value) : Value := .agg #[.int .i64 dr, .int .i64 sp, vB, .bool false, vL, vR]
structure ShAt (H : Heap) (vB vL vR : Value) (bl ll rl : List Int) : Prop where
  b : IntsAt H vB bl
  l : IntsAt H vL ll
  r : IntsAt H vR rl
theorem ShAt.ge {H H' : Heap} {vB vL vR : Value} {bl ll rl : List Int} (h : ShAt H vB vL vR bl ll rl) (g : Ge H H') : ShAt H' vB vL vR bl ll rl := ⟨h.b.ge g, h.l.ge g, h.r.ge g⟩

theorem ShAt.ob {H : Heap} {vB vL vR : Value} {bl ll rl : List Int} (h : ShAt H vB vL vR bl ll rl) : one vB = true := SlR.one h.b.1
theorem ShAt.ol {H : Heap} {vB vL vR : Value} {bl ll rl : List Int} (h : ShAt H vB vL vR bl ll rl) : one vL = true := SlR.one h.l.1
theorem ShAt.or {H : Heap} {vB vL vR : Value} {bl ll rl : List Int} (h : ShAt H vB vL vR bl ll rl) : one vR = true := SlR.one h.r.1

theorem greatest_spec {H : Heap} {v : Value} {xs : List Int} (hv : IntsAt H v xs) : AFun Tryd.prog 91 [v] H (fun r B => r = .int .i64 (xs.foldl max 0) ∧ B = H) := by
  refine AFun.mk ok91 hm (Nat.le_of_ble_eq_true rfl) ?_
  have h62 := hv.2
  simp [a91, r91, hv.lenV]
  refine floop_intro (fun s => s.d = [] ∧ s.H = H ∧ s.t 6 = v ∧ s.t 7 = .int .i64 xs.length ∧ ∃ i : Nat, i ≤ xs.length ∧ s.t 8 = .int .i64 i ∧ s.t 3 = .int .i64 ((xs.take i).foldl max 0)) (fun s => xs.length - (intOf (s.t 8)).toNat) ?_ ?_
  · exact ⟨rfl, rfl, by simp, by simp, 0, by simp, by simp, by simp⟩
  · rintro ⟨t, _, _⟩ ⟨rfl, rfl, h6, h7, i, hi, h8, h3⟩
    dsimp only at h6 h7 h8 h3 hv
    simp [h7, h8]
    refine fcond_intro (fun hc => ?_) (fun hc => ?_)
    · have hi' : i < xs.length := by simpa using hc
      obtain ⟨p, e1, e2⟩ := hv.at hi'
      simp [h6, h8, h3, e1, e2]
      rw [aval_max (k := .i64) (m := (xs.take i).foldl max 0) (n := xs[i]) (by simp) (by simp) (by decide) (by decide)]
      simp [h8, add_in (x := i) (y := 1) (by omega) (by omega)]
      refine ⟨⟨h6, h7, i + 1, by omega, by omega, ?_⟩, by omega⟩
      rw [List.take_succ_eq_append_getElem hi', List.foldl_append]; simp
    · have : i = xs.length := by simp at hc; omega
      subst this
      simp [h3]

section
variable {D : Dy} {dr sp : Int} {vB vL vR : Value} {bl ll rl : List Int} {H : Heap}
theorem q1_spec (h : ShAt H vB vL vR bl ll rl) : AFun Tryd.prog 114 [lawV D, shiftV dr sp vB vL vR] H (fun r B => r = .bool (decide ((ll.length : Int) ≤ D.law.pieces)) ∧ Ge H B) := by
  refine AFun.mk ok114 hm (Nat.le_of_ble_eq_true rfl) ?_
  simp [a114, r114, h.l.lenV, h.ob, h.ol, h.or]
theorem q2_spec (h : ShAt H vB vL vR bl ll rl) : AFun Tryd.prog 115 [lawV D, shiftV dr sp vB vL vR] H (fun r B => r = .bool (decide (ll.foldl max 0 ≤ D.law.piece)) ∧ Ge H B) := by
  refine AFun.mk ok115 hm (Nat.le_of_ble_eq_true rfl) ?_
  simp [a115, r115, h.ob, h.ol, h.or]
  refine fcall_fun (greatest_spec (h.l.ge (Ge.grow_le (by omega) ((Ge.new _ _).newOf _)))) ?_
  rintro _ _ ⟨rfl, rfl⟩
  simp
  exact Ge.grow_le (by omega) ((Ge.new _ _).newOf _)
theorem q3_spec (h : ShAt H vB vL vR bl ll rl) : AFun Tryd.prog 116 [lawV D, shiftV dr sp vB vL vR] H (fun r B => r = .bool (decide (dr ≤ D.law.drive)) ∧ Ge H B) := by
  refine AFun.mk ok116 hm (Nat.le_of_ble_eq_true rfl) ?_
  simp [a116, r116, h.ob, h.ol, h.or]
theorem q4_spec (h : ShAt H vB vL vR bl ll rl) : AFun Tryd.prog 117 [lawV D, shiftV dr sp vB vL vR] H (fun r B => r = .bool (rl.all fun x => decide (D.law.brk ≤ x)) ∧ Ge H B) := by
  refine AFun.mk ok117 hm (Nat.le_of_ble_eq_true rfl) ?_
  simp [a117, r117, h.ob, h.ol, h.or]
  refine fcall_fun (every_int_spec (xs := rl) (p := fun x => decide (D.law.brk ≤ x)) (h.r.ge (by simp)) fun n A g => ACall.of_fun ?_) ?_
  · refine AFun.mk ok127 hm (Nat.le_of_ble_eq_true rfl) ?_
    have := g.got (n := H.next) (by simp) rfl
    simp at this
    simp [a127, r127, this]
  · rintro _ B ⟨rfl, g⟩
    simp
    exact Ge.trans (by simp) g
theorem q5_spec (h : ShAt H vB vL vR bl ll rl) : AFun Tryd.prog 118 [lawV D, shiftV dr sp vB vL vR] H (fun r B => r = .bool (decide (sp ≤ D.law.spread)) ∧ Ge H B) := by
  refine AFun.mk ok118 hm (Nat.le_of_ble_eq_true rfl) ?_
  simp [a118, r118, h.ob, h.ol, h.or]

def answers (D : Dy) (dr sp : Int) (ll rl : List Int) : List Bool := [decide ((ll.length : Int) ≤ D.law.pieces), decide (ll.foldl max 0 ≤ D.law.piece), decide (dr ≤ D.law.drive), rl.all fun x => decide (D.law.brk ≤ x), decide (sp ≤ D.law.spread)]

theorem q_spec (h : ShAt H vB vL vR bl ll rl) {i : Nat} (hi : i < 5) : ACall Tryd.prog (questVs[i]'(by simpa [questVs] using hi)) [lawV D, shiftV dr sp vB vL vR] H (fun r B => r = .bool ((answers D dr sp ll rl)[i]'(by simpa [answers] using hi)) ∧ Ge H B) := by
  match i, hi with
  | 0, _ => exact ACall.plain (q1_spec h)
  | 1, _ => exact ACall.plain (q2_spec h)
  | 2, _ => exact ACall.plain (q3_spec h)
  | 3, _ => exact ACall.plain (q4_spec h)
  | 4, _ => exact ACall.plain (q5_spec h)
end

theorem every_q_inv {I : Nat → Heap → Prop} {F : Heap → Prop} {H : Heap} {v pv : Value} (h0 : I 0 H) (hv : ∀ i A, I i A → QuestAt A v) (hge : ∀ i A B, I i A → Ge A B → I i B)
    (hp : ∀ i A (h : i < 5), I i A → ACall Tryd.prog pv [.agg #[questVs[i]'(by simpa [questVs] using h)]] A (fun r B => ∃ b, r = .bool b ∧ (b = true → I (i + 1) B) ∧ (b = false → F B))) :
    AFun Tryd.prog 94 [v, pv] H (fun r B => ∃ b, r = .bool b ∧ (b = true → I 5 B) ∧ (b = false → F B)) := by
  refine AFun.mk ok94 hm (Nat.le_of_ble_eq_true rfl) ?_
  simp [a94, r94, (hv _ _ h0).lenV]
  refine floop_intro (fun s => s.d = [] ∧ s.t 1 = pv ∧ s.t 7 = v ∧ s.t 8 = .int .i64 5 ∧ ∃ i : Nat, i ≤ 5 ∧ s.t 9 = .int .i64 i ∧ I i s.H) (fun s => 5 - (intOf (s.t 9)).toNat) ?_ ?_
  · exact ⟨rfl, by simp, by simp, by simp, 0, by simp, by simp, h0⟩
  · rintro ⟨t, _, A⟩ ⟨rfl, h1, h7, h8, i, hi, h9, hn⟩
    dsimp only at h1 h7 h8 h9 hn
    simp [h8, h9]
    refine fcond_intro (fun hc => ?_) (fun hc => ?_)
    · have hi' : i < 5 := by simp at hc; omega
      have hq5 : i < questVs.length := by simpa [questVs] using hi'
      obtain ⟨n, o, rw', ds, c, e1, _, e2, e3⟩ := SlR.isl (hv _ _ hn) (k := .i64) hi'
      have e4 : rdL ds o 1 = some [questVs[i]] := by
        rw [e3]
        simp only [Nat.mul_one, Option.some.injEq]
        rw [List.drop_eq_getElem_cons hq5]; rfl
      have hone : one questVs[i] = true := by
        have : ∀ x ∈ questVs, one x = true := by simp [questVs]
        exact this _ (List.getElem_mem _)
      have hp' := fun A hA => hp i A hi' hA
      generalize questVs[i] = qv at e4 hone hp'
      simp [h1, h7, h9, e1, e2, e4, hone, one_cells]
      refine fcall_intro ((hp' _ (hge _ _ _ hn ((Ge.new A _).setNew (Nat.le_refl _) _))).mono ?_)
      rintro _ B ⟨b, rfl, k1, k2⟩
      cases b
      · simp [k2 rfl]
      · simp [h9, add_in (x := i) (y := 1) (by omega) (by omega)]
        exact ⟨⟨h1, h7, h8, i + 1, by omega, by omega, k1 rfl⟩, by omega⟩
    · have : i = 5 := by simp at hc; omega
      subst this
      simp [hn]

def legalB (D : Dy) (K : List (List (Int × Int))) (ps : List Pc) : Bool := (answers D (lTo K ps ps.length).sum (spreadOf D K ps) (lTo K ps ps.length) (bTo (freeOf D K) ps ps.length)).all id

theorem work_spec {D : Dy} {K : List (List (Int × Int))} {b w s k q : Value} {H : Heap} {m : Nat} (hP : PlanAt H b w s k q D K) (hV : Valid D) (hK : KOk D K) (hlt : m < 2 ^ (segPs D).length) (hne : 0 < (piecesL D m).length) :
    AFun Tryd.prog 68 [planV D b w s k q, bitsV m] H (fun r B => ∃ vB, r = .agg #[.int .i64 (lTo K (piecesL D m) (piecesL D m).length).sum, .int .i64 (spreadOf D K (piecesL D m)), vB, .bool (legalB D K (piecesL D m))] ∧
      OwnSl B H.next vB ((bTo (restOf K) (piecesL D m) (piecesL D m).length).map (Value.int .i64)) ∧ Ge H B) := by
  refine AFun.mk ok68 hm (Nat.le_of_ble_eq_true rfl) ?_
  have hb := hP.day.blocks.one
  have hw := hP.day.walk.one
  have hs := hP.segs.one
  have hk := hP.known.one
  have hq : one q = true := SlR.one hP.quest
  simp [a68, r68, hb, hw, hs, hk, hq]
  refine fcall_fun (shift_spec (hP.ge (by simp)) hV hK hlt hne) ?_
  rintro _ H1 ⟨vB, vL, vR, rfl, i0, i2, i3, g1⟩
  have hp16 := piecesL_length (D := D) (m := m)
  have i1 := own_ints i0 (by simp [bTo]; omega)
  have n1 := g1.next
  have k0 := g1.got (n := H.next) (by simp) rfl
  have k1 := g1.got (n := H.next + 1) (by simp) rfl
  simp at k0 k1 n1
  have hsh : ShAt H1 vB vL vR (bTo (restOf K) (piecesL D m) (piecesL D m).length) (lTo K (piecesL D m) (piecesL D m).length) (bTo (freeOf D K) (piecesL D m) (piecesL D m).length) := ⟨i1, i2, i3⟩
  have G1 : Ge H H1 := Ge.trans (by simp) g1
  have ne0 : H.next ≠ H1.next := by omega
  have ne1 : H.next + 1 ≠ H1.next := by omega
  unfold legalB
  generalize hans : answers D (lTo K (piecesL D m) (piecesL D m).length).sum (spreadOf D K (piecesL D m)) (lTo K (piecesL D m) (piecesL D m).length) (bTo (freeOf D K) (piecesL D m) (piecesL D m).length) = an
  have hanl : an.length = 5 := by rw [← hans]; rfl
  generalize (lTo K (piecesL D m) (piecesL D m).length).sum = dr at *
  generalize spreadOf D K (piecesL D m) = sp at *
  generalize bTo (restOf K) (piecesL D m) (piecesL D m).length = bl at *
  generalize lTo K (piecesL D m) (piecesL D m).length = ll at *
  generalize bTo (freeOf D K) (piecesL D m) (piecesL D m).length = rl at *
  have g2 : Ge H1 ((H1.new (.cells true [.int .i64 0, .int .i64 0, .slice none 0 0, .bool false, .slice none 0 0, .slice none 0 0] 6)).set H1.next (.cells true [.int .i64 dr, .int .i64 sp, vB, .bool false, vL, vR] 6)) := (Ge.new _ _).setNew (Nat.le_refl _) _
  simp [hsh.ob, hsh.ol, hsh.or, ne0, k0]
  refine fcall_fun (every_q_inv (I := fun i A => Ge ((H1.new (.cells true [.int .i64 0, .int .i64 0, .slice none 0 0, .bool false, .slice none 0 0, .slice none 0 0] 6)).set H1.next (.cells true [.int .i64 dr, .int .i64 sp, vB, .bool false, vL, vR] 6)) A ∧ ∀ j (h : j < an.length), j < i → an[j] = true)
    (F := fun A => Ge ((H1.new (.cells true [.int .i64 0, .int .i64 0, .slice none 0 0, .bool false, .slice none 0 0, .slice none 0 0] 6)).set H1.next (.cells true [.int .i64 dr, .int .i64 sp, vB, .bool false, vL, vR] 6)) A ∧ an.all id = false) ⟨Ge.refl _, fun j _ h => by omega⟩ (fun i A hI => SlR.ge hP.quest ((G1.trans g2).trans hI.1)) (fun i A B hI gg => ⟨hI.1.trans gg, hI.2⟩) ?_) ?_
  · rintro i A hi ⟨gA, hall⟩
    refine ACall.of_fun ?_
    refine AFun.mk ok95 hm (Nat.le_of_ble_eq_true rfl) ?_
    have c0 := gA.got (n := H.next) (by simp; omega) rfl
    have c1 := gA.got (n := H1.next) (by simp) rfl
    simp [ne0, k0] at c0 c1
    have nA := gA.next
    simp at nA
    have m0 : H.next ≠ A.next := by omega
    have m1 : H1.next ≠ A.next := by omega
    have hq5 : i < questVs.length := by simpa [questVs] using hi
    have hone : one questVs[i] = true := by
      have : ∀ x ∈ questVs, one x = true := by simp [questVs]
      exact this _ (List.getElem_mem _)
    have hcall := fun (A' : Heap) (hA' : Ge A A') => q_spec (D := D) (dr := dr) (sp := sp) (H := A') (((hsh.ge g2).ge gA).ge hA') hi
    generalize questVs[i] = qv at hone hcall
    simp [a95, r95, hone, c0, c1, m0, m1]
    refine fcall_intro ((hcall _ (by simp)).mono ?_)
    rintro _ B ⟨rfl, gB⟩
    have gAB : Ge A B := Ge.trans (by simp) gB
    have hai : i < an.length := by omega
    have hval : (answers D dr sp ll rl)[i]'(by simpa [answers] using hi) = an[i] := by simp only [hans]
    rw [hval]
    cases hai2 : an[i]
    · simp
      refine ⟨gA.trans gAB, ?_⟩
      exact List.mem_of_getElem? (by rw [List.getElem?_eq_getElem hai, hai2])
    · simp
      refine ⟨gA.trans gAB, fun j hj hji => ?_⟩
      by_cases e : j = i
      · subst e; exact hai2
      · exact hall j hj (by omega)
  rintro _ B ⟨c, rfl, q1, q2⟩
  have gB : Ge ((H1.new (.cells true [.int .i64 0, .int .i64 0, .slice none 0 0, .bool false, .slice none 0 0, .slice none 0 0] 6)).set H1.next (.cells true [.int .i64 dr, .int .i64 sp, vB, .bool false, vL, vR] 6)) B ∧ an.all id = c := by
    cases c
    · exact q2 rfl
    · refine ⟨(q1 rfl).1, ?_⟩
      rw [List.all_eq_true]; intro y hy
      obtain ⟨j, hj, rfl⟩ := List.mem_iff_getElem.1 hy
      exact (q1 rfl).2 j hj (by omega)
  obtain ⟨gB, rfl⟩ := gB
  have c1 := gB.got (n := H1.next) (by simp) rfl
  have c2 := gB.got (n := H.next + 1) (by simp; omega) rfl
  simp [ne1, k1] at c1 c2
  have nB := gB.next
  simp at nB
  have f1 : H1.next ≠ H.next + 1 := by omega
  have f2 : H.next + 1 ≠ H1.next := by omega
  simp [c1, c2, f1, f2, hsh.ob, hsh.ol, hsh.or]
  have gend : ∀ y1 y2, Ge H ((B.set H1.next y1).set (H.next + 1) y2) := fun y1 y2 => (((G1.trans g2).trans gB).setNew (n := H1.next) (by omega) _).setNew (n := H.next + 1) (by omega) _
  refine ⟨?_, gend _ _⟩
  have o1 := (((i0.ge g2).ge gB).lower (lo' := H.next) (by simp))
  refine o1.keep (by simp) fun n hn => ?_
  have := i0.names hn
  simp at this
  have e1 : n ≠ H1.next := by omega
  have e2 : n ≠ H.next + 1 := by omega
  simp [e1, e2]

end Go.Proofs.YtjbbcpeidnkjlaaDoor


namespace Go.Proofs.YtjbbcpeidnkjlaaDoor
open Go Go.Ab

theorem segPs_length {D : Dy} : (segPs D).length = segsOf D.blocks := by rw [segPs, alone_length, spotsTo_length (Nat.le_refl _), List.take_length]
theorem piecesL_pos {D : Dy} {m : Nat} (h : m ≠ 0) : 0 < (piecesL D m).length := by
  unfold piecesL insSort
  rw [insTo_length]
  simp [runsK, h]
theorem duty_mask {D : Dy} {xs : List Int} (h : isDutyB (segsOf D.blocks) xs = true) : maskL xs < 2 ^ (segPs D).length ∧ maskL xs ≠ 0 := by
  unfold isDutyB at h
  rw [Bool.and_eq_true, decide_eq_true_eq] at h
  refine ⟨?_, fun e => ?_⟩
  · rw [segPs_length]
    refine maskL_lt fun x hx => ?_
    obtain ⟨j, hj, rfl⟩ := List.mem_iff_getElem.1 hx
    have := riseB_bounds (n := segsOf D.blocks) (xs := xs) (k := xs.length) (fun i hi => by
      have := List.all_eq_true.1 h.1 i (by simpa using hi); exact this) (Nat.le_refl _) j hj
    omega
  · have := maskL_zero.1 e
    subst this; simp at h

section
variable {D : Dy} {K : List (List (Int × Int))} {b w s k q : Value} {H : Heap} {m : Nat}
theorem isLegal_spec (hP : PlanAt H b w s k q D K) (hV : Valid D) (hK : KOk D K) (hlt : m < 2 ^ (segPs D).length) (h0 : m ≠ 0) :
    AFun Tryd.prog 61 [planV D b w s k q, bitsV m] H (fun r B => r = .bool (legalB D K (piecesL D m)) ∧ Ge H B) := by
  refine AFun.mk ok61 hm (Nat.le_of_ble_eq_true rfl) ?_
  have hb := hP.day.blocks.one
  have hw := hP.day.walk.one
  have hs := hP.segs.one
  have hk := hP.known.one
  have hq : one q = true := SlR.one hP.quest
  simp [a61, r61, hb, hw, hs, hk, hq]
  refine fcall_fun (work_spec (hP.ge (by simp)) hV hK hlt (piecesL_pos h0)) ?_
  rintro _ B ⟨vB, rfl, o1, g1⟩
  simp
  exact Ge.trans (by simp) g1
def payOf (D : Dy) (K : List (List (Int × Int))) (ps : List Pc) : Int := max (max 0 (spreadOf D K ps)) D.law.least
theorem pay_spec (hP : PlanAt H b w s k q D K) (hV : Valid D) (hK : KOk D K) (hlt : m < 2 ^ (segPs D).length) (h0 : m ≠ 0) :
    AFun Tryd.prog 62 [planV D b w s k q, bitsV m] H (fun r B => r = .int .i64 (payOf D K (piecesL D m)) ∧ Ge H B) := by
  refine AFun.mk ok62 hm (Nat.le_of_ble_eq_true rfl) ?_
  have hb := hP.day.blocks.one
  have hw := hP.day.walk.one
  have hs := hP.segs.one
  have hk := hP.known.one
  have hq : one q = true := SlR.one hP.quest
  simp [a62, r62, hb, hw, hs, hk, hq]
  refine fcall_fun (work_spec (hP.ge (Ge.grow_le (by omega) (Ge.new _ _))) hV hK hlt (piecesL_pos h0)) ?_
  rintro _ B ⟨vB, rfl, o1, g1⟩
  have n1 := g1.next
  have k0 := g1.got (n := H.next) (by simp) rfl
  simp at k0 n1
  simp [k0]
  refine fcall_fun (greatest_spec (xs := [spreadOf D K (piecesL D m), D.law.least]) ?_) ?_
  · refine ⟨⟨?_, ?_⟩, by simp⟩
    · simp [slCells]
    · intro a n c e; simp at e; simp [← e.1]; omega
  rintro _ _ ⟨rfl, rfl⟩
  simp [payOf]
  exact Ge.setNew (Ge.trans (Ge.grow_le (by omega) (Ge.new _ _)) g1) (by omega) _
end

def legalD (D : Dy) (xs : List Int) : Bool := legalB D (known0 D) (piecesL D (maskL xs))
section
variable {D : Dy} {b w v : Value} {H : Heap} {xs : List Int}
theorem legal_spec (h : DayAt H b w D) (hT : D.Thin) (hv : IntsAt H v xs) (hlen : xs.length < 2 ^ 31) :
    AFun Tryd.prog 19 [dayV D b w, v] H (fun r B => r = .tuple #[.bool (decide (errD D xs = 0) && legalD D xs), .int .i64 (errD D xs)] ∧ Ge H B) := by
  refine AFun.mk ok19 hm (Nat.le_of_ble_eq_true rfl) ?_
  have hb := h.blocks.one
  have hw := h.walk.one
  simp [a19, r19, hb, hw]
  refine fcall_fun (newPlannedDuty_spec (h.ge (by simp)) hT (hv.ge (by simp)) hlen) ?_
  rintro _ H1 ⟨pv, m, rfl, ⟨hl, hone⟩, g1, hgood⟩
  have G1 : Ge H H1 := Ge.trans (by simp) g1
  by_cases he : errD D xs = 0
  case neg =>
    simp [hl]
    rw [if_pos hone]
    simp [he]
    exact G1.trans ((Ge.new _ _).setNew (Nat.le_refl _) _)
  obtain ⟨hV, hd, s, k, q, hpv, hP, rfl⟩ := hgood he
  obtain ⟨hlt, h0⟩ := duty_mask hd
  have hpl : pv = [.int .i64 D.law.piece, .int .i64 D.law.drive, .int .i64 D.law.spread, .int .i64 D.law.brk, .int .i64 D.law.on, .int .i64 D.law.off, .int .i64 D.law.least, .int .i64 D.law.pieces, b, w, s, k, q] := by
    simpa using hpv
  subst hpl
  have hs := hP.segs.one
  have hk := hP.known.one
  have hq : one q = true := SlR.one hP.quest
  simp [he, hb, hw, hs, hk, hq]
  refine fcall_fun (isLegal_spec (hP.ge ((Ge.new _ _).setNew (Nat.le_refl _) _)) hV (known0_ok hV) hlt h0) ?_
  rintro _ H2 ⟨rfl, g2⟩
  simp [he, legalD]
  exact G1.trans (Ge.trans ((Ge.new _ _).setNew (Nat.le_refl _) _) g2)
end

end Go.Proofs.YtjbbcpeidnkjlaaDoor


namespace Go.Proofs.YtjbbcpeidnkjlaaDoor
open Go Go.Ab

section
variable {D : Dy} {b w : Value} {H : Heap}

theorem spots_at {bs : List (List Rl)} : ∀ {i : Nat}, i ≤ bs.length → ∀ {x : Nat}, x < segsOf (bs.take i) → ∃ j n, (spotsTo bs i)[x]? = some (j, n) ∧ j < i ∧ (∃ l, bs[j]? = some l ∧ n + 1 < l.length) ∧ x = segsOf (bs.take j) + n
  | 0, _, x, hx => by simp [segsOf] at hx
  | i + 1, hi, x, hx => by
    rw [segsOf_take (by omega)] at hx
    rw [spotsTo_succ (by omega)]
    have hl := spotsTo_length (bs := bs) (i := i) (by omega)
    by_cases h1 : x < segsOf (bs.take i)
    · obtain ⟨j, n, h2, h3, h4, h5⟩ := spots_at (i := i) (by omega) h1
      exact ⟨j, n, by rw [List.getElem?_append_left (by omega)]; exact h2, by omega, h4, h5⟩
    · refine ⟨i, x - segsOf (bs.take i), ?_, by omega, ⟨_, List.getElem?_eq_getElem (by omega), by omega⟩, by omega⟩
      rw [List.getElem?_append_right (by omega), hl, List.getElem?_map, List.getElem?_range (by omega)]
      rfl

theorem spot54_spec {x : Nat} (h : DayAt H b w D) (hT : D.Thin) (hV : Valid D) (hx : x < segsOf D.blocks) : AFun Tryd.prog 54 [dayV D b w, .int .i64 x] H (fun r B => ∃ j n : Nat, r = .tuple #[.int .i64 j, .int .i64 n] ∧ (spotsTo D.blocks D.blocks.length)[x]? = some (j, n) ∧ Ge H B) := by
  refine AFun.mk ok54 hm (Nat.le_of_ble_eq_true rfl) ?_
  have hb := h.blocks.one
  have hw := h.walk.one
  obtain ⟨j, n, hsp, hj, ⟨l, hl1, hl2⟩, hxe⟩ := spots_at (bs := D.blocks) (i := D.blocks.length) (Nat.le_refl _) (by rw [List.take_length]; exact hx)
  obtain ⟨hjl, rfl⟩ := List.getElem?_eq_some_iff.1 hl1
  have hfew := hT.few
  simp [a54, r54, hb, hw]
  refine floop_intro (fun z => z.d = [] ∧ Ge H z.H ∧ H.next < z.H.next ∧ z.t 2 = .pointer (some ⟨H.next, 0, none⟩) ∧ z.H.get H.next = .cells true (dayV D b w).cells.toList 10 ∧ ∃ i : Nat, i ≤ j ∧ z.t 6 = .int .i64 i ∧ z.t 1 = .int .i64 ((x : Int) - segsOf (D.blocks.take i))) (fun z => j - (intOf (z.t 6)).toNat) ?_ ?_
  · exact ⟨rfl, by simp, by simp, by simp, by simp [Value.cells], 0, by omega, by simp, by simp [segsOf]⟩
  rintro ⟨t, _, A⟩ ⟨rfl, g, hn, t2, kd, i, hi, t6, t1⟩
  dsimp only at g hn t2 kd t6 t1
  simp [Value.cells] at kd
  have hil : i < D.blocks.length := by omega
  obtain ⟨p, u, e1, e2, e3⟩ := h.blocks.atAll hil
  have e21 := e2 A g
  have hlen := hT.short _ (List.getElem_mem hil)
  have h2l := hV.two (List.getElem_mem hil)
  have hseg := hT.segs i
  have hsegx : segsOf D.blocks ≤ 140 := by have := hT.segs D.blocks.length; rwa [List.take_length] at this
  have hmono : ∀ i, i ≤ j → segsOf (D.blocks.take i) ≤ segsOf (D.blocks.take j) := fun i hi => by
    have : ∀ (bs : List (List Rl)) a c, a ≤ c → segsOf (bs.take a) ≤ segsOf (bs.take c) := fun bs => by
      induction bs with
      | nil => intro a c _; simp [segsOf]
      | cons y bs ih =>
        intro a c hac
        cases a with
        | zero => simp [segsOf]
        | succ a => cases c with
          | zero => omega
          | succ c => rw [List.take_succ_cons, List.take_succ_cons, segsOf_cons, segsOf_cons]; have := ih a c (by omega); omega
    exact this _ _ _ hi
  have hle := hmono i hi
  simp [t1, t2, kd, t6, e1, e21, e3.lenV]
  rw [sub_in (by omega) (by omega)]
  simp
  have hseg1 := segsOf_take hil
  by_cases hij : i = j
  · subst hij
    have hcond : ¬ ((D.blocks[i].length : Int) - 1 ≤ (x : Int) - segsOf (D.blocks.take i)) := by omega
    simp [hcond, t6, t1]
    exact ⟨i, n, ⟨rfl, by omega⟩, hsp, g⟩
  · have hle2 := hmono (i + 1) (by omega)
    have hcond : ((D.blocks[i].length : Int) - 1 ≤ (x : Int) - segsOf (D.blocks.take i)) := by
      have : 1 ≤ D.blocks[i].length ∨ D.blocks[i].length = 0 := by omega
      omega
    simp [hcond, t1, t2, kd, t6, e1, e21, e3.lenV]
    rw [sub_in (by omega) (by omega)]
    simp
    rw [sub_in (by omega) (by omega)]
    simp [t6, add_in (x := i) (y := 1) (by omega) (by omega)]
    refine ⟨⟨g, hn, t2, by simpa [Value.cells] using kd, i + 1, by omega, by omega, by omega⟩, by omega⟩
end

end Go.Proofs.YtjbbcpeidnkjlaaDoor


namespace Go.Proofs.YtjbbcpeidnkjlaaDoor
open Go Go.Ab

def iCell (x : Int) : List Value := [.int .i64 x]
theorem iCell_flat (l : List Int) : l.flatMap iCell = l.map (Value.int .i64) := by
  induction l with
  | nil => rfl
  | cons x l ih => rw [List.flatMap_cons, ih]; rfl
theorem rows_done {A : Heap} {lo : Nat} {v : Value} {rows : List (List Int)} (h : RowsG 1 iCell A lo (fun _ => False) v rows) (hl : rows.length < 2 ^ 63) (hs : ∀ r ∈ rows, r.length < 2 ^ 63) : RowsAt A v rows := by
  refine h.rows (R := IntsAt) hl fun u r hr ho => ⟨?_, hs r hr⟩
  have := ho.slr
  rw [iCell_flat] at this
  exact this

end Go.Proofs.YtjbbcpeidnkjlaaDoor


namespace Go.Proofs.YtjbbcpeidnkjlaaDoor
open Go Go.Ab

structure Rp where
  b : Nat
  f : Nat
  t : Nat
  g : Nat
deriving DecidableEq
def Rp.cells (x : Rp) : List Value := [.int .i64 x.b, .int .i64 x.f, .int .i64 x.t, .int .i64 x.g]
abbrev Rp.val (x : Rp) : Value := .agg #[.int .i64 x.b, .int .i64 x.f, .int .i64 x.t, .int .i64 x.g]
def RpsAt (H : Heap) (v : Value) (xs : List Rp) : Prop := SlR H 4 v xs.length (xs.flatMap Rp.cells) ∧ xs.length < 2 ^ 63
theorem RpsAt.ge {H H' : Heap} {v : Value} {xs : List Rp} (h : RpsAt H v xs) (g : Ge H H') : RpsAt H' v xs := ⟨h.1.ge g, h.2⟩
theorem RpsAt.lenV {H : Heap} {v : Value} {xs : List Rp} (h : RpsAt H v xs) : Go.Ab.lenV v = some (.int .i64 xs.length) := h.1.lenV
theorem RpsAt.one {H : Heap} {v : Value} {xs : List Rp} (h : RpsAt H v xs) : Go.Ab.one v = true := SlR.one h.1
theorem RpsAt.at {H : Heap} {v : Value} {xs : List Rp} (h : RpsAt H v xs) {i : Nat} (hi : i < xs.length) : ∃ n o, islV 4 v (.int .i64 i) = some (.pointer (some ⟨n, o, none⟩)) ∧ n < H.next ∧ ldA (H.get n) true 4 o = some xs[i].val ∧
    ldA (H.get n) false 1 o = some (.int .i64 xs[i].b) ∧ ldA (H.get n) false 1 (o + 1) = some (.int .i64 xs[i].f) ∧ ldA (H.get n) false 1 (o + 2) = some (.int .i64 xs[i].t) ∧ ldA (H.get n) false 1 (o + 3) = some (.int .i64 xs[i].g) := by
  obtain ⟨n, o, rw', ds, c, h1, hn, h2, h3⟩ := h.1.isl (k := .i64) hi
  rw [flatMap_at (f := Rp.cells) (fun _ => rfl) xs i hi] at h3
  obtain ⟨h4, _⟩ := rdL_some h3
  have hf : ∀ k, k < 4 → ldA (H.get n) false 1 (o + k) = xs[i].cells[k]? := fun k hk => by
    rw [h2, ldA_one, h4]; simp [hk]
  refine ⟨n, o, h1, hn, ?_, hf 0 (by omega), hf 1 (by omega), hf 2 (by omega), hf 3 (by omega)⟩
  rw [h2, ldA_agg, h3]; rfl

def tAt (B : List (List Int)) (b n : Nat) : Int := ((B[b]?).bind fun x => x[n]?).getD 0
structure TOk (D : Dy) (B : List (List Int)) : Prop where
  spots : ∀ b n, D.has b n → ∃ x, B[b]? = some x ∧ n < x.length
  bound : ∀ x ∈ B, ∀ y ∈ x, 0 ≤ y ∧ y ≤ 3000
theorem TOk.at {D : Dy} {B : List (List Int)} (h : TOk D B) {b n : Nat} (hs : D.has b n) : 0 ≤ tAt B b n ∧ tAt B b n ≤ 3000 := by
  obtain ⟨x, h1, h2⟩ := h.spots b n hs
  have : tAt B b n = x[n] := by simp [tAt, h1, h2]
  rw [this]
  exact h.bound x (List.mem_of_getElem? h1) _ (List.getElem_mem h2)
structure RpOk (D : Dy) (x : Rp) : Prop where
  fst : D.has x.b x.f
  lst : D.has x.b x.t
section
variable {D : Dy} {B E : List (List Int)} {l : List Rp} {H : Heap} {v vb ve : Value}

end

end Go.Proofs.YtjbbcpeidnkjlaaDoor


namespace Go.Proofs.YtjbbcpeidnkjlaaDoor
open Go Go.Ab

end Go.Proofs.YtjbbcpeidnkjlaaDoor


namespace Go.Proofs.YtjbbcpeidnkjlaaDoor
open Go Go.Ab

end Go.Proofs.YtjbbcpeidnkjlaaDoor


namespace Go.Proofs.YtjbbcpeidnkjlaaDoor
open Go Go.Ab

def spD (D : Dy) (x : Int) : Nat × Nat := (spotsTo D.blocks D.blocks.length)[x.toNat]?.getD (0, 0)
end Go.Proofs.YtjbbcpeidnkjlaaDoor


namespace Go.Proofs.YtjbbcpeidnkjlaaDoor
open Go Go.Ab

def segP (D : Dy) (x : Nat) : Pc := ⟨2 ^ x, (spD D x).1, (spD D x).2, (spD D x).1, (spD D x).2 + 1⟩
theorem segP_at {D : Dy} {x : Nat} (hx : x < (segPs D).length) : (segPs D)[x] = segP D x := by
  have h2 : x < (spotsTo D.blocks D.blocks.length).length := by rw [segPs, alone_length] at hx; exact hx
  have : spD D (x : Int) = (spotsTo D.blocks D.blocks.length)[x] := by simp [spD, h2]
  unfold segP
  rw [this]
  simp [segPs, alone]

def joins (D : Dy) (fo : Pc) (x : Nat) : Bool := decide (fo.e = (spD D x).1) && decide (fo.t = (spD D x).2)
def ext (D : Dy) (fo : Pc) (x : Nat) : Pc := ⟨fo.s ||| 2 ^ x, fo.b, fo.f, (spD D x).1, (spD D x).2 + 1⟩
def goL (D : Dy) : List Nat → Pc → Pc
  | [], fo => fo
  | x :: l, fo => if fo = fz then goL D l (segP D x) else if joins D fo x then goL D l (ext D fo x) else fo
def restL (D : Dy) : List Nat → Pc → List Nat
  | [], _ => []
  | x :: l, fo => if joins D fo x then restL D l (ext D fo x) else x :: l

def bitsFrom (n m i : Nat) : List Nat := (List.range' i (n - i)).filter fun x => m.testBit x
theorem bitsFrom_end {n m i : Nat} (h : n ≤ i) : bitsFrom n m i = [] := by
  unfold bitsFrom
  rw [Nat.sub_eq_zero_of_le h]; rfl
theorem bitsFrom_step {n m i : Nat} (h : i < n) : bitsFrom n m i = if m.testBit i then i :: bitsFrom n m (i + 1) else bitsFrom n m (i + 1) := by
  unfold bitsFrom
  have : n - i = (n - (i + 1)) + 1 := by omega
  rw [this, List.range'_succ, List.filter_cons]

theorem firstGo_goL {D : Dy} {m : Nat} : ∀ (k i : Nat) (fo : Pc), i + k = (segPs D).length → firstGo m ((segPs D).drop i) i fo = goL D (bitsFrom (segPs D).length m i) fo
  | 0, i, fo, h => by
    rw [List.drop_of_length_le (by omega), bitsFrom_end (by omega)]; rfl
  | k + 1, i, fo, h => by
    have hi : i < (segPs D).length := by omega
    rw [List.drop_eq_getElem_cons hi, firstGo_cons, bitsFrom_step hi, segP_at hi]
    have ih := fun fo => firstGo_goL (D := D) (m := m) k (i + 1) fo (by omega)
    cases hb : m.testBit i
    · have : stepF m i fo (segP D i) = some fo := by simp [stepF, hb]
      rw [this]; simp only [ih]; rfl
    · simp only [if_true]
      by_cases hz : fo = fz
      · have : stepF m i fo (segP D i) = some (segP D i) := by simp [stepF, hb, hz]
        rw [this]; simp only [ih]
        rw [goL, if_pos hz]
      · cases hj : joins D fo i
        · have : stepF m i fo (segP D i) = none := by
            simp [joins] at hj
            simp [stepF, hb, hz, segP]
            exact hj
          rw [this, goL, if_neg hz, hj]; rfl
        · have : stepF m i fo (segP D i) = some (ext D fo i) := by
            simp [joins] at hj
            simp [stepF, hb, hz, segP, hj.1, hj.2, ext]
          rw [this]; simp only [ih]
          rw [goL, if_neg hz, hj]; rfl

def segs : Nat → Dy → List Nat → List Pc
  | 0, _, _ => []
  | _ + 1, _, [] => []
  | k + 1, D, x :: l => goL D l (segP D x) :: segs k D (restL D l (segP D x))

theorem goL_start {D : Dy} {x : Nat} {l : List Nat} : goL D (x :: l) fz = goL D l (segP D x) := by rw [goL, if_pos rfl]
theorem nz_segP {D : Dy} {x : Nat} : segP D x ≠ fz := fun e => by have := congrArg Pc.s e; simp [segP, fz] at this
theorem or_nz {a b : Nat} (h : a ≠ 0) : a ||| b ≠ 0 := fun e => h (by
  apply Nat.eq_of_testBit_eq
  intro q
  have : (a ||| b).testBit q = false := by rw [e]; simp
  rw [Nat.testBit_or] at this
  simp at this ⊢
  exact this.1)

theorem goL_rest {D : Dy} : ∀ (l : List Nat) (fo : Pc), fo.s ≠ 0 → ∃ pre, l = pre ++ restL D l fo ∧ ∀ q, (goL D l fo).s.testBit q = (fo.s.testBit q || decide (q ∈ pre))
  | [], fo, _ => ⟨[], rfl, fun q => by simp [goL]⟩
  | x :: l, fo, h => by
    have hz : fo ≠ fz := fun e => h (by rw [e]; rfl)
    cases hj : joins D fo x
    · refine ⟨[], by simp [restL, hj], fun q => ?_⟩
      rw [goL, if_neg hz, hj]; simp
    · obtain ⟨pre, h1, h2⟩ := goL_rest l (ext D fo x) (or_nz h)
      refine ⟨x :: pre, ?_, fun q => ?_⟩
      · rw [restL, hj]; simp only [if_true, List.cons_append]; rw [← h1]
      · rw [goL, if_neg hz, hj]
        simp only [if_true]
        rw [h2 q]
        simp only [ext, Nat.testBit_or, Nat.testBit_two_pow]
        by_cases e : q = x
        · subst e; simp
        · have e2 : ¬ x = q := fun h => e h.symm
          simp [e, e2]

theorem rise_ext : ∀ {l1 l2 : List Nat}, l1.Pairwise (· < ·) → l2.Pairwise (· < ·) → (∀ x, x ∈ l1 ↔ x ∈ l2) → l1 = l2
  | [], [], _, _, _ => rfl
  | [], y :: l2, _, _, h => by have := (h y).2 (by simp); cases this
  | x :: l1, [], _, _, h => by have := (h x).1 (by simp); cases this
  | x :: l1, y :: l2, h1, h2, h => by
    rw [List.pairwise_cons] at h1 h2
    have hxy : x = y := by
      have a := (h x).1 (by simp)
      have b := (h y).2 (by simp)
      rcases List.mem_cons.1 a with e | a
      · exact e
      · rcases List.mem_cons.1 b with e | b
        · exact e.symm
        · have := h2.1 x a; have := h1.1 y b; omega
    subst hxy
    congr 1
    refine rise_ext h1.2 h2.2 fun z => ?_
    have := h z
    simp only [List.mem_cons] at this
    constructor
    · intro hz
      have hlt := h1.1 z hz
      rcases this.1 (.inr hz) with e | e
      · omega
      · exact e
    · intro hz
      have hlt := h2.1 z hz
      rcases this.2 (.inr hz) with e | e
      · omega
      · exact e
theorem bitsFrom_rise {n m : Nat} : (bitsFrom n m 0).Pairwise (· < ·) := by
  unfold bitsFrom
  exact List.Pairwise.filter _ List.pairwise_lt_range'
theorem bitsFrom_mem {n m x : Nat} : x ∈ bitsFrom n m 0 ↔ x < n ∧ m.testBit x = true := by
  unfold bitsFrom
  rw [List.mem_filter, List.mem_range']
  constructor
  · rintro ⟨⟨i, hi, rfl⟩, h⟩; exact ⟨by omega, h⟩
  · rintro ⟨h1, h2⟩; exact ⟨⟨x, by omega, by omega⟩, h2⟩

theorem runsK_segs {D : Dy} : ∀ (k m : Nat), m < 2 ^ (segPs D).length → runsK D k m = segs k D (bitsFrom (segPs D).length m 0)
  | 0, _, _ => rfl
  | k + 1, m, hm => by
    unfold runsK
    have hf := firstGo_goL (D := D) (m := m) (segPs D).length 0 fz (by omega)
    rw [List.drop_zero] at hf
    have hmem := fun x => @bitsFrom_mem (segPs D).length m x
    have hrise := @bitsFrom_rise (segPs D).length m
    generalize hl : bitsFrom (segPs D).length m 0 = l at hf hmem hrise
    by_cases h0 : m = 0
    · rw [if_pos h0]
      cases l with
      | nil => rfl
      | cons x l =>
        have := (hmem x).1 (by simp)
        rw [h0] at this; simp at this
    · rw [if_neg h0]
      cases l with
      | nil =>
        exfalso
        obtain ⟨j, hj⟩ := Nat.exists_testBit_of_ne_zero h0
        have hjn : j < (segPs D).length := by
          apply Decidable.byContradiction
          intro hn
          have : m.testBit j = false := Nat.testBit_lt_two_pow (Nat.lt_of_lt_of_le hm (Nat.pow_le_pow_right (by omega) (by omega)))
          rw [this] at hj; cases hj
        have := (hmem j).2 ⟨hjn, hj⟩
        cases this
      | cons x l =>
        rw [goL_start] at hf
        rw [hf]
        show _ = goL D l (segP D x) :: segs k D (restL D l (segP D x))
        congr 1
        obtain ⟨pre, h1, h2⟩ := goL_rest (D := D) l (segP D x) (by simp [segP])
        have hless : diffN m (goL D l (segP D x)).s < 2 ^ (segPs D).length := diff_lt hm
        rw [runsK_segs k _ hless]
        congr 1
        refine rise_ext bitsFrom_rise ?_ fun z => ?_
        · rw [List.pairwise_cons] at hrise
          rw [h1] at hrise
          exact (List.pairwise_append.1 hrise.2).2.1
        · rw [bitsFrom_mem, testBit_diff, h2 z]
          have hz := hmem z
          rw [List.pairwise_cons] at hrise
          rw [h1, List.pairwise_append] at hrise
          rw [h1] at hz
          simp only [List.mem_cons, List.mem_append] at hz
          simp only [segP, Nat.testBit_two_pow]
          constructor
          · rintro ⟨a, b⟩
            simp only [Bool.and_eq_true, Bool.not_eq_true', Bool.or_eq_false_iff, decide_eq_false_iff_not] at b
            rcases hz.2 ⟨a, b.1⟩ with e | e | e
            · exact absurd e.symm b.2.1
            · exact absurd e b.2.2
            · exact e
          · intro e
            have hb := hz.1 (.inr (.inr e))
            refine ⟨hb.1, ?_⟩
            simp only [Bool.and_eq_true, Bool.not_eq_true', Bool.or_eq_false_iff, decide_eq_false_iff_not]
            refine ⟨hb.2, fun e2 => ?_, fun e2 => ?_⟩
            · have := hrise.1 z (List.mem_append.2 (.inr e)); omega
            · have := hrise.2.2.2 z e2 z e; omega

end Go.Proofs.YtjbbcpeidnkjlaaDoor


namespace Go.Proofs.YtjbbcpeidnkjlaaDoor
open Go Go.Ab

def newR (D : Dy) (x : Nat) : Rp := ⟨(spD D x).1, (spD D x).2, (spD D x).2 + 1, x⟩
structure Alike (D : Dy) (fo : Pc) (cur : Rp) (prev : Nat) : Prop where
  b : fo.b = cur.b
  f : fo.f = cur.f
  t : fo.t = cur.t
  e : fo.e = cur.b
  eb : cur.b = (spD D prev).1
  et : cur.t = (spD D prev).2 + 1
  nz : fo.s ≠ 0

theorem Alike.new {D : Dy} {x : Nat} : Alike D (segP D x) (newR D x) x := ⟨rfl, rfl, rfl, rfl, rfl, rfl, by simp [segP]⟩
end Go.Proofs.YtjbbcpeidnkjlaaDoor


namespace Go.Proofs.YtjbbcpeidnkjlaaDoor
open Go Go.Ab

section
variable {α β : Type}
theorem swapL_map (f : α → β) (l : List α) (j : Nat) : swapL (l.map f) j = (swapL l j).map f := by
  unfold swapL
  rw [List.getElem?_map, List.getElem?_map]
  cases l[j]? <;> cases l[j + 1]? <;> simp [List.map_set]
theorem sink_map (f : α → β) (lt : β → β → Bool) : ∀ (j : Nat) (l : List α), sink lt (l.map f) j = (sink (fun x y => lt (f x) (f y)) l j).map f
  | 0, _ => rfl
  | j + 1, l => by
    unfold sink
    rw [List.getElem?_map, List.getElem?_map]
    cases h1 : l[j]? with
    | none => simp
    | some x => cases h2 : l[j + 1]? with
      | none => simp
      | some y =>
        simp only [Option.map_some]
        split
        · rw [swapL_map, sink_map f lt j]
        · rfl
theorem insSort_map (f : α → β) (lt : β → β → Bool) (l : List α) : insSort lt (l.map f) = (insSort (fun x y => lt (f x) (f y)) l).map f := by
  unfold insSort
  rw [List.length_map]
  generalize l.length = n
  induction n with
  | zero => rfl
  | succ n ih => rw [insTo, ih, sink_map]; rfl

theorem sink_congr (lt lt' : α → α → Bool) : ∀ (j : Nat) (l : List α) (hj : j < l.length), (∀ k (h : k < j), lt l[j] (l[k]'(by omega)) = lt' l[j] (l[k]'(by omega))) → sink lt l j = sink lt' l j
  | 0, _, _, _ => rfl
  | j + 1, l, hj, h => by
    have hj0 : j < l.length := by omega
    unfold sink
    simp only [hj0, hj, List.getElem?_eq_getElem]
    rw [h j (by omega)]
    split
    · have hs : swapL l j = (l.set (j + 1) l[j]).set j l[j + 1] := swapL_eq hj
      refine sink_congr lt lt' j (swapL l j) (by rw [swapL_length]; omega) fun k hk => ?_
      have e1 : (swapL l j)[j]'(by rw [swapL_length]; omega) = l[j + 1] := by simp only [hs]; simp
      have e2 : (swapL l j)[k]'(by rw [swapL_length]; omega) = l[k] := by
        simp only [hs]
        rw [List.getElem_set_ne (by omega), List.getElem_set_ne (by omega)]
      rw [e1, e2]
      exact h k (by omega)
    · rfl
theorem sink_stay (lt : α → α → Bool) : ∀ (j : Nat) (l : List α) (k : Nat), j < k → (sink lt l j)[k]? = l[k]?
  | 0, _, _, _ => rfl
  | j + 1, l, k, hk => by
    unfold sink
    split
    · split
      · rename_i x y h1 h2 _
        rw [sink_stay lt j _ k (by omega)]
        unfold swapL
        rw [h1, h2]
        simp only
        rw [List.getElem?_set_ne (by omega), List.getElem?_set_ne (by omega)]
      · rfl
    · rfl
theorem insTo_stay (lt : α → α → Bool) (l : List α) : ∀ (i k : Nat), i ≤ k → (insTo lt l i)[k]? = l[k]?
  | 0, _, _ => rfl
  | i + 1, k, hk => by rw [insTo, sink_stay lt i _ k (by omega), insTo_stay lt l i k (by omega)]
theorem sink_from (lt : α → α → Bool) : ∀ (j : Nat) (l : List α) (k : Nat), k ≤ j → ∀ x, (sink lt l j)[k]? = some x → ∃ q, q ≤ j ∧ l[q]? = some x
  | 0, l, k, hk, x, h => ⟨k, hk, h⟩
  | j + 1, l, k, hk, x, h => by
    unfold sink at h
    split at h
    · rename_i a b h1 h2
      split at h
      · by_cases hkj : k = j + 1
        · subst hkj
          rw [sink_stay lt j _ (j + 1) (by omega)] at h
          have hj1 : j + 1 < l.length := (List.getElem?_eq_some_iff.1 h2).1
          unfold swapL at h
          rw [h1, h2] at h
          simp only at h
          rw [List.getElem?_set_ne (by omega), List.getElem?_set_self (by omega)] at h
          cases h
          exact ⟨j, by omega, h1⟩
        · obtain ⟨q, hq, hx⟩ := sink_from lt j _ k (by omega) x h
          unfold swapL at hx
          rw [h1, h2] at hx
          simp only at hx
          have hj1 : j + 1 < l.length := (List.getElem?_eq_some_iff.1 h2).1
          by_cases hqj : q = j
          · subst hqj
            rw [List.getElem?_set_self (by simp; omega)] at hx
            cases hx
            exact ⟨q + 1, by omega, h2⟩
          · rw [List.getElem?_set_ne (by omega), List.getElem?_set_ne (by omega)] at hx
            exact ⟨q, by omega, hx⟩
      · exact ⟨k, hk, h⟩
    · exact ⟨k, hk, h⟩
theorem insTo_from (lt : α → α → Bool) (l : List α) : ∀ (i k : Nat), k < i → ∀ x, (insTo lt l i)[k]? = some x → ∃ q, q < i ∧ l[q]? = some x
  | i + 1, k, hk, x, h => by
    rw [insTo] at h
    obtain ⟨q, hq, hx⟩ := sink_from lt i _ k (by omega) x h
    by_cases hqi : q < i
    · obtain ⟨q', h1, h2⟩ := insTo_from lt l i q hqi x hx
      exact ⟨q', by omega, h2⟩
    · have : q = i := by omega
      subst this
      rw [insTo_stay lt l q q (Nat.le_refl _)] at hx
      exact ⟨q, by omega, hx⟩

theorem insSort_congr (lt lt' : α → α → Bool) (l : List α) (h : ∀ i k (hi : i < l.length) (hk : k < i), lt l[i] (l[k]'(by omega)) = lt' l[i] (l[k]'(by omega))) : insSort lt l = insSort lt' l := by
  unfold insSort
  have : ∀ i, i ≤ l.length → insTo lt l i = insTo lt' l i := fun i => by
    induction i with
    | zero => intro _; rfl
    | succ i ih =>
      intro hi
      rw [insTo, insTo, ← ih (by omega)]
      have hlen := insTo_length lt l i
      refine sink_congr lt lt' i _ (by omega) fun k hk => ?_
      have e1 : (insTo lt l i)[i]'(by omega) = l[i] := by
        have := insTo_stay lt l i i (Nat.le_refl _)
        rw [List.getElem?_eq_getElem (by omega), List.getElem?_eq_getElem (by omega)] at this
        exact Option.some.inj this
      obtain ⟨q, hq, hx⟩ := insTo_from lt l i k hk ((insTo lt l i)[k]'(by omega)) (List.getElem?_eq_getElem (by omega))
      rw [List.getElem?_eq_getElem (by omega)] at hx
      rw [e1, ← Option.some.inj hx]
      exact h i q (by omega) hq
  exact this _ (Nat.le_refl _)
end

theorem restL_sub {D : Dy} : ∀ (l : List Nat) (fo : Pc), (restL D l fo).Sublist l
  | [], _ => List.Sublist.refl _
  | x :: l, fo => by
    unfold restL
    split
    · exact (restL_sub l _).cons x
    · exact List.Sublist.refl _
end Go.Proofs.YtjbbcpeidnkjlaaDoor


namespace Go.Proofs.YtjbbcpeidnkjlaaDoor
open Go Go.Ab

end Go.Proofs.YtjbbcpeidnkjlaaDoor


namespace Go.Proofs.YtjbbcpeidnkjlaaDoor
open Go Go.Ab

section
variable {D : Dy} {zs : List (Pc × Nat)} {K : List (List (Int × Int))} {B E : List (List Int)} (hk : ∀ b n, kAt K b n = (tAt B b n, tAt E b n))
include hk
omit hk in
theorem foldl_max (l : List Int) : ∀ (a c : Int), l.foldl max a ≤ c ↔ a ≤ c ∧ ∀ x ∈ l, x ≤ c := by
  induction l with
  | nil => intro a c; simp
  | cons x l ih =>
    intro a c
    rw [List.foldl_cons, ih]
    simp only [List.mem_cons, forall_eq_or_imp]
    rw [Int.max_le, and_assoc]

end

end Go.Proofs.YtjbbcpeidnkjlaaDoor


namespace Go.Proofs.YtjbbcpeidnkjlaaDoor
open Go Go.Ab

end Go.Proofs.YtjbbcpeidnkjlaaDoor


namespace Go.Proofs.YtjbbcpeidnkjlaaDoor
open Go Go.Ab

theorem map_one_int (xs : List Int) : (xs.map (Value.int .i64)).all one = true := by simp

theorem list_spec {H : Heap} {v : Value} {xs : List Int} (hv : IntsAt H v xs) (hl : xs.length ≤ 2 ^ 20) : AFun Tryd.prog 20 [v] H (fun r B => OwnSl B H.next r (xs.map (.int .i64)) ∧ Ge H B) := by
  refine AFun.mk ok20 hm (Nat.le_of_ble_eq_true rfl) ?_
  have g0 := Ge.new H (.cells true [] 0)
  simp [a20, r20]
  refine ⟨0, [], some H.next, 0, xs.length, xs.map (.int .i64), by simp [baseOf], (hv.ge g0).1.1, map_one_int _, by omega, ?_⟩
  rw [if_neg (by simp)]
  simp
  have hc : xs.length ≤ capN 0 0 xs.length := by unfold capN; split <;> omega
  refine ⟨.inr ⟨H.next + 1, capN 0 0 xs.length, capN 0 0 xs.length, by simp, by omega, by simp [appHeap], by simp [appHeap], by simpa using hc, Nat.le_refl _⟩, ?_⟩
  exact Ge.app (Ge.new _ _) (by omega) (by simp) (by simp)

def shortB (xs : List (List Int)) : Bool := decide (xs.length ≤ 12) && xs.all fun l => decide (l.length ≤ 14)
theorem short_spec {H : Heap} {v : Value} {xs : List (List Int)} (hv : RowsAt H v xs) : AFun Tryd.prog 26 [v] H (fun r B => r = .bool (shortB xs) ∧ Ge H B) := by
  refine AFun.mk ok26 hm (Nat.le_of_ble_eq_true rfl) ?_
  have h62 := hv.lt
  unfold shortB
  simp [a26, r26]
  refine floop_intro (fun z => z.d = [] ∧ z.H = H ∧ z.t 0 = v ∧ ∃ i : Nat, i ≤ xs.length ∧ i ≤ 13 ∧ z.t 3 = .int .i64 i ∧ ∀ l ∈ xs.take i, l.length ≤ 14) (fun z => xs.length - (intOf (z.t 3)).toNat) ?_ ?_
  · exact ⟨rfl, rfl, by simp, 0, by simp, by simp, by simp, by simp⟩
  rintro ⟨t, _, A⟩ ⟨rfl, rfl, t0, i, hi, hi16, t3, hall⟩
  dsimp only at t0 t3 hv
  simp [t0, t3, hv.lenV]
  by_cases h1 : i < xs.length
  · by_cases h2 : (12 : Int) < i
    · have h5 : ¬ xs.length ≤ 12 := by omega
      simp [h1, h2, h5, t3]
    · obtain ⟨p, u, e1, e2, e3⟩ := hv.at h1
      simp [h1, h2, t0, t3, e1, e2, e3.lenV]
      refine fcond_intro (fun hc => ?_) (fun hc => ?_)
      · simp at hc
        simp
        intro _
        exact ⟨xs[i], List.getElem_mem h1, by omega⟩
      · simp at hc
        simp [t3, add_in (x := i) (y := 1) (by omega) (by omega)]
        refine ⟨⟨t0, i + 1, by omega, by omega, by omega, ?_⟩, by omega⟩
        intro l hl
        rw [List.take_succ_eq_append_getElem h1] at hl
        rcases List.mem_append.1 hl with hl | hl
        · exact hall l hl
        · simp at hl; subst hl; omega
  · simp [h1, t0, hv.lenV]
    have : xs.take i = xs := List.take_of_length_le (by omega)
    rw [this] at hall
    have e : (xs.all fun l => decide (l.length ≤ 14)) = true := by simpa using hall
    rw [e]
    simp
    omega

def thinB (D : Dy) : Bool := (D.blocks.all fun l => decide (l.length ≤ 14)) && (decide (D.blocks.length ≤ 10) && (decide (D.walk.length ≤ 8) && shortB D.walk))
theorem thinB_thin {D : Dy} (h : thinB D = true) : D.Thin := by
  simp [thinB, shortB] at h
  exact ⟨h.2.1, h.1, h.2.2.1, h.2.2.2.2⟩
theorem thin_spec {D : Dy} {b w : Value} {H : Heap} (h : DayAt H b w D) : AFun Tryd.prog 15 [dayV D b w] H (fun r B => r = .bool (thinB D) ∧ Ge H B) := by
  refine AFun.mk ok15 hm (Nat.le_of_ble_eq_true rfl) ?_
  have hb := h.blocks.one
  have hw := h.walk.one
  have h62 := h.blocks.lt
  unfold thinB
  simp [a15, r15, hb, hw]
  refine floop_intro (fun z => z.d = [] ∧ Ge H z.H ∧ H.next < z.H.next ∧ z.t 1 = .pointer (some ⟨H.next, 0, none⟩) ∧ z.H.get H.next = .cells true (dayV D b w).cells.toList 10 ∧ ∃ i : Nat, i ≤ D.blocks.length ∧ i ≤ 11 ∧ z.t 3 = .int .i64 i ∧ ∀ l ∈ D.blocks.take i, l.length ≤ 14) (fun z => D.blocks.length - (intOf (z.t 3)).toNat) ?_ ?_
  · exact ⟨rfl, by simp, by simp, by simp, by simp [Value.cells], 0, by simp, by simp, by simp, by simp⟩
  rintro ⟨t, _, A⟩ ⟨rfl, g, hn, t1, kd, i, hi, hi16, t3, hall⟩
  dsimp only at g hn t1 kd t3
  simp [Value.cells] at kd
  simp [t1, kd, t3, h.blocks.lenV]
  by_cases h1 : i < D.blocks.length
  · by_cases h2 : (10 : Int) < i
    · have h5 : ¬ D.blocks.length ≤ 10 := by omega
      simp [h1, h2, h5, t3, g]
    · obtain ⟨p, u, e1, e2, e3⟩ := h.blocks.atAll h1
      have e21 := e2 A g
      simp [h1, h2, t1, kd, t3, e1, e21, e3.lenV]
      refine fcond_intro (fun hc => ?_) (fun hc => ?_)
      · simp at hc
        simp [g]
        intro hall2
        have := hall2 _ (List.getElem_mem h1); omega
      · simp at hc
        simp [t3, add_in (x := i) (y := 1) (by omega) (by omega)]
        refine ⟨⟨g, hn, t1, by simpa [Value.cells] using kd, i + 1, by omega, by omega, by omega, ?_⟩, by omega⟩
        intro l hl
        rw [List.take_succ_eq_append_getElem h1] at hl
        rcases List.mem_append.1 hl with hl | hl
        · exact hall l hl
        · simp at hl; subst hl; omega
  · have : D.blocks.take i = D.blocks := List.take_of_length_le (by omega)
    rw [this] at hall
    have e : (D.blocks.all fun l => decide (l.length ≤ 14)) = true := by simpa using hall
    rw [e]
    simp [h1, t1, kd, h.blocks.lenV, h.walk.lenV]
    by_cases h3 : (D.blocks.length : Int) ≤ 10
    case neg =>
      have h3n : ¬ D.blocks.length ≤ 10 := by omega
      simp [h3, h3n, g]
    have h3n : D.blocks.length ≤ 10 := by omega
    simp [h3, h3n, t1, kd, h.walk.lenV]
    by_cases h4 : (D.walk.length : Int) ≤ 8
    case neg =>
      have h4n : ¬ D.walk.length ≤ 8 := by omega
      simp [h3, h4, h4n, g]
    have h4n : D.walk.length ≤ 8 := by omega
    simp [h3, h4, h4n, t1, kd]
    refine fcall_fun (short_spec (h.walk.ge g)) ?_
    rintro _ B ⟨rfl, gB⟩
    simp [h3, h4, h3n, h4n, g.trans gB]

theorem rows28_spec {H : Heap} {v : Value} {xs : List (List Int)} (hv : RowsAt H v xs) (hl : xs.length ≤ 2 ^ 20) (hll : ∀ l ∈ xs, l.length ≤ 2 ^ 20) : AFun Tryd.prog 28 [v] H (fun r B => RowsG 1 iCell B H.next (fun _ => False) r xs ∧ Ge H B) := by
  refine AFun.mk ok28 hm (Nat.le_of_ble_eq_true rfl) ?_
  have h62 := hv.lt
  simp [a28, r28]
  refine floop_intro (fun z => z.d = [] ∧ Ge H z.H ∧ z.t 0 = v ∧ ∃ i : Nat, i ≤ xs.length ∧ z.t 4 = .int .i64 i ∧ RowsG 1 iCell z.H H.next (fun _ => False) (z.t 3) (xs.take i)) (fun z => xs.length - (intOf (z.t 4)).toNat) ?_ ?_
  · exact ⟨rfl, by simp, by simp, 0, by simp, by simp, RowsG.nil (by simp)⟩
  rintro ⟨t, _, A⟩ ⟨rfl, g, t0, i, hi, t4, hR⟩
  dsimp only at g t0 t4 hR
  generalize t3 : t 3 = v3 at hR
  simp [t0, t4, hv.lenV]
  refine fcond_intro (fun hc => ?_) (fun hc => ?_)
  case refine_2 =>
    have h1 : i = xs.length := by simp at hc; omega
    subst h1
    rw [List.take_length] at hR
    simp [t3]
    exact ⟨hR, g⟩
  have h1 : i < xs.length := by simpa using hc
  obtain ⟨p, u, e1, e2, e3⟩ := hv.atGe g h1
  have hxi := hll _ (List.getElem_mem h1)
  simp [t0, t4, e1, e2]
  refine fcall_fun (list_spec (e3.ge g) hxi) ?_
  rintro x B ⟨hx, gB⟩
  have hx1 := hx.one
  simp [t3, hx1, one_cells]
  have gB2 : Ge A (B.new (.cells true [x] 1)) := gB.newOf _
  have hR2 : RowsG 1 iCell (B.new (.cells true [x] 1)) H.next (fun _ => False) v3 (xs.take i) := hR.keep gB2.next (fun n _ hn _ => gB2.get n hn) (fun _ _ hf => hf)
  have gn := g.next
  have gBn := gB.next
  have hox : OwnS (B.new (.cells true [x] 1)) H.next 1 x xs[i].length (xs[i].flatMap iCell) := by
    rw [iCell_flat]
    rcases hx with ⟨rfl, h0⟩ | ⟨n, cap, c, rfl, k1, k2, k3, k4, k5⟩
    · have h00 : xs[i].length = 0 := by have := congrArg List.length h0; simpa using this
      exact .inl ⟨rfl, h00, h0⟩
    · have f1 : n ≠ B.next := by omega
      exact .inr ⟨n, cap, c, by simp, by omega, by simp; omega, by simp [f1, k3], by simp, by simpa using k4, by omega⟩
  refine hR2.push (r := xs[i]) (x := x) (X' := fun _ => False) hox (fun m hm => ⟨fun e => ?_, fun hf => hf⟩) (fun m hf => hf.elim) (slCells_new (rw := true) (c := 1) (by simp)) (by simp; omega) (by simp) (by omega) (by simp; omega) fun u' C k1 k2 k3 k4 => ?_
  · have := (hx.names hm).1
    have := (hR.names e).2
    omega
  have h3 : ∀ m, slName v3 = some m → H.next ≤ m := fun m hm => (hR.names hm).1
  have gC : Ge H C := by
    refine ⟨by omega, fun n hn => ?_⟩
    have e1 : n ≠ B.next := by omega
    rw [k4 n (by omega) (fun e => by have := h3 n e; omega)]
    simp [e1, gB.get n (by omega), g.get n hn]
  simp [t4, add_in (x := i) (y := 1) (by omega) (by omega)]
  refine ⟨⟨gC, t0, i + 1, by omega, by omega, ?_⟩, by omega⟩
  rw [List.take_succ_eq_append_getElem h1]; exact k1

end Go.Proofs.YtjbbcpeidnkjlaaDoor


namespace Go.Proofs.YtjbbcpeidnkjlaaDoor
open Go Go.Ab

theorem day18_spec {D : Dy} {b w : Value} {H : Heap} (h : DayAt H b w D) (hT : D.Thin) : AFun Tryd.prog 18 [dayV D b w] H (fun r B => ∃ b' w', r = dayV D b' w' ∧ DayAt B b' w' D ∧ Ge H B) := by
  refine AFun.mk ok18 hm (Nat.le_of_ble_eq_true rfl) ?_
  have hb := h.blocks.one
  have hw := h.walk.one
  have hfew := hT.few
  simp [a18, r18, hb, hw]
  have gC : Ge H ((⟨((((H.new (.cells true [.int .i64 D.law.piece, .int .i64 D.law.drive, .int .i64 D.law.spread, .int .i64 D.law.brk, .int .i64 D.law.on, .int .i64 D.law.off, .int .i64 D.law.least, .int .i64 D.law.pieces, b, w] 10)).new (.cells true [.int .i64 0, .int .i64 0, .int .i64 0, .int .i64 0, .int .i64 0, .int .i64 0, .int .i64 0, .int .i64 0, .slice none 0 0, .slice none 0 0] 10)).new (.cells true [.int .i64 0, .int .i64 0, .int .i64 0, .int .i64 0, .int .i64 0, .int .i64 0, .int .i64 0, .int .i64 0] 8)).set (H.next + 2) (.cells true [.int .i64 D.law.piece, .int .i64 D.law.drive, .int .i64 D.law.spread, .int .i64 D.law.brk, .int .i64 D.law.on, .int .i64 D.law.off, .int .i64 D.law.least, .int .i64 D.law.pieces] 8)).get, H.next + 26⟩ : Heap).set (H.next + 24) (.cells true [.int .i64 0, .int .i64 0, .int .i64 0, .int .i64 0, .int .i64 0, .int .i64 0, .int .i64 0, .int .i64 0, .slice none 0 0, .slice none 0 0] 10)) :=
    Ge.setNew (Ge.grow_le (by omega) (Ge.setNew (((Ge.new _ _).newOf _).newOf _) (by omega) _)) (by omega) _
  refine fcall_fun (rows28_spec (h.walk.ge gC) (by have := hT.places; omega) (fun l hl => by have := hT.rows l hl; omega)) ?_
  rintro w' B0 ⟨hR0, g0⟩
  have n0 := g0.next
  have c0 := g0.got (n := H.next) (by simp) rfl
  have c1 := g0.got (n := H.next + 1) (by simp) rfl
  have c2 := g0.got (n := H.next + 2) (by simp) rfl
  have c24 := g0.got (n := H.next + 24) (by simp) rfl
  simp at n0 c0 c1 c2 c24
  have hw1 := hR0.one
  have gH0 := gC.trans g0
  clear gC
  simp [c2, c24, hw1, one_cells]
  have hR0' : ∀ B : Heap, B0.next ≤ B.next → (∀ n, H.next + 26 ≤ n → n < B0.next → B.get n = B0.get n) → RowsAt B w' D.walk := fun B h1 h2 =>
    rows_done (hR0.keep h1 (fun n h3 h4 _ => h2 n (by simpa using h3) h4) (fun _ _ hf => hf)) (by have := hT.places; omega) fun r hr => by have := hT.rows r hr; omega
  generalize hA0 : B0.set (H.next + 24) _ = A0
  have nA0 : A0.next = B0.next := by rw [← hA0]; rfl
  have kA0 : ∀ n, n ≠ H.next + 24 → A0.get n = B0.get n := fun n hn => by rw [← hA0, Heap.set_get, if_neg hn]
  have gA0 : Ge H A0 := ⟨by have := gH0.next; omega, fun n hn => by rw [kA0 n (by omega)]; exact gH0.get n hn⟩
  have q0 : A0.get (H.next + 24) = .cells true [.int .i64 D.law.piece, .int .i64 D.law.drive, .int .i64 D.law.spread, .int .i64 D.law.brk, .int .i64 D.law.on, .int .i64 D.law.off, .int .i64 D.law.least, .int .i64 D.law.pieces, .slice none 0 0, w'] 10 := by rw [← hA0]; simp
  clear hA0
  have d0 := (kA0 H.next (by omega)).trans c0
  have d1 := (kA0 (H.next + 1) (by omega)).trans c1
  -- the blocks, one by one
  refine floop_intro (fun z => z.d = [] ∧ A0.next ≤ z.H.next ∧ (∀ n, n < A0.next → n ≠ H.next + 24 → z.H.get n = A0.get n) ∧ z.t 1 = .pointer (some ⟨H.next, 0, none⟩) ∧ z.t 2 = .pointer (some ⟨H.next + 1, 0, none⟩) ∧ z.t 4 = .pointer (some ⟨H.next + 24, 0, none⟩) ∧ ∃ i : Nat, i ≤ D.blocks.length ∧ z.t 5 = .int .i64 i ∧ ∃ v8, z.H.get (H.next + 24) = .cells true [.int .i64 D.law.piece, .int .i64 D.law.drive, .int .i64 D.law.spread, .int .i64 D.law.brk, .int .i64 D.law.on, .int .i64 D.law.off, .int .i64 D.law.least, .int .i64 D.law.pieces, v8, w'] 10 ∧ RowsG 3 Rl.cells z.H A0.next (fun _ => False) v8 (D.blocks.take i)) (fun z => D.blocks.length - (intOf (z.t 5)).toNat) ?_ ?_
  · exact ⟨rfl, Nat.le_refl _, fun _ _ _ => rfl, by simp, by simp, by simp, 0, by omega, by simp, .slice none 0 0, q0, RowsG.nil rfl⟩
  rintro ⟨t, _, A⟩ ⟨rfl, hn, hk, t1, t2, t4, i, hi, t5, v8, kq, hR⟩
  dsimp only at hn hk t1 t2 t4 t5 kq hR
  have gHA : Ge H A := ⟨by have := gA0.next; omega, fun n h1 => by have := gA0.next; rw [hk n (by omega) (by omega)]; exact gA0.get n h1⟩
  have kd := (hk H.next (by omega) (by omega)).trans d0
  simp [t1, kd, t5, h.blocks.lenV]
  refine fcond_intro (fun hc => ?_) (fun hc => ?_)
  case refine_2 =>
    have : i = D.blocks.length := by simp at hc; omega
    subst this
    have kd1 := (hk (H.next + 1) (by omega) (by omega)).trans d1
    have hv8 := hR.one
    rw [List.take_length] at hR
    simp [t2, t4, kq, kd1, hv8, hw1]
    refine ⟨v8, w', ⟨rfl, rfl⟩, ⟨?_, ?_⟩, gHA.setNew (by omega) _⟩
    · have hR2 := hR.keep (B := A.set (H.next + 1) (.cells true [.int .i64 D.law.piece, .int .i64 D.law.drive, .int .i64 D.law.spread, .int .i64 D.law.brk, .int .i64 D.law.on, .int .i64 D.law.off, .int .i64 D.law.least, .int .i64 D.law.pieces, v8, w'] 10)) (X' := fun _ => False) (by simp) (fun n h1 h2 _ => by rw [Heap.set_get, if_neg (by omega)]) (fun _ _ hf => hf)
      exact hR2.rows (R := RelsAt) (by omega) fun u r hr ho => ⟨ho.slr, by have := hT.short r hr; omega⟩
    · exact hR0' _ (by simp; omega) fun n h1 h2 => by rw [Heap.set_get, if_neg (by omega), hk n (by omega) (by omega), kA0 n (by omega)]
  have hi' : i < D.blocks.length := by simpa using hc
  obtain ⟨p, u, e1, e2, e3⟩ := h.blocks.atAll hi'
  have hl := hT.short _ (List.getElem_mem hi')
  simp
  refine floop_intro (fun z => z.d = [] ∧ A0.next ≤ z.H.next ∧ (∀ n, n < A0.next → n ≠ H.next + 24 → z.H.get n = A0.get n) ∧ z.t 1 = .pointer (some ⟨H.next, 0, none⟩) ∧ z.t 2 = .pointer (some ⟨H.next + 1, 0, none⟩) ∧ z.t 4 = .pointer (some ⟨H.next + 24, 0, none⟩) ∧ z.t 5 = .int .i64 i ∧ z.H.get (H.next + 24) = .cells true [.int .i64 D.law.piece, .int .i64 D.law.drive, .int .i64 D.law.spread, .int .i64 D.law.brk, .int .i64 D.law.on, .int .i64 D.law.off, .int .i64 D.law.least, .int .i64 D.law.pieces, v8, w'] 10 ∧ ∃ j : Nat, j ≤ D.blocks[i].length ∧ z.t 7 = .int .i64 j ∧ OwnS z.H A0.next 3 (z.t 6) j ((D.blocks[i].take j).flatMap Rl.cells) ∧ RowsG 3 Rl.cells z.H A0.next (fun m => slName (z.t 6) = some m) v8 (D.blocks.take i)) (fun z => D.blocks[i].length - (intOf (z.t 7)).toNat) ?_ ?_
  · exact ⟨rfl, hn, hk, by simp [t1], by simp [t2], by simp [t4], by simp [t5], kq, 0, by omega, by simp, .inl ⟨by simp, rfl, by simp⟩, hR.keep (Nat.le_refl _) (fun _ _ _ _ => rfl) (fun m _ hm => by simp [slName] at hm)⟩
  have t5o := t5
  clear t1 t2 t4 t5 kq hR hn hk gHA kd hc
  rintro ⟨t, _, A⟩ ⟨rfl, hn, hk, t1, t2, t4, t5, kq, j, hj, t7, o6, hR⟩
  dsimp only at hn hk t1 t2 t4 t5 kq t7 o6 hR
  generalize t6 : t 6 = v6 at o6 hR
  have gHA : Ge H A := ⟨by have := gA0.next; omega, fun n h1 => by have := gA0.next; rw [hk n (by omega) (by omega)]; exact gA0.get n h1⟩
  have kd := (hk H.next (by omega) (by omega)).trans d0
  have e21 := e2 A gHA
  simp [t1, kd, t5, t7, e1, e21, e3.lenV]
  refine fcond_intro (fun hc => ?_) (fun hc => ?_)
  case refine_2 =>
    have : j = D.blocks[i].length := by simp at hc; omega
    subst this
    have hv6 := o6.one
    rw [List.take_length] at o6
    have ne24 : H.next + 24 ≠ A.next := by omega
    simp [t4, t6, kq, hv6, one_cells, ne24]
    have hR1 := hR.keep (B := A.new (.cells true [v6] 1)) (X' := fun m => slName v6 = some m) (by simp) (fun n _ h2 _ => by simp [Nat.ne_of_lt h2]) (fun m _ hm => hm)
    refine hR1.push (r := D.blocks[i]) (x := v6) (X' := fun _ => False) (o6.ge (Ge.new _ _)) (fun m hm => ⟨fun e => hR1.own m e hm, fun hf => hf⟩) (fun m hm => hm.elim) (slCells_new (rw := true) (c := 1) (by simp)) (by rw [List.length_take]; omega) (by simp) (by omega) (by simp; omega) fun u' B k1 k2 k3 k4 => ?_
    have h8 : ∀ m, slName v8 = some m → A0.next ≤ m := fun m hm => (hR.names hm).1
    have kB : ∀ n, n < A0.next → B.get n = A.get n := fun n h1 => by
      rw [k4 n (by omega) (fun e => by have := h8 n e; omega), Heap.new_get, if_neg (by omega)]
    have kBq := (kB (H.next + 24) (by omega)).trans kq
    have hu' := k1.one
    simp [t4, kBq, hu', hw1, one_cells, t5, add_in (x := i) (y := 1) (by omega) (by omega)]
    refine ⟨⟨by omega, fun n h1 h2 => ?_, t1, t2, i + 1, by omega, by omega, ?_⟩, by rw [t5o]; simp; omega⟩
    · simp [h2]; rw [kB n h1]; exact hk n h1 h2
    · rw [List.take_succ_eq_append_getElem hi']
      exact k1.keep (by simp) (fun n h1 _ _ => by rw [Heap.set_get, if_neg (by omega)]) (fun _ _ hf => hf)
  have hj' : j < D.blocks[i].length := by simpa using hc
  obtain ⟨n, o, f1, f2, f3, _, _⟩ := e3.at hj'
  have gn := gHA.next
  have f3A : ldA (A.get n) true 3 o = some D.blocks[i][j].val := by rw [gHA.get n f2]; exact f3
  simp [t1, kd, t5, t7, e1, e21, f1, f3A, t6, Rl.val]
  have g1 : Ge A (((A.new (.cells true [.int .i64 0, .int .i64 0, .int .i64 0] 3)).set A.next (.cells true [.int .i64 D.blocks[i][j].place, .int .i64 D.blocks[i][j].lo, .int .i64 D.blocks[i][j].hi] 3)).new (.cells true [.int .i64 D.blocks[i][j].place, .int .i64 D.blocks[i][j].lo, .int .i64 D.blocks[i][j].hi] 3)) := ((Ge.new _ _).setNew (Nat.le_refl _) _).newOf _
  refine fapp_ownS (lo := A0.next) (xs := D.blocks[i][j].cells) (o6.ge g1) (by simp [slCells, rdL, Rl.cells]) rfl (by simp [Rl.cells]) (by omega) (by omega) (by simp) (by omega) (by simp; omega) fun u6 B k1 k2 k3 k4 => ?_
  have h6n : ∀ m, slName v6 = some m → A0.next ≤ m := fun m hm => (o6.names hm).1
  have kB : ∀ m, m < A.next → slName v6 ≠ some m → B.get m = A.get m := fun m h1 h2 => by
    rw [k4 m (by omega) h2]; exact g1.get m h1
  have kBq := (kB (H.next + 24) (by omega) (fun e => by have := h6n _ e; omega)).trans kq
  simp [t7, add_in (x := j) (y := 1) (by omega) (by omega)]
  refine ⟨⟨by omega, fun m h1 h2 => ?_, t1, t2, t4, t5, kBq, j + 1, by omega, by omega, ?_, ?_⟩, by omega⟩
  · rw [kB m (by omega) (fun e => by have := h6n m e; omega)]; exact hk m h1 h2
  · rw [List.take_succ_eq_append_getElem hj', List.flatMap_append]
    simpa using k1
  · refine hR.keep (by omega) (fun m h1 h2 h3 => kB m h2 h3) fun m hm hx => ?_
    rw [k2] at hx; cases hx; omega

end Go.Proofs.YtjbbcpeidnkjlaaDoor


namespace Go.Proofs.YtjbbcpeidnkjlaaDoor
open Go Go.Ab

end Go.Proofs.YtjbbcpeidnkjlaaDoor


namespace Go.Proofs.YtjbbcpeidnkjlaaDoor
open Go Go.Ab

def low (m : Nat) : Nat := ((List.range 10).find? fun i => m.testBit i).getD 0
abbrev bitsL (m : Nat) : List Nat := bitsFrom 10 m 0

theorem brute : (List.range 1024).all (fun m => m == 0 || ((m &&& (2 ^ 64 - m)) == 2 ^ low m && (decide (low m < 10) && (bitsFrom 10 m 0 == low m :: bitsFrom 10 (diffN m (2 ^ low m)) 0 && decide (diffN m (2 ^ low m) < m))))) = true := by decide +kernel
theorem low_facts {m : Nat} (h0 : m ≠ 0) (hm : m < 1024) : (m &&& (2 ^ 64 - m)) = 2 ^ low m ∧ low m < 10 ∧ bitsL m = low m :: bitsL (diffN m (2 ^ low m)) ∧ diffN m (2 ^ low m) < m := by
  have := List.all_eq_true.1 brute m (by simpa using hm)
  simp only [Bool.or_eq_true, beq_iff_eq, h0, false_or, Bool.and_eq_true, decide_eq_true_eq] at this
  exact this
theorem bits_zero : bitsL 0 = [] := by decide +kernel

section
variable {P : Program} {t : Nat → Value} {H : Heap} {N x y : Nat} {k : IntKind} {m n : Int} {d : Option Tmp} {T U ty : TypeId} {pos : String} {af : Array Edge} {g : Option (Nat × Bool)}
theorem aval_neg {m : Nat} (hx : t x = bitsV m) (h1 : x < N) (h0 : m ≠ 0) (hm : m < 2 ^ 64) :
    aval P t H (.gen N ⟨d, .unOp .neg T (.tmp x), ty, pos, af, g⟩) = some (bitsV (2 ^ 64 - m)) := by
  refine aval_gen ?_ rfl fun w => ?_
  · simp [Op.operands, flatO, hx, h1, flat, flat1]
  · have e : IntKind.u64.wrap (-(m : Int)) = ((2 ^ 64 - m : Nat) : Int) := by
      simp [IntKind.wrap, IntKind.bits, IntKind.signed]
      omega
    simp [execOp, evO, hx, Op.unary, Op.intArith, e]
theorem aval_shr {m s : Nat} {z : Int} (hx : t x = bitsV m) (h1 : x < N) (hs : s < 64) (hz : z = (s : Int)) :
    aval P t H (.gen N ⟨d, .binOp .shr T (.tmp x) (.const (.int .u64 z)) U, ty, pos, af, g⟩) = some (bitsV (m / 2 ^ s)) := by
  refine aval_gen ?_ rfl fun w => ?_
  · simp [Op.operands, flatO, hx, h1, flat, flat1]
  · simp [execOp, evO, hx, hz, eqGuard, binOp, Op.shift]
end

theorem wrap_nat (n : Nat) : IntKind.u64.wrap (n : Int) = ((n % 2 ^ 64 : Nat) : Int) := by
  simp [IntKind.wrap, IntKind.bits, IntKind.signed]

theorem mul_bits {a b : Nat} {z : Int} (hz : z = (b : Int)) : binI BinOp.mul (bitsV a) (.int .u64 z) = some (bitsV (a * b % 2 ^ 64)) := by
  have e : binI BinOp.mul (bitsV a) (.int .u64 z) = some (.int .u64 (IntKind.u64.wrap ((a : Int) * z))) := rfl
  rw [e, hz, ← Int.natCast_mul, wrap_nat]

theorem lowest_spec {m : Nat} (h0 : m ≠ 0) (hm10 : m < 1024) (H : Heap) : AFun Tryd.prog 100 [bitsV m] H (fun r B => r = bitsV (2 ^ low m) ∧ B = H) := by
  refine AFun.mk ok100 hm (Nat.le_of_ble_eq_true rfl) ?_
  obtain ⟨h1, _⟩ := low_facts h0 hm10
  simp [a100, r100]
  rw [aval_neg (m := m) (by simp) (by decide) h0 (by omega)]
  simp
  rw [aval_and (a := m) (b := 2 ^ 64 - m) (by simp) (by simp) (by decide) (by decide) (by omega) (by omega), h1]
  simp

def tz64 : List Value := [.int .u8 0, .int .u8 1, .int .u8 56, .int .u8 2, .int .u8 57, .int .u8 49, .int .u8 28, .int .u8 3, .int .u8 61, .int .u8 58, .int .u8 42, .int .u8 50, .int .u8 38, .int .u8 29, .int .u8 17, .int .u8 4, .int .u8 62, .int .u8 47, .int .u8 59, .int .u8 36, .int .u8 45, .int .u8 43, .int .u8 51, .int .u8 22, .int .u8 53, .int .u8 39, .int .u8 33, .int .u8 30, .int .u8 24, .int .u8 18, .int .u8 12, .int .u8 5, .int .u8 63, .int .u8 55, .int .u8 48, .int .u8 27, .int .u8 60, .int .u8 41, .int .u8 37, .int .u8 16, .int .u8 46, .int .u8 35, .int .u8 44, .int .u8 21, .int .u8 52, .int .u8 32, .int .u8 23, .int .u8 11, .int .u8 54, .int .u8 26, .int .u8 40, .int .u8 15, .int .u8 34, .int .u8 20, .int .u8 31, .int .u8 10, .int .u8 25, .int .u8 14, .int .u8 19, .int .u8 9, .int .u8 13, .int .u8 8, .int .u8 7, .int .u8 6]
structure Gl (H : Heap) : Prop where
  next : 2 ≤ H.next
  tab : ∃ c, H.get 1 = .cells false tz64 c
theorem Gl.ge {H A : Heap} (h : Gl H) (g : Ge H A) : Gl A := by
  obtain ⟨h1, c, h2⟩ := h
  exact ⟨by have := g.next; omega, c, g.got (n := 1) (by omega) h2⟩

theorem tz_index : ∀ i, i < 10 → (2 ^ i * 285870213051353865 % 2 ^ 64 / 2 ^ 58 < 64 ∧ tz64[2 ^ i * 285870213051353865 % 2 ^ 64 / 2 ^ 58]? = some (.int .u8 i)) := by
  intro i hi
  match i, hi with
  | 0, _ => exact ⟨by decide, rfl⟩
  | 1, _ => exact ⟨by decide, rfl⟩
  | 2, _ => exact ⟨by decide, rfl⟩
  | 3, _ => exact ⟨by decide, rfl⟩
  | 4, _ => exact ⟨by decide, rfl⟩
  | 5, _ => exact ⟨by decide, rfl⟩
  | 6, _ => exact ⟨by decide, rfl⟩
  | 7, _ => exact ⟨by decide, rfl⟩
  | 8, _ => exact ⟨by decide, rfl⟩
  | 9, _ => exact ⟨by decide, rfl⟩

theorem wrap_low {l : Nat} (h : l < 10) : IntKind.i64.wrap (l : Int) = (l : Int) := wrap_i64 (by omega) (by omega)
theorem tz_iar {j : Nat} (h : j < 64) : iarV 64 1 (.pointer (some ⟨1, 0, none⟩)) (.int .u64 (j : Int)) = some (.pointer (some ⟨1, 0 + (j : Int).toNat * 1, none⟩)) := iarV_in (by omega) (by omega)
theorem tz_load {H : Heap} {c j : Nat} {v : Value} (hc : H.get 1 = .cells false tz64 c) (k2 : tz64[j]? = some v) : ldA (H.get 1) false 1 j = some v := by
  rw [hc, ldA_one]; exact k2

theorem tz_path {l : Nat} (h : l < 10) : ∃ q j : Nat, binI BinOp.mul (bitsV (2 ^ l)) (.int .u64 285870213051353865) = some (bitsV q) ∧ q / 2 ^ 58 = j ∧ j < 64 ∧ tz64[j]? = some (.int .u8 (l : Int)) := by
  obtain ⟨k1, k2⟩ := tz_index l h
  exact ⟨_, _, mul_bits rfl, rfl, k1, k2⟩

theorem tz64_spec {m : Nat} (h0 : m ≠ 0) (hm10 : m < 1024) {H : Heap} (hG : Gl H) : AFun Tryd.prog 121 [bitsV m] H (fun r B => r = .int .i64 (low m) ∧ B = H) := by
  obtain ⟨h1, h2, _⟩ := low_facts h0 hm10
  obtain ⟨_, c, hc⟩ := hG
  have hn : m < 2 ^ 64 := by omega
  have hn2 : 2 ^ 64 - m < 2 ^ 64 := by omega
  obtain ⟨q, j, hmul, hq, hj, ht⟩ := tz_path h2
  have hwr := wrap_low h2
  have hj := tz_iar hj
  have hld := tz_load hc ht
  generalize low m = l at *
  clear hm10 ht hc h2
  refine AFun.mk ok121 hm (Nat.le_of_ble_eq_true rfl) ?_
  simp [a121, r121, h0]
  rw [aval_neg (m := m) (by simp) (by decide) h0 hn]
  simp
  rw [aval_and (a := m) (b := 2 ^ 64 - m) (by simp) (by simp) (by decide) (by decide) hn hn2, h1]
  simp [hmul]
  rw [aval_shr (m := q) (s := 58) (z := 58) (by simp) (by decide) (by decide) rfl, hq]
  simp [hj, hld, hwr]

theorem tz_spec {m : Nat} (h0 : m ≠ 0) (hm10 : m < 1024) {H : Heap} (hG : Gl H) : AFun Tryd.prog 101 [bitsV m] H (fun r B => r = .int .i64 (low m) ∧ B = H) := by
  refine AFun.mk ok101 hm (Nat.le_of_ble_eq_true rfl) ?_
  simp [a101, r101]
  refine fcall_fun (tz64_spec h0 hm10 hG) ?_
  rintro _ _ ⟨rfl, rfl⟩
  simp

abbrev intL (l : List Nat) : List Value := l.map fun (x : Nat) => Value.int .i64 (x : Int)
theorem setList_spec {m : Nat} (hm10 : m < 1024) {H : Heap} (hG : Gl H) : AFun Tryd.prog 73 [bitsV m] H (fun r B => OwnSl B H.next r (intL (bitsL m)) ∧ Ge H B) := by
  refine AFun.mk ok73 hm (Nat.le_of_ble_eq_true rfl) ?_
  simp [a73, r73]
  refine floop_intro (fun z => z.d = [] ∧ Ge H z.H ∧ ∃ q done, q < 1024 ∧ z.t 4 = bitsV q ∧ done ++ bitsL q = bitsL m ∧ OwnSl z.H H.next (z.t 3) (intL done)) (fun z => (intOf (z.t 4)).toNat) ?_ ?_
  · refine ⟨rfl, by simp, m, [], hm10, by simp, by simp, .inr ⟨H.next, 0, 0, by simp, Nat.le_refl _, by simp, by simp, by simp, by simp⟩⟩
  rintro ⟨t, _, A⟩ ⟨rfl, g, q, done, hq, t4, hdone, o3⟩
  dsimp only at g t4 o3
  generalize t3 : t 3 = v3 at o3
  simp [t4]
  by_cases h0 : q = 0
  · subst h0
    rw [bits_zero, List.append_nil] at hdone
    subst hdone
    simp [t3]
    exact ⟨o3, g⟩
  obtain ⟨_, f2, f3, f4⟩ := low_facts h0 hq
  have hl10 : (bitsL m).length ≤ 10 := by
    have := List.length_filter_le (fun x => m.testBit x) (List.range' 0 10)
    simpa [bitsL, bitsFrom] using this
  have hz : ¬ (q : Int) = 0 := by omega
  simp [h0, t4]
  refine fcall_fun (tz_spec h0 hq (hG.ge g)) ?_
  rintro _ B ⟨rfl, hB⟩
  subst hB
  simp [t3]
  have gn := g.next
  have hlen : done.length ≤ 10 := by rw [← hdone] at hl10; simp at hl10; omega
  refine fapp_own (x := .int .i64 (low q)) (o3.ge (Ge.new _ _)) (slCells_new (rw := true) (c := 1) (by simp)) rfl (by simp; omega) (by omega) (by simp) (by omega) (by simp; omega) fun u3 C k3 k4 k5 k6 => ?_
  have h3n : ∀ m, slName v3 = some m → H.next ≤ m := fun m hm => (o3.names hm).1
  have gC : Ge H C := ⟨by omega, fun n hn => by
    have f3 : n ≠ B.next := by omega
    rw [k6 n (by omega) (fun e => by have := h3n n e; omega)]; simp [f3, g.get n hn]⟩
  simp [t4]
  refine fcall_fun (lowest_spec h0 hq _) ?_
  rintro _ B ⟨rfl, hB⟩
  subst hB
  simp
  rw [aval_diff (a := q) (b := 2 ^ low q) (by simp) (by simp) (by decide) (by decide) (by omega) (Nat.pow_lt_pow_right (by omega) (by omega))]
  simp [t4]
  refine ⟨⟨gC, diffN q (2 ^ low q), by omega, rfl, done ++ [low q], by rw [List.append_assoc, ← hdone, f3]; rfl, ?_⟩, f4⟩
  have : intL (done ++ [low q]) = intL done ++ [.int .i64 (low q)] := by simp
  rw [this]; exact k3

end Go.Proofs.YtjbbcpeidnkjlaaDoor


namespace Go.Proofs.YtjbbcpeidnkjlaaDoor
open Go Go.Ab

noncomputable def lk1H (P : Program) (T : TypeId) (z : Value) (H : Heap) (k : Value) : Value → Option Value
  | .map (some n) => match H.get n with
    | .map es _ => lk1V P T z k es
    | _ => none
  | _ => none
section
variable {P : Program} {t : Nat → Value} {dd : List Nat} {H : Heap} {K : St → Prop} {base i : Nat} {ch : Bool} {lo : List Nat} {rest : List DStep} {recs : Recs}
@[simp] theorem aval_lk1 {T : TypeId} {z : Value} {x k : Opd} : aval P t H (.lk1 T z x k) = lk1H P T z H (k.ev t) (x.ev t) := by
  simp only [aval, lk1H]; rfl
@[simp ↓] theorem vopers_lk1 {d : Nat} {T : TypeId} {z : Value} {x k : Opd} {l : List AOper} : vopers P (⟨some d, .lk1 T z x k, none⟩ :: l) ⟨t, dd, H⟩ K = @oval _ (lk1H P T z H (k.ev t) (x.ev t)) ⟨fun v => vopers P l ⟨upd t d v, dd, H⟩ K⟩ := by
  rw [← aval_lk1 (P := P)]; rfl
@[simp ↓] theorem vdraw_lk1 {d : Nat} {T : TypeId} {z : Value} {x k : Opd} : vdraw P base (⟨⟨some d, .lk1 T z x k, none⟩, i, ch, lo⟩ :: rest) recs ⟨t, dd, H⟩ K = @oval _ (lk1H P T z H (k.ev t) (x.ev t)) ⟨fun v => vdraw P base rest ((i, fun H => aval P t H (.lk1 T z x k) = some v) :: recs) ⟨upd t d v, dd, H⟩ K⟩ := by
  rw [← aval_lk1 (P := P)]; rfl
end

def placeN (ks : List Nat) (k : Nat) : Option Nat := ks.findIdx? fun j => decide (j = k)

theorem find_bits {k : Nat} : ∀ (es : List MapEntry) (ks : List Nat) (i : Nat), es.map (·.key) = ks.map bitsV →
    Instr.findNow (.int .u64) (bitsV k) es i = some ((placeN ks k).bind fun j => es[j]?.map fun e => (i + j, e.val))
  | [], ks, i, h => by
    have : ks = [] := by simpa using h.symm
    subst this; simp [Instr.findNow, placeN]
  | e :: es, [], i, h => by simp at h
  | e :: es, j :: ks, i, h => by
    simp only [List.map_cons, List.cons.injEq] at h
    have ih := find_bits (k := k) es ks (i + 1) h.2
    by_cases hjk : j = k
    · have hs : Instr.sameNow (.int .u64) (bitsV k) e.key = some true := by
        rw [h.1, hjk]; simp [Instr.sameNow]
      simp only [Instr.findNow, hs]
      simp [placeN, List.findIdx?_cons, hjk]
    · have hs : Instr.sameNow (.int .u64) (bitsV k) e.key = some false := by
        rw [h.1]; simp [Instr.sameNow]; omega
      simp only [Instr.findNow, hs, ih]
      simp only [placeN, List.findIdx?_cons, hjk, decide_false, Bool.false_eq_true, if_false]
      cases List.findIdx? (fun j => decide (j = k)) ks with
      | none => rfl
      | some q => simp [Nat.add_assoc, Nat.add_comm 1 q]

theorem keyV_bits {k : Nat} {ks : List Nat} : keyV Tryd.prog 102 (bitsV k) (ks.map bitsV) = some (placeN ks k) := by
  refine keyV_of (fun w es h => ⟨fun b => ?_, ?_⟩) fun i hi => ?_
  · obtain ⟨n, e⟩ : ∃ n, (10000 : Nat) = n + 1 := ⟨9999, rfl⟩
    rw [e]
    simp [Instr.checkKey, run_underlying Tryd.underlying102]
  · have := find_bits (k := k) es ks 0 h
    simp only [Nat.zero_add] at this
    simp only [Instr.findKey, Sem.run_bind, run_underlying Tryd.underlying102, Result.andThen_ok, this, Sem.run_pure]
  · obtain ⟨h1, _⟩ := List.findIdx?_eq_some_iff_getElem.1 hi
    simpa using h1

def MapFn (H : Heap) (n : Nat) (f : Nat → Option Value) : Prop :=
  ∃ (es : List (Value × Value × Nat)) (clock : Nat) (ks : List Nat), H.get n = .map es clock ∧ es.map (·.1) = ks.map bitsV ∧ ∀ k, f k = (placeN ks k).bind fun i => es[i]?.map fun e => e.2.1

theorem all_flat_bits (ks : List Nat) : (ks.map bitsV).all flat = true := by simp [flat, flat1]

section
variable {H A B : Heap} {n : Nat} {f : Nat → Option Value}
theorem MapFn.keep (h : MapFn A n f) (e : B.get n = A.get n) : MapFn B n f := by
  obtain ⟨es, c, ks, h1, h2⟩ := h
  exact ⟨es, c, ks, e.trans h1, h2⟩
theorem MapFn.ge (h : MapFn A n f) (g : Ge A B) (hn : n < A.next) : MapFn B n f := h.keep (g.get n hn)
theorem MapFn.empty (h : H.get n = .map [] 0) : MapFn H n fun _ => none := ⟨[], 0, [], h, rfl, fun _ => rfl⟩
theorem MapFn.isMap (h : MapFn H n f) : ∃ es c, H.get n = .map es c := by
  obtain ⟨es, c, ks, h1, _⟩ := h
  exact ⟨es, c, h1⟩

theorem MapFn.lkp (h : MapFn H n f) {z : Value} (hz : flat z = true) (k : Nat) : lkpH Tryd.prog 102 z H (bitsV k) (.map (some n)) = some (.tuple #[(f k).getD z, .bool (f k).isSome]) := by
  obtain ⟨es, c, ks, h1, h2, h3⟩ := h
  rw [lkpH_at h1]
  unfold lkpV
  rw [if_pos ⟨by simp [flat, flat1], by rw [h2]; exact all_flat_bits ks, hz⟩, h2, keyV_bits, h3 k]
  have hle : es.length = ks.length := by have := congrArg List.length h2; simpa using this
  cases hp : placeN ks k with
  | none => rfl
  | some i =>
    obtain ⟨hi, _⟩ := List.findIdx?_eq_some_iff_getElem.1 hp
    simp [List.getElem?_eq_getElem (show i < es.length by omega)]
theorem MapFn.lk1 (h : MapFn H n f) {z : Value} (hz : flat z = true) (k : Nat) : lk1H Tryd.prog 102 z H (bitsV k) (.map (some n)) = some ((f k).getD z) := by
  obtain ⟨es, c, ks, h1, h2, h3⟩ := h
  simp only [lk1H, h1]
  unfold lk1V
  rw [if_pos ⟨by simp [flat, flat1], by rw [h2]; exact all_flat_bits ks, hz⟩, h2, keyV_bits, h3 k]
  have hle : es.length = ks.length := by have := congrArg List.length h2; simpa using this
  cases hp : placeN ks k with
  | none => rfl
  | some i =>
    obtain ⟨hi, _⟩ := List.findIdx?_eq_some_iff_getElem.1 hp
    simp [List.getElem?_eq_getElem (show i < es.length by omega)]

def putF (f : Nat → Option Value) (k : Nat) (v : Value) (j : Nat) : Option Value := if j = k then some v else f j

theorem placeN_append {ks : List Nat} {k j : Nat} : placeN (ks ++ [k]) j = (placeN ks j).or (if k = j then some ks.length else none) := by
  unfold placeN
  rw [List.findIdx?_append]
  congr 1
  by_cases h : k = j <;> simp [List.findIdx?_cons, h]
theorem MapFn.put (h : MapFn H n f) (k : Nat) (v : Value) : ∃ x, mupH Tryd.prog 102 H (bitsV k) v (.map (some n)) = some (H.set n x) ∧ ∀ A : Heap, A.get n = x → MapFn A n (putF f k v) := by
  obtain ⟨es, c, ks, h1, h2, h3⟩ := h
  have hle : es.length = ks.length := by have := congrArg List.length h2; simpa using this
  have hf1 : flat (bitsV k) = true ∧ (es.map (·.1)).all flat = true := ⟨by simp [flat, flat1], by rw [h2]; exact all_flat_bits ks⟩
  simp only [mupH, h1]
  rw [if_pos hf1, h2, keyV_bits]
  cases hp : placeN ks k with
  | none =>
    refine ⟨_, rfl, fun A hA => ⟨_, _, ks ++ [k], hA, by simp [h2], fun j => ?_⟩⟩
    rw [placeN_append]
    unfold putF
    by_cases hj : j = k
    · subst hj
      simp [hp, hle]
    · rw [if_neg hj, h3 j, if_neg (Ne.symm hj)]
      cases hq : placeN ks j with
      | none => rfl
      | some i =>
        obtain ⟨hi, _⟩ := List.findIdx?_eq_some_iff_getElem.1 hq
        simp [List.getElem?_append_left (show i < es.length by omega)]
  | some i =>
    obtain ⟨hi, hik, _⟩ := List.findIdx?_eq_some_iff_getElem.1 hp
    have hie : i < es.length := by omega
    have hik' : ks[i] = k := by simpa using hik
    have hkey : es[i].1 = bitsV k := by
      have : (es.map (·.1))[i]? = (ks.map bitsV)[i]? := by rw [h2]
      simp [hie, hi] at this
      rw [this, hik']
    have hsb : Instr.sameBits 10000 es[i].1 (bitsV k) = true := by rw [hkey]; simp [Instr.sameBits]
    simp only [List.getElem?_eq_getElem hie]
    rw [if_pos hsb]
    refine ⟨_, rfl, fun A hA => ⟨_, _, ks, hA, ?_, fun j => ?_⟩⟩
    · rw [← h2, List.map_set]
      apply List.ext_getElem
      · simp
      · intro q hq1 hq2
        by_cases e : i = q
        · subst e; simp [hkey]
        · simp [e]
    · unfold putF
      by_cases hj : j = k
      · subst hj
        rw [if_pos rfl, hp]
        simp [hie]
      · rw [if_neg hj, h3 j]
        cases hq : placeN ks j with
        | none => rfl
        | some q =>
          obtain ⟨hq1, hq2, _⟩ := List.findIdx?_eq_some_iff_getElem.1 hq
          have hqj : ks[q] = j := by simpa using hq2
          have hiq : i ≠ q := fun e => by subst e; exact hj (hqj.symm.trans hik')
          simp [List.getElem?_set, hiq]
end

theorem _root_.Go.Ab.SlR.geX {A B : Heap} {m sz len : Nat} {v : Value} {cs : List Value} (h : SlR A sz v len cs) (hm : ∃ es c, A.get m = .map es c) (g : GeX m A B) : SlR B sz v len cs := by
  refine ⟨?_, fun a n c e => Nat.lt_of_lt_of_le (h.2 a n c e) g.next⟩
  rcases h.cases with ⟨rfl | rfl, rfl, rfl⟩ | ⟨n, o, cap, rw, ds, c, rfl, hg, hr⟩
  · rfl
  · rfl
  · have hn := h.2 _ _ _ rfl
    have hne : n ≠ m := fun e => by
      obtain ⟨es, c', hm⟩ := hm
      rw [e, hm] at hg; cases hg
    simp only [slCells, g.get n hn hne, hg, hr, Option.map_some]

end Go.Proofs.YtjbbcpeidnkjlaaDoor


namespace Go.Proofs.YtjbbcpeidnkjlaaDoor
open Go Go.Ab

theorem sub_iff {d m : Nat} : diffN d m = 0 ↔ ∀ i, d.testBit i = true → m.testBit i = true := by
  constructor
  · intro h i hi
    have := @testBit_diff d m i
    rw [h, Nat.zero_testBit, hi] at this
    cases hm : m.testBit i
    · simp [hm] at this
    · rfl
  · intro h
    refine Nat.eq_of_testBit_eq fun i => ?_
    rw [testBit_diff, Nat.zero_testBit]
    cases hd : d.testBit i
    · rfl
    · rw [h i hd]; rfl
theorem bit_of_ne {m : Nat} (h : m ≠ 0) : ∃ i, m.testBit i = true := Nat.exists_testBit_of_ne_zero h
theorem low_bit {m : Nat} (h0 : m ≠ 0) (hm : m < 1024) : m.testBit (low m) = true ∧ ∀ i, m.testBit i = true → low m ≤ i := by
  obtain ⟨j, hj⟩ := bit_of_ne h0
  have hlt : ∀ i, m.testBit i = true → i < 10 := fun i hi => by
    refine Nat.lt_of_not_le fun hle => ?_
    have : m < 2 ^ i := Nat.lt_of_lt_of_le hm (Nat.pow_le_pow_right (n := 2) (by omega) hle)
    rw [Nat.testBit_lt_two_pow this] at hi
    cases hi
  unfold low
  cases hf : (List.range 10).find? fun i => m.testBit i with
  | none =>
    have := List.find?_eq_none.1 hf j (by have := hlt j hj; simpa using this)
    exact absurd hj this
  | some a =>
    have h1 := List.find?_some hf
    refine ⟨by simpa using h1, fun i hi => ?_⟩
    refine Nat.le_of_not_lt fun hia => ?_
    rw [List.find?_range_eq_some] at hf
    have := hf.2.2 i (by simpa using hia)
    simp [hi] at this

structure Ch where
  first : Nat
  n : Nat
  pay : Int
  ok : Bool
deriving DecidableEq
def noCh : Ch := ⟨0, 0, 0, false⟩
def better (c o : Ch) : Bool := if !c.ok || !o.ok then c.ok else if c.n ≠ o.n then decide (c.n < o.n) else decide (c.pay < o.pay)
def nextC (r : Ch) (d : Nat) (p : Int) : Ch := ⟨d, r.n + 1, r.pay + p, r.ok⟩
def stepC (rec : Nat → Ch) (pay : Nat → Int) (m : Nat) (best : Ch) (d : Nat) : Ch :=
  if diffN d m ≠ 0 then best else if better (nextC (rec (diffN m d)) d (pay d)) best then nextC (rec (diffN m d)) d (pay d) else best
def chooseK (L : List Nat) (pay : Nat → Int) : Nat → Nat → Ch
  | 0, _ => noCh
  | k + 1, m => if m = 0 then ⟨0, 0, 0, true⟩ else (L.filter fun d => low d == low m).foldl (stepC (chooseK L pay k) pay m) noCh
def choose (L : List Nat) (pay : Nat → Int) (m : Nat) : Ch := chooseK L pay (m + 1) m

def leC (a b : Ch) : Prop := b.ok = true → a.ok = true ∧ (a.n < b.n ∨ a.n = b.n ∧ a.pay ≤ b.pay)
theorem leC.rfl {a : Ch} : leC a a := fun h => ⟨h, .inr ⟨_root_.rfl, Int.le_refl _⟩⟩
theorem leC.trans {a b c : Ch} (h1 : leC a b) (h2 : leC b c) : leC a c := fun h => by
  obtain ⟨h3, h4⟩ := h2 h
  obtain ⟨h5, h6⟩ := h1 h3
  exact ⟨h5, by omega⟩

section
variable {rec : Nat → Ch} {pay : Nat → Int} {m : Nat}
theorem step_le {best : Ch} {d : Nat} : leC (stepC rec pay m best d) best ∧ (diffN d m = 0 → leC (stepC rec pay m best d) (nextC (rec (diffN m d)) d (pay d))) := by
  unfold stepC
  by_cases h : diffN d m = 0
  case neg => exact ⟨by simp [h, leC.rfl], fun e => absurd e h⟩
  simp only [h, ne_eq, not_true, if_false, forall_const]
  generalize nextC (rec (diffN m d)) d (pay d) = c
  cases hb : better c best
  · refine ⟨by simpa using leC.rfl, ?_⟩
    intro hc
    unfold better at hb
    cases ho : best.ok
    · simp [hc, ho] at hb
    · simp [hc, ho] at hb
      refine ⟨by simpa using ho, ?_⟩
      simp only [Bool.false_eq_true, if_false]
      split at hb
      · omega
      · omega
  · refine ⟨?_, by simpa using leC.rfl⟩
    intro ho
    unfold better at hb
    cases hc : c.ok
    · simp [hc] at hb
    · simp [hc, ho] at hb
      refine ⟨by simpa using hc, ?_⟩
      simp only [if_true]
      split at hb
      · omega
      · omega
theorem fold_le : ∀ (l : List Nat) (b : Ch), leC (l.foldl (stepC rec pay m) b) b ∧ ∀ d ∈ l, diffN d m = 0 → leC (l.foldl (stepC rec pay m) b) (nextC (rec (diffN m d)) d (pay d))
  | [], b => ⟨leC.rfl, fun d hd => by cases hd⟩
  | x :: l, b => by
    obtain ⟨h1, h2⟩ := fold_le l (stepC rec pay m b x)
    rw [List.foldl_cons]
    refine ⟨h1.trans step_le.1, fun d hd he => ?_⟩
    rcases List.mem_cons.1 hd with rfl | hd
    · exact h1.trans (step_le.2 he)
    · exact h2 d hd he
def MadeOf (rec : Nat → Ch) (pay : Nat → Int) (m : Nat) (l : List Nat) (c : Ch) : Prop := c = noCh ∨ c.ok = true ∧ ∃ d ∈ l, diffN d m = 0 ∧ (rec (diffN m d)).ok = true ∧ c = nextC (rec (diffN m d)) d (pay d)
theorem fold_made {L : List Nat} : ∀ (l : List Nat) (b : Ch), (∀ d ∈ l, d ∈ L) → MadeOf rec pay m L b → MadeOf rec pay m L (l.foldl (stepC rec pay m) b)
  | [], b, _, h => h
  | x :: l, b, hl, h => by
    rw [List.foldl_cons]
    refine fold_made l _ (fun d hd => hl d (List.mem_cons_of_mem _ hd)) ?_
    unfold stepC
    by_cases hx : diffN x m = 0
    case neg => simpa [hx] using h
    simp only [hx, ne_eq, not_true, if_false]
    cases hb : better (nextC (rec (diffN m x)) x (pay x)) b
    · simpa using h
    · have hok : (rec (diffN m x)).ok = true := by
        unfold better at hb
        cases hc : (rec (diffN m x)).ok
        · simp [hc, nextC] at hb
        · rfl
      exact .inr ⟨hok, x, hl x (List.mem_cons_self ..), hx, hok, by simp⟩
theorem fold_congr {rec' : Nat → Ch} : ∀ (l : List Nat) (b : Ch), (∀ d ∈ l, diffN d m = 0 → rec (diffN m d) = rec' (diffN m d)) → l.foldl (stepC rec pay m) b = l.foldl (stepC rec' pay m) b
  | [], _, _ => rfl
  | x :: l, b, h => by
    rw [List.foldl_cons, List.foldl_cons]
    have e : stepC rec pay m b x = stepC rec' pay m b x := by
      unfold stepC
      by_cases hx : diffN x m = 0
      · rw [h x (List.mem_cons_self ..) hx]
      · simp [hx]
    rw [e]
    exact fold_congr l _ fun d hd => h d (List.mem_cons_of_mem _ hd)
end

theorem sub_less {d m : Nat} (h0 : d ≠ 0) (hs : diffN d m = 0) : diffN m d < m := by
  have h := sub_iff.1 hs
  have hle : diffN m d ≤ m := by
    have e : diffN m d &&& m = diffN m d := by
      refine Nat.eq_of_testBit_eq fun i => ?_
      rw [Nat.testBit_and, testBit_diff]
      cases m.testBit i <;> simp
    rw [← e]; exact Nat.and_le_right
  refine Nat.lt_of_le_of_ne hle fun e => ?_
  obtain ⟨i, hi⟩ := bit_of_ne h0
  have := @testBit_diff m d i
  rw [e, hi, h i hi] at this
  simp at this

def SetsOk (L : List Nat) : Prop := ∀ d ∈ L, d ≠ 0 ∧ d < 1024

section
variable {L : List Nat} {pay : Nat → Int}
theorem chooseK_eq (hL : SetsOk L) : ∀ (k m : Nat), m < k → chooseK L pay k m = choose L pay m := by
  intro k
  induction k using Nat.strongRecOn with
  | _ k ih =>
    intro m hmk
    cases k with
    | zero => omega
    | succ k =>
      unfold choose
      by_cases h0 : m = 0
      · subst h0; simp [chooseK]
      · by_cases hk : k = m
        · rw [hk]
        simp only [chooseK, h0, if_false]
        refine fold_congr _ _ fun d hd hs => ?_
        have hdL := (List.mem_filter.1 hd).1
        have hlt := sub_less (hL d hdL).1 hs
        rw [ih k (by omega) _ (by omega)]
        exact (ih m (by omega) _ hlt).symm
theorem choose_zero : choose L pay 0 = ⟨0, 0, 0, true⟩ := by simp [choose, chooseK]
theorem choose_step (hL : SetsOk L) {m : Nat} (h0 : m ≠ 0) : choose L pay m = (L.filter fun d => low d == low m).foldl (stepC (choose L pay) pay m) noCh := by
  conv => lhs; unfold choose
  simp only [chooseK, h0, if_false]
  refine fold_congr _ _ fun d hd hs => ?_
  exact chooseK_eq hL m _ (sub_less (hL d ((List.mem_filter.1 hd).1)).1 hs)

structure Part (L : List Nat) (m : Nat) (l : List Nat) : Prop where
  mem : ∀ d ∈ l, d ∈ L
  disj : l.Pairwise fun a b => a &&& b = 0
  all : ∀ i, m.testBit i = l.any fun d => d.testBit i

theorem and_zero {a b i : Nat} (h : a &&& b = 0) (ha : a.testBit i = true) : b.testBit i = false := by
  have : (a &&& b).testBit i = false := by rw [h, Nat.zero_testBit]
  rw [Nat.testBit_and, ha] at this
  simpa using this
theorem and_zero_of {a b : Nat} (h : ∀ i, a.testBit i = true → b.testBit i = false) : a &&& b = 0 := by
  refine Nat.eq_of_testBit_eq fun i => ?_
  rw [Nat.testBit_and, Nat.zero_testBit]
  cases ha : a.testBit i
  · rfl
  · rw [h i ha]; rfl
def sumP (pay : Nat → Int) (l : List Nat) : Int := (l.map pay).sum
theorem sumP_cons {d : Nat} {l : List Nat} : sumP pay (d :: l) = pay d + sumP pay l := by simp [sumP]
theorem sumP_perm {l l' : List Nat} (h : l.Perm l') : sumP pay l = sumP pay l' := by
  unfold sumP
  induction h with
  | nil => rfl
  | cons x _ ih => simp [ih]
  | swap x y l => simp only [List.map_cons, List.sum_cons]; omega
  | trans _ _ h1 h2 => exact h1.trans h2
theorem Part.perm {m : Nat} {l l' : List Nat} (h : Part L m l) (hp : l.Perm l') : Part L m l' := by
  obtain ⟨h1, h2, h3⟩ := h
  refine ⟨fun d hd => h1 d (hp.mem_iff.2 hd), hp.pairwise h2 (fun {a b} e => by rw [Nat.and_comm]; exact e), fun i => ?_⟩
  rw [h3 i, Bool.eq_iff_iff, List.any_eq_true, List.any_eq_true]
  constructor
  · rintro ⟨x, hx, hb⟩; exact ⟨x, hp.mem_iff.1 hx, hb⟩
  · rintro ⟨x, hx, hb⟩; exact ⟨x, hp.mem_iff.2 hx, hb⟩
theorem Part.tail {m d : Nat} {l : List Nat} (h : Part L m (d :: l)) : diffN d m = 0 ∧ Part L (diffN m d) l := by
  obtain ⟨h1, h2, h3⟩ := h
  rw [List.pairwise_cons] at h2
  refine ⟨sub_iff.2 fun i hi => by rw [h3 i]; simp [hi], fun x hx => h1 x (List.mem_cons_of_mem _ hx), h2.2, fun i => ?_⟩
  rw [testBit_diff, h3 i, List.any_cons]
  cases hd : d.testBit i
  · simp
  · simp only [Bool.true_or, Bool.not_true, Bool.and_false]
    symm
    rw [List.any_eq_false]
    intro x hx
    rw [and_zero (h2.1 x hx) hd]; simp
theorem Part.cons {m d : Nat} {l : List Nat} (hd : d ∈ L) (hs : diffN d m = 0) (h : Part L (diffN m d) l) : Part L m (d :: l) := by
  obtain ⟨h1, h2, h3⟩ := h
  refine ⟨fun x hx => ?_, List.pairwise_cons.2 ⟨fun x hx => and_zero_of fun i hi => ?_, h2⟩, fun i => ?_⟩
  · rcases List.mem_cons.1 hx with rfl | hx
    · exact hd
    · exact h1 x hx
  · have := h3 i
    rw [testBit_diff, hi] at this
    simp only [Bool.not_true, Bool.and_false] at this
    have := (List.any_eq_false.1 this.symm) x hx
    simpa using this
  · rw [List.any_cons, ← h3 i, testBit_diff]
    cases hb : d.testBit i
    · simp
    · simp [sub_iff.1 hs i hb]
theorem Part.zero {l : List Nat} (hL : SetsOk L) (h : Part L 0 l) : l = [] := by
  cases l with
  | nil => rfl
  | cons d l =>
    obtain ⟨i, hi⟩ := bit_of_ne (hL d (h.mem d (List.mem_cons_self ..))).1
    have := h.all i
    rw [Nat.zero_testBit, List.any_cons, hi] at this
    simp at this
theorem Part.nil : Part L 0 [] := ⟨fun _ h => (by cases h), List.Pairwise.nil, fun i => (by simp)⟩

theorem low_sub {d m : Nat} (hd : d ≠ 0 ∧ d < 1024) (hm : m < 1024) (hs : diffN d m = 0) (hb : d.testBit (low m) = true) : low d = low m := by
  have h0 : m ≠ 0 := fun e => by
    obtain ⟨i, hi⟩ := bit_of_ne hd.1
    have := sub_iff.1 hs i hi
    rw [e, Nat.zero_testBit] at this
    cases this
  have h1 := low_bit hd.1 hd.2
  have h2 := low_bit h0 hm
  have := h1.2 _ hb
  have := h2.2 _ (sub_iff.1 hs _ h1.1)
  omega

theorem choose_least (hL : SetsOk L) : ∀ (m : Nat), m < 1024 → ∀ l, Part L m l → (choose L pay m).ok = true ∧ ((choose L pay m).n < l.length ∨ (choose L pay m).n = l.length ∧ (choose L pay m).pay ≤ sumP pay l) := by
  intro m
  induction m using Nat.strongRecOn with
  | _ m ih =>
    intro hm l hl
    by_cases h0 : m = 0
    · subst h0
      rw [hl.zero hL, choose_zero]
      exact ⟨rfl, .inr ⟨rfl, Int.le_refl _⟩⟩
    obtain ⟨k1, _⟩ := low_bit h0 hm
    have k2 := hl.all (low m)
    rw [k1] at k2
    obtain ⟨d, hd, hb⟩ := List.any_eq_true.1 k2.symm
    have hp : l.Perm (d :: l.erase d) := List.perm_cons_erase hd
    obtain ⟨hs, ht⟩ := (hl.perm hp).tail
    have hdL := hL d (hl.mem d hd)
    have hlow := low_sub hdL hm hs hb
    have hlt := sub_less hdL.1 hs
    obtain ⟨i1, i2⟩ := ih _ hlt (by omega) _ ht
    have hmem : d ∈ L.filter fun d => low d == low m := List.mem_filter.2 ⟨hl.mem d hd, by simp [hlow]⟩
    rw [choose_step hL h0]
    have hle := (fold_le (rec := choose L pay) (pay := pay) (m := m) (L.filter fun d => low d == low m) noCh).2 d hmem hs
    obtain ⟨j1, j2⟩ := hle (by simpa [nextC] using i1)
    refine ⟨j1, ?_⟩
    have hlen := hp.length_eq
    have hsum := sumP_perm (pay := pay) hp
    rw [sumP_cons] at hsum
    simp only [nextC] at j2
    simp only [List.length_cons] at hlen
    omega

def planK (f : Nat → Ch) : Nat → Nat → List Nat
  | 0, _ => []
  | k + 1, m => if (f m).first = 0 then [] else (f m).first :: planK f k (diffN m (f m).first)
def planOf (L : List Nat) (pay : Nat → Int) (m : Nat) : List Nat := planK (choose L pay) (m + 1) m

theorem choose_made (hL : SetsOk L) {m : Nat} (h0 : m ≠ 0) : MadeOf (choose L pay) pay m (L.filter fun d => low d == low m) (choose L pay m) := by
  conv => arg 5; rw [choose_step hL h0]
  exact fold_made _ _ (fun d hd => hd) (.inl rfl)

theorem planK_eq (hL : SetsOk L) : ∀ (k m : Nat), m < k → planK (choose L pay) k m = planOf L pay m := by
  intro k
  induction k using Nat.strongRecOn with
  | _ k ih =>
    intro m hmk
    cases k with
    | zero => omega
    | succ k =>
      by_cases hk : k = m
      · rw [hk]; rfl
      unfold planOf
      simp only [planK]
      by_cases hf : (choose L pay m).first = 0
      · simp [hf]
      simp only [hf, if_false]
      have h0 : m ≠ 0 := fun e => by subst e; rw [choose_zero] at hf; exact hf rfl
      rcases choose_made hL h0 with e | ⟨_, d, hd, hs, _, e⟩
      · rw [e] at hf; exact absurd rfl hf
      have ef : (choose L pay m).first = d := by rw [e]; rfl
      have hlt := sub_less (hL d ((List.mem_filter.1 hd).1)).1 hs
      rw [ef, ih k (by omega) _ (by omega), ih m (by omega) _ hlt]

theorem planOf_step (hL : SetsOk L) {m : Nat} (hf : (choose L pay m).first ≠ 0) : planOf L pay m = (choose L pay m).first :: planOf L pay (diffN m (choose L pay m).first) ∧ diffN m (choose L pay m).first < m := by
  have h0 : m ≠ 0 := fun e => by subst e; rw [choose_zero] at hf; exact hf rfl
  rcases choose_made hL h0 with e | ⟨_, d, hd, hs, _, e⟩
  · rw [e] at hf; exact absurd rfl hf
  have ef : (choose L pay m).first = d := by rw [e]; rfl
  have hlt := sub_less (hL d ((List.mem_filter.1 hd).1)).1 hs
  refine ⟨?_, by rw [ef]; exact hlt⟩
  conv => lhs; unfold planOf
  simp only [planK, hf, if_false]
  rw [ef, planK_eq hL _ _ hlt]
theorem planOf_end {m : Nat} (hf : (choose L pay m).first = 0) : planOf L pay m = [] := by simp [planOf, planK, hf]

theorem plan_part (hL : SetsOk L) : ∀ (m : Nat), m < 1024 → (choose L pay m).ok = true → Part L m (planOf L pay m) ∧ (planOf L pay m).length = (choose L pay m).n ∧ sumP pay (planOf L pay m) = (choose L pay m).pay ∧ (planOf L pay m).Pairwise (fun a b => low a < low b) ∧ ∀ d ∈ planOf L pay m, low m ≤ low d := by
  intro m
  induction m using Nat.strongRecOn with
  | _ m ih =>
    intro hm hok
    by_cases h0 : m = 0
    · subst h0
      rw [planOf_end (by rw [choose_zero]), choose_zero]
      exact ⟨Part.nil, rfl, rfl, List.Pairwise.nil, fun _ h => by cases h⟩
    rcases choose_made hL h0 with e | ⟨_, d, hd, hs, hr, e⟩
    · rw [e] at hok; cases hok
    have ef : (choose L pay m).first = d := by rw [e]; rfl
    obtain ⟨hdL, hlow⟩ := List.mem_filter.1 hd
    have hlow : low d = low m := by simpa using hlow
    have hd0 := hL d hdL
    obtain ⟨s1, s2⟩ := planOf_step hL (m := m) (pay := pay) (by rw [ef]; exact hd0.1)
    rw [ef] at s1 s2
    obtain ⟨i1, i2, i3, i4, i5⟩ := ih _ s2 (by omega) hr
    rw [s1]
    refine ⟨Part.cons hdL hs i1, by rw [List.length_cons, i2, e]; rfl, by rw [sumP_cons, i3, e]; simp [nextC, Int.add_comm], List.pairwise_cons.2 ⟨fun x hx => ?_, i4⟩, fun x hx => ?_⟩
    · have hx0 := hL x (i1.mem x hx)
      have hne : diffN m d ≠ 0 := fun e0 => by rw [e0, planOf_end (by rw [choose_zero])] at hx; cases hx
      have hq := low_bit hne (by omega)
      have hq1 := hq.1
      rw [testBit_diff] at hq1
      simp only [Bool.and_eq_true, Bool.not_eq_true'] at hq1
      have hl := (low_bit h0 hm).2 _ hq1.1
      have hne2 : low (diffN m d) ≠ low m := fun e1 => by
        rw [e1, ← hlow, (low_bit hd0.1 hd0.2).1] at hq1
        cases hq1.2
      have := i5 x hx
      omega
    · rcases List.mem_cons.1 hx with rfl | hx
      · omega
      · have hne : diffN m d ≠ 0 := fun e0 => by rw [e0, planOf_end (by rw [choose_zero])] at hx; cases hx
        have hq1 := (low_bit hne (by omega)).1
        rw [testBit_diff] at hq1
        simp only [Bool.and_eq_true] at hq1
        have := (low_bit h0 hm).2 _ hq1.1
        have := i5 x hx
        omega
end

end Go.Proofs.YtjbbcpeidnkjlaaDoor

