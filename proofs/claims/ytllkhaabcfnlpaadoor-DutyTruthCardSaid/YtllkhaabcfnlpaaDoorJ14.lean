/-
  Joined texts of a calculus of abstract memory, of the program's code in it, and of contracts.
-/
import Derived.Test.YtllkhaabcfnlpaaDoorJ6
import Derived.Test.YtllkhaabcfnlpaaDoorJ10
import Derived.Test.YtllkhaabcfnlpaaDoorJ11
import Derived.Test.YtllkhaabcfnlpaaDoorJ12
import Derived.Test.YtllkhaabcfnlpaaDoorJ13
import Derived.WalkKit
import Derived.ProofKit
import Derived.OpenShut
import Derived.Deep.DeepHandedRow
import Derived.Test.YtllkhaabcfnlpaaDoorCards
import Derived.Test.YtllkhaabcfnlpaaDoorTie
namespace Go.Proofs.YtllkhaabcfnlpaaDoor
open Go Go.Ab

def knownT (T : List (List Int)) : List (List (Int × Int)) := T.map fun l => l.map fun x => (x, x)
theorem kAt_truth {T : List (List Int)} (b n : Nat) : kAt (knownT T) b n = (tAt T b n, tAt T b n) := by
  unfold kAt tAt knownT
  rw [List.getElem?_map]
  cases T[b]? with
  | none => rfl
  | some x =>
    simp only [Option.map_some, Option.bind_some]
    rw [List.getElem?_map]
    cases x[n]? <;> rfl

structure KInv (D : Dy) (b w s v12 : Value) (A0 : Heap) (q : Nat) (A : Heap) (X : Nat → Prop) (v11 : Value) (rows : List (List (Int × Int))) : Prop where
  next : A0.next ≤ A.next
  keep : ∀ n, n < A0.next → n ≠ q → A.get n = A0.get n
  box : A.get q = .cells true [.int .i64 D.law.piece, .int .i64 D.law.drive, .int .i64 D.law.spread, .int .i64 D.law.brk, .int .i64 D.law.on, .int .i64 D.law.off, .int .i64 D.law.least, .int .i64 D.law.pieces, b, w, s, v11, v12] 13
  rows : RowsG 2 endCells A A0.next X v11 rows
  apart : ∀ m, X m → A0.next ≤ m ∧ m < A.next

section
variable {D : Dy} {b w s v12 : Value} {A0 A B : Heap} {q : Nat} {X X' : Nat → Prop} {v11 : Value} {rows : List (List (Int × Int))}

theorem KInv.move (h : KInv D b w s v12 A0 q A X v11 rows) (hq : q < A0.next) (hn : A.next ≤ B.next) (hk : ∀ n, n < A.next → ¬ X n → B.get n = A.get n) (hX : ∀ m, X' m → X m ∨ (A.next ≤ m ∧ m < B.next)) : KInv D b w s v12 A0 q B X' v11 rows := by
  have hXq : ∀ n, n < A0.next → ¬ X n := fun n hn2 hx => by have := (h.apart n hx).1; omega
  have hnx := h.next
  refine ⟨by omega, fun n h1 h2 => by rw [hk n (by omega) (hXq n h1)]; exact h.keep n h1 h2, by rw [hk q (by omega) (hXq q hq)]; exact h.box, ?_, ?_⟩
  · refine h.rows.keep hn (fun n _ h2 h3 => hk n h2 h3) fun m hm hx => ?_
    rcases hX m hx with hx | hx
    · exact hx
    · omega
  · intro m hx
    rcases hX m hx with hx | hx
    · have := h.apart m hx; exact ⟨this.1, by omega⟩
    · exact ⟨by omega, hx.2⟩

theorem KInv.row {u : Value} {n : Nat} {c : AObj} {rows' : List (List (Int × Int))} (h : KInv D b w s v12 A0 q A X v11 rows) (hq : q < A0.next) (hn : A.next ≤ n) (hB : n < B.next) (hu : slName u = some n)
    (hr : RowsG 2 endCells B A0.next (fun _ => False) u rows') (hk : ∀ m, m ≠ n → slName v11 ≠ some m → B.get m = A.get m)
    (hc : c = .cells true [.int .i64 D.law.piece, .int .i64 D.law.drive, .int .i64 D.law.spread, .int .i64 D.law.brk, .int .i64 D.law.on, .int .i64 D.law.off, .int .i64 D.law.least, .int .i64 D.law.pieces, b, w, s, u, v12] 13) :
    KInv D b w s v12 A0 q (B.set q c) (fun _ => False) u rows' := by
  have hnx := h.next
  have h11 : ∀ m, m < A0.next → slName v11 ≠ some m := fun m hm e => by have := (h.rows.names e).1; omega
  refine ⟨by simp; omega, fun m h1 h2 => ?_, by simp [hc], ?_, fun m hx => hx.elim⟩
  · simp [h2]; rw [hk m (by omega) (h11 m h1)]; exact h.keep m h1 h2
  · refine hr.keep (by simp) (fun m h1 h2 h3 => ?_) fun m hm hx => hx.elim
    have e2 : m ≠ q := by omega
    simp [e2]
end

theorem inTruth_spec {D : Dy} {K : List (List (Int × Int))} {b w s k q v : Value} {H : Heap} {T : List (List Int)} (h : PlanAt H b w s k q D K) (hT : RowsAt H v T) (hl : T.length ≤ 20) (hll : ∀ r ∈ T, r.length ≤ 20) :
    AFun Tryd.prog 67 [planV D b w s k q, v] H (fun r B => ∃ k', r = planV D b w s k' q ∧ PlanAt B b w s k' q D (knownT T) ∧ Ge H B) := by
  refine AFun.mk ok67 hm (Nat.le_of_ble_eq_true rfl) ?_
  have hb := h.day.blocks.one
  have hw := h.day.walk.one
  have hs := h.segs.one
  have hk := h.known.one
  have hq : one q = true := SlR.one h.quest
  simp [a67, r67, hb, hw, hs, hk, hq, hT.lenV]
  generalize hA0 : Heap.set _ H.next _ = A0
  have nx0 : A0.next = H.next + 2 := by rw [← hA0]; simp
  have g0 : Ge H A0 := by
    rw [← hA0]
    exact Ge.setNew (Ge.newOf (Ge.new H _) _) (by omega) _
  have c0 : A0.get H.next = .cells true [.int .i64 D.law.piece, .int .i64 D.law.drive, .int .i64 D.law.spread, .int .i64 D.law.brk, .int .i64 D.law.on, .int .i64 D.law.off, .int .i64 D.law.least, .int .i64 D.law.pieces, b, w, s, .slice none 0 0, q] 13 := by rw [← hA0]; simp
  have c1 : A0.get (H.next + 1) = .cells true [.int .i64 0, .int .i64 0, .int .i64 0, .int .i64 0, .int .i64 0, .int .i64 0, .int .i64 0, .int .i64 0, .slice none 0 0, .slice none 0 0, .slice none 0 0, .slice none 0 0, .slice none 0 0] 13 := by rw [← hA0]; simp
  clear hA0
  have geOf : ∀ {A X v11 rows}, KInv D b w s q A0 H.next A X v11 rows → Ge H A := fun hI => ⟨by have := hI.next; omega, fun n hn => by rw [hI.keep n (by omega) (by omega)]; exact g0.get n hn⟩
  refine floop_intro (fun z => z.d = [] ∧ z.t 2 = .pointer (some ⟨H.next, 0, none⟩) ∧ z.t 4 = .pointer (some ⟨H.next + 1, 0, none⟩) ∧ z.t 11 = v ∧ z.t 12 = .int .i64 T.length ∧ ∃ i : Nat, i ≤ T.length ∧ z.t 13 = .int .i64 i ∧ ∃ v11, KInv D b w s q A0 H.next z.H (fun _ => False) v11 ((knownT T).take i)) (fun z => T.length - (intOf (z.t 13)).toNat) ?_ ?_
  · exact ⟨rfl, by simp, by simp, by simp, by simp, 0, by simp, by simp, .slice none 0 0, Nat.le_refl _, fun _ _ _ => rfl, c0, RowsG.nil rfl, fun m hx => hx.elim⟩
  rintro ⟨t, _, A⟩ ⟨rfl, t2, t4, t11, t12, i, hi, t13, v11, hI⟩
  dsimp only at t2 t4 t11 t12 t13 hI
  simp [t12, t13]
  refine fcond_intro (fun hc => ?_) (fun hc => ?_)
  case refine_2 =>
    have : i = T.length := by simp at hc; omega
    subst this
    have hG := geOf hI
    have hnx := hI.next
    have e1 : A.get (H.next + 1) = _ := (hI.keep (H.next + 1) (by omega) (by omega)).trans c1
    simp [t2, t4, hI.box, e1, hb, hw, hs, hq, hI.rows.one]
    have hG2 : Ge H (A.set (H.next + 1) (.cells true [.int .i64 D.law.piece, .int .i64 D.law.drive, .int .i64 D.law.spread, .int .i64 D.law.brk, .int .i64 D.law.on, .int .i64 D.law.off, .int .i64 D.law.least, .int .i64 D.law.pieces, b, w, s, v11, q] 13)) := hG.setNew (by omega) _
    refine ⟨⟨h.day.ge hG2, h.segs.ge hG2, ?_, SlR.ge h.quest hG2⟩, hG2⟩
    have hfull : (knownT T).take T.length = knownT T := by rw [List.take_of_length_le]; simp [knownT]
    have hrows := hI.rows.keep (B := A.set (H.next + 1) (.cells true [.int .i64 D.law.piece, .int .i64 D.law.drive, .int .i64 D.law.spread, .int .i64 D.law.brk, .int .i64 D.law.on, .int .i64 D.law.off, .int .i64 D.law.least, .int .i64 D.law.pieces, b, w, s, v11, q] 13)) (X' := fun _ => False) (by simp) (fun n h1 h2 _ => by
      have : n ≠ H.next + 1 := by omega
      simp [this]) (fun _ _ hx => hx.elim)
    rw [hfull] at hrows
    refine hrows.rows (R := EndsAt) ?_ ?_
    · simp [knownT]; omega
    · intro u r hr ho
      refine ⟨ho.slr, ?_⟩
      simp only [knownT, List.mem_map] at hr
      obtain ⟨x, hx, rfl⟩ := hr
      have := hll _ hx
      simp; omega
  have hi' : i < T.length := by simpa using hc
  obtain ⟨p, u, e1, e2, e3⟩ := RowsOf.atAll hT hi'
  have hlr := hll _ (List.getElem_mem hi')
  simp [t11, t13, e1, e2 _ (geOf hI), e3.lenV]
  refine floop_intro (fun z => z.d = [] ∧ z.t 2 = .pointer (some ⟨H.next, 0, none⟩) ∧ z.t 4 = .pointer (some ⟨H.next + 1, 0, none⟩) ∧ z.t 11 = v ∧ z.t 12 = .int .i64 T.length ∧ z.t 13 = .int .i64 i ∧ z.t 17 = u ∧ z.t 18 = .int .i64 T[i].length ∧ ∃ j : Nat, j ≤ T[i].length ∧ z.t 19 = .int .i64 j ∧ ∃ v7 v11, z.t 7 = v7 ∧ OwnS z.H A0.next 2 v7 j (((T[i].take j).map fun x => (x, x)).flatMap endCells) ∧ KInv D b w s q A0 H.next z.H (fun m => slName v7 = some m) v11 ((knownT T).take i)) (fun z => T[i].length - (intOf (z.t 19)).toNat) ?_ ?_
  · refine ⟨rfl, by simp [t2], by simp [t4], by simp [t11], by simp [t12], by simp [t13], by simp, by simp, 0, by simp, by simp, .slice none 0 0, v11, by simp, .inl ⟨rfl, rfl, by simp⟩, ?_⟩
    exact hI.move (X' := fun m => slName (.slice none 0 0) = some m) (by omega) (Nat.le_refl _) (fun _ _ _ => rfl) (fun m hm => by cases hm)
  have t13o := t13
  clear t2 t4 t11 t12 t13 hI hc
  rintro ⟨t, _, A⟩ ⟨rfl, t2, t4, t11, t12, t13, t17, t18, j, hj, t19, v7, v11, t7, o7, hI⟩
  dsimp only at t2 t4 t11 t12 t13 t17 t18 t19 t7 o7 hI
  simp [t18, t19]
  refine fcond_intro (fun hc => ?_) (fun hc => ?_)
  case refine_2 =>
    have : j = T[i].length := by simp at hc; omega
    subst this
    have hv7 := o7.one
    have hnx := hI.next
    have ne0 : H.next ≠ A.next := by omega
    simp [t2, t7, hI.box, hv7, one_cells, ne0]
    have hI1 := hI.move (B := A.new (.cells true [v7] 1)) (X' := fun m => slName v7 = some m) (by omega) (by simp) (fun n hn _ => by simp [Nat.ne_of_lt hn]) (fun m hm => .inl hm)
    have o71 := o7.ge (Ge.new A (.cells true [v7] 1))
    have hlrow : (((T[i].take T[i].length).map fun x => (x, x))).length = T[i].length := by simp
    refine hI1.rows.push (r := (T[i].take T[i].length).map fun x => (x, x)) (x := v7) (X' := fun _ => False) (by rw [hlrow]; exact o71) (fun m hm => ⟨fun e => hI1.rows.own m e hm, fun hf => hf⟩) (fun m hf => hf.elim) (slCells_new (H := A.new (.cells true [v7] 1)) (rw := true) (c := 1) (by simp)) ?_ (by simp) (by omega) (by simp; omega) fun u' B k1 k2 k3 k4 => ?_
    · rw [List.length_take]; simp [knownT]; omega
    have hq11 : slName v11 ≠ some H.next := fun e => by have := (hI.rows.names e).1; omega
    have kq : B.get H.next = _ := k4 H.next (by simp; omega) hq11
    simp [ne0, hI.box] at kq
    have hu1 : one u' = true := k1.one
    simp [t2, kq, hu1, one_cells, t13, add_in (x := i) (y := 1) (by omega) (by omega)]
    refine ⟨⟨t4, t11, t12, i + 1, by omega, by omega, u', ?_⟩, by rw [t13o]; simp; omega⟩
    have hfin := hI1.row (q := H.next) (c := .cells true [.int .i64 D.law.piece, .int .i64 D.law.drive, .int .i64 D.law.spread, .int .i64 D.law.brk, .int .i64 D.law.on, .int .i64 D.law.off, .int .i64 D.law.least, .int .i64 D.law.pieces, b, w, s, u', q] 13) (by omega) (n := A.next + 1) (by simp) (by omega) k2 k1 k4 rfl
    have hrows : (knownT T).take i ++ [(T[i].take T[i].length).map fun x => (x, x)] = (knownT T).take (i + 1) := by
      rw [List.take_succ_eq_append_getElem (by simp [knownT]; exact hi')]
      simp [knownT]
    rw [hrows] at hfin
    exact hfin
  have hj' : j < T[i].length := by simpa using hc
  obtain ⟨p2, l1, l2⟩ := e3.atAll hj'
  have hnx := hI.next
  have l2' := l2 _ (geOf hI)
  simp [t17, t19, t7, l1, l2']
  have g1 : Ge A (A.new (.cells true [.int .i64 T[i][j], .int .i64 T[i][j]] 2)) := Ge.new _ _
  refine fapp_ownS (lo := A0.next) (xs := [.int .i64 T[i][j], .int .i64 T[i][j]]) (o7.ge g1) (by simp [slCells, rdL]) rfl (by simp) (by omega) (by omega) (by simp) (by omega) (by simp; omega) fun u7 B k1 k2 k3 k4 => ?_
  have hcs : (((T[i].take j).map fun x => (x, x)).flatMap endCells) ++ [.int .i64 T[i][j], .int .i64 T[i][j]] = (((T[i].take (j + 1)).map fun x => (x, x)).flatMap endCells) := by
    rw [List.take_succ_eq_append_getElem hj', List.map_append, List.flatMap_append]; rfl
  rw [hcs] at k1
  have hB : ∀ m, m < A.next → slName v7 ≠ some m → B.get m = A.get m := fun m hm hne => by
    rw [k4 m (by omega) hne]; exact g1.get m hm
  have hIB := hI.move (B := B) (X' := fun m => slName u7 = some m) (by omega) (by omega) (fun m hm hx => hB m hm hx) (fun m hm => .inr (by rw [k2] at hm; cases hm; omega))
  simp [t19, add_in (x := j) (y := 1) (by omega) (by omega)]
  refine ⟨⟨t2, t4, t11, t12, t13, t17, t18, j + 1, by omega, by simp, by simpa using k1, v11, hIB⟩, by omega⟩

end Go.Proofs.YtllkhaabcfnlpaaDoor


namespace Go.Proofs.YtllkhaabcfnlpaaDoor
open Go Go.Ab

theorem truth_len {D : Dy} {T : List (List Int)} (h : truthD D T = true) : T.length = D.blocks.length := by
  unfold truthD at h
  rw [Bool.and_eq_true, decide_eq_true_eq] at h
  exact h.1
theorem truth_row {D : Dy} {T : List (List Int)} (h : truthD D T = true) {i : Nat} (hi : i < D.blocks.length) (hi2 : i < T.length) : truthOf D.blocks[i] T[i] = true := by
  unfold truthD at h
  rw [Bool.and_eq_true, List.all_eq_true] at h
  have := h.2 i (by simpa using hi)
  simpa [hi, hi2] using this
theorem truthOf_at {r : List Rl} {ts : List Int} (h : truthOf r ts = true) : ts.length = r.length ∧ ∀ i (hi : i < r.length) (hi2 : i < ts.length), r[i].lo ≤ ts[i] ∧ ts[i] ≤ r[i].hi := by
  unfold truthOf at h
  rw [Bool.and_eq_true, decide_eq_true_eq, List.all_eq_true] at h
  refine ⟨h.1, fun i hi hi2 => ?_⟩
  have := h.2 i (by simpa using hi)
  simp [tOk, hi, hi2] at this
  exact ⟨this.1.1, this.1.2⟩
theorem truth_rows {D : Dy} {T : List (List Int)} (hV : Valid D) (h : truthD D T = true) : ∀ x ∈ T, ∀ y ∈ x, 0 ≤ y ∧ y ≤ 3000 := by
  intro x hx y hy
  have hl := truth_len h
  obtain ⟨i, hi, rfl⟩ := List.mem_iff_getElem.1 hx
  have hr := truth_row h (i := i) (by omega) hi
  obtain ⟨h1, h2⟩ := truthOf_at hr
  obtain ⟨j, hj, rfl⟩ := List.mem_iff_getElem.1 hy
  have h3 := h2 j (by omega) hj
  have h4 := hV.rel (List.getElem_mem (by omega : i < D.blocks.length)) (List.getElem_mem (by omega : j < D.blocks[i].length))
  omega
theorem truth_spots {D : Dy} {T : List (List Int)} (h : truthD D T = true) {b n : Nat} (hs : D.has b n) : ∃ x, T[b]? = some x ∧ n < x.length := by
  obtain ⟨x, h1, h2⟩ := hs
  obtain ⟨hb, rfl⟩ := List.getElem?_eq_some_iff.1 h1
  have hl := truth_len h
  have hr := truth_row h hb (by omega)
  have h3 := (truthOf_at hr).1
  exact ⟨T[b], List.getElem?_eq_getElem (by omega), by omega⟩
theorem truth_KOk {D : Dy} {T : List (List Int)} (hV : Valid D) (h : truthD D T = true) : KOk D (knownT T) := by
  refine ⟨fun b n hs => ?_, fun x hx y hy => ?_⟩
  · obtain ⟨x, h1, h2⟩ := truth_spots h hs
    exact ⟨x.map fun z => (z, z), by simp [knownT, h1], by simpa using h2⟩
  · simp only [knownT, List.mem_map] at hx
    obtain ⟨z, hz, rfl⟩ := hx
    obtain ⟨r, hr, rfl⟩ := List.mem_map.1 hy
    have := truth_rows hV h z hz r hr
    exact ⟨this, this⟩

def doE (D : Dy) (xs : List Int) (T : List (List Int)) : Int := if errD D xs = 0 then (if truthD D T then 0 else 2) else errD D xs
def doDrive (D : Dy) (xs : List Int) (T : List (List Int)) : Int := (lTo (knownT T) (piecesL D (maskL xs)) (piecesL D (maskL xs)).length).sum
def doSpread (D : Dy) (xs : List Int) (T : List (List Int)) : Int := spreadOf D (knownT T) (piecesL D (maskL xs))
def doBreaks (D : Dy) (xs : List Int) (T : List (List Int)) : List Int := bTo (restOf (knownT T)) (piecesL D (maskL xs)) (piecesL D (maskL xs)).length
def doLegal (D : Dy) (xs : List Int) (T : List (List Int)) : Bool := legalB D (knownT T) (piecesL D (maskL xs))

structure DoR (D : Dy) (xs : List Int) (T : List (List Int)) (A : Heap) (vd vs vB vl : Value) : Prop where
  one : Go.Ab.one vB = true
  bad : doE D xs T ≠ 0 → vd = .int .i64 0 ∧ vs = .int .i64 0 ∧ vB = .slice none 0 0 ∧ vl = .bool false
  good : doE D xs T = 0 → vd = .int .i64 (doDrive D xs T) ∧ vs = .int .i64 (doSpread D xs T) ∧ IntsAt A vB (doBreaks D xs T) ∧ vl = .bool (doLegal D xs T)
theorem DoR.ge {D : Dy} {xs : List Int} {T : List (List Int)} {A B : Heap} {vd vs vB vl : Value} (h : DoR D xs T A vd vs vB vl) (g : Ge A B) : DoR D xs T B vd vs vB vl :=
  ⟨h.one, h.bad, fun e => let ⟨a, b, c, d⟩ := h.good e; ⟨a, b, c.ge g, d⟩⟩

theorem do_spec {D : Dy} {b w v u : Value} {H : Heap} {xs : List Int} {T : List (List Int)} (h : DayAt H b w D) (hTh : D.Thin) (hv : IntsAt H v xs) (hlen : xs.length < 2 ^ 31) (hT : RowsAt H u T) (hl : T.length ≤ 20) (hll : ∀ r ∈ T, r.length ≤ 20) :
    AFun Tryd.prog 27 [dayV D b w, v, u] H (fun r B => ∃ vd vs vB vl, r = .tuple #[.agg #[vd, vs, vB, vl], .int .i64 (doE D xs T)] ∧ DoR D xs T B vd vs vB vl ∧ Ge H B) := by
  refine AFun.mk ok27 hm (Nat.le_of_ble_eq_true rfl) ?_
  have hb := h.blocks.one
  have hw := h.walk.one
  simp [a27, r27, hb, hw]
  refine fcall_fun (newPlannedDuty_spec (h.ge ((Ge.new _ _).newOf _)) hTh (hv.ge ((Ge.new _ _).newOf _)) hlen) ?_
  rintro _ H1 ⟨pv, m, rfl, ⟨hpl, hone⟩, g1, hgood⟩
  have G1 : Ge H H1 := Ge.trans ((Ge.new _ _).newOf _) g1
  have n1 := g1.next
  have k1 := g1.got (n := H.next + 1) (by simp) rfl
  simp at k1 n1
  by_cases he : errD D xs = 0
  case neg =>
    have hne : H.next + 1 ≠ H1.next := by omega
    have hdo : doE D xs T = errD D xs := by simp [doE, he]
    simp [hpl]
    rw [if_pos hone]
    simp [he, hne, k1, hdo]
    refine ⟨.int .i64 0, .int .i64 0, .slice none 0 0, .bool false, ⟨rfl, rfl, rfl, rfl⟩, ⟨rfl, fun _ => ⟨rfl, rfl, rfl, rfl⟩, fun e => absurd (hdo.symm.trans e) he⟩, ?_⟩
    exact (G1.trans ((Ge.new _ _).setNew (Nat.le_refl _) _)).setNew (by omega) _
  obtain ⟨hV, hd, s, k, q, hpv, hP, rfl⟩ := hgood he
  obtain ⟨hlt, h0⟩ := duty_mask hd
  have hpl2 : pv = [.int .i64 D.law.piece, .int .i64 D.law.drive, .int .i64 D.law.spread, .int .i64 D.law.brk, .int .i64 D.law.on, .int .i64 D.law.off, .int .i64 D.law.least, .int .i64 D.law.pieces, b, w, s, k, q] := by
    simpa using hpv
  subst hpl2
  have hs := hP.segs.one
  have hk := hP.known.one
  have hq : one q = true := SlR.one hP.quest
  have g2 : Ge H1 ((H1.new (.cells true [.int .i64 0, .int .i64 0, .int .i64 0, .int .i64 0, .int .i64 0, .int .i64 0, .int .i64 0, .int .i64 0, .slice none 0 0, .slice none 0 0, .slice none 0 0, .slice none 0 0, .slice none 0 0] 13)).set H1.next (.cells true [.int .i64 D.law.piece, .int .i64 D.law.drive, .int .i64 D.law.spread, .int .i64 D.law.brk, .int .i64 D.law.on, .int .i64 D.law.off, .int .i64 D.law.least, .int .i64 D.law.pieces, b, w, s, k, q] 13)) := (Ge.new _ _).setNew (Nat.le_refl _) _
  simp [he, hb, hw, hs, hk, hq]
  refine fcall_fun (isTruth_spec (h.ge (G1.trans g2)) hV (RowsOf.ge hT (G1.trans g2))) ?_
  rintro _ H2 ⟨rfl, g3⟩
  have G3 := G1.trans (g2.trans g3)
  have k3 := (g2.trans g3).got (n := H.next + 1) (by omega) k1
  have k4 := g3.got (n := H1.next) (by simp) rfl
  have n3 := g3.next
  simp at k4 n3
  cases htr : truthD D T
  · have hdo : doE D xs T = 2 := by simp [doE, he, htr]
    simp [he, k3, hdo]
    refine ⟨.int .i64 0, .int .i64 0, .slice none 0 0, .bool false, ⟨rfl, rfl, rfl, rfl⟩, ⟨rfl, fun _ => ⟨rfl, rfl, rfl, rfl⟩, fun e => by rw [hdo] at e; cases e⟩, ?_⟩
    exact G3.setNew (by omega) _
  have hdo : doE D xs T = 0 := by simp [doE, he, htr]
  simp [he, k4, hb, hw, hs, hk, hq]
  refine fcall_fun (inTruth_spec (hP.ge (g2.trans g3)) (RowsOf.ge hT G3) hl hll) ?_
  rintro _ H3 ⟨k', rfl, hP3, g4⟩
  have G4 := G3.trans g4
  have k5 := g4.got (n := H.next + 1) (by omega) k3
  have n4 := g4.next
  simp
  refine fcall_fun (work_spec hP3 hV (truth_KOk hV htr) hlt (piecesL_pos h0)) ?_
  rintro _ H4 ⟨vB, rfl, o1, g5⟩
  have G5 := G4.trans g5
  have k6 := g5.got (n := H.next + 1) (by omega) k5
  have hvB := o1.one
  simp [k6, hvB, hdo]
  have hset : ∀ c, OwnSl (H4.set (H.next + 1) c) H3.next vB ((bTo (restOf (knownT T)) (piecesL D (maskL xs)) (piecesL D (maskL xs)).length).map (Value.int .i64)) := fun c => o1.keep (by simp) fun n hn => by
    have := o1.names hn
    have : n ≠ H.next + 1 := by omega
    simp [this]
  refine ⟨_, _, vB, _, ⟨rfl, rfl, rfl, rfl⟩, ⟨hvB, fun e => absurd hdo e, fun _ => ⟨rfl, rfl, own_ints (hset _) ?_, rfl⟩⟩, ?_⟩
  · have := piecesL_length (D := D) (m := maskL xs)
    unfold doBreaks
    simp [bTo]; omega
  · exact G5.setNew (by omega) _

end Go.Proofs.YtllkhaabcfnlpaaDoor


namespace Go.Proofs.YtllkhaabcfnlpaaDoor
open Go Go.Ab

end Go.Proofs.YtllkhaabcfnlpaaDoor


namespace Go.Proofs.YtllkhaabcfnlpaaDoor
open Go Go.Ab

theorem rel_ok {D : Dy} (hV : Valid D) {b j : Nat} (h : D.has b j) : 0 ≤ (D.rel b j).lo ∧ (D.rel b j).lo ≤ (D.rel b j).hi ∧ (D.rel b j).hi ≤ 3000 := by
  obtain ⟨x, hx, hj⟩ := h
  obtain ⟨hb, rfl⟩ := List.getElem?_eq_some_iff.1 hx
  have := hV.rel (List.getElem_mem hb) (List.getElem_mem hj)
  have hr : D.rel b j = D.blocks[b][j] := by simp [Dy.rel, hb, hj]
  rw [hr]; omega

theorem truth_tab {D : Dy} {g : Nat → Nat → Int} (h : ∀ b j, D.has b j → (D.rel b j).lo ≤ g b j ∧ g b j ≤ (D.rel b j).hi ∧ (0 < j → g b (j - 1) ≤ g b j)) : truthD D (tabF D g) = true := by
  refine truthD_yes (by simp) fun b hb => ?_
  obtain ⟨r, hr⟩ : ∃ r, D.blocks[b]? = some r := ⟨_, List.getElem?_eq_getElem hb⟩
  rw [tabF_at hr, hr, Option.getD_some, Option.getD_some]
  refine truthOf_yes (by simp) fun i hi => ?_
  have hrel : D.rel b i = r[i] := by simp [Dy.rel, hr, hi]
  have := h b i ⟨r, hr, hi⟩
  rw [hrel] at this
  unfold tOk
  rw [rowF_at hi, List.getElem?_eq_getElem hi]
  simp only [Option.getD_some, Bool.and_eq_true, Bool.or_eq_true, decide_eq_true_eq]
  refine ⟨⟨this.1, this.2.1⟩, ?_⟩
  by_cases e : i = 0
  · exact .inl e
  · refine .inr ?_
    rw [rowF_at (by omega), Option.getD_some]
    exact this.2.2 (by omega)

theorem tAt_tab {D : Dy} {g : Nat → Nat → Int} {b j : Nat} (h : D.has b j) : tAt (tabF D g) b j = g b j := by
  obtain ⟨r, hr, hj⟩ := h
  simp [tAt, tabF_at hr, rowF_at hj]

def strG (D : Dy) (b e i : Nat) : Nat → Nat → Int := fun c j => if c = b ∧ e < j ∧ j < i then (D.rel c j).hi else (D.rel c j).lo
theorem strG_step {D : Dy} {b e i : Nat} (h : e < i) : updG (strG D b e i) b i (D.rel b i).hi = strG D b e (i + 1) := by
  funext c j
  unfold updG strG
  by_cases e1 : c = b ∧ j = i
  · obtain ⟨rfl, rfl⟩ := e1
    rw [if_pos ⟨rfl, rfl⟩, if_pos ⟨rfl, h, by omega⟩]
  · rw [if_neg e1]
    by_cases e2 : c = b ∧ e < j ∧ j < i
    · rw [if_pos e2, if_pos ⟨e2.1, e2.2.1, by omega⟩]
    · rw [if_neg e2, if_neg]
      rintro ⟨q1, q2, q3⟩
      have : j ≠ i := fun q => e1 ⟨q1, q⟩
      exact e2 ⟨q1, q2, by omega⟩
theorem strG_truth {D : Dy} (hV : Valid D) {b e : Nat} {r : List Rl} (hr : D.blocks[b]? = some r) : truthD D (tabF D (strG D b e r.length)) = true := by
  refine truth_tab fun c j h => ?_
  have h0 := rel_ok hV h
  unfold strG
  have hj : c = b → j < r.length := fun e => by
    subst e; obtain ⟨x, hx, hj⟩ := h; rw [hr] at hx; cases hx; exact hj
  refine ⟨by split <;> omega, by split <;> omega, fun hp => ?_⟩
  have h1 := blk_le hV h (by omega : j - 1 ≤ j)
  have h2 := rel_ok hV (has_le h (by omega : j - 1 ≤ j))
  by_cases e1 : c = b ∧ e < j ∧ j < r.length
  · rw [if_pos e1]; split <;> omega
  · rw [if_neg e1, if_neg]
    · exact h1.1
    · rintro ⟨q1, q2, q3⟩
      exact e1 ⟨q1, by omega, hj q1⟩

def prG (D : Dy) (b a i : Nat) : Nat → Nat → Int := fun c j => if c = b ∧ j < i then (if j ≤ a then (D.rel c j).hi else max (D.rel c j).lo (D.rel c a).hi) else (D.rel c j).lo
theorem prG_step {D : Dy} {b a i : Nat} (h : i ≤ a) : updG (prG D b a i) b i (D.rel b i).hi = prG D b a (i + 1) := by
  funext c j
  unfold updG prG
  by_cases e1 : c = b ∧ j = i
  · obtain ⟨rfl, rfl⟩ := e1
    rw [if_pos ⟨rfl, rfl⟩, if_pos (show c = c ∧ j < j + 1 from ⟨rfl, by omega⟩), if_pos h]
  · rw [if_neg e1]
    by_cases e2 : c = b ∧ j < i
    · rw [if_pos e2, if_pos (show c = b ∧ j < i + 1 from ⟨e2.1, by omega⟩)]
    · rw [if_neg e2, if_neg (c := c = b ∧ j < i + 1)]
      rintro ⟨q1, q2⟩
      have : j ≠ i := fun q => e1 ⟨q1, q⟩
      exact e2 ⟨q1, by omega⟩
theorem prG_step2 {D : Dy} {b a i : Nat} (h : a < i) : updG (prG D b a i) b i (max (D.rel b i).lo (D.rel b a).hi) = prG D b a (i + 1) := by
  funext c j
  unfold updG prG
  by_cases e1 : c = b ∧ j = i
  · obtain ⟨rfl, rfl⟩ := e1
    rw [if_pos ⟨rfl, rfl⟩, if_pos (show c = c ∧ j < j + 1 from ⟨rfl, by omega⟩), if_neg (by omega)]
  · rw [if_neg e1]
    by_cases e2 : c = b ∧ j < i
    · rw [if_pos e2, if_pos (show c = b ∧ j < i + 1 from ⟨e2.1, by omega⟩)]
    · rw [if_neg e2, if_neg (c := c = b ∧ j < i + 1)]
      rintro ⟨q1, q2⟩
      have : j ≠ i := fun q => e1 ⟨q1, q⟩
      exact e2 ⟨q1, by omega⟩
theorem prG_truth {D : Dy} (hV : Valid D) {b a : Nat} {r : List Rl} (hr : D.blocks[b]? = some r) (ha : a < r.length) : truthD D (tabF D (prG D b a r.length)) = true := by
  refine truth_tab fun c j h => ?_
  have h0 := rel_ok hV h
  unfold prG
  by_cases ec : c = b
  · subst ec
    have hj : j < r.length := by obtain ⟨x, hx, hj⟩ := h; rw [hr] at hx; cases hx; exact hj
    rw [if_pos (show c = c ∧ j < r.length from ⟨rfl, hj⟩), if_pos (show c = c ∧ j - 1 < r.length from ⟨rfl, by omega⟩)]
    have hA : D.has c a := ⟨r, hr, ha⟩
    have hA0 := rel_ok hV hA
    have hma : a ≤ j → (D.rel c a).hi ≤ (D.rel c j).hi := fun q => (blk_le hV h q).2
    refine ⟨by split <;> omega, ?_, fun hp => ?_⟩
    · split
      · omega
      · have := hma (by omega); omega
    · have h1 := blk_le hV h (by omega : j - 1 ≤ j)
      by_cases e1 : j ≤ a
      · rw [if_pos e1, if_pos (by omega)]; exact h1.2
      · rw [if_neg e1]
        by_cases e2 : j - 1 ≤ a
        · have : j - 1 = a := by omega
          rw [if_pos e2, this]; omega
        · rw [if_neg e2]; omega
  · rw [if_neg (c := c = b ∧ j < r.length) fun q => ec q.1, if_neg (c := c = b ∧ j - 1 < r.length) fun q => ec q.1]
    exact ⟨by omega, by omega, fun hp => (blk_le hV h (by omega : j - 1 ≤ j)).1⟩

end Go.Proofs.YtllkhaabcfnlpaaDoor


namespace Go.Proofs.YtllkhaabcfnlpaaDoor
open Go Go.Ab

theorem row_cell {f : Nat → Int} {n i : Nat} (h : i < n) : ((rowF f n).map (Value.int .i64))[i]? = some (.int .i64 (f i)) := by
  rw [List.getElem?_map, rowF_at h]; rfl

set_option maxHeartbeats 4000000 in
theorem stretched_spec {D : Dy} {b w : Value} {H : Heap} {x e : Nat} {r : List Rl} (h : DayAt H b w D) (hV : Valid D) (hr : D.blocks[x]? = some r) (he : e < r.length) :
    AFun Tryd.prog 83 [dayV D b w, .int .i64 (x : Int), .int .i64 (e : Int)] H (fun q B => (∃ vs, RowsX B (H.next + 1) q (tabF D (strG D x e r.length)) vs) ∧ Ge H B) := by
  refine AFun.mk ok83 hm (Nat.le_of_ble_eq_true rfl) ?_
  have hb := h.blocks.one
  have hw := h.walk.one
  have hfew := hV.few
  obtain ⟨hx, hrx⟩ := List.getElem?_eq_some_iff.1 hr
  have hrl := hV.blen (List.getElem_mem hx)
  rw [hrx] at hrl
  simp [a83, r83, hb, hw]
  have g0 : Ge H (H.new (.cells true [.int .i64 D.law.piece, .int .i64 D.law.drive, .int .i64 D.law.spread, .int .i64 D.law.brk, .int .i64 D.law.on, .int .i64 D.law.off, .int .i64 D.law.least, .int .i64 D.law.pieces, b, w] 10)) := Ge.new _ _
  refine fcall_fun (lowsX_spec (h.ge g0) hV) ?_
  rintro v H1 ⟨⟨vs, hR⟩, g1⟩
  have k1 := g1.got (n := H.next) (by simp) rfl
  have n1 := g1.next
  simp at k1 n1 hR
  have hv1 := hR.own.one
  rw [lows_tab] at hR
  have G1 := g0.trans g1
  have hstart : tabF D (strG D x e (e + 1)) = tabF D fun b i => (D.rel b i).lo := by
    congr 1; funext c j; unfold strG; rw [if_neg]; rintro ⟨_, q1, q2⟩; omega
  rw [← hstart] at hR
  simp [add_in (x := e) (y := 1) (by omega) (by omega)]
  refine floop_intro (fun z => z.d = [] ∧ Ge H z.H ∧ H.next < z.H.next ∧ z.t 3 = .pointer (some ⟨H.next, 0, none⟩) ∧ z.t 1 = .int .i64 (x : Int) ∧ z.t 7 = v ∧ z.H.get H.next = .cells true (dayV D b w).cells.toList 10 ∧ ∃ i : Nat, e < i ∧ i ≤ r.length ∧ z.t 8 = .int .i64 i ∧ RowsX z.H (H.next + 1) v (tabF D (strG D x e i)) vs) (fun z => r.length - (intOf (z.t 8)).toNat) ?_ ?_
  · exact ⟨rfl, G1, by simp; omega, by simp, by simp, by simp, by simpa [Value.cells] using k1, e + 1, by omega, by omega, by simp, hR.lower (by omega)⟩
  clear hR
  rintro ⟨t, _, A⟩ ⟨rfl, g, hn, t3, t1, t7, kd, i, hi0, hi, t8, hR⟩
  dsimp only at g hn t3 t1 t7 kd t8 hR
  simp [Value.cells] at kd
  obtain ⟨q, cap, c, f1, f2, f3, f4, f5, f6⟩ := hR.store hr (i := e) he
  obtain ⟨ptr, e1, e2⟩ := hR.own.slr.at1 (k := .i64) (i := x) (by rw [hR.len]; simpa using hx)
  rw [f1] at e2
  have hlen : lenV (.slice (some ⟨q, 0, none⟩) r.length cap) = some (.int .i64 (r.length : Int)) := by simp
  simp [t1, t7, t8, e1, e2]
  refine fcond_intro (fun hc => ?_) (fun hc => ?_)
  case refine_2 =>
    have : i = r.length := by simp at hc; omega
    subst this
    simp [t7]
    exact ⟨⟨_, hR⟩, g⟩
  have hi' : i < r.length := by simpa using hc
  clear f1 f2 f3 f4 f5 f6 e2
  have gw : Ge A (⟨A.get, A.next + 17⟩ : Heap) := Ge.grow_le (by omega) (Ge.refl _)
  obtain ⟨q, cap, c, f1, f2, f3, f4, f5, f6⟩ := hR.store hr (i := i) hi'
  obtain ⟨ptr', e1', e2⟩ := (hR.ge gw).own.slr.at1 (k := .i64) (i := x) (by rw [hR.len]; simpa using hx)
  rw [e1] at e1'; cases e1'
  rw [f1] at e2
  obtain ⟨p, u, m1, m2, m3⟩ := h.blocks.atAll hx
  rw [hrx] at m3
  have m2' := m2 _ (g.trans gw)
  obtain ⟨n, o, p1, p2, _, p3, _⟩ := (m3.ge (g.trans gw)).at hi'
  have c2 := p3 2 (by omega)
  simp [Rl.cells] at c2
  have hrel : D.rel x i = r[i] := by simp [Dy.rel, hr, hi']
  have hisl : islV 1 (.slice (some ⟨q, 0, none⟩) r.length cap) (.int .i64 (i : Int)) = some (.pointer (some ⟨q, i, none⟩)) := by
    rw [islV_in (by omega) (by omega)]; simp
  obtain ⟨L, hL⟩ : ∃ L, (rowF (strG D x e i x) r.length).map (Value.int .i64) = L := ⟨_, rfl⟩
  obtain ⟨L', hL'⟩ : ∃ L', ((rowF (strG D x e i x) r.length).set i r[i].hi).map (Value.int .i64) = L' := ⟨_, rfl⟩
  have hLl : L.length = r.length := by rw [← hL]; simp
  have hwr : wrL L i [.int .i64 r[i].hi] = L' := by
    rw [wrL_one _ _ _ (by omega), ← hL, ← hL', List.map_set]
  have f6' := fun B => f6 r[i].hi B
  rw [hL] at f4
  rw [hL'] at f6'
  have hk2 : i + 1 ≤ r.length := hi'
  simp [t1, t3, t7, t8, kd, e1, e2, m1, m2', p1, c2, hisl, f4, hLl, hk2, hwr, add_in (x := i) (y := 1) (by omega) (by omega)]
  refine ⟨⟨Ge.setNew (g.trans gw) (by omega) _, by omega, fun e => by omega, i + 1, by omega, by omega, by omega, ?_⟩, by omega⟩
  have k := f6' ((⟨A.get, A.next + 17⟩ : Heap).set q (AObj.cells true L' c)) (by simp) (by simp) fun m q1 q2 q3 => by rw [Heap.set_get, if_neg q3]
  rw [← hrel, strG_step hi0] at k
  exact k

set_option maxHeartbeats 4000000 in
theorem pressed_spec {D : Dy} {b w : Value} {H : Heap} {x e : Nat} {r : List Rl} (h : DayAt H b w D) (hV : Valid D) (hr : D.blocks[x]? = some r) (he : e < r.length) :
    AFun Tryd.prog 84 [dayV D b w, .int .i64 (x : Int), .int .i64 (e : Int)] H (fun q B => (∃ vs, RowsX B (H.next + 1) q (tabF D (prG D x e r.length)) vs) ∧ Ge H B) := by
  refine AFun.mk ok84 hm (Nat.le_of_ble_eq_true rfl) ?_
  have hb := h.blocks.one
  have hw := h.walk.one
  have hfew := hV.few
  obtain ⟨hx, hrx⟩ := List.getElem?_eq_some_iff.1 hr
  have hrl := hV.blen (List.getElem_mem hx)
  rw [hrx] at hrl
  simp [a84, r84, hb, hw]
  have g0 : Ge H (H.new (.cells true [.int .i64 D.law.piece, .int .i64 D.law.drive, .int .i64 D.law.spread, .int .i64 D.law.brk, .int .i64 D.law.on, .int .i64 D.law.off, .int .i64 D.law.least, .int .i64 D.law.pieces, b, w] 10)) := Ge.new _ _
  refine fcall_fun (lowsX_spec (h.ge g0) hV) ?_
  rintro v H1 ⟨⟨vs, hR⟩, g1⟩
  have k1 := g1.got (n := H.next) (by simp) rfl
  have n1 := g1.next
  simp at k1 n1 hR
  have hv1 := hR.own.one
  rw [lows_tab] at hR
  have G1 := g0.trans g1
  have hstart : tabF D (prG D x e 0) = tabF D fun b i => (D.rel b i).lo := by
    congr 1; funext c j; unfold prG; rw [if_neg]; rintro ⟨_, q1⟩; omega
  rw [← hstart] at hR
  simp
  refine floop_intro (fun z => z.d = [] ∧ Ge H z.H ∧ H.next < z.H.next ∧ z.t 3 = .pointer (some ⟨H.next, 0, none⟩) ∧ z.t 1 = .int .i64 (x : Int) ∧ z.t 2 = .int .i64 (e : Int) ∧ z.t 7 = v ∧ z.H.get H.next = .cells true (dayV D b w).cells.toList 10 ∧ ∃ i : Nat, i ≤ e + 1 ∧ z.t 8 = .int .i64 i ∧ RowsX z.H (H.next + 1) v (tabF D (prG D x e i)) vs) (fun z => e + 1 - (intOf (z.t 8)).toNat) ?_ ?_
  · exact ⟨rfl, G1, by simp; omega, by simp, by simp, by simp, by simp, by simpa [Value.cells] using k1, 0, by omega, by simp, hR.lower (by omega)⟩
  clear hR
  rintro ⟨t, _, A⟩ ⟨rfl, g, hn, t3, t1, t2, t7, kd, i, hi, t8, hR⟩
  dsimp only at g hn t3 t1 t2 t7 kd t8 hR
  simp [Value.cells] at kd
  simp [t2, t8]
  refine fcond_intro (fun hc => ?_) (fun hc => ?_)
  case refine_2 =>
    have : i = e + 1 := by simp at hc; omega
    subst this
    clear hc
    simp [t2, add_in (x := e) (y := 1) (by omega) (by omega)]
    refine floop_intro (fun z => z.d = [] ∧ Ge H z.H ∧ z.t 1 = .int .i64 (x : Int) ∧ z.t 2 = .int .i64 (e : Int) ∧ z.t 7 = v ∧ ∃ i : Nat, e < i ∧ i ≤ r.length ∧ z.t 9 = .int .i64 i ∧ RowsX z.H (H.next + 1) v (tabF D (prG D x e i)) vs) (fun z => r.length - (intOf (z.t 9)).toNat) ?_ ?_
    · exact ⟨rfl, g, by simp [t1], by simp [t2], by simp [t7], e + 1, by omega, by omega, by simp, hR⟩
    clear hR t8 t1 t2 t7 kd t3 hn g
    rintro ⟨t, _, A⟩ ⟨rfl, g, t1, t2, t7, i, hi0, hi, t9, hR⟩
    dsimp only at g t1 t2 t7 t9 hR
    have gn := g.next
    have gw : Ge A (⟨A.get, A.next + 22⟩ : Heap) := Ge.grow_le (by omega) (Ge.refl _)
    obtain ⟨q, cap, c, f1, f2, f3, f4, f5, _⟩ := hR.store hr (i := e) he
    obtain ⟨ptr, e1, e2⟩ := hR.own.slr.at1 (k := .i64) (i := x) (by rw [hR.len]; simpa using hx)
    rw [f1] at e2
    simp [t1, t7, t9, e1, e2]
    refine fcond_intro (fun hc => ?_) (fun hc => ?_)
    case refine_2 =>
      have : i = r.length := by simp at hc; omega
      subst this
      simp [t7]
      exact ⟨⟨_, hR⟩, g⟩
    have hi' : i < r.length := by simpa using hc
    clear f1 f2 f3 f4 f5 e2
    obtain ⟨q, cap, c, f1, f2, f3, f4, f5, f6⟩ := hR.store hr (i := i) hi'
    obtain ⟨ptr', e1', e2⟩ := (hR.ge gw).own.slr.at1 (k := .i64) (i := x) (by rw [hR.len]; simpa using hx)
    rw [e1] at e1'; cases e1'
    rw [f1] at e2
    have hisl : ∀ j : Nat, j < r.length → islV 1 (.slice (some ⟨q, 0, none⟩) r.length cap) (.int .i64 (j : Int)) = some (.pointer (some ⟨q, j, none⟩)) := fun j hj => by
      rw [islV_in (by omega) (by omega)]; simp
    have hs1 := hisl i hi'
    have hs2 := hisl e he
    have v1 : prG D x e i x i = (D.rel x i).lo := by unfold prG; rw [if_neg]; rintro ⟨_, q1⟩; omega
    have v2 : prG D x e i x e = (D.rel x e).hi := by unfold prG; rw [if_pos ⟨rfl, by omega⟩, if_pos (by omega)]
    obtain ⟨y, hy⟩ : ∃ y, max (D.rel x i).lo (D.rel x e).hi = y := ⟨_, rfl⟩
    have l1 := row_cell (f := prG D x e i x) hi'
    have l2 := row_cell (f := prG D x e i x) he
    rw [v1] at l1
    rw [v2] at l2
    obtain ⟨L, hL⟩ : ∃ L, (rowF (prG D x e i x) r.length).map (Value.int .i64) = L := ⟨_, rfl⟩
    obtain ⟨L', hL'⟩ : ∃ L', ((rowF (prG D x e i x) r.length).set i y).map (Value.int .i64) = L' := ⟨_, rfl⟩
    have hLl : L.length = r.length := by rw [← hL]; simp
    have hwr : wrL L i [.int .i64 y] = L' := by
      rw [wrL_one _ _ _ (by omega), ← hL, ← hL', List.map_set]
    have f6' := fun B => f6 y B
    rw [hL] at f4 l1 l2
    rw [hL'] at f6'
    have hk2 : i + 1 ≤ r.length := hi'
    simp [t1, t2, t7, t9, e1, e2, hs1, hs2, f4, l1, l2]
    rw [aval_max (k := .i64) (m := (D.rel x i).lo) (n := (D.rel x e).hi) (by simp) (by simp) (by decide) (by decide), hy]
    simp [t9, hs1, f4, hLl, hk2, hwr, add_in (x := i) (y := 1) (by omega) (by omega)]
    refine ⟨⟨Ge.setNew (g.trans gw) (by omega) _, t1, t2, t7, i + 1, by omega, by omega, by omega, ?_⟩, by omega⟩
    have k := f6' ((⟨A.get, A.next + 22⟩ : Heap).set q (AObj.cells true L' c)) (by simp) (by simp) fun m q1 q2 q3 => by rw [Heap.set_get, if_neg q3]
    rw [← hy, prG_step2 hi0] at k
    exact k
  have hi' : i < e + 1 := by simp at hc; omega
  have hir : i < r.length := by omega
  have gw : Ge A (⟨A.get, A.next + 17⟩ : Heap) := Ge.grow_le (by omega) (Ge.refl _)
  obtain ⟨q, cap, c, f1, f2, f3, f4, f5, f6⟩ := hR.store hr (i := i) hir
  obtain ⟨ptr', e1', e2⟩ := (hR.ge gw).own.slr.at1 (k := .i64) (i := x) (by rw [hR.len]; simpa using hx)
  rw [f1] at e2
  obtain ⟨p, u, m1, m2, m3⟩ := h.blocks.atAll hx
  rw [hrx] at m3
  have m2' := m2 _ (g.trans gw)
  obtain ⟨n, o, p1, p2, _, p3, _⟩ := (m3.ge (g.trans gw)).at hir
  have c2 := p3 2 (by omega)
  simp [Rl.cells] at c2
  have hrel : D.rel x i = r[i] := by simp [Dy.rel, hr, hir]
  have hisl : islV 1 (.slice (some ⟨q, 0, none⟩) r.length cap) (.int .i64 (i : Int)) = some (.pointer (some ⟨q, i, none⟩)) := by
    rw [islV_in (by omega) (by omega)]; simp
  obtain ⟨L, hL⟩ : ∃ L, (rowF (prG D x e i x) r.length).map (Value.int .i64) = L := ⟨_, rfl⟩
  obtain ⟨L', hL'⟩ : ∃ L', ((rowF (prG D x e i x) r.length).set i r[i].hi).map (Value.int .i64) = L' := ⟨_, rfl⟩
  have hLl : L.length = r.length := by rw [← hL]; simp
  have hwr : wrL L i [.int .i64 r[i].hi] = L' := by
    rw [wrL_one _ _ _ (by omega), ← hL, ← hL', List.map_set]
  have f6' := fun B => f6 r[i].hi B
  rw [hL] at f4
  rw [hL'] at f6'
  have hk2 : i + 1 ≤ r.length := hir
  simp [t1, t3, t7, t8, kd, e1', e2, m1, m2', p1, c2, hisl, f4, hLl, hk2, hwr, add_in (x := i) (y := 1) (by omega) (by omega)]
  refine ⟨⟨Ge.setNew (g.trans gw) (by omega) _, by omega, t2, fun e => by omega, i + 1, by omega, by omega, ?_⟩, by omega⟩
  have k := f6' ((⟨A.get, A.next + 17⟩ : Heap).set q (AObj.cells true L' c)) (by simp) (by simp) fun m q1 q2 q3 => by rw [Heap.set_get, if_neg q3]
  rw [← hrel, prG_step (by omega)] at k
  exact k

end Go.Proofs.YtllkhaabcfnlpaaDoor


namespace Go.Proofs.YtllkhaabcfnlpaaDoor
open Go Go.Ab

theorem pieces30X_spec {D : Dy} {b w v : Value} {H : Heap} {xs : List Int} (h : DayAt H b w D) (hT : D.Thin) (hV : Valid D) (hv : IntsAt H v xs) (hb0 : ∀ x ∈ xs, 0 ≤ x ∧ x.toNat < segsOf D.blocks) (h16 : xs.length ≤ 16) :
    AFun Tryd.prog 30 [dayV D b w, v] H (fun r B => OwnS B (H.next + 1) 4 r (insSort (rBefore D) (grpTo D xs xs.length)).length ((insSort (rBefore D) (grpTo D xs xs.length)).flatMap Rp.cells) ∧ Ge H B) := by
  refine AFun.mk ok30 hm (Nat.le_of_ble_eq_true rfl) ?_
  have hb := h.blocks.one
  have hw := h.walk.one
  simp [a30, r30, hb, hw]
  refine floop_intro (fun z => z.d = [] ∧ Ge H z.H ∧ H.next < z.H.next ∧ z.t 1 = v ∧ z.t 2 = .pointer (some ⟨H.next, 0, none⟩) ∧ z.H.get H.next = .cells true (dayV D b w).cells.toList 10 ∧ ∃ i : Nat, i ≤ xs.length ∧ z.t 6 = .int .i64 i ∧ OwnS z.H (H.next + 1) 4 (z.t 5) (grpTo D xs i).length ((grpTo D xs i).flatMap Rp.cells)) (fun z => xs.length - (intOf (z.t 6)).toNat) ?_ ?_
  · exact ⟨rfl, by simp, by simp, by simp, by simp, by simp [Value.cells], 0, by omega, by simp, .inl ⟨by simp, rfl, rfl⟩⟩
  rintro ⟨t, _, A⟩ ⟨rfl, g, hn, t1, t2, kd, i, hi, t6, o5⟩
  dsimp only at g hn t1 t2 kd t6 o5
  simp [Value.cells] at kd
  generalize t5 : t 5 = v5 at o5
  simp [t1, t6, hv.lenV]
  refine fcond_intro (fun hc => ?_) (fun hc => ?_)
  case refine_2 =>
    have : i = xs.length := by simp at hc; omega
    subst this
    have hgl := grpTo_length (D := D) (xs := xs) xs.length
    have hgok := grpTo_ok (D := D) hb0 (Nat.le_refl xs.length)
    generalize grpTo D xs xs.length = l at *
    simp
    refine floop_intro (fun z => z.d = [] ∧ Ge H z.H ∧ H.next < z.H.next ∧ z.t 2 = .pointer (some ⟨H.next, 0, none⟩) ∧ z.H.get H.next = .cells true (dayV D b w).cells.toList 10 ∧ z.t 5 = v5 ∧ ∃ i : Nat, i ≤ l.length ∧ z.t 10 = .int .i64 i ∧ OwnS z.H (H.next + 1) 4 v5 l.length ((insTo (rBefore D) l i).flatMap Rp.cells)) (fun z => l.length - (intOf (z.t 10)).toNat) ?_ ?_
    · exact ⟨rfl, g, hn, by simp [t2], by simp [Value.cells, kd], by simp [t5], 0, by omega, by simp, o5⟩
    clear t1 t2 kd t5 o5 g hn hc t6
    rintro ⟨t, _, A⟩ ⟨rfl, g, hn, t2, kd, t5, i, hi, t10, o5⟩
    dsimp only at g hn t2 kd t5 t10 o5
    simp [t10, t5, o5.slr.lenV]
    refine fcond_intro (fun hc => ?_) (fun hc => ?_)
    case refine_2 =>
      have : i = l.length := by simp at hc; omega
      subst this
      simp [t5]
      refine ⟨?_, g⟩
      unfold insSort
      rw [insTo_length]; exact o5
    have hi' : i < l.length := by simpa using hc
    have hil : (insTo (rBefore D) l i).length = l.length := insTo_length _ l i
    simp [t10]
    refine floop_intro (fun z => z.d = [] ∧ Ge H z.H ∧ H.next < z.H.next ∧ z.t 2 = .pointer (some ⟨H.next, 0, none⟩) ∧ z.H.get H.next = .cells true (dayV D b w).cells.toList 10 ∧ z.t 5 = v5 ∧ z.t 10 = .int .i64 i ∧ ∃ j : Nat, j ≤ i ∧ z.t 11 = .int .i64 j ∧ ∃ m : List Rp, m.length = l.length ∧ (∀ x ∈ m, x ∈ l) ∧ sink (rBefore D) m j = sink (rBefore D) (insTo (rBefore D) l i) i ∧ OwnS z.H (H.next + 1) 4 v5 l.length (m.flatMap Rp.cells)) (fun z => (intOf (z.t 11)).toNat) ?_ ?_
    · exact ⟨rfl, g, hn, by simp [t2], by simpa [Value.cells] using kd, by simp [t5], by simp [t10], i, Nat.le_refl _, by simp, insTo (rBefore D) l i, hil, fun x hx => insTo_mem _ l i hx, rfl, o5⟩
    have t10o := t10
    clear t2 kd t5 o5 g hn hc t10
    rintro ⟨t, _, A⟩ ⟨rfl, g, hn, t2, kd, t5, t10, j, hj, t11, m, hml, hmm, hsink, hown⟩
    dsimp only at g hn t2 kd t5 t10 t11 hown
    simp [Value.cells] at kd
    by_cases hj0 : j = 0
    · have hjn2 : ¬ 0 < j := by omega
      have hs0 : OwnS A (H.next + 1) 4 v5 l.length ((insTo (rBefore D) l (i + 1)).flatMap Rp.cells) := by
        rw [insTo, ← hsink, hj0]; exact hown
      simp [t11, hjn2, t10, add_in (x := i) (y := 1) (by omega) (by omega)]
      exact ⟨⟨g.grow _, by omega, t2, by simpa [Value.cells] using kd, t5, i + 1, by omega, by simp, hs0.keep (by simp) fun _ _ => rfl⟩, by rw [t10o]; simp; omega⟩
    obtain ⟨j', rfl⟩ : ∃ j', j = j' + 1 := ⟨j - 1, by omega⟩
    rcases hown with ⟨_, h0, _⟩ | ⟨n, cap, c, hv5, h2, h3, h4, h5, h6, h7⟩
    · omega
    have i1 : islV 4 v5 (.int .i64 ((j' : Int) + 1)) = some (.pointer (some ⟨n, (j' + 1) * 4, none⟩)) := by
      rw [hv5, islV_in (by omega) (by omega)]; simp
    have i0 : islV 4 v5 (.int .i64 (j' : Int)) = some (.pointer (some ⟨n, j' * 4, none⟩)) := by
      rw [hv5, islV_in (by omega) (by omega)]; simp
    have hm1 : j' + 1 < m.length := by omega
    have hm0 : j' < m.length := by omega
    have l1 : ∀ B' : Heap, B'.get n = .cells true (m.flatMap Rp.cells) c → ldA (B'.get n) true 4 ((j' + 1) * 4) = some m[j' + 1].val := fun B' e => by
      rw [e, ldA_agg, rd_flat4 hm1]; rfl
    have l0 : ∀ B' : Heap, B'.get n = .cells true (m.flatMap Rp.cells) c → ldA (B'.get n) true 4 (j' * 4) = some m[j'].val := fun B' e => by
      rw [e, ldA_agg, rd_flat4 hm0]; rfl
    have ok1 := hgok _ (hmm _ (List.getElem_mem hm1))
    have ok0 := hgok _ (hmm _ (List.getElem_mem hm0))
    have hjn2 : (0 : Int) < (j' : Int) + 1 := by omega
    simp [t11, hjn2, t2, kd, t5, i1, i0, l1 A h4, l0 A h4, sub_in (x := (j' : Int) + 1) (y := 1) (by omega) (by omega)]
    refine fcall_fun (before_spec (h.ge (g.grow 15)) ok1.fst ok0.fst) ?_
    rintro _ C ⟨rfl, gC⟩
    have nC := gC.next
    simp at nC
    have h4C : C.get n = .cells true (m.flatMap Rp.cells) c := gC.got (by simp; omega) h4
    have kdC : C.get H.next = _ := gC.got (by simp; omega) kd
    have gHC : Ge H C := (g.grow 15).trans gC
    cases hbf : rBefore D m[j' + 1] m[j']
    · have hs1 : sink (rBefore D) m (j' + 1) = m := by simp [sink, hm1, hm0, hbf]
      simp [hjn2, t10, add_in (x := i) (y := 1) (by omega) (by omega)]
      refine ⟨⟨gHC, by omega, t2, by simpa [Value.cells] using kdC, t5, i + 1, by omega, by simp, ?_⟩, by rw [t10o]; simp; omega⟩
      rw [insTo, ← hsink, hs1]; exact .inr ⟨n, cap, c, hv5, h2, by omega, h4C, h5, h6, h7⟩
    simp [hjn2, t11, t5, i1, i0, l1 C h4C, l0 C h4C, sub_in (x := (j' : Int) + 1) (y := 1) (by omega) (by omega), -stA_cells]
    rw [h4C, st_flat4 hm1]
    simp [i0, t5, -stA_cells]
    rw [st_flat4 (by simp; omega)]
    have hsw : (m.set (j' + 1) m[j']).set j' m[j' + 1] = swapL m j' := (swapL_eq hm1).symm
    rw [hsw]
    simp [t11, sub_in (x := (j' : Int) + 1) (y := 1) (by omega) (by omega)]
    have hne : H.next ≠ n := by omega
    refine ⟨?_, by omega, t2, by simpa [Value.cells, hne] using kdC, t5, t10, j', by omega, rfl, swapL m j', by rw [swapL_length]; exact hml, fun x hx => hmm x (swapL_mem hx), ?_, .inr ⟨n, cap, c, hv5, h2, by simp; omega, by simp, ?_, h6, h7⟩⟩
    · exact ((gHC.grow 18).setNew (n := n) (by omega) _).setNew (n := n) (by omega) _
    · rw [← hsink]; simp [sink, hm1, hm0, hbf]
    · rw [flat_len4, swapL_length, hml]
  have hi' : i < xs.length := by simpa using hc
  obtain ⟨p, e1, e2⟩ := (hv.ge (g.grow 11)).at hi'
  have hx := hb0 _ (List.getElem_mem hi')
  have hix : xs[i]?.getD 0 = xs[i] := by simp [hi']
  have hxi : ((xs[i].toNat : Nat) : Int) = xs[i] := by omega
  simp [t1, t2, t6, kd, e1, e2]
  rw [← hxi]
  refine fcall_fun (spot54_spec (h.ge (g.grow 11)) hT hV hx.2) ?_
  rintro _ A1 ⟨sj, sn, rfl, hsp, g1⟩
  have hsd : spD D xs[i] = (sj, sn) := by simp [spD, hsp]
  have n1 := g1.next
  simp only at n1
  have gA : Ge A A1 := (Ge.more A 11).trans g1
  have o51 := o5.ge gA
  have kd1 := gA.got hn kd
  have hgl := grpTo_length (D := D) (xs := xs) i
  simp [t5, o51.slr.lenV]
  rw [sub_in (by omega) (by omega)]
  simp [t6]
  have hsegs := hV.segs
  have hss := spD_has (D := D) hx.1 hx.2
  rw [hsd] at hss
  have hsn : sn + 1 ≤ 11 := by
    obtain ⟨l, hl, hlt⟩ := hss.2
    have := hV.blen (List.mem_of_getElem? hl)
    simp only at hlt
    omega
  obtain ⟨p2, f1, f2⟩ := (hv.ge ((g.trans gA).grow 24)).at hi'
  have hnew : ∀ (l : List Rp), l ++ [(⟨(spD D (xs[i]?.getD 0)).1, (spD D (xs[i]?.getD 0)).2, (spD D (xs[i]?.getD 0)).2 + 1, (xs[i]?.getD 0).toNat⟩ : Rp)] = l ++ [⟨sj, sn, sn + 1, xs[i].toNat⟩] := fun l => by rw [hix, hsd]
  by_cases hz : i = 0
  · have hzn : ¬ 0 < i := by omega
    have hg1 : grpTo D xs (i + 1) = grpTo D xs i ++ [⟨sj, sn, sn + 1, xs[i].toNat⟩] := by rw [grpTo, if_neg (by omega), hnew]
    simp [hzn, t5, t1, t6, f1, f2, add_in (x := (sn : Int)) (y := 1) (by omega) (by omega)]
    have gB1 := Ge.new (⟨A1.get, A1.next + 24⟩ : Heap) (.cells true [.int .i64 sj, .int .i64 sn, .int .i64 ((sn : Int) + 1), .int .i64 xs[i]] 4)
    refine fapp_ownS (lo := H.next + 1) (xs := [.int .i64 sj, .int .i64 sn, .int .i64 ((sn : Int) + 1), .int .i64 xs[i]]) ((o51.ge (Ge.more A1 24)).ge gB1) (by simp [slCells, rdL]) rfl (by simp) (by omega) (by omega) (by simp) (by omega) (by simp; omega) fun u B k1 k2 k3 k4 => ?_
    have h5n : ∀ m, slName v5 = some m → H.next + 1 ≤ m := fun m hm => (o5.names hm).1
    have gB : Ge H B := ⟨by have := g.next; omega, fun m hm2' => by
      have f0 := g.next
      have f3 : m ≠ A1.next + 24 := by omega
      rw [k4 m (by omega) (fun e => by have := h5n m e; omega)]; simp [f3]
      rw [gA.get m (by omega)]; exact g.get m hm2'⟩
    have kB : B.get H.next = A.get H.next := (k4 H.next (by omega) (fun e => by have := h5n _ e; omega)).trans (by rw [Heap.new_get, if_neg (by simp; omega)]; exact gA.get _ hn)
    have hcell : [Value.int .i64 sj, .int .i64 sn, .int .i64 ((sn : Int) + 1), .int .i64 xs[i]] = (⟨sj, sn, sn + 1, xs[i].toNat⟩ : Rp).cells := by
      simp only [Rp.cells, hxi]; rfl
    simp [t6, add_in (x := i) (y := 1) (by omega) (by omega)]
    refine ⟨⟨gB, by omega, t1, t2, by simpa [Value.cells] using kB.trans kd, i + 1, by omega, by omega, ?_⟩, by omega⟩
    rw [hg1, List.length_append, List.flatMap_append]
    rw [hcell] at k1
    simpa using k1
  have hzn : 0 < i := by omega
  have him : i - 1 < xs.length := by omega
  have himx : xs[i - 1]?.getD 0 = xs[i - 1] := by simp [him]
  obtain ⟨p', e1', e2'⟩ := (hv.ge ((g.trans gA).grow 24)).at him
  have hc1 : ((i - 1 : Nat) : Int) = (i : Int) - 1 := by omega
  rw [hc1] at e1'
  simp [hzn, t1, t6, sub_in (x := (i : Int)) (y := 1) (by omega) (by omega), e1', e2', f1, f2]
  rw [sub_in (by omega) (by omega)]
  simp [hzn]
  by_cases hm2 : xs[i - 1] = xs[i] - 1
  case neg =>
    have hg1 : grpTo D xs (i + 1) = grpTo D xs i ++ [⟨sj, sn, sn + 1, xs[i].toNat⟩] := by
      rw [grpTo, if_neg (fun hh => hm2 (by rw [← himx, ← hix]; exact hh.2.1)), hnew]
    simp [hzn, hm2, t5, t1, t6, f1, f2, add_in (x := (sn : Int)) (y := 1) (by omega) (by omega)]
    have gB1 := Ge.new (⟨A1.get, A1.next + 24⟩ : Heap) (.cells true [.int .i64 sj, .int .i64 sn, .int .i64 ((sn : Int) + 1), .int .i64 xs[i]] 4)
    refine fapp_ownS (lo := H.next + 1) (xs := [.int .i64 sj, .int .i64 sn, .int .i64 ((sn : Int) + 1), .int .i64 xs[i]]) ((o51.ge (Ge.more A1 24)).ge gB1) (by simp [slCells, rdL]) rfl (by simp) (by omega) (by omega) (by simp) (by omega) (by simp; omega) fun u B k1 k2 k3 k4 => ?_
    have h5n : ∀ m, slName v5 = some m → H.next + 1 ≤ m := fun m hm => (o5.names hm).1
    have gB : Ge H B := ⟨by have := g.next; omega, fun m hm2' => by
      have f0 := g.next
      have f3 : m ≠ A1.next + 24 := by omega
      rw [k4 m (by omega) (fun e => by have := h5n m e; omega)]; simp [f3]
      rw [gA.get m (by omega)]; exact g.get m hm2'⟩
    have kB : B.get H.next = A.get H.next := (k4 H.next (by omega) (fun e => by have := h5n _ e; omega)).trans (by rw [Heap.new_get, if_neg (by simp; omega)]; exact gA.get _ hn)
    have hcell : [Value.int .i64 sj, .int .i64 sn, .int .i64 ((sn : Int) + 1), .int .i64 xs[i]] = (⟨sj, sn, sn + 1, xs[i].toNat⟩ : Rp).cells := by
      simp only [Rp.cells, hxi]; rfl
    simp [t6, add_in (x := i) (y := 1) (by omega) (by omega)]
    refine ⟨⟨gB, by omega, t1, t2, by simpa [Value.cells] using kB.trans kd, i + 1, by omega, by omega, ?_⟩, by omega⟩
    rw [hg1, List.length_append, List.flatMap_append]
    rw [hcell] at k1
    simpa using k1
  have hpos := grpTo_pos (D := D) (xs := xs) hzn
  have hgstep : grpTo D xs (i + 1) = if 0 < i ∧ xs[i - 1]?.getD 0 = xs[i]?.getD 0 - 1 ∧ ((grpTo D xs i)[(grpTo D xs i).length - 1]?.getD rz).b = (spD D (xs[i]?.getD 0)).1 then (grpTo D xs i).set ((grpTo D xs i).length - 1) { ((grpTo D xs i)[(grpTo D xs i).length - 1]?.getD rz) with t := (spD D (xs[i]?.getD 0)).2 + 1 } else grpTo D xs i ++ [⟨(spD D (xs[i]?.getD 0)).1, (spD D (xs[i]?.getD 0)).2, (spD D (xs[i]?.getD 0)).2 + 1, (xs[i]?.getD 0).toNat⟩] := rfl
  generalize hout : grpTo D xs i = out at *
  have hlast : out.length - 1 < out.length := by omega
  have hgk : out[out.length - 1]?.getD rz = out[out.length - 1] := by rw [List.getElem?_eq_getElem hlast]; rfl
  rw [hgk, hix, himx, hsd] at hgstep
  rcases o51 with ⟨_, h0, _⟩ | ⟨n, cap, c, hv5, l2, l3, l4, l5, l6, l7⟩
  · omega
  have ik : islV 4 v5 (.int .i64 ((out.length : Int) - 1)) = some (.pointer (some ⟨n, (out.length - 1) * 4, none⟩)) := by
    rw [hv5, islV_in (by omega) (by omega)]
    congr 4; omega
  have lk : (out.flatMap Rp.cells)[(out.length - 1) * 4]? = some (.int .i64 (out[out.length - 1]).b) := by
    have h1 := rd_flat4 hlast
    unfold rdL at h1
    split at h1
    · rw [Option.some.injEq] at h1
      have : (out[out.length - 1].cells)[0]? = some (.int .i64 (out[out.length - 1]).b) := rfl
      rw [← this, ← h1]; simp
    · cases h1
  simp [hzn, hm2, t5, ik, l4, lk]
  by_cases hbj : out[out.length - 1].b = sj
  · have hbi : (out[out.length - 1].b : Int) = sj := by omega
    have hg2 : grpTo D xs (i + 1) = out.set (out.length - 1) { out[out.length - 1] with t := sn + 1 } := by
      rw [hgstep, if_pos ⟨hzn, hm2, hbj⟩]
    have hst : ∀ H' : Heap, stA H' n ((out.length - 1) * 4 + 2) 1 (.int .i64 ((sn : Int) + 1)) (.cells true (out.flatMap Rp.cells) c) = some (H'.set n (.cells true ((out.set (out.length - 1) { out[out.length - 1] with t := sn + 1 }).flatMap Rp.cells) c)) := fun H' => by
      have := st_to4 (H' := H') (n := n) (c := c) hlast (sn + 1)
      push_cast at this
      exact this
    simp [hbi, t5, ik, add_in (x := (sn : Int)) (y := 1) (by omega) (by omega), -stA_cells]
    rw [l4, hst]
    simp [t6, add_in (x := i) (y := 1) (by omega) (by omega)]
    have f0 := g.next
    have gB : Ge H ((⟨A1.get, A1.next + 24⟩ : Heap).set n (.cells true ((out.set (out.length - 1) { out[out.length - 1] with t := sn + 1 }).flatMap Rp.cells) c)) := ((g.trans gA).grow 24).setNew (by omega) _
    have hne : H.next ≠ n := by omega
    refine ⟨⟨gB, by omega, t1, t2, by simpa [hne, Value.cells] using kd1, i + 1, by omega, by omega, ?_⟩, by omega⟩
    rw [hg2, List.length_set]
    refine .inr ⟨n, cap, c, by rw [t5, hv5], l2, by simp; omega, by simp, ?_, l6, l7⟩
    rw [flat_len4, List.length_set]
  · have hg1 : grpTo D xs (i + 1) = out ++ [⟨sj, sn, sn + 1, xs[i].toNat⟩] := by
      rw [hgstep, if_neg (fun hh => hbj hh.2.2)]
    have hbi : ¬ (out[out.length - 1].b : Int) = sj := by omega
    have o51 : OwnS A1 (H.next + 1) 4 v5 out.length (out.flatMap Rp.cells) := .inr ⟨n, cap, c, hv5, l2, l3, l4, l5, l6, l7⟩
    simp [hbi, t5, t1, t6, f1, f2, add_in (x := (sn : Int)) (y := 1) (by omega) (by omega)]
    have gB1 := Ge.new (⟨A1.get, A1.next + 24⟩ : Heap) (.cells true [.int .i64 sj, .int .i64 sn, .int .i64 ((sn : Int) + 1), .int .i64 xs[i]] 4)
    refine fapp_ownS (lo := H.next + 1) (xs := [.int .i64 sj, .int .i64 sn, .int .i64 ((sn : Int) + 1), .int .i64 xs[i]]) ((o51.ge (Ge.more A1 24)).ge gB1) (by simp [slCells, rdL]) rfl (by simp) (by omega) (by omega) (by simp) (by omega) (by simp; omega) fun u B k1 k2 k3 k4 => ?_
    have h5n : ∀ m, slName v5 = some m → H.next + 1 ≤ m := fun m hm => (o5.names hm).1
    have gB : Ge H B := ⟨by have := g.next; omega, fun m hm2' => by
      have f0 := g.next
      have f3 : m ≠ A1.next + 24 := by omega
      rw [k4 m (by omega) (fun e => by have := h5n m e; omega)]; simp [f3]
      rw [gA.get m (by omega)]; exact g.get m hm2'⟩
    have kB : B.get H.next = A.get H.next := (k4 H.next (by omega) (fun e => by have := h5n _ e; omega)).trans (by rw [Heap.new_get, if_neg (by simp; omega)]; exact gA.get _ hn)
    have hcell : [Value.int .i64 sj, .int .i64 sn, .int .i64 ((sn : Int) + 1), .int .i64 xs[i]] = (⟨sj, sn, sn + 1, xs[i].toNat⟩ : Rp).cells := by
      simp only [Rp.cells, hxi]; rfl
    simp [t6, add_in (x := i) (y := 1) (by omega) (by omega)]
    refine ⟨⟨gB, by omega, t1, t2, by simpa [Value.cells] using kB.trans kd, i + 1, by omega, by omega, ?_⟩, by omega⟩
    rw [hg1, List.length_append, List.flatMap_append]
    rw [hcell] at k1
    simpa using k1

end Go.Proofs.YtllkhaabcfnlpaaDoor


namespace Go.Proofs.YtllkhaabcfnlpaaDoor
open Go Go.Ab

def wG (D : Dy) (S : Nat → Nat → Bool) : Nat → Nat → Int := fun c j => if S c j then (D.rel c j).hi else (D.rel c j).lo
def addS (S : Nat → Nat → Bool) (b i : Nat) : Nat → Nat → Bool := fun c j => S c j || (decide (c = b) && decide (j = i))
theorem wG_step {D : Dy} {S : Nat → Nat → Bool} {b i : Nat} : updG (wG D S) b i (D.rel b i).hi = wG D (addS S b i) := by
  funext c j
  unfold updG wG addS
  by_cases e1 : c = b ∧ j = i
  · obtain ⟨rfl, rfl⟩ := e1
    simp
  · rw [if_neg e1]
    have : (decide (c = b) && decide (j = i)) = false := by
      rw [Bool.eq_false_iff]; intro h; simp at h; exact e1 h
    rw [this, Bool.or_false]
def runM (f : Nat → Int) : Nat → Int
  | 0 => f 0
  | j + 1 => max (f (j + 1)) (runM f j)
def RunAt (D : Dy) (f g : Nat → Nat → Int) (b i : Nat) : Prop := ∀ c j, D.has c j → g c j = if c < b ∨ (c = b ∧ j < i) then runM (f c) j else f c j
theorem RunAt.start {D : Dy} {f : Nat → Nat → Int} : RunAt D f f 0 0 := fun c j _ => by rw [if_neg]; rintro (h | ⟨_, h⟩) <;> omega
theorem RunAt.one {D : Dy} {f g : Nat → Nat → Int} {b : Nat} (h : RunAt D f g b 0) : RunAt D f g b 1 := fun c j hs => by
  rw [h c j hs]
  by_cases e : c = b ∧ j = 0
  · obtain ⟨rfl, rfl⟩ := e
    rw [if_neg (by omega), if_pos (by omega)]; rfl
  · by_cases e2 : c < b
    · rw [if_pos (.inl e2), if_pos (.inl e2)]
    · rw [if_neg (by omega), if_neg (by omega)]
theorem RunAt.row {D : Dy} {f g : Nat → Nat → Int} {b : Nat} {r : List Rl} (hr : D.blocks[b]? = some r) (h : RunAt D f g b r.length) : RunAt D f g (b + 1) 0 := fun c j hs => by
  rw [h c j hs]
  by_cases e : c = b
  · subst e
    have : j < r.length := by obtain ⟨x, hx, hj⟩ := hs; rw [hr] at hx; cases hx; exact hj
    rw [if_pos (.inr ⟨rfl, this⟩), if_pos (.inl (by omega))]
  · by_cases e2 : c < b
    · rw [if_pos (.inl e2), if_pos (.inl (by omega))]
    · rw [if_neg (by omega), if_neg (by omega)]
theorem RunAt.step {D : Dy} {f g : Nat → Nat → Int} {b i : Nat} (h : RunAt D f g b i) (hi : 0 < i) (hb : D.has b i) : RunAt D f (updG g b i (max (g b i) (g b (i - 1)))) b (i + 1) := fun c j hs => by
  unfold updG
  by_cases e : c = b ∧ j = i
  · obtain ⟨rfl, rfl⟩ := e
    rw [if_pos ⟨rfl, rfl⟩, if_pos (.inr ⟨rfl, by omega⟩), h c j hb, h c (j - 1) (has_le hb (by omega)), if_neg (by omega), if_pos (.inr ⟨rfl, by omega⟩)]
    obtain ⟨k, rfl⟩ : ∃ k, j = k + 1 := ⟨j - 1, by omega⟩
    simp [runM]
  · rw [if_neg e, h c j hs]
    by_cases e2 : c < b ∨ (c = b ∧ j < i)
    · rw [if_pos e2, if_pos (by omega)]
    · rw [if_neg e2, if_neg]
      rintro (q | ⟨q1, q2⟩)
      · exact e2 (.inl q)
      · have : j ≠ i := fun q => e ⟨q1, q⟩
        exact e2 (.inr ⟨q1, by omega⟩)

def WorstAt (D : Dy) (ps : List Rp) (B : Heap) (lo : Nat) (q : Value) : Prop := ∃ S g vs, RowsX B lo q (tabF D g) vs ∧ (∀ c j, S c j = true ↔ ∃ p ∈ ps, p.b = c ∧ p.f < j ∧ j ≤ p.t) ∧ ∀ c j, D.has c j → g c j = runM (wG D S c) j

set_option maxHeartbeats 8000000 in
theorem worst_spec {D : Dy} {b w v1 : Value} {H : Heap} {xs : List Int} (h : DayAt H b w D) (hT : D.Thin) (hV : Valid D) (hxv : IntsAt H v1 xs) (hb0 : ∀ x ∈ xs, 0 ≤ x ∧ x.toNat < segsOf D.blocks) (h16 : xs.length ≤ 16)
    {ps : List Rp} (hps : insSort (rBefore D) (grpTo D xs xs.length) = ps) (hok : ∀ p ∈ ps, RpOk D p) (hpl : ps.length ≤ 16) :
    AFun Tryd.prog 82 [dayV D b w, v1] H (fun q B => WorstAt D ps B (H.next + 1) q ∧ Ge H B) := by
  refine AFun.mk ok82 hm (Nat.le_of_ble_eq_true rfl) ?_
  have hb := h.blocks.one
  have hw := h.walk.one
  have hfew := hV.few
  simp [a82, r82, hb, hw]
  have g0 : Ge H (H.new (.cells true [.int .i64 D.law.piece, .int .i64 D.law.drive, .int .i64 D.law.spread, .int .i64 D.law.brk, .int .i64 D.law.on, .int .i64 D.law.off, .int .i64 D.law.least, .int .i64 D.law.pieces, b, w] 10)) := Ge.new _ _
  refine fcall_fun (lowsX_spec (h.ge g0) hV) ?_
  rintro v H1 ⟨⟨vs, hR⟩, g1⟩
  have k1 := g1.got (n := H.next) (by simp) rfl
  have n1 := g1.next
  simp at k1 n1 hR
  rw [lows_tab] at hR
  have G1 := g0.trans g1
  simp [k1]
  refine fcall_fun (pieces30X_spec (h.ge G1) hT hV (hxv.ge G1) hb0 h16) ?_
  rintro vp H2 ⟨hp, g2⟩
  rw [hps] at hp
  have k2 := g2.got (n := H.next) (by omega) k1
  have n2 := g2.next
  have G2 := G1.trans g2
  have hold : ∀ (k : Nat) (u : Value), vs[k]? = some u → ∀ m, slName u = some m → m < H1.next := fun k u hk m hm => (hR.names hk hm).2
  have hpn : ∀ m, slName vp = some m → H1.next < m := fun m hm => by have := (hp.names hm).1; omega
  have hstart : wG D (fun _ _ => false) = fun b i => (D.rel b i).lo := by funext c j; simp [wG]
  rw [← hstart] at hR
  replace hR := hR.ge g2
  simp
  refine floop_intro (fun z => z.d = [] ∧ Ge H z.H ∧ H.next < z.H.next ∧ z.t 2 = .pointer (some ⟨H.next, 0, none⟩) ∧ z.t 5 = v ∧ z.t 6 = vp ∧ OwnS z.H (H1.next + 1) 4 vp ps.length (ps.flatMap Rp.cells) ∧ z.H.get H.next = .cells true (dayV D b w).cells.toList 10 ∧ ∃ k : Nat, k ≤ ps.length ∧ z.t 7 = .int .i64 k ∧ ∃ S, RowsX z.H (H.next + 1) v (tabF D (wG D S)) vs ∧ ∀ c j, S c j = true ↔ ∃ p ∈ ps.take k, p.b = c ∧ p.f < j ∧ j ≤ p.t) (fun z => ps.length - (intOf (z.t 7)).toNat) ?_ ?_
  · exact ⟨rfl, G2, by simp; omega, by simp, by simp, by simp, hp, by simpa [Value.cells] using k2, 0, by omega, by simp, _, hR.lower (by omega), by simp⟩
  clear hR k2 k1 hp hstart
  rintro ⟨t, _, A⟩ ⟨rfl, g, hn, t2, t5, t6, hp, kd, k, hk, t7, S, hR, hS⟩
  dsimp only at g hn t2 t5 t6 hp kd t7 hR
  simp [Value.cells] at kd
  have hpA : RpsAt A vp ps := ⟨hp.slr, by omega⟩
  simp [t6, t7, hpA.lenV]
  refine fcond_intro (fun hc => ?_) (fun hc => ?_)
  case refine_2 =>
    have : k = ps.length := by simp at hc; omega
    subst this
    rw [List.take_length] at hS
    clear hc
    simp
    obtain ⟨f, hf⟩ : ∃ f, wG D S = f := ⟨_, rfl⟩
    rw [hf] at hR
    have hvl : vs.length = D.blocks.length := by have := hR.len; simpa using this
    refine floop_intro (fun z => z.d = [] ∧ Ge H z.H ∧ z.t 5 = v ∧ ∃ x : Nat, x ≤ D.blocks.length ∧ z.t 9 = .int .i64 x ∧ ∃ g, RowsX z.H (H.next + 1) v (tabF D g) vs ∧ RunAt D f g x 0) (fun z => D.blocks.length - (intOf (z.t 9)).toNat) ?_ ?_
    · exact ⟨rfl, g, by simp [t5], 0, by omega, by simp, f, hR, RunAt.start⟩
    clear hR t5 t6 t7 t2 kd hp hpA hn g
    rintro ⟨t, _, A⟩ ⟨rfl, gA, t5, x, hx, t9, g, hR, hrun⟩
    dsimp only at gA t5 t9 hR
    have hlv := hR.own.lenV
    rw [hvl] at hlv
    simp [t5, t9, hlv]
    refine fcond_intro (fun hc => ?_) (fun hc => ?_)
    case refine_2 =>
      have : x = D.blocks.length := by simp at hc; omega
      subst this
      simp [t5]
      refine ⟨⟨S, g, vs, hR, hS, fun c j hs => ?_⟩, gA⟩
      · rw [hrun c j hs, hf, if_pos]
        obtain ⟨y, hy, _⟩ := hs
        exact .inl (List.getElem?_eq_some_iff.1 hy).1
    have hx' : x < D.blocks.length := by simpa using hc
    obtain ⟨r, hr⟩ : ∃ r, D.blocks[x]? = some r := ⟨_, List.getElem?_eq_getElem hx'⟩
    have hrx := (List.getElem?_eq_some_iff.1 hr).2
    have hrl := hV.blen (List.getElem_mem hx')
    have hr2 := hV.two (List.getElem_mem hx')
    rw [hrx] at hrl hr2
    simp
    refine floop_intro (fun z => z.d = [] ∧ Ge H z.H ∧ z.t 5 = v ∧ z.t 9 = .int .i64 x ∧ ∃ i : Nat, 0 < i ∧ i ≤ r.length ∧ z.t 10 = .int .i64 i ∧ ∃ g, RowsX z.H (H.next + 1) v (tabF D g) vs ∧ RunAt D f g x i) (fun z => r.length - (intOf (z.t 10)).toNat) ?_ ?_
    · exact ⟨rfl, gA, by simp [t5], by simp [t9], 1, by omega, by omega, by simp, g, hR, hrun.one⟩
    have t9o := t9
    clear hR t5 t9 gA hrun hc hlv
    rintro ⟨t, _, A⟩ ⟨rfl, gA, t5, t9, i, hi0, hi, t10, g, hR, hrun⟩
    dsimp only at gA t5 t9 t10 hR
    have gn := gA.next
    have gw : Ge A (⟨A.get, A.next + 23⟩ : Heap) := Ge.grow_le (by omega) (Ge.refl _)
    obtain ⟨q, cap, c, f1, f2, f3, f4, f5, _⟩ := hR.store hr (i := 0) (by omega)
    obtain ⟨ptr, e1, e2⟩ := hR.own.slr.at1 (k := .i64) (i := x) (by omega)
    rw [f1] at e2
    simp [t5, t9, t10, e1, e2]
    refine fcond_intro (fun hc => ?_) (fun hc => ?_)
    case refine_2 =>
      have : i = r.length := by simp at hc; omega
      subst this
      simp [t9, add_in (x := x) (y := 1) (by omega) (by omega)]
      exact ⟨⟨gA, t5, x + 1, by omega, by omega, g, hR, hrun.row hr⟩, by rw [t9o]; simp; omega⟩
    have hi' : i < r.length := by simpa using hc
    clear f1 f2 f3 f4 f5 e2
    obtain ⟨q, cap, c, f1, f2, f3, f4, f5, f6⟩ := hR.store hr (i := i) hi'
    obtain ⟨ptr', e1', e2⟩ := (hR.ge gw).own.slr.at1 (k := .i64) (i := x) (by omega)
    rw [e1] at e1'; cases e1'
    rw [f1] at e2
    have hisl : ∀ j : Nat, j < r.length → islV 1 (.slice (some ⟨q, 0, none⟩) r.length cap) (.int .i64 (j : Int)) = some (.pointer (some ⟨q, j, none⟩)) := fun j hj => by
      rw [islV_in (by omega) (by omega)]; simp
    have hs1 := hisl i hi'
    have hs2 := hisl (i - 1) (by omega)
    have hcst : ((i - 1 : Nat) : Int) = (i : Int) - 1 := by omega
    rw [hcst] at hs2
    obtain ⟨y, hy⟩ : ∃ y, max (g x i) (g x (i - 1)) = y := ⟨_, rfl⟩
    have l1 := row_cell (f := g x) hi'
    have l2 := row_cell (f := g x) (show i - 1 < r.length by omega)
    obtain ⟨L, hL⟩ : ∃ L, (rowF (g x) r.length).map (Value.int .i64) = L := ⟨_, rfl⟩
    obtain ⟨L', hL'⟩ : ∃ L', ((rowF (g x) r.length).set i y).map (Value.int .i64) = L' := ⟨_, rfl⟩
    have hLl : L.length = r.length := by rw [← hL]; simp
    have hwr : wrL L i [.int .i64 y] = L' := by
      rw [wrL_one _ _ _ (by omega), ← hL, ← hL', List.map_set]
    have f6' := fun B => f6 y B
    rw [hL] at f4 l1 l2
    rw [hL'] at f6'
    have hk2 : i + 1 ≤ r.length := hi'
    simp [t5, t9, t10, e1, e2, hs1, hs2, f4, l1, l2, sub_in (x := (i : Int)) (y := 1) (by omega) (by omega)]
    rw [aval_max (k := .i64) (m := g x i) (n := g x (i - 1)) (by simp) (by simp) (by decide) (by decide), hy]
    simp [t10, hs1, f4, hLl, hk2, hwr, add_in (x := i) (y := 1) (by omega) (by omega)]
    refine ⟨⟨Ge.setNew (gA.trans gw) (by omega) _, t5, t9, i + 1, by omega, by omega, by omega, updG g x i y, ?_, ?_⟩, by omega⟩
    · exact f6' ((⟨A.get, A.next + 23⟩ : Heap).set q (AObj.cells true L' c)) (by simp) (by simp) fun m q1 q2 q3 => by rw [Heap.set_get, if_neg q3]
    · rw [← hy]; exact hrun.step hi0 ⟨r, hr, hi'⟩
  have hk' : k < ps.length := by simpa using hc
  have hpk := hok _ (List.getElem_mem hk')
  obtain ⟨n, o, e1, e2, _, c0, c1, c2, _⟩ := hpA.at hk'
  obtain ⟨p, hpp⟩ : ∃ p, ps[k] = p := ⟨_, rfl⟩
  rw [hpp] at c0 c1 c2 hpk
  obtain ⟨r, hr, hpt⟩ := hpk.lst
  obtain ⟨hx, hrx⟩ := List.getElem?_eq_some_iff.1 hr
  have hrl := hV.blen (List.getElem_mem hx)
  rw [hrx] at hrl
  have hpf : p.f < r.length := by obtain ⟨r', hr', hh⟩ := hpk.fst; rw [hr] at hr'; cases hr'; exact hh
  simp [t6, t7, e1, c1, add_in (x := (p.f : Int)) (y := 1) (by omega) (by omega)]
  refine floop_intro (fun z => z.d = [] ∧ Ge H z.H ∧ H.next < z.H.next ∧ z.t 2 = .pointer (some ⟨H.next, 0, none⟩) ∧ z.t 5 = v ∧ z.t 6 = vp ∧ OwnS z.H (H1.next + 1) 4 vp ps.length (ps.flatMap Rp.cells) ∧ z.H.get H.next = .cells true (dayV D b w).cells.toList 10 ∧ z.t 7 = .int .i64 k ∧ ∃ i : Nat, p.f < i ∧ i ≤ max p.t p.f + 1 ∧ z.t 8 = .int .i64 i ∧ ∃ S', RowsX z.H (H.next + 1) v (tabF D (wG D S')) vs ∧ ∀ c j, S' c j = true ↔ S c j = true ∨ (p.b = c ∧ p.f < j ∧ j < i)) (fun z => p.t + 1 - (intOf (z.t 8)).toNat) ?_ ?_
  · exact ⟨rfl, g, by simp; omega, by simp [t2], by simp [t5], by simp [t6], by simpa using hp, by simpa [Value.cells] using kd, by simp [t7], p.f + 1, by omega, by omega, by simp, S, by simpa using hR, fun c j => ⟨.inl, fun h => h.elim id fun h => by omega⟩⟩
  have t7o := t7
  clear t2 t5 t6 t7 hp kd hR hpA e1 e2 c0 c1 c2 g hn hc
  rintro ⟨t, _, A⟩ ⟨rfl, g, hn, t2, t5, t6, hp, kd, t7, i, hi0, hi, t8, S', hR, hS'⟩
  dsimp only at g hn t2 t5 t6 hp kd t7 t8 hR
  simp [Value.cells] at kd
  have hpA : RpsAt A vp ps := ⟨hp.slr, by omega⟩
  obtain ⟨n, o, e1, e2, _, c0, c1, c2, _⟩ := hpA.at hk'
  rw [hpp] at c0 c1 c2
  simp [t6, t7, t8, e1, c2]
  refine fcond_intro (fun hc => ?_) (fun hc => ?_)
  case refine_2 =>
    have hit : p.t < i := by simp at hc; omega
    simp [t7, add_in (x := k) (y := 1) (by omega) (by omega)]
    refine ⟨⟨g, hn, t2, t5, t6, hp, by simpa [Value.cells] using kd, k + 1, by omega, by omega, S', hR, fun c j => ?_⟩, by rw [t7o]; simp; omega⟩
    rw [hS', hS, List.take_succ_eq_append_getElem hk', hpp]
    constructor
    · rintro (⟨q, h1, h2⟩ | ⟨h1, h2, h3⟩)
      · exact ⟨q, List.mem_append_left _ h1, h2⟩
      · exact ⟨p, List.mem_append_right _ (by simp), h1, h2, by omega⟩
    · rintro ⟨q, h1, h2, h3, h4⟩
      rcases List.mem_append.1 h1 with h1 | h1
      · exact .inl ⟨q, h1, h2, h3, h4⟩
      · rw [List.mem_singleton] at h1
        subst h1
        exact .inr ⟨h2, h3, by omega⟩
  have hit : i ≤ p.t := by simp at hc; omega
  have hi' : i < r.length := by omega
  have gw : Ge A (⟨A.get, A.next + 25⟩ : Heap) := Ge.grow_le (by omega) (Ge.refl _)
  obtain ⟨q, cap, c, f1, f2, f3, f4, f5, f6⟩ := hR.store hr (i := i) hi'
  have hq1 : q < H1.next := hold _ _ f1 q rfl
  obtain ⟨ptr, e1', e2'⟩ := (hR.ge gw).own.slr.at1 (k := .i64) (i := p.b) (by rw [hR.len]; simpa using hx)
  rw [f1] at e2'
  obtain ⟨pp, u, m1, m2, m3⟩ := h.blocks.atAll hx
  rw [hrx] at m3
  have m2' := m2 _ (g.trans gw)
  obtain ⟨n', o', p1, p2, _, p3, _⟩ := (m3.ge (g.trans gw)).at hi'
  have c2' := p3 2 (by omega)
  simp [Rl.cells] at c2'
  have hrel : D.rel p.b i = r[i] := by simp [Dy.rel, hr, hi']
  have hisl : islV 1 (.slice (some ⟨q, 0, none⟩) r.length cap) (.int .i64 (i : Int)) = some (.pointer (some ⟨q, i, none⟩)) := by
    rw [islV_in (by omega) (by omega)]; simp
  obtain ⟨L, hL⟩ : ∃ L, (rowF (wG D S' p.b) r.length).map (Value.int .i64) = L := ⟨_, rfl⟩
  obtain ⟨L', hL'⟩ : ∃ L', ((rowF (wG D S' p.b) r.length).set i r[i].hi).map (Value.int .i64) = L' := ⟨_, rfl⟩
  have hLl : L.length = r.length := by rw [← hL]; simp
  have hwr : wrL L i [.int .i64 r[i].hi] = L' := by
    rw [wrL_one _ _ _ (by omega), ← hL, ← hL', List.map_set]
  have f6' := fun B => f6 r[i].hi B
  rw [hL] at f4
  rw [hL'] at f6'
  have hk2 : i + 1 ≤ r.length := hi'
  simp [t2, t5, t6, t7, t8, kd, e1, c0, e1', e2', m1, m2', p1, c2', hisl, f4, hLl, hk2, hwr, add_in (x := i) (y := 1) (by omega) (by omega)]
  refine ⟨⟨Ge.setNew (g.trans gw) (by omega) _, by omega, hp.keep (by simp) fun m hm => ?_, fun e => by omega, i + 1, by omega, by omega, by omega, addS S' p.b i, ?_, fun c j => ?_⟩, by omega⟩
  · have := hpn m hm
    rw [Heap.set_get, if_neg (by omega)]
  · have k := f6' ((⟨A.get, A.next + 25⟩ : Heap).set q (AObj.cells true L' c)) (by simp) (by simp) fun m q1 q2 q3 => by rw [Heap.set_get, if_neg q3]
    rw [← hrel, wG_step] at k
    exact k
  · simp only [addS, Bool.or_eq_true, Bool.and_eq_true, decide_eq_true_eq, hS']
    constructor
    · rintro ((h1 | ⟨h1, h2, h3⟩) | ⟨h1, h2⟩)
      · exact .inl h1
      · exact .inr ⟨h1, h2, by omega⟩
      · exact .inr ⟨h1.symm, by omega, by omega⟩
    · rintro (h1 | ⟨h1, h2, h3⟩)
      · exact .inl (.inl h1)
      · by_cases e : j = i
        · exact .inr ⟨h1.symm, e⟩
        · exact .inl (.inr ⟨h1, h2, by omega⟩)

end Go.Proofs.YtllkhaabcfnlpaaDoor


namespace Go.Proofs.YtllkhaabcfnlpaaDoor
open Go Go.Ab

def fin48 : ACode :=
 (.seq
 (.seq
 (.region [⟨some 74, .mov (.t 8), none⟩, ⟨some 75, .bin .gtr (.t 74) (.c (.int .i64 0)), none⟩])
 (.cond (.t 75)
 (.region [⟨some 76, .mov (.t 11), none⟩, ⟨some 77, .mov (.t 7), none⟩, ⟨some 78, .mov (.t 8), none⟩, ⟨some 79, .bin .sub (.t 78) (.c (.int .i64 1)), none⟩, ⟨some 80, .isl 1 (.t 77) (.t 79), none⟩, ⟨some 81, .ld false 1 (.t 80), none⟩, ⟨some 82, .gen 92 ⟨some 82, (.call ⟨.builtin .max, #[(.tmp 76), (.tmp 81)], #[3, 3]⟩), 3, "outright.go:85", #[{ on := 0, ground := Go.Ground.data }, { on := 5, ground := Go.Ground.data }], none⟩, none⟩, ⟨some 11, .mov (.t 82), none⟩])
 .skip))
 (.region [⟨some 83, .mov (.t 7), none⟩, ⟨some 84, .mov (.t 11), none⟩, ⟨some 85, .bsl 1 [(.int .i64 0)] [(0, 1, (.t 84))], none⟩, ⟨some 86, .app 1 8 (.t 83) (.t 85), none⟩, ⟨some 7, .mov (.t 86), none⟩]))
def rest48 : ACode :=
 (.seq
 (.draw 13 [⟨⟨some 52, .fa 0 (.t 9), none⟩, 0, false, []⟩, ⟨⟨some 53, .ld false 1 (.t 52), none⟩, 1, false, []⟩, ⟨⟨some 54, .mov (.t 10), none⟩, 2, false, []⟩, ⟨⟨some 55, .bin .quo (.t 54) (.c (.int .i64 4)), none⟩, 3, false, []⟩, ⟨⟨some 56, .fa 1 (.t 9), none⟩, 4, false, []⟩, ⟨⟨some 57, .ld false 1 (.t 56), none⟩, 5, false, []⟩, ⟨⟨some 58, .fa 0 (.t 9), none⟩, 6, false, []⟩, ⟨⟨some 59, .ld false 1 (.t 58), none⟩, 7, false, []⟩, ⟨⟨some 60, .bin .sub (.t 57) (.t 59), none⟩, 8, false, []⟩, ⟨⟨some 61, .bin .add (.t 60) (.c (.int .i64 1)), none⟩, 9, false, []⟩, ⟨⟨some 62, .bin .rem (.t 55) (.t 61), none⟩, 10, false, []⟩, ⟨⟨some 63, .bin .add (.t 53) (.t 62), none⟩, 11, false, []⟩, ⟨⟨some 11, .mov (.t 63), none⟩, 12, false, []⟩])
 (.seq
 (.seq
 (.region [⟨some 64, .mov (.t 10), none⟩, ⟨some 65, .bin .rem (.t 64) (.c (.int .i64 4)), none⟩])
 (.block 4
 (.seq
 (.region [⟨some 67, .bin .eql (.t 65) (.c (.int .i64 0)), none⟩, ⟨some 66, .mov (.t 67), none⟩])
 (.cond (.t 66)
 (.region [⟨some 68, .fa 0 (.t 9), none⟩, ⟨some 69, .ld false 1 (.t 68), none⟩, ⟨some 11, .mov (.t 69), none⟩])
 (.seq
 (.region [⟨some 71, .bin .eql (.t 65) (.c (.int .i64 1)), none⟩, ⟨some 70, .mov (.t 71), none⟩])
 (.cond (.t 70)
 (.region [⟨some 72, .fa 1 (.t 9), none⟩, ⟨some 73, .ld false 1 (.t 72), none⟩, ⟨some 11, .mov (.t 73), none⟩])
 .skip))))))
 fin48))
theorem a48_eq : a48 =
  (.seq
   (.region [⟨(some 2), (.box (.t 0)), none⟩, ⟨(some 4), (.mov (.c (.slice none 0 0))), none⟩])
   (.seq
    (.region [⟨(some 5), (.mov (.c (.slice none 0 0))), none⟩])
    (.seq
     (.seq
      (.region [⟨(some 6), (.mov (.c (.int .i64 0))), none⟩])
      (.block 0
       (.loop
        (.seq
         (.seq
          (.region [⟨(some 12), (.mov (.t 6)), none⟩, ⟨(some 13), (.fa 8 (.t 2)), none⟩, ⟨(some 14), (.ld false 1 (.t 13)), none⟩, ⟨(some 15), (.len (.t 14)), none⟩, ⟨(some 16), (.bin .lss (.t 12) (.t 15)), none⟩])
          (.cond (.t 16)
           .skip
           (.exit 0)))
         (.seq
          (.block 1
           (.seq
            (.region [⟨(some 7), (.mov (.c (.slice none 0 0))), none⟩])
            (.seq
             (.seq
              (.region [⟨(some 8), (.mov (.c (.int .i64 0))), none⟩])
              (.block 2
               (.loop
                (.seq
                 (.seq
                  (.region [⟨(some 19), (.mov (.t 8)), none⟩, ⟨(some 20), (.fa 8 (.t 2)), none⟩, ⟨(some 21), (.ld false 1 (.t 20)), none⟩, ⟨(some 22), (.mov (.t 6)), none⟩, ⟨(some 23), (.isl 1 (.t 21) (.t 22)), none⟩, ⟨(some 24), (.ld false 1 (.t 23)), none⟩, ⟨(some 25), (.len (.t 24)), none⟩, ⟨(some 26), (.bin .lss (.t 19) (.t 25)), none⟩])
                  (.cond (.t 26)
                   .skip
                   (.exit 2)))
                 (.seq
                  (.block 3
                   (.seq
                    (.region [⟨(some 29), (.fa 8 (.t 2)), none⟩, ⟨(some 30), (.ld false 1 (.t 29)), none⟩, ⟨(some 31), (.mov (.t 6)), none⟩, ⟨(some 32), (.isl 1 (.t 30) (.t 31)), none⟩, ⟨(some 33), (.ld false 1 (.t 32)), none⟩, ⟨(some 34), (.mov (.t 8)), none⟩, ⟨(some 35), (.isl 3 (.t 33) (.t 34)), none⟩, ⟨(some 36), (.fa 1 (.t 35)), none⟩, ⟨(some 37), (.ld true 2 (.t 36)), none⟩, ⟨(some 9), (.new [(.int .i64 0), (.int .i64 0)]), none⟩, ⟨none, (.st 2 (.t 9) (.t 37)), none⟩])
                    (.seq
                     (.region [⟨(some 10), (.mov (.c (.int .i64 1))), none⟩])
                     (.seq
                      (.seq
                       (.region [⟨(some 38), (.mov (.t 1)), none⟩, ⟨(some 39), (.len (.t 38)), none⟩, ⟨(some 40), (.bin .gtr (.t 39) (.c (.int .i64 0))), none⟩])
                       (.cond (.t 40)
                        (.region [⟨(some 41), (.mov (.t 1)), none⟩, ⟨(some 42), (.mov (.t 6)), none⟩, ⟨(some 43), (.bin .mul (.c (.int .i64 5)) (.t 42)), none⟩, ⟨(some 44), (.mov (.t 8)), none⟩, ⟨(some 45), (.bin .add (.t 43) (.t 44)), none⟩, ⟨(some 46), (.mov (.t 1)), none⟩, ⟨(some 47), (.len (.t 46)), none⟩, ⟨(some 48), (.bin .rem (.t 45) (.t 47)), none⟩, ⟨(some 49), (.isl 1 (.t 41) (.t 48)), none⟩, ⟨(some 50), (.ld false 1 (.t 49)), none⟩, ⟨(some 51), (.cvi .i64 (.t 50)), none⟩, ⟨(some 10), (.mov (.t 51)), none⟩])
                        .skip))
                      rest48))))
                  (.region [⟨(some 27), (.mov (.t 8)), none⟩, ⟨(some 28), (.bin .add (.t 27) (.c (.int .i64 1))), none⟩, ⟨(some 8), (.mov (.t 28)), none⟩]))))))
             (.region [⟨(some 87), (.mov (.t 5)), none⟩, ⟨(some 88), (.mov (.t 7)), none⟩, ⟨(some 89), (.bsl 1 [(.slice none 0 0)] [(0, 1, (.t 88))]), none⟩, ⟨(some 90), (.app 1 24 (.t 87) (.t 89)), none⟩, ⟨(some 5), (.mov (.t 90)), none⟩]))))
          (.region [⟨(some 17), (.mov (.t 6)), none⟩, ⟨(some 18), (.bin .add (.t 17) (.c (.int .i64 1))), none⟩, ⟨(some 6), (.mov (.t 18)), none⟩]))))))
     (.seq
      (.region [⟨(some 91), (.mov (.t 5)), none⟩, ⟨(some 4), (.mov (.t 91)), none⟩])
      .ret)))) := rfl

theorem quo4 {w : Nat} (h : w < 65536) : binI BinOp.quo (.int .i64 (w : Int)) (.int .i64 4) = some (.int .i64 ((w / 4 : Nat) : Int)) := by
  have := quo_in (x := (w : Int)) (y := 4) (by omega) (by omega) (by omega)
  rw [this]; congr 2
theorem rem4 {w : Nat} : binI BinOp.rem (.int .i64 (w : Int)) (.int .i64 4) = some (.int .i64 ((w % 4 : Nat) : Int)) := rem_int (a := w) (c := 4) (by omega)

theorem fin48_spec {A : Heap} {lo : Nat} {N j : Nat} {t : Nat → Value} {v7 : Value} {n : Int} {ts : List Int} {Q : APost} (t7 : t 7 = v7) (t8 : t 8 = .int .i64 (j : Int)) (t11 : t 11 = .int .i64 n) (o7 : OwnSl A lo v7 (ts.map (.int .i64))) (hj : ts.length = j) (hj11 : j ≤ 11) (hlo : lo ≤ A.next)
    (K : ∀ t' B, (∀ k, k < 7 → t' k = t k) → t' 8 = t 8 → OwnSl B lo (t' 7) ((ts ++ [if 0 < j then max n (ts[j - 1]?.getD 0) else n]).map (.int .i64)) → A.next ≤ B.next → (∀ m, m < lo → B.get m = A.get m) → Q .normal ⟨t', [], B⟩) :
    vc Tryd.prog N none (vdrawD Tryd.prog) fin48 Q ⟨t, [], A⟩ := by
  have h1 := o7.one
  have app : ∀ (y : Int) (nx : Nat) (R : Value → Heap → Prop), A.next + 1 < nx → (ts ++ [if 0 < j then max n (ts[j - 1]?.getD 0) else n]) = ts ++ [y] →
      (∀ u B, OwnSl B lo u ((ts ++ [if 0 < j then max n (ts[j - 1]?.getD 0) else n]).map (.int .i64)) → A.next ≤ B.next → (∀ m, m < lo → B.get m = A.get m) → R u B) →
      @fapp (baseOf (A.new (.cells true [.int .i64 y] 1)) 1 v7) (slCells (A.new (.cells true [.int .i64 y] 1)) 1 (.slice (some ⟨A.next, 0, none⟩) 1 1)) 1 8 (A.new (.cells true [.int .i64 y] 1)) (A.next + 1) nx ⟨R⟩ := fun y nx R hnx hy K' => by
    have gN := Ge.new A (.cells true [.int .i64 y] 1)
    refine fapp_own (lo := lo) (x := .int .i64 y) (o7.ge gN) (slCells_new (rw := true) (c := 1) (by simp)) rfl (by simp; omega) (by omega) (by simp) (by omega) (by simp; omega) fun u B k1 k2 k3 k4 => ?_
    have h5n : ∀ m, slName v7 = some m → lo ≤ m := fun m hm => (o7.names hm).1
    refine K' _ _ ?_ (by omega) fun m hm => ?_
    · rw [hy, List.map_append]; exact k1
    · have f1 : m ≠ A.next := by omega
      rw [k4 m (by omega) (fun e => by have := h5n m e; omega)]; simp [f1]
  by_cases hz : 0 < j
  · have hui : IntsAt A v7 ts := own_ints o7 (by omega)
    obtain ⟨p, e1, e2⟩ := hui.at (i := j - 1) (by omega)
    have hc1 : ((j - 1 : Nat) : Int) = (j : Int) - 1 := by omega
    rw [hc1] at e1
    simp [fin48, t8, hz, t7, t11, h1, sub_in (x := (j : Int)) (y := 1) (by omega) (by omega), e1, e2]
    rw [aval_max (k := .i64) (m := n) (n := ts[j - 1]) (by simp) (by simp) (by decide) (by decide)]
    simp [t7, h1]
    refine app (max n ts[j - 1]) _ _ (by omega) (by simp [hz, (by omega : j - 1 < ts.length)]) fun u B k1 k2 k3 => ?_
    simp
    refine K _ _ (fun k hk => ?_) ?_ (by simpa using k1) k2 k3
    · simp only [upd]; repeat rw [if_neg (by omega)]
    · simp only [upd]; repeat rw [if_neg (by omega)]
  · simp [fin48, t8, hz, t7, t11, h1]
    refine app n _ _ (by omega) (by simp [hz]) fun u B k1 k2 k3 => ?_
    simp
    refine K _ _ (fun k hk => ?_) ?_ (by simpa using k1) k2 k3
    · simp only [upd]; repeat rw [if_neg (by omega)]
    · simp only [upd]; repeat rw [if_neg (by omega)]

theorem rest48_spec {A : Heap} {base p c9 : Nat} {N j w : Nat} {t : Nat → Value} {v7 : Value} {lo hi : Int} {ts : List Int} {Q : APost} (hw : w < 65536) (h0 : 0 ≤ lo) (hl : lo ≤ hi) (hh : hi ≤ 3000)
    (t9 : t 9 = .pointer (some ⟨p, 0, none⟩)) (hp : A.get p = .cells true [.int .i64 lo, .int .i64 hi] c9) (t10 : t 10 = .int .i64 (w : Int)) (t7 : t 7 = v7) (t8 : t 8 = .int .i64 (j : Int)) (o7 : OwnSl A base v7 (ts.map (.int .i64))) (hj : ts.length = j) (hj11 : j ≤ 11) (hlo : base ≤ A.next)
    (K : ∀ n t' B, lo ≤ n → n ≤ hi → (∀ k, k < 7 → t' k = t k) → t' 8 = t 8 → OwnSl B base (t' 7) ((ts ++ [if 0 < j then max n (ts[j - 1]?.getD 0) else n]).map (.int .i64)) → A.next ≤ B.next → (∀ m, m < base → B.get m = A.get m) → Q .normal ⟨t', [], B⟩) :
    vc Tryd.prog N none (vdrawD Tryd.prog) rest48 Q ⟨t, [], A⟩ := by
  obtain ⟨q, hq⟩ : ∃ q : Nat, hi - lo + 1 = (q : Int) := ⟨(hi - lo + 1).toNat, by omega⟩
  have hq0 : 0 < q := by omega
  have hr := rem_int (a := w / 4) (c := q) hq0
  have hlt : w / 4 % q < q := Nat.mod_lt _ hq0
  obtain ⟨y, hy⟩ : ∃ y, w / 4 % q = y := ⟨_, rfl⟩
  rw [hy] at hr hlt
  have hwq : ((w / 4 : Nat) : Int) = (w : Int) / 4 := by omega
  rw [hwq] at hr
  obtain ⟨d, hd⟩ : ∃ d, w % 4 = d := ⟨_, rfl⟩
  have hr4 := rem4 (w := w)
  rw [hd] at hr4
  simp [rest48, t9, hp, t10, quo4 hw, sub_in (x := hi) (y := lo) (by omega) (by omega), add_in (x := hi - lo) (y := 1) (by omega) (by omega), hq, hr, add_in (x := lo) (y := (y : Int)) (by omega) (by omega), hr4]
  have g13 : Ge A (⟨A.get, A.next + 13⟩ : Heap) := Ge.grow_le (by omega) (Ge.refl _)
  have fin : ∀ (n : Int) (t' : Nat → Value), lo ≤ n → n ≤ hi → (∀ k, k < 9 → t' k = t k) → t' 11 = .int .i64 n → vc Tryd.prog N none (vdrawD Tryd.prog) fin48 Q ⟨t', [], ⟨A.get, A.next + 13⟩⟩ := fun n t' h1 h2 h3 h4 => by
    refine fin48_spec (by rw [h3 7 (by omega)]; exact t7) (by rw [h3 8 (by omega)]; exact t8) h4 (o7.ge g13) hj hj11 (by simp; omega) fun t'' B k1 k2 k3 k4 k5 => ?_
    exact K n t'' B h1 h2 (fun k hk => by rw [k1 k hk, h3 k (by omega)]) (by rw [k2, h3 8 (by omega)]) k3 (by simp at k4; omega) k5
  by_cases d0 : d = 0
  · subst d0
    simp [t9, hp]
    exact fin lo _ (by omega) (by omega) (fun k hk => by simp only [upd]; repeat rw [if_neg (by omega)]) (by simp)
  by_cases d1 : d = 1
  · subst d1
    simp [t9, hp]
    exact fin hi _ (by omega) (by omega) (fun k hk => by simp only [upd]; repeat rw [if_neg (by omega)]) (by simp)
  have d0' : ¬ (d : Int) = 0 := by omega
  have d1' : ¬ (d : Int) = 1 := by omega
  simp [d0, d0', d1']
  exact fin (lo + y) _ (by omega) (by omega) (fun k hk => by simp only [upd]; repeat rw [if_neg (by omega)]) (by simp)

end Go.Proofs.YtllkhaabcfnlpaaDoor


namespace Go.Proofs.YtllkhaabcfnlpaaDoor
open Go Go.Ab Go.ChangeShapes Go.WideShapes Go.ChangeAt Go.RowKit

theorem ownT : ownKnob Tryd.prog.godebug = none := by kernel_rfl
theorem gTab0 : Tryd.prog.globalNamed "math/bits.deBruijn32tab" = some 0 := by kernel_rfl
theorem gTab1 : Tryd.prog.globalNamed "math/bits.deBruijn64tab" = some 1 := by kernel_rfl
theorem gType0 : (Tryd.prog.globals[0]?).map (·.type) = some 180 := by kernel_rfl
theorem gType1 : (Tryd.prog.globals[1]?).map (·.type) = some 181 := by kernel_rfl
theorem cellsT180 : Tryd.prog.cellsOf 180 = 32 := by kernel_rfl
theorem cellsT181 : Tryd.prog.cellsOf 181 = 64 := by kernel_rfl
theorem cellsT5 : Tryd.prog.cellsOf 5 = 1 := by kernel_rfl

theorem laidT : laidOutB Tryd.prog = true := by kernel_rfl
theorem readT {l : List Nat} (h : l.all (fun t => Tryd.prog.readableRec t && decide (t < Tryd.prog.types.size)) = true) : ∀ t ∈ l, Tryd.prog.readableRec t = true ∧ t < Tryd.prog.types.size := by
  intro t ht
  have := List.all_eq_true.1 h t ht
  simpa using this

abbrev tabsL {H : Type} : List (String × DataW H) := [("math/bits.deBruijn32tab", Rows.laid_math_bits_deBruijn32tab), ("math/bits.deBruijn64tab", Rows.laid_math_bits_deBruijn64tab)]
theorem tables {W : World} (h : laidMetH Tryd.prog tabsL W) : gmax ≤ W.heap.size ∧ ∀ g, g < gmax → ∃ cs c, [gl0, gl1][g]? = some (some (false, cs, c)) ∧ cs.all flat1 = true ∧ (absH W.heap).get g = .cells false cs c := by
  have t0 := abs_tab (Lib.tabIs_of_head (k := .u8) (zs := [0, 1, 28, 2, 29, 14, 24, 3, 30, 22, 20, 15, 25, 17, 4, 8, 31, 27, 13, 23, 21, 19, 16, 7, 26, 12, 18, 6, 11, 5, 10, 9]) gTab0 gType0 Tryd.underlying180 Tryd.underlying5 cellsT5 cellsT180 h) gTab0
  have t1 := abs_tab (Lib.tabIs_of_head (k := .u8) (zs := [0, 1, 56, 2, 57, 49, 28, 3, 61, 58, 42, 50, 38, 29, 17, 4, 62, 47, 59, 36, 45, 43, 51, 22, 53, 39, 33, 30, 24, 18, 12, 5, 63, 55, 48, 27, 60, 41, 37, 16, 46, 35, 44, 21, 52, 32, 23, 11, 54, 26, 40, 15, 34, 20, 31, 10, 25, 14, 19, 9, 13, 8, 7, 6]) (rest := []) gTab1 gType1 Tryd.underlying181 Tryd.underlying5 cellsT5 cellsT181 (laidMet.tail h)) gTab1
  refine ⟨t1.1, fun g hg => ?_⟩
  match g, hg with
  | 0, _ => exact ⟨_, _, rfl, rfl, t0.2⟩
  | 1, _ => exact ⟨_, _, rfl, rfl, t1.2⟩

noncomputable def laidCells (l : Array Value) : Obj → Obj
  | .cells _ t frozen => .cells l t frozen
  | o => o
noncomputable def laidWorld (os : Os) (args : Array Value) : World :=
  { World.holding Tryd.prog os ⟨#[], args, []⟩ with heap := ((World.holding Tryd.prog os ⟨#[], args, []⟩).heap.modify 0 (laidCells #[.int .u8 0, .int .u8 1, .int .u8 28, .int .u8 2, .int .u8 29, .int .u8 14, .int .u8 24, .int .u8 3, .int .u8 30, .int .u8 22, .int .u8 20, .int .u8 15, .int .u8 25, .int .u8 17, .int .u8 4, .int .u8 8, .int .u8 31, .int .u8 27, .int .u8 13, .int .u8 23, .int .u8 21, .int .u8 19, .int .u8 16, .int .u8 7, .int .u8 26, .int .u8 12, .int .u8 18, .int .u8 6, .int .u8 11, .int .u8 5, .int .u8 10, .int .u8 9])).modify 1 (laidCells #[.int .u8 0, .int .u8 1, .int .u8 56, .int .u8 2, .int .u8 57, .int .u8 49, .int .u8 28, .int .u8 3, .int .u8 61, .int .u8 58, .int .u8 42, .int .u8 50, .int .u8 38, .int .u8 29, .int .u8 17, .int .u8 4, .int .u8 62, .int .u8 47, .int .u8 59, .int .u8 36, .int .u8 45, .int .u8 43, .int .u8 51, .int .u8 22, .int .u8 53, .int .u8 39, .int .u8 33, .int .u8 30, .int .u8 24, .int .u8 18, .int .u8 12, .int .u8 5, .int .u8 63, .int .u8 55, .int .u8 48, .int .u8 27, .int .u8 60, .int .u8 41, .int .u8 37, .int .u8 16, .int .u8 46, .int .u8 35, .int .u8 44, .int .u8 21, .int .u8 52, .int .u8 32, .int .u8 23, .int .u8 11, .int .u8 54, .int .u8 26, .int .u8 40, .int .u8 15, .int .u8 34, .int .u8 20, .int .u8 31, .int .u8 10, .int .u8 25, .int .u8 14, .int .u8 19, .int .u8 9, .int .u8 13, .int .u8 8, .int .u8 7, .int .u8 6]) }

end Go.Proofs.YtllkhaabcfnlpaaDoor


namespace Go.Proofs.YtllkhaabcfnlpaaDoor
open Go Go.Ab Go.RowKit Go.ChangeShapes Go.WideShapes

theorem cells3 : Tryd.prog.cellsOf 3 = 1 := by kernel_rfl
theorem cells28 : Tryd.prog.cellsOf 28 = 1 := by kernel_rfl
theorem cells80 : Tryd.prog.cellsOf 80 = 1 := by kernel_rfl
theorem cells24 : Tryd.prog.cellsOf 24 = 1 := by kernel_rfl
theorem cells25 : Tryd.prog.cellsOf 25 = 1 := by kernel_rfl
theorem cells82 : Tryd.prog.cellsOf 82 = 2 := by kernel_rfl
theorem cells84 : Tryd.prog.cellsOf 84 = 3 := by kernel_rfl
theorem cells23 : Tryd.prog.cellsOf 23 = 8 := by kernel_rfl
theorem cells27 : Tryd.prog.cellsOf 27 = 10 := by kernel_rfl
theorem cells71 : Tryd.prog.cellsOf 71 = 1 := by kernel_rfl

theorem abs_size (hp : Array Obj) : hp.size ≤ (absH hp).next := Nat.le_succ_of_le (Nat.le_mul_of_pos_right _ (Nat.succ_pos _))

theorem list3 {l : List Value} (h : l.length = 3) : ∃ a b c, l = [a, b, c] := by
  match l, h with
  | [a, b, c], _ => exact ⟨a, b, c, rfl⟩
theorem list10 {l : List Value} (h : l.length = 10) : ∃ a b c d e f g i j k, l = [a, b, c, d, e, f, g, i, j, k] := by
  match l, h with
  | [a, b, c, d, e, f, g, i, j, k], _ => exact ⟨a, b, c, d, e, f, g, i, j, k, rfl⟩

section
variable {H : Type} {enc : TypeId × Value → H} {w : World} {fuel : Nat} {v : Value} {x : DataW H × List MemPlace}

theorem maxLen_lt {n : Nat} (h : n ≤ maxLen) : n < 2 ^ 63 := by
  have : maxLen = 9223372036854775807 := rfl
  omega

theorem read_list (h : DataW.trod enc Tryd.prog w 0 (fun _ => true) true fuel 28 [v] = some x) : goodV w.heap.size (capM w.heap) v = true ∧ ∃ xs : List Int, IntsAt (absH w.heap) (absV w.heap.size v) xs := by
  obtain ⟨h1, xs, h2, h3, _⟩ := read_ints Tryd.underlying28 Tryd.underlying3 cells3 h
  exact ⟨h1, xs, h2, maxLen_lt h3⟩

theorem read_of {t e : TypeId} {α : Type} {R : Heap → Value → α → Prop} (ht : Tryd.prog.underlying t = some (.slice e)) (hc : Tryd.prog.cellsOf e = 1)
    (hs : ∀ n cs y, DataW.trod enc Tryd.prog w 0 (fun _ => true) true n e cs = some y → ∃ u, cs = [u])
    (hr : ∀ n u y, DataW.trod enc Tryd.prog w 0 (fun _ => true) true n e [u] = some y → goodV w.heap.size (capM w.heap) u = true ∧ ∃ x : α, R (absH w.heap) (absV w.heap.size u) x)
    (h : DataW.trod enc Tryd.prog w 0 (fun _ => true) true fuel t [v] = some x) : goodV w.heap.size (capM w.heap) v = true ∧ ∃ xs : List α, RowsOf R (absH w.heap) (absV w.heap.size v) xs := by
  obtain ⟨h1, l, h2, h3, h4⟩ := read_slice (α := α × Value) (f := fun x => [x.2]) (Q := fun x => R (absH w.heap) x.2 x.1) ht (by rw [hc]; omega) (fun n cs y hy => by
    obtain ⟨u, rfl⟩ := hs _ _ _ hy
    obtain ⟨k1, xs, k2⟩ := hr _ _ _ hy
    exact ⟨by simpa using k1, (xs, absV w.heap.size u), rfl, k2⟩) h
  refine ⟨h1, l.map (·.1), l.map (·.2), ?_, by simpa using maxLen_lt h3, fun i hi => ?_⟩
  · rw [hc] at h2
    have e : l.flatMap (fun x => [x.2]) = l.map (·.2) := by
      clear h2 h3 h4
      induction l with
      | nil => rfl
      | cons x l ih => simp [ih]
    rw [← e, List.length_map]
    exact h2
  · simp at hi
    exact ⟨l[i].2, by simp [hi], by simpa using h4 _ (List.getElem_mem hi)⟩

theorem one_slice {t e : TypeId} (ht : Tryd.prog.underlying t = some (.slice e)) {n : Nat} {cs : List Value} {y : DataW H × List MemPlace} (hy : DataW.trod enc Tryd.prog w 0 (fun _ => true) true n t cs = some y) : ∃ u, cs = [u] := by
  rcases Deep.open_slice ht hy with ⟨hv, _⟩ | ⟨a, len, cap, m, n, D, Pl, hv, _⟩ <;> exact ⟨_, hv⟩

theorem read_rows (h : DataW.trod enc Tryd.prog w 0 (fun _ => true) true fuel 25 [v] = some x) : goodV w.heap.size (capM w.heap) v = true ∧ ∃ xs : List (List Int), RowsAt (absH w.heap) (absV w.heap.size v) xs :=
  read_of Tryd.underlying25 cells28 (fun _ _ _ hy => one_slice Tryd.underlying28 hy) (fun _ _ _ hy => read_list hy) h

theorem read_relief {cs : List Value} (h : DataW.trod enc Tryd.prog w 0 (fun _ => true) true fuel 84 cs = some x) : (∀ u ∈ cs, goodV w.heap.size (capM w.heap) u = true) ∧ ∃ t : Rl, cs.map (absV w.heap.size) = t.cells ∧ True := by
  obtain ⟨ys, n, _, _, hl, hyl, hf⟩ := DataW.trod_struct Tryd.underlying84 h
  rw [cells84] at hl
  obtain ⟨c0, c1, c2, rfl⟩ := list3 hl
  have hy2 : ys.length = 2 := by simpa using hyl
  have e0 := hf 0 _ rfl
  have e1 := hf 1 _ rfl
  simp [cells3, cells82, hy2] at e0 e1
  obtain ⟨zs, m, _, _, hl', hyl', hf'⟩ := DataW.trod_struct Tryd.underlying82 e1
  have hz2 : zs.length = 2 := by simpa using hyl'
  have e2 := hf' 0 _ rfl
  have e3 := hf' 1 _ rfl
  simp [cells3, hz2] at e2 e3
  obtain ⟨z0, hz0, _⟩ := DataW.trod_int Tryd.underlying3 e0
  obtain ⟨z1, hz1, _⟩ := DataW.trod_int Tryd.underlying3 e2
  obtain ⟨z2, hz2, _⟩ := DataW.trod_int Tryd.underlying3 e3
  simp at hz0 hz1 hz2
  subst hz0 hz1 hz2
  exact ⟨by simp [goodV], ⟨z0, z1, z2⟩, rfl, trivial⟩

theorem read_rels (h : DataW.trod enc Tryd.prog w 0 (fun _ => true) true fuel 80 [v] = some x) : goodV w.heap.size (capM w.heap) v = true ∧ ∃ xs : List Rl, RelsAt (absH w.heap) (absV w.heap.size v) xs := by
  obtain ⟨h1, xs, h2, h3, _⟩ := read_slice (α := Rl) (f := Rl.cells) (Q := fun _ => True) Tryd.underlying80 (by rw [cells84]; omega) (fun n cs y hy => read_relief hy) h
  rw [cells84] at h2
  exact ⟨h1, xs, h2, maxLen_lt h3⟩

theorem read_blks (h : DataW.trod enc Tryd.prog w 0 (fun _ => true) true fuel 24 [v] = some x) : goodV w.heap.size (capM w.heap) v = true ∧ ∃ xs : List (List Rl), BlksAt (absH w.heap) (absV w.heap.size v) xs :=
  read_of Tryd.underlying24 cells80 (fun _ _ _ hy => one_slice Tryd.underlying80 hy) (fun _ _ _ hy => read_rels hy) h
end

section
variable {H : Type} {enc : TypeId × Value → H} {w : World} {base : Nat} {v : Value} {d : DataW H} {p : List MemPlace}

set_option maxRecDepth 100000 in
theorem read_dayV (hval : Value.okWide Tryd.prog w .any base 27 v) (h : DataW.Trod enc Tryd.prog w 0 (fun _ => true) true 27 v d p) :
    ∃ D b u, VR (absB w.heap) (dayV D b u) v ∧ DayAt (absH w.heap) b u D := by
  obtain ⟨cs, rfl, hsz⟩ := okWide_struct Tryd.underlying27 hval
  obtain ⟨fuel, h⟩ := h
  simp only [Value.cells] at h
  obtain ⟨ys, n, _, _, hl, hyl, hf⟩ := DataW.trod_struct Tryd.underlying27 h
  rw [cells27] at hl
  obtain ⟨l, rfl⟩ : ∃ l : List Value, cs = l.toArray := ⟨cs.toList, by simp⟩
  simp only at hl hf
  obtain ⟨c0, c1, c2, c3, c4, c5, c6, c7, c8, c9, rfl⟩ := list10 hl
  have hy3 : ys.length = 3 := by simpa using hyl
  have e0 := hf 0 _ rfl
  have e1 := hf 1 _ rfl
  have e2 := hf 2 _ rfl
  simp [cells23, cells24, cells25, hy3] at e0 e1 e2
  obtain ⟨zs, m, _, _, hl', hyl', hf'⟩ := DataW.trod_struct Tryd.underlying23 e0
  have hz8 : zs.length = 8 := by simpa using hyl'
  have f0 := hf' 0 _ rfl
  have f1 := hf' 1 _ rfl
  have f2 := hf' 2 _ rfl
  have f3 := hf' 3 _ rfl
  have f4 := hf' 4 _ rfl
  have f5 := hf' 5 _ rfl
  have f6 := hf' 6 _ rfl
  have f7 := hf' 7 _ rfl
  simp [cells3, hz8] at f0 f1 f2 f3 f4 f5 f6 f7
  obtain ⟨z0, h0, _⟩ := DataW.trod_int Tryd.underlying3 f0
  obtain ⟨z1, h1, _⟩ := DataW.trod_int Tryd.underlying3 f1
  obtain ⟨z2, h2, _⟩ := DataW.trod_int Tryd.underlying3 f2
  obtain ⟨z3, h3, _⟩ := DataW.trod_int Tryd.underlying3 f3
  obtain ⟨z4, h4, _⟩ := DataW.trod_int Tryd.underlying3 f4
  obtain ⟨z5, h5, _⟩ := DataW.trod_int Tryd.underlying3 f5
  obtain ⟨z6, h6, _⟩ := DataW.trod_int Tryd.underlying3 f6
  obtain ⟨z7, h7, _⟩ := DataW.trod_int Tryd.underlying3 f7
  obtain ⟨g8, xs, k8⟩ := read_blks e1
  obtain ⟨g9, us, k9⟩ := read_rows e2
  simp at h0 h1 h2 h3 h4 h5 h6 h7
  subst h0 h1 h2 h3 h4 h5 h6 h7
  refine ⟨⟨⟨z0, z1, z2, z3, z4, z5, z6, z7⟩, xs, us⟩, absV w.heap.size c8, absV w.heap.size c9, VR.mk_agg ?_, ⟨k8, k9⟩⟩
  exact ⟨.int _ _, .int _ _, .int _ _, .int _ _, .int _ _, .int _ _, .int _ _, .int _ _, good_VR g8, good_VR g9, trivial⟩

def WordsAt (H : Heap) (v : Value) (xs : List Int) : Prop := SlR H 1 v xs.length (xs.map (.int .u16)) ∧ xs.length < 2 ^ 63 ∧ ∀ x ∈ xs, 0 ≤ x ∧ x < 2 ^ 16

set_option maxRecDepth 100000 in
theorem read_wordsV (hval : Value.okWide Tryd.prog w .any base 72 v) (h : DataW.Trod enc Tryd.prog w 0 (fun _ => true) true 72 v d p) : VR (absB w.heap) (absV w.heap.size v) v ∧ ∃ xs, WordsAt (absH w.heap) (absV w.heap.size v) xs := by
  obtain ⟨a0, len, cap, rfl⟩ := okWide_slice Tryd.underlying72 hval
  obtain ⟨fuel, h⟩ := h
  obtain ⟨h1, xs, h2, h3, h4⟩ := read_ints Tryd.underlying72 Tryd.underlying71 cells71 h
  refine ⟨good_VR h1, xs, h2, maxLen_lt h3, fun x hx => ?_⟩
  have := h4 x hx
  simp [Lit.wf, IntKind.min, IntKind.max, IntKind.signed, IntKind.bits] at this
  omega
set_option maxRecDepth 100000 in
theorem read_u16V (hval : Value.okWide Tryd.prog w .any base 71 v) (h : DataW.Trod enc Tryd.prog w 0 (fun _ => true) true 71 v d p) : ∃ x : Int, VR (absB w.heap) (.int .u16 x) v ∧ (0 ≤ x ∧ x < 65536) := by
  obtain ⟨x, rfl⟩ := okWide_int Tryd.underlying71 hval
  obtain ⟨fuel, h⟩ := h
  obtain ⟨z, hz, _, hw⟩ := DataW.trod_int Tryd.underlying71 h
  simp [Value.cells] at hz
  subst hz
  simp [Lit.wf, IntKind.min, IntKind.max, IntKind.signed, IntKind.bits] at hw
  exact ⟨x, .int _ _, by omega⟩
end

end Go.Proofs.YtllkhaabcfnlpaaDoor


namespace Go.Proofs.YtllkhaabcfnlpaaDoor
open Go Go.Ab

def RowOk (D : Dy) (x : Nat) (ts : List Int) : Prop := ∀ k, k < ts.length → (D.rel x k).lo ≤ ts[k]?.getD 0 ∧ ts[k]?.getD 0 ≤ (D.rel x k).hi ∧ (0 < k → ts[k - 1]?.getD 0 ≤ ts[k]?.getD 0)
theorem RowOk.push {D : Dy} (hV : Valid D) {x : Nat} {ts : List Int} {n : Int} (h : RowOk D x ts) (hs : D.has x ts.length) (h1 : (D.rel x ts.length).lo ≤ n) (h2 : n ≤ (D.rel x ts.length).hi) :
    RowOk D x (ts ++ [if 0 < ts.length then max n (ts[ts.length - 1]?.getD 0) else n]) := fun k hk => by
  rw [List.length_append, List.length_singleton] at hk
  by_cases e : k < ts.length
  · rw [List.getElem?_append_left e, List.getElem?_append_left (by omega : k - 1 < ts.length)]
    exact h k e
  · have : k = ts.length := by omega
    subst this
    rw [List.getElem?_append_right (Nat.le_refl _), Nat.sub_self]
    simp only [List.getElem?_cons_zero, Option.getD_some]
    by_cases hz : 0 < ts.length
    · rw [if_pos hz, List.getElem?_append_left (by omega)]
      have := h (ts.length - 1) (by omega)
      have hm := blk_le hV hs (by omega : ts.length - 1 ≤ ts.length)
      omega
    · rw [if_neg hz]
      exact ⟨h1, h2, fun hh => by omega⟩
theorem RowOk.truth {D : Dy} {x : Nat} {r : List Rl} {ts : List Int} (hr : D.blocks[x]? = some r) (hl : ts.length = r.length) (h : RowOk D x ts) : truthOf r ts = true := by
  refine truthOf_yes hl fun k hk => ?_
  have := h k (by omega)
  have hrel : D.rel x k = r[k] := by simp [Dy.rel, hr, hk]
  rw [hrel] at this
  unfold tOk
  rw [List.getElem?_eq_getElem hk]
  simp only [Option.getD_some, Bool.and_eq_true, Bool.or_eq_true, decide_eq_true_eq]
  refine ⟨⟨this.1, this.2.1⟩, ?_⟩
  by_cases e : k = 0
  · exact .inl e
  · exact .inr (this.2.2 (by omega))

def TruthAt (D : Dy) (A : Heap) (v : Value) : Prop := ∃ T, RowsAt A v T ∧ truthD D T = true

set_option maxHeartbeats 8000000 in
theorem truly_spec {D : Dy} {b w v1 : Value} {H : Heap} {ws : List Int} (h : DayAt H b w D) (hV : Valid D) (hws : WordsAt H v1 ws) : AFun Tryd.prog 48 [dayV D b w, v1] H (fun q B => TruthAt D B q ∧ Ge H B) := by
  refine AFun.mk ok48 hm (Nat.le_of_ble_eq_true rfl) ?_
  have hb := h.blocks.one
  have hw := h.walk.one
  have hfew := hV.few
  have hwl := hws.1.lenV
  have hw62 := hws.2.1
  rw [a48_eq]
  simp [hb, hw]
  refine floop_intro (fun z => z.d = [] ∧ Ge H z.H ∧ H.next < z.H.next ∧ z.t 1 = v1 ∧ z.t 2 = .pointer (some ⟨H.next, 0, none⟩) ∧ z.H.get H.next = .cells true (dayV D b w).cells.toList 10 ∧ ∃ i : Nat, i ≤ D.blocks.length ∧ z.t 6 = .int .i64 i ∧ ∃ T vs, RowsX z.H (H.next + 1) (z.t 5) T vs ∧ T.length = i ∧ ∀ k, k < i → truthOf ((D.blocks[k]?).getD []) ((T[k]?).getD []) = true) (fun z => D.blocks.length - (intOf (z.t 6)).toNat) ?_ ?_
  · exact ⟨rfl, by simp, by simp, by simp, by simp, by simp [Value.cells], 0, by omega, by simp, [], [], ⟨.inl ⟨by simp, rfl⟩, by simp, fun k hk => by simp at hk, fun i j u u' m _ h => by simp at h⟩, rfl, fun k hk => by omega⟩
  rintro ⟨t, _, A⟩ ⟨rfl, g, hn, t1, t2, kd, i, hi, t6, T, vs, hR, hTl, hTok⟩
  dsimp only at g hn t1 t2 kd t6 hR
  simp [Value.cells] at kd
  generalize t5 : t 5 = v5 at hR
  simp [t2, kd, t6, h.blocks.lenV]
  refine fcond_intro (fun hc => ?_) (fun hc => ?_)
  case refine_2 =>
    have : i = D.blocks.length := by simp at hc; omega
    subst this
    have htr : truthD D T = true := truthD_yes hTl fun k hk => hTok k hk
    simp [t5, r48]
    refine ⟨⟨T, hR.rows (by omega) fun r hr => ?_, htr⟩, g⟩
    obtain ⟨k, hk, rfl⟩ := List.mem_iff_getElem.1 hr
    have hk2 : k < D.blocks.length := by omega
    have := (truthOf_at (truth_row htr hk2 hk)).1
    have := hV.blen (List.getElem_mem hk2)
    omega
  have hi' : i < D.blocks.length := by simpa using hc
  obtain ⟨p, u, e1, e2, e3⟩ := h.blocks.atAll hi'
  have hl := hV.blen (List.getElem_mem hi')
  obtain ⟨r, hr⟩ : ∃ r, D.blocks[i] = r := ⟨_, rfl⟩
  have hr2 : D.blocks[i]? = some r := by rw [List.getElem?_eq_getElem hi', hr]
  rw [hr] at e3 hl
  simp
  refine floop_intro (fun z => z.d = [] ∧ Ge A z.H ∧ z.t 1 = v1 ∧ z.t 2 = .pointer (some ⟨H.next, 0, none⟩) ∧ z.t 6 = .int .i64 i ∧ z.t 5 = v5 ∧ ∃ j : Nat, j ≤ r.length ∧ z.t 8 = .int .i64 j ∧ ∃ ts : List Int, ts.length = j ∧ RowOk D i ts ∧ OwnSl z.H A.next (z.t 7) (ts.map (.int .i64))) (fun z => r.length - (intOf (z.t 8)).toNat) ?_ ?_
  · exact ⟨rfl, by simp, by simp [t1], by simp [t2], by simp [t6], by simp [t5], 0, by omega, by simp, [], rfl, fun k hk => by simp at hk, .inl ⟨by simp, rfl⟩⟩
  have t6o := t6
  clear t1 t2 t6 t5 hc
  rintro ⟨t, _, C⟩ ⟨rfl, gC, t1, t2, t6, t5, j, hj, t8, ts, htl, hrow, o7⟩
  dsimp only at gC t1 t2 t6 t5 t8 o7
  generalize t7 : t 7 = v7 at o7
  have kdC := gC.got hn kd
  have gn := gC.next
  have gHC := g.trans gC
  have e21 := e2 C gHC
  simp [t2, kdC, t6, t8, e1, e21, e3.lenV]
  refine fcond_intro (fun hc => ?_) (fun hc => ?_)
  case refine_2 =>
    have : j = r.length := by simp at hc; omega
    subst this
    have hv7 := o7.one
    have htr := hrow.truth hr2 htl
    simp [t5, t7, hv7, one_cells]
    have gN := Ge.new C (.cells true [v7] 1)
    refine ((hR.ge gC).ge gN).push (r := ts) (x := v7) ((o7.ge gN).lower (by omega)) (fun m hm => ?_) (slCells_new (rw := true) (c := 1) (by simp)) (by omega) (by simp) (by omega) (by simp; omega) fun u' B k1 k2 k3 k4 => ?_
    · have := (o7.names hm).1
      exact ⟨fun e => by have := (hR.own.names e).2; omega, fun k w hk e => by have := (hR.names hk e).2; omega⟩
    have h3 : ∀ m, slName v5 = some m → H.next + 1 ≤ m := fun m hm => (hR.own.names hm).1
    have gB : Ge H B := ⟨by have := g.next; omega, fun n hn2 => by
      have f1 : n ≠ C.next := by have := g.next; omega
      rw [k4 n (by have := g.next; omega) (fun e => by have := h3 n e; omega)]; simp [f1, gHC.get n hn2]⟩
    have kB : B.get H.next = C.get H.next := (k4 H.next (by omega) (fun e => by have := h3 _ e; omega)).trans (by rw [Heap.new_get, if_neg (by omega)])
    simp [t6, add_in (x := i) (y := 1) (by omega) (by omega)]
    refine ⟨⟨gB, by omega, t1, t2, by simpa [Value.cells] using kB.trans kdC, i + 1, by omega, by omega, T ++ [ts], ⟨vs ++ [v7], k1⟩, by simp [hTl], fun k hk => ?_⟩, by rw [t6o]; simp; omega⟩
    by_cases e : k < i
    · rw [List.getElem?_append_left (by omega)]; exact hTok k e
    · have : k = i := by omega
      subst this
      rw [List.getElem?_append_right (by omega), hTl, Nat.sub_self, hr2]
      exact htr
  have hj' : j < r.length := by simpa using hc
  obtain ⟨n, o, p1, p2, _, p3, p4⟩ := (e3.ge gHC).at hj'
  have hrel : D.rel i j = r[j] := by simp [Dy.rel, hr2, hj']
  have hb := rel_ok hV ⟨r, hr2, hj'⟩
  rw [hrel] at hb
  obtain ⟨hb1, hb2, hb3⟩ := hb
  by_cases hw0 : ws.length = 0
  · have hwl0 : lenV v1 = some (.int .i64 0) := by rw [hwl, hw0]; rfl
    simp [t1, t2, kdC, t6, t8, e1, e21, p1, p4, hwl0]
    refine rest48_spec (p := C.next) (c9 := 2) (w := 1) (base := A.next) (lo := r[j].lo) (hi := r[j].hi) (ts := ts) (by omega) hb1 hb2 hb3 (by simp) (by simp) (by simp) (by simp [t7]) (by simp [t8]) (o7.keep (by simp) fun m hm => ?_) htl (by omega) (by simp; omega) fun n1 t' B h1 h2 kt kt8 ko kn kb => ?_
    · have := (o7.names hm).2
      have f1 : m ≠ C.next := by omega
      simp [f1]
    simp [kt 1 (by omega), kt 2 (by omega), kt 5 (by omega), kt 6 (by omega), kt8, t1, t2, t5, t6, t8, add_in (x := j) (y := 1) (by omega) (by omega)]
    simp at kn
    refine ⟨⟨⟨by omega, fun m hm => ?_⟩, j + 1, by omega, by omega, ts ++ [if 0 < j then max n1 (ts[j - 1]?.getD 0) else n1], by simp [htl], ?_, ko⟩, by omega⟩
    · rw [kb m hm]
      have f1 : m ≠ C.next := by omega
      simp [f1]
      exact gC.get m hm
    · have hs : D.has i ts.length := ⟨r, hr2, by omega⟩
      have := hrow.push hV hs (n := n1) (by rw [htl, hrel]; exact h1) (by rw [htl, hrel]; exact h2)
      rw [htl] at this
      exact this
  have hwpos : 0 < ws.length := by omega
  have hmul : binI BinOp.mul (.int .i64 5) (.int .i64 (i : Int)) = some (.int .i64 (5 * (i : Int))) := by
    have e : binI BinOp.mul (.int .i64 5) (.int .i64 (i : Int)) = some (.int .i64 (IntKind.i64.wrap (5 * (i : Int)))) := rfl
    rw [e, wrap_i64 (by omega) (by omega)]
  have hrem := rem_int (a := 5 * i + j) (c := ws.length) hwpos
  obtain ⟨y, hy⟩ : ∃ y, (5 * i + j) % ws.length = y := ⟨_, rfl⟩
  have hyl : y < ws.length := by rw [← hy]; exact Nat.mod_lt _ hwpos
  rw [hy] at hrem
  push_cast at hrem
  have gX : Ge H ((C.new (AObj.cells true [.int .i64 0, .int .i64 0] 2)).set C.next (AObj.cells true [.int .i64 r[j].lo, .int .i64 r[j].hi] 2)) := Ge.setNew (gHC.newOf _) (by omega) _
  obtain ⟨ptr, w1, w2⟩ := (hws.1.ge gX).at1 (k := .i64) (i := y) (by simpa using hyl)
  have hwy := hws.2.2 _ (List.getElem_mem hyl)
  obtain ⟨wd, hwd⟩ : ∃ wd : Nat, ws[y] = (wd : Int) := ⟨ws[y].toNat, by omega⟩
  have w2' : (ws.map (Value.int .u16))[y]? = some (.int .u16 (wd : Int)) := by simp [hyl, hwd]
  rw [w2'] at w2
  have hwr : IntKind.i64.wrap (wd : Int) = (wd : Int) := wrap_i64n (by omega)
  · simp [t1, t2, kdC, t6, t8, e1, e21, p1, p4, hwl, hwpos, hmul, add_in (x := 5 * (i : Int)) (y := (j : Int)) (by omega) (by omega), hrem, w1, w2, hwr]
    refine rest48_spec (p := C.next) (c9 := 2) (w := wd) (base := A.next) (lo := r[j].lo) (hi := r[j].hi) (ts := ts) (by omega) hb1 hb2 hb3 (by simp) (by simp) (by simp) (by simp [t7]) (by simp [t8]) (o7.keep (by simp) fun m hm => ?_) htl (by omega) (by simp; omega) fun n1 t' B h1 h2 kt kt8 ko kn kb => ?_
    · have := (o7.names hm).2
      have f1 : m ≠ C.next := by omega
      simp [f1]
    simp [kt 1 (by omega), kt 2 (by omega), kt 5 (by omega), kt 6 (by omega), kt8, t1, t2, t5, t6, t8, add_in (x := j) (y := 1) (by omega) (by omega)]
    simp at kn
    refine ⟨⟨⟨by omega, fun m hm => ?_⟩, j + 1, by omega, by omega, ts ++ [if 0 < j then max n1 (ts[j - 1]?.getD 0) else n1], by simp [htl], ?_, ko⟩, by omega⟩
    · rw [kb m hm]
      have f1 : m ≠ C.next := by omega
      simp [f1]
      exact gC.get m hm
    · have hs : D.has i ts.length := ⟨r, hr2, by omega⟩
      have := hrow.push hV hs (n := n1) (by rw [htl, hrel]; exact h1) (by rw [htl, hrel]; exact h2)
      rw [htl] at this
      exact this

end Go.Proofs.YtllkhaabcfnlpaaDoor

