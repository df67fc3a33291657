/-
  Joined texts of a calculus of abstract memory, of the program's code in it, and of contracts.
-/
import Derived.Test.YtllkhaabcfnlpaaDoorJ11
/-
  The reference's list of all duties.
-/
namespace Go.Proofs.YtllkhaabcfnlpaaDoor
open Go Go.Ab

section
variable {P : Program} {t : Nat → Value} {H : Heap} {N x y : Nat} {d : Option Tmp} {T U ty : TypeId} {pos : String} {af : Array Edge} {g : Option (Nat × Bool)}
theorem wrap_i64n {p : Nat} (h : p < 2 ^ 62) : IntKind.i64.wrap (p : Int) = (p : Int) := wrap_i64 (by omega) (by omega)
end

/-- Segments as the program's numbers. -/
def bitsI (l : List Nat) : List Int := l.map fun (x : Nat) => (x : Int)
/-- The segments of a set, among so many. -/
def setR (n m : Nat) : List Int := bitsI (bitsFrom n m 0)
theorem bitsUp {m j : Nat} : bitsFrom (j + 1) m 0 = if m.testBit j then bitsFrom j m 0 ++ [j] else bitsFrom j m 0 := by
  unfold bitsFrom
  simp only [Nat.sub_zero]
  rw [List.range'_concat, List.filter_append]
  simp only [Nat.zero_add, Nat.one_mul]
  cases hp : m.testBit j <;> simp [hp]
theorem setR_step {m j : Nat} : setR (j + 1) m = if m.testBit j then setR j m ++ [(j : Int)] else setR j m := by
  unfold setR
  rw [bitsUp]
  cases hp : m.testBit j <;> simp [bitsI]
theorem setR_length {n m : Nat} : (setR n m).length ≤ n := by
  have := List.length_filter_le (fun x => m.testBit x) (List.range' 0 (n - 0))
  simpa [setR, bitsI, bitsFrom] using this
end Go.Proofs.YtllkhaabcfnlpaaDoor


/-
  The reference's list of legal duties; what a list has.
-/
namespace Go.Proofs.YtllkhaabcfnlpaaDoor
open Go Go.Ab

theorem rise_duty {n : Nat} {l : List Nat} (h : l.Pairwise (· < ·)) (hb : ∀ x ∈ l, x < n) (h0 : l ≠ []) : isDutyB n (bitsI l) = true := by
  unfold isDutyB riseB
  have hl : (bitsI l).length = l.length := by simp [bitsI]
  rw [Bool.and_eq_true, List.all_eq_true, decide_eq_true_eq]
  refine ⟨fun j hj => ?_, by rw [hl]; exact List.length_pos_iff.2 h0⟩
  rw [List.mem_range, hl] at hj
  have e1 : (bitsI l)[j]?.getD 0 = (l[j] : Int) := by simp [bitsI, hj]
  have hlt := hb l[j] (List.getElem_mem hj)
  unfold riseAt
  rw [e1, Bool.and_eq_true, decide_eq_true_eq, decide_eq_true_eq]
  refine ⟨?_, by omega⟩
  unfold lastAt
  by_cases hj0 : j = 0
  · simp [hj0]
  have hj1 : j - 1 < l.length := by omega
  have e2 : (bitsI l)[j - 1]?.getD 0 = (l[j - 1] : Int) := by simp [bitsI, hj1]
  rw [if_neg hj0, e2]
  have := List.pairwise_iff_getElem.1 h (j - 1) j hj1 hj (by omega)
  omega
end Go.Proofs.YtllkhaabcfnlpaaDoor


/-
  The plan that was chosen, as lists of segments.
-/
namespace Go.Proofs.YtllkhaabcfnlpaaDoor
open Go Go.Ab

theorem own_S {A : Heap} {lo : Nat} {u : Value} {l : List Int} (h : OwnSl A lo u (l.map (.int .i64))) : OwnS A lo 1 u l.length (l.flatMap iCell) := by
  rw [iCell_flat]
  rcases h with ⟨rfl, h0⟩ | ⟨n, cap, c, rfl, k1, k2, k3, k4, k5⟩
  · have h00 : l.length = 0 := by have := congrArg List.length h0; simpa using this
    exact .inl ⟨rfl, h00, h0⟩
  · exact .inr ⟨n, cap, c, by simp, k1, k2, k3, by simp, by simpa using k4, by omega⟩

/-- A duty as the program's list. -/
def rowOf (d : Nat) : List Int := bitsI (bitsL d)
theorem rowOf_length {d : Nat} : (rowOf d).length ≤ 10 := by
  have := List.length_filter_le (fun x => d.testBit x) (List.range' 0 10)
  simpa [rowOf, bitsI, bitsL, bitsFrom] using this

theorem first_mem {L : List Nat} {pay : Nat → Int} (hL : SetsOk L) {m : Nat} (hf : (choose L pay m).first ≠ 0) : (choose L pay m).first ∈ L ∧ diffN (choose L pay m).first m = 0 := by
  have h0 : m ≠ 0 := fun e => by subst e; rw [choose_zero] at hf; exact hf rfl
  rcases choose_made hL h0 with e | ⟨_, d, hd, hs, _, e⟩
  · rw [e] at hf; exact absurd rfl hf
  have ef : (choose L pay m).first = d := by rw [e]; rfl
  rw [ef]
  exact ⟨(List.mem_filter.1 hd).1, hs⟩

theorem plan_spec {L : List Nat} {pay : Nat → Int} {mk m : Nat} {H : Heap} {f : Nat → Option Value} (hL : SetsOk L) (hm10 : m < 1024) (hK : KnownC H L pay mk f) (hmk : mk < H.next) (hf : (f m).isSome = true) (hG : Gl H) :
    AFun Tryd.prog 106 [bitsV m, .map (some mk)] H (fun r B => RowsAt B r ((planOf L pay m).map rowOf) ∧ Ge H B) := by
  refine AFun.mk ok106 hm (Nat.le_of_ble_eq_true rfl) ?_
  simp [a106, r106]
  refine floop_intro (fun z => z.d = [] ∧ Ge H z.H ∧ H.next ≤ z.H.next ∧ z.t 1 = .map (some mk) ∧ ∃ (left : Nat) (done : List Nat), z.t 6 = bitsV left ∧ done.length + left ≤ m ∧ planOf L pay m = done ++ planOf L pay left ∧ (f left).isSome = true ∧ RowsG 1 iCell z.H H.next (fun _ => False) (z.t 5) (done.map rowOf)) (fun z => (intOf (z.t 6)).toNat) ?_ ?_
  · refine ⟨rfl, by simp, by simp, by simp, m, [], by simp, by simp, by simp, hf, ?_⟩
    exact ⟨⟨[], .inr ⟨H.next, 0, 0, by simp, Nat.le_refl _, by simp, by simp, by simp, by simp⟩, rfl, fun k hk => by simp at hk⟩, fun _ _ h => h⟩
  rintro ⟨t, _, A⟩ ⟨rfl, g, hn, t1, left, done, t6, hdl, hpl, hfl, hR⟩
  dsimp only at g hn t1 t6 hR
  generalize t5 : t 5 = v5 at hR
  have hval : f left = some (chV (choose L pay left)) := by
    obtain ⟨v, hv⟩ := Option.isSome_iff_exists.1 hfl
    rw [hv, (hK.val left v hv).1]
  have hcl := (hK.val left _ hval).2
  have hlk : ∀ X : Heap, X.get mk = H.get mk → lk1H Tryd.prog 102 (.agg #[.int .u64 0, .int .i64 0, .int .i64 0, .bool false]) X (bitsV left) (.map (some mk)) = some (chV (choose L pay left)) := fun X hX => by
    rw [(hK.map.keep hX).lk1 flat_ch0, hval]; rfl
  have hA := hlk A (g.get _ hmk)
  simp [t1, t6, hA]
  by_cases hz : (choose L pay left).first = 0
  · rw [planOf_end hz, List.append_nil] at hpl
    simp [hz, t5]
    rw [hpl]
    refine ⟨rows_done hR (by simp; omega) fun r hr => ?_, g⟩
    obtain ⟨d, _, rfl⟩ := List.mem_map.1 hr
    have := rowOf_length (d := d); omega
  obtain ⟨hfL, hsub⟩ := first_mem hL hz
  obtain ⟨hp1, hp2⟩ := planOf_step hL (pay := pay) hz
  have hf10 := (hL _ hfL).2
  have hcl2 := hcl hz
  have hl10 : left < 1024 := by omega
  generalize choose L pay left = c at *
  simp [hz, t5, t1, t6, hA]
  refine fcall_fun (setList_spec hf10 (hG.ge g)) ?_
  rintro u B ⟨ou, gB⟩
  have hu1 := ou.one
  have nB := gB.next
  simp [hu1, one_cells]
  have gB2 : Ge A (B.new (.cells true [u] 1)) := gB.newOf _
  have hR2 : RowsG 1 iCell (B.new (.cells true [u] 1)) H.next (fun _ => False) v5 (done.map rowOf) := hR.keep gB2.next (fun n _ hn _ => gB2.get n hn) (fun _ _ hf => hf)
  have hou : OwnSl (B.new (.cells true [u] 1)) H.next u ((rowOf c.first).map (.int .i64)) := by
    have e : (rowOf c.first).map (Value.int .i64) = intL (bitsL c.first) := by simp [rowOf, bitsI]
    rw [e]
    exact (ou.ge (Ge.new _ _)).lower hn
  refine hR2.push (r := rowOf c.first) (x := u) (X' := fun _ => False) (own_S hou) (fun m hm => ⟨fun e => ?_, fun hf => hf⟩) (fun m hf => hf.elim) (slCells_new (rw := true) (c := 1) (by simp)) (by simp; omega) (by simp) (by omega) (by simp; omega) fun u' C k1 k2 k3 k4 => ?_
  · have := (ou.names hm).1
    have := (hR.names e).2
    omega
  have h3 : ∀ m, slName v5 = some m → H.next ≤ m := fun m hm => (hR.names hm).1
  have gC : Ge H C := by
    refine ⟨by omega, fun n hn => ?_⟩
    have e1 : n ≠ B.next := by omega
    rw [k4 n (by omega) (fun e => by have := h3 n e; omega)]
    simp [e1, gB.get n (by omega), g.get n hn]
  have hC := hlk C (gC.get _ hmk)
  simp [t1, t6, hC]
  rw [aval_diff (a := left) (b := c.first) (by simp) (by simp) (by decide) (by decide) (by omega) (by omega)]
  simp
  exact ⟨⟨gC, by omega, t1, diffN left c.first, rfl, done ++ [c.first], by simp; omega, by rw [hpl, hp1]; simp, hcl2, by simpa using k1⟩, by rw [t6]; simp; exact hp2⟩

end Go.Proofs.YtllkhaabcfnlpaaDoor


/-
  Truths: what the program and the reference ask of times.
-/
namespace Go.Proofs.YtllkhaabcfnlpaaDoor
open Go Go.Ab

theorem _root_.Go.Ab.IntsAt.atAll {H : Heap} {v : Value} {xs : List Int} (h : IntsAt H v xs) {i : Nat} (hi : i < xs.length) : ∃ p, islV 1 v (.int .i64 i) = some p ∧ ∀ A, Ge H A → ldV A false 1 p = some (.int .i64 xs[i]) := by
  obtain ⟨p, h1, _⟩ := h.at hi
  refine ⟨p, h1, fun A g => ?_⟩
  obtain ⟨q, h2, h3⟩ := (h.ge g).at hi
  rw [h1] at h2; cases h2; exact h3

end Go.Proofs.YtllkhaabcfnlpaaDoor


/-
  What DutyBars answers.
-/
namespace Go.Proofs.YtllkhaabcfnlpaaDoor
open Go Go.Ab

end Go.Proofs.YtllkhaabcfnlpaaDoor


/-
  A best plan of a planned day.
-/
namespace Go.Proofs.YtllkhaabcfnlpaaDoor
open Go Go.Ab

/-- The pay of a set of segments. -/
def payN (D : Dy) (d : Nat) : Int := payOf D (known0 D) (piecesL D d)
theorem payN_bounds {D : Dy} (hV : Valid D) (d : Nat) : 0 ≤ payN D d ∧ payN D d ≤ 100000 := by
  have h1 := law_bounds hV
  have hK : ∀ b n, (0 ≤ (kAt (known0 D) b n).1 ∧ (kAt (known0 D) b n).1 ≤ 3000) ∧ (0 ≤ (kAt (known0 D) b n).2 ∧ (kAt (known0 D) b n).2 ≤ 3000) := fun b n => by
    have hb := (known0_ok hV).bound
    unfold kAt
    cases hx : (known0 D)[b]? with
    | none => simp
    | some x =>
      cases hy : x[n]? with
      | none => simp [hy]
      | some y =>
        have := hb x (List.mem_of_getElem? hx) y (List.mem_of_getElem? hy)
        simpa [hy] using this
  unfold payN payOf spreadOf
  have h2 := hK ((piecesL D d)[(piecesL D d).length - 1]?.getD fz).e ((piecesL D d)[(piecesL D d).length - 1]?.getD fz).t
  have h3 := hK ((piecesL D d)[0]?.getD fz).b ((piecesL D d)[0]?.getD fz).f
  omega
theorem LL_ok {D : Dy} (hV : Valid D) : SetsOk (legalL D (known0 D)) := fun d hd => by
  have h := (passL_mem.1 hd).1
  have := (pow_segN hV).2
  omega
theorem LL_len {D : Dy} (hV : Valid D) : (legalL D (known0 D)).length ≤ 1024 := Nat.le_trans passL_length (pow_segN hV).2

/-- The slices of the duties that begin with each segment. -/
structure Begs (A : Heap) (lo : Nat) (L : List Nat) (f : Nat → Option Value) : Prop where
  own : ∀ i, i < 10 → OwnSl A lo ((f (2 ^ i)).getD (.slice none 0 0)) ((L.filter fun d => low d == i).map bitsV)
  apart : ∀ i j n, i < 10 → j < 10 → i ≠ j → slName ((f (2 ^ i)).getD (.slice none 0 0)) = some n → slName ((f (2 ^ j)).getD (.slice none 0 0)) ≠ some n

section
variable {A B : Heap} {lo : Nat} {L : List Nat} {f : Nat → Option Value}
theorem Begs.keep (h : Begs A lo L f) (hn : A.next ≤ B.next) (hk : ∀ n, lo ≤ n → n < A.next → (∃ b cs c, A.get n = .cells b cs c) → B.get n = A.get n) : Begs B lo L f := by
  refine ⟨fun i hi => (h.own i hi).keep hn fun n hs => ?_, h.apart⟩
  have hnm := (h.own i hi).names hs
  refine hk n hnm.1 hnm.2 ?_
  rcases h.own i hi with ⟨e, _⟩ | ⟨m, cap, c, e, h1, h2, h3, _⟩
  · rw [e] at hs; cases hs
  · rw [e] at hs; cases hs
    exact ⟨_, _, _, h3⟩
theorem pow_inj {i j : Nat} (h : 2 ^ i = 2 ^ j) : i = j := (Nat.pow_right_inj (by omega : 1 < 2)).1 h
theorem Begs.push {d n : Nat} {u : Value} (h : Begs A lo L f) (_hd : low d < 10) (hu : OwnSl B lo u (((L.filter fun x => low x == low d).map bitsV) ++ [bitsV d])) (hun : slName u = some n) (hn : A.next ≤ n) (hnext : A.next ≤ B.next)
    (hk : ∀ m, lo ≤ m → m < A.next → slName ((f (2 ^ low d)).getD (.slice none 0 0)) ≠ some m → B.get m = A.get m) : Begs B lo (L ++ [d]) (putF f (2 ^ low d) u) := by
  have hsame : ∀ j, j = low d → (putF f (2 ^ low d) u (2 ^ j)).getD (.slice none 0 0) = u := fun j e => by subst e; simp [putF]
  have hother : ∀ j, j ≠ low d → (putF f (2 ^ low d) u (2 ^ j)).getD (.slice none 0 0) = (f (2 ^ j)).getD (.slice none 0 0) := fun j e => by
    have : ¬ 2 ^ j = 2 ^ low d := fun e2 => e (pow_inj e2)
    simp [putF, this]
  refine ⟨fun j hj => ?_, fun i j m hi hj hij hm => ?_⟩
  · rw [List.filter_append, List.map_append]
    by_cases e : j = low d
    · rw [hsame j e, e]
      simpa using hu
    · rw [hother j e]
      have e2 : ¬ low d = j := fun e3 => e e3.symm
      simp only [List.filter_cons, List.filter_nil, beq_iff_eq, e2, if_false, List.map_nil, List.append_nil]
      exact (h.own j hj).keep hnext fun m hs => hk m ((h.own j hj).names hs).1 ((h.own j hj).names hs).2 fun e3 => h.apart j (low d) m hj _hd e hs e3
  · by_cases e1 : i = low d
    · rw [hsame i e1, hun] at hm
      have e2 : j ≠ low d := fun e2 => hij (e1.trans e2.symm)
      rw [hother j e2]
      cases hm
      intro hs
      have := ((h.own j hj).names hs).2
      omega
    · rw [hother i e1] at hm
      by_cases e2 : j = low d
      · rw [hsame j e2, hun]
        intro hs
        cases hs
        have := ((h.own i hi).names hm).2
        omega
      · rw [hother j e2]; exact h.apart i j m hi hj hij hm

/-- A slice stays if the cells stay. -/
theorem _root_.Go.Ab.SlR.same {sz len : Nat} {v : Value} {cs : List Value} (h : SlR A sz v len cs) (hn : A.next ≤ B.next) (hk : ∀ n, n < A.next → (∃ b cs c, A.get n = .cells b cs c) → B.get n = A.get n) : SlR B sz v len cs := by
  refine ⟨?_, fun a n c e => Nat.lt_of_lt_of_le (h.2 a n c e) hn⟩
  rcases h.cases with ⟨rfl | rfl, rfl, rfl⟩ | ⟨n, o, cap, rw, ds, c, rfl, hg, hr⟩
  · rfl
  · rfl
  · simp only [slCells, hk n (h.2 _ _ _ rfl) ⟨_, _, _, hg⟩, hg, hr, Option.map_some]
end

theorem best_spec {D : Dy} {b w s k q : Value} {H : Heap} (hP : PlanAt H b w s k q D (known0 D)) (hV : Valid D) (hG : Gl H) :
    AFun Tryd.prog 80 [planV D b w s k q] H (fun r B => ∃ v, r = .tuple #[v, .int .i64 (choose (legalL D (known0 D)) (payN D) (2 ^ segN D - 1)).pay, .bool (choose (legalL D (known0 D)) (payN D) (2 ^ segN D - 1)).ok] ∧ RowsAt B v ((planOf (legalL D (known0 D)) (payN D) (2 ^ segN D - 1)).map rowOf) ∧ Ge H B) := by
  refine AFun.mk ok80 hm (Nat.le_of_ble_eq_true rfl) ?_
  have hb := hP.day.blocks.one
  have hw := hP.day.walk.one
  have hs := hP.segs.one
  have hk := hP.known.one
  have hq : one q = true := SlR.one hP.quest
  obtain ⟨hp1, hp2⟩ := pow_segN hV
  simp [a80, r80, hb, hw, hs, hk, hq]
  generalize hH1 : Heap.set _ (H.next + 4) _ = H1
  have g1 : Ge H H1 := by
    rw [← hH1]
    exact (((((Ge.new _ _).newOf _).newOf _).setNew (by simp) _).newOf _).newOf _ |>.setNew (by simp) _
  have n1 : H1.next = H.next + 5 := by rw [← hH1]; simp
  have k0 : H1.get H.next = .cells true (planCells D b w s k q) 13 := by rw [← hH1]; simp
  have k1 : H1.get (H.next + 1) = .map [] 0 := by rw [← hH1]; simp
  have k2 : H1.get (H.next + 2) = .cells true [.map (some (H.next + 1))] 1 := by rw [← hH1]; simp
  have k3 : H1.get (H.next + 3) = .map [] 0 := by rw [← hH1]; simp
  have k4 : H1.get (H.next + 4) = .cells true [.map (some (H.next + 3))] 1 := by rw [← hH1]; simp
  clear hH1
  refine fcall_fun (legalDuties_spec (hP.ge g1) hV (known0_ok hV)) ?_
  rintro v H2 ⟨o2, g2⟩
  have n2 := g2.next
  replace k0 := g2.got (by omega) k0
  replace k1 := g2.got (by omega) k1
  replace k2 := g2.got (by omega) k2
  replace k3 := g2.got (by omega) k3
  replace k4 := g2.got (by omega) k4
  have G2 := g1.trans g2
  have hsl := o2.slr
  simp only [List.length_map] at hsl
  have hLok := LL_ok hV
  have hLlen := LL_len hV
  have hLd : ∀ d ∈ legalL D (known0 D), d < 2 ^ segN D := fun d hd => (passL_mem.1 hd).1.2
  simp [hsl.lenV]
  generalize hLL : legalL D (known0 D) = L at *
  refine floop_intro (fun z => z.d = [] ∧ H2.next ≤ z.H.next ∧ (∀ n, n < H2.next → n ≠ H.next + 1 → n ≠ H.next + 3 → z.H.get n = H2.get n) ∧ z.t 1 = .pointer (some ⟨H.next, 0, none⟩) ∧ z.t 5 = .pointer (some ⟨H.next + 2, 0, none⟩) ∧ z.t 6 = .pointer (some ⟨H.next + 4, 0, none⟩) ∧ z.t 15 = v ∧ z.t 16 = .int .i64 (L.length : Int) ∧
    ∃ (i : Nat) (fp fb : Nat → Option Value), i ≤ L.length ∧ z.t 17 = .int .i64 (i : Int) ∧ MapFn z.H (H.next + 1) fp ∧ (∀ d ∈ L.take i, fp d = some (.int .i64 (payN D d))) ∧ MapFn z.H (H.next + 3) fb ∧ Begs z.H H2.next (L.take i) fb) (fun z => L.length - (intOf (z.t 17)).toNat) ?_ ?_
  · refine ⟨rfl, Nat.le_refl _, fun n _ _ _ => rfl, by simp, by simp, by simp, by simp, by simp, 0, fun _ => none, fun _ => none, by omega, by simp, MapFn.empty k1, fun d hd => by simp at hd, MapFn.empty k3, ⟨fun i _ => .inl ⟨rfl, rfl⟩, fun i j n _ _ _ h => by cases h⟩⟩
  rintro ⟨t, _, A⟩ ⟨rfl, hn, hkeep, t1, t5, t6, t15, t16, i, fp, fb, hi, t17, hmp, hfp, hmb, hbg⟩
  dsimp only at hn hkeep t1 t5 t6 t15 t16 t17 hmp hmb hbg
  have a0 := (hkeep H.next (by omega) (by omega) (by omega)).trans k0
  have a2 := (hkeep (H.next + 2) (by omega) (by omega) (by omega)).trans k2
  have a4 := (hkeep (H.next + 4) (by omega) (by omega) (by omega)).trans k4
  have hslA : SlR A 1 v L.length (L.map bitsV) := hsl.same hn fun n h1 ⟨_, _, _, h2⟩ => hkeep n h1 (fun e => by rw [e, k1] at h2; cases h2) (fun e => by rw [e, k3] at h2; cases h2)
  have gA : Ge H A := ⟨by omega, fun n h => (hkeep n (by have := G2.next; omega) (by omega) (by omega)).trans (G2.get n h)⟩
  simp [t16, t17]
  refine fcond_intro (fun hc => ?_) (fun hc => ?_)
  case refine_2 =>
    have : i = L.length := by simp at hc; omega
    subst this
    rw [List.take_length] at hfp hbg
    have zp : MapFn (A.new (.map [] 0)) A.next fun _ => none := MapFn.empty (by simp)
    obtain ⟨x, hx1, hx2⟩ := zp.put 0 (chV ⟨0, 0, 0, true⟩)
    have hx3 : mupH Tryd.prog 102 (A.new (.map [] 0)) (.int .u64 0) (.agg #[.int .u64 0, .int .i64 0, .int .i64 0, .bool true]) (.map (some A.next)) = some ((A.new (.map [] 0)).set A.next x) := hx1
    simp [hx3, t5, t6]
    have y0 : H.next ≠ A.next := by omega
    have y1 : H.next ≠ A.next + 1 := by omega
    have y2 : H.next ≠ A.next + 2 := by omega
    simp [t1, a0, y0, y1, y2]
    have gX : ∀ (c : AObj), Ge A (({ get := ((((((A.new (AObj.map [] 0)).set A.next x).new (AObj.cells true [Value.map none] 1)).set (A.next + 1) (AObj.cells true [Value.map (some A.next)] 1)).new (AObj.cells true [Value.nilFunc] 1)).set (A.next + 2) (AObj.cells true [Value.func (Fn.func 104) #[] #[.pointer (some ⟨A.next + 1, 0, none⟩), .pointer (some ⟨H.next + 4, 0, none⟩), .pointer (some ⟨A.next + 2, 0, none⟩), .pointer (some ⟨H.next + 2, 0, none⟩)]] 1)).get, next := A.next + 9 } : Heap).set (A.next + 7) c) := fun c => by
      refine Ge.setNew (Ge.grow_le (by omega) ?_) (by omega) _
      exact (((((Ge.new A _).setNew (Nat.le_refl _) _).newOf _).setNew (by omega) _).newOf _).setNew (by omega) _
    refine fcall_fun (all_spec (hP.ge (gA.trans (gX _))) hV) ?_
    rintro _ C ⟨rfl, gC⟩
    have nC := gC.next
    simp at nC
    have gAC := (gX _).trans gC
    have ck := gC.got (n := A.next) (by simp) rfl
    have c1 := gC.got (n := A.next + 1) (by simp) rfl
    have c3 := gC.got (n := A.next + 2) (by simp) rfl
    have c7 := gC.got (n := A.next + 7) (by simp) rfl
    simp at ck c1 c3 c7
    clear gX gC
    have c0 := gAC.got (n := H.next) (by omega) a0
    have c2 := gAC.got (n := H.next + 2) (by omega) a2
    have c4 := gAC.got (n := H.next + 4) (by omega) a4
    have gHC := gA.trans gAC
    have hK : KnownC C L (payN D) A.next (putF (fun _ => none) 0 (chV ⟨0, 0, 0, true⟩)) := by
      refine ⟨hx2 _ ck, by simp [putF], fun k v hv => ?_⟩
      unfold putF at hv
      by_cases e : k = 0
      · subst e
        rw [choose_zero]
        rw [if_pos rfl] at hv
        exact ⟨(Option.some.inj hv).symm, fun h => absurd rfl h⟩
      · rw [if_neg e] at hv; cases hv
    have hS : Sit C L (payN D) (A.next + 1) (H.next + 4) (A.next + 2) (H.next + 2) A.next (H.next + 3) (H.next + 1) := by
      refine ⟨c1, c4, c3, c2, by omega, by omega, ⟨fp, hmp.ge gAC (by omega), hfp⟩, ⟨fb, hmb.ge gAC (by omega), fun j hj => ?_⟩⟩
      have := ((hbg.own j hj).ge gAC).slr
      simpa using this
    have hpay : ∀ d ∈ L, 0 ≤ payN D d ∧ payN D d ≤ 100000 := fun d _ => payN_bounds hV d
    simp [t1, c0, c3]
    refine fcall_intro ((ACall.of_fun (R := fun r B => r = chV (choose L (payN D) (2 ^ segN D - 1)) ∧ GeX A.next C B ∧ ∃ f', KnownC B L (payN D) A.next f' ∧ (∀ k, (putF (fun _ => none) 0 (chV ⟨0, 0, 0, true⟩) k).isSome = true → (f' k).isSome = true) ∧ (f' (2 ^ segN D - 1)).isSome = true) (by simpa using chooseF_spec hLok hpay hLlen (2 ^ segN D - 1) (by omega) C _ hS hK)).mono ?_)
    rintro _ E ⟨rfl, gE, f2, hK2, _, hsome⟩
    have nE := gE.next
    have e0 := (gE.get H.next (by omega) (by omega)).trans c0
    have e1 := (gE.get (A.next + 1) (by omega) (by omega)).trans c1
    have e7 := (gE.get (A.next + 7) (by omega) (by omega)).trans c7
    have gHE : Ge H E := ⟨by have := gHC.next; omega, fun n hn => (gE.get n (by have := gHC.next; omega) (by omega)).trans (gHC.get n hn)⟩
    generalize hch : choose L (payN D) (2 ^ segN D - 1) = c at *
    have y7 : H.next ≠ A.next + 7 := by omega
    have y7k : A.next ≠ A.next + 7 := by omega
    simp [t1, e7, e0, e1, y7]
    have gX : Ge H ({ get := (E.set (A.next + 7) (.cells true (chC c) 4)).get, next := E.next + 11 } : Heap) := Ge.grow_le (by have := gHE.next; omega) (gHE.setNew (by omega) _)
    refine fcall_fun (all_spec (hP.ge gX) hV) ?_
    rintro _ F ⟨rfl, gF⟩
    have nF := gF.next
    simp at nF
    have f0 := gF.got (n := H.next) (by simp; omega) (by simp [y7]; exact e0)
    have f1 := gF.got (n := A.next + 1) (by simp; omega) (by simp; exact e1)
    have f7 := gF.got (n := A.next + 7) (by simp; omega) rfl
    simp at f7
    have hK3 : KnownC F L (payN D) A.next f2 := hK2.keep ((gF.get A.next (by simp; omega)).trans (by simp [y7k]))
    have gHF := gX.trans gF
    simp [t1, f0, f1, f7]
    refine fcall_fun (plan_spec hLok (by omega) hK3 (by omega) hsome (hG.ge gHF)) ?_
    rintro r R ⟨hr, gR⟩
    have r7 := gR.got (n := A.next + 7) (by omega) f7
    simp [f7, r7]
    exact ⟨hr, gHF.trans gR⟩
  have h1 : i < L.length := by simpa using hc
  obtain ⟨p, e1, e2⟩ := hslA.at1 (k := .i64) (i := i) (by simpa using h1)
  have e3 : (L.map bitsV)[i]? = some (bitsV L[i]) := by simp [h1]
  rw [e3] at e2
  have hdL := List.getElem_mem h1
  have hd0 := hLok _ hdL
  have hdn := hLd _ hdL
  have htk : L.take (i + 1) = L.take i ++ [L[i]] := List.take_succ_eq_append_getElem h1
  generalize L[i] = d at *
  simp [t1, t5, t15, t17, e1, e2, a0, a2]
  refine fcall_fun (pay_spec (hP.ge (gA.grow 6)) hV (known0_ok hV) hdn hd0.1) ?_
  rintro _ B ⟨rfl, gB⟩
  have nB := gB.next
  simp only at nB
  have hd10 : d < 1024 := hd0.2
  have b0 := gB.got (n := H.next) (by simp; omega) a0
  have b2 := gB.got (n := H.next + 2) (by simp; omega) a2
  have b4 := gB.got (n := H.next + 4) (by simp; omega) a4
  obtain ⟨x, hx1, hx2⟩ := (hmp.keep (B := B) (gB.get _ (by simp; omega))).put d (.int .i64 (payN D d))
  have hpd : payOf D (known0 D) (piecesL D d) = payN D d := rfl
  simp [t1, t5, b0, b2, hpd, hx1, t6, b4]
  refine fcall_fun (lowest_spec hd0.1 hd10 _) ?_
  rintro _ C ⟨rfl, hC⟩
  have nC : C.next = B.next + 11 := by rw [hC]; simp
  have hCg : ∀ n, n ≠ H.next + 1 → n ≠ B.next + 8 → C.get n = B.get n := fun n h1 h2 => by rw [hC]; simp [h1, h2]
  have c8 : C.get (B.next + 8) = .cells true [bitsV d] 1 := by rw [hC]; simp
  have c1 : C.get (H.next + 1) = x := by rw [hC]; simp; omega
  clear hC
  have c4 := (hCg (H.next + 4) (by omega) (by omega)).trans b4
  simp [t6, c4]
  refine fcall_fun (lowest_spec hd0.1 hd10 _) ?_
  rintro _ C' ⟨rfl, hC⟩
  subst hC
  obtain ⟨_, l10, _⟩ := low_facts hd0.1 hd10
  have cb : MapFn C' (H.next + 3) fb := hmb.keep ((hCg _ (by omega) (by omega)).trans (gB.get _ (by simp; omega)))
  have hl1 := cb.lk1 flat_nil (2 ^ low d)
  simp [t6, c4, hl1]
  have hkC : ∀ m, H2.next ≤ m → m < A.next → C'.get m = A.get m := fun m h1 h2 => (hCg m (by omega) (by omega)).trans (gB.get m (by show m < A.next + 6; omega))
  have ho := (hbg.own (low d) l10).keep (B := C') (by omega) fun m hm => hkC m ((hbg.own (low d) l10).names hm).1 ((hbg.own (low d) l10).names hm).2
  have hnm := fun m hm => (hbg.own (low d) l10).names (n := m) hm
  generalize hold : (fb (2 ^ low d)).getD (.slice none 0 0) = old at *
  have hfl : ((L.take i).filter fun x => low x == low d).length ≤ 1024 := Nat.le_trans (List.length_filter_le _ _) (by rw [List.length_take]; omega)
  refine fapp_own' (lo := H2.next) (x := bitsV d) ho (slCells_new (rw := true) (c := 1) c8) rfl (by simp; omega) (by omega) (by omega) (by omega) fun u E k5 k6 k7 k8 => ?_
  have hE : ∀ n, n < H2.next → E.get n = C'.get n := fun n hn => k8 n (by omega) fun e => by have := (hnm n e).1; omega
  have e4 := (hE (H.next + 4) (by omega)).trans c4
  have eb : MapFn E (H.next + 3) fb := cb.keep (hE _ (by omega))
  obtain ⟨y, hy1, hy2⟩ := eb.put (2 ^ low d) u
  simp [t6, e4, hy1, t17, add_in (x := i) (y := 1) (by omega) (by omega)]
  have kF : ∀ n, n ≠ H.next + 3 → (E.set (H.next + 3) y).get n = E.get n := fun n hn => by simp [hn]
  refine ⟨⟨by omega, fun n h1 h2 h3 => ?_, t1, t5, t15, t16, i + 1, by omega, by omega, putF fp d (.int .i64 (payN D d)), hx2 _ ?_, fun d' hd' => ?_, putF fb (2 ^ low d) u, hy2 _ (by simp), ?_⟩, by omega⟩
  · rw [if_neg h3, hE n h1, hCg n h2 (by omega), gB.get n (by show n < A.next + 6; omega)]
    exact hkeep n h1 h2 h3
  · rw [kF _ (by omega), hE _ (by omega)]; exact c1
  · unfold putF
    by_cases e : d' = d
    · rw [if_pos e, e]
    · rw [if_neg e]
      rw [htk] at hd'
      rcases List.mem_append.1 hd' with hd' | hd'
      · exact hfp d' hd'
      · exact absurd (by simpa using hd') e
  · rw [htk]
    refine hbg.push l10 (n := B.next + 9) ?_ k6 (by omega) (by simp; omega) fun m h1 h2 h3 => ?_
    · exact k5.keep (by simp) fun n hn => kF n (by have := (k5.names hn).1; omega)
    · rw [kF m (by omega), k8 m (by omega) (by rw [← hold]; exact h3)]
      exact hkC m h1 h2

/-- The best choice of a day; the answers of Best. -/
def bestC (D : Dy) : Ch := choose (legalL D (known0 D)) (payN D) (2 ^ segN D - 1)
def bestL (D : Dy) : List Nat := planOf (legalL D (known0 D)) (payN D) (2 ^ segN D - 1)
def bestE (D : Dy) : Int := if checkD D = 0 then (if (bestC D).ok then 0 else 9) else checkD D
def bestPay (D : Dy) : Int := if bestE D = 0 then (bestC D).pay else 0
def bestR (D : Dy) : List (List Int) := if bestE D = 0 then (bestL D).map rowOf else []

theorem rows_nil {H : Heap} : RowsAt H (.slice none 0 0) [] := ⟨[], ⟨rfl, fun _ _ _ h => by cases h⟩, by simp, fun i h => by simp at h⟩

theorem bestF_spec {D : Dy} {b w : Value} {H : Heap} (h : DayAt H b w D) (hT : D.Thin) (hG : Gl H) :
    AFun Tryd.prog 45 [dayV D b w] H (fun r B => ∃ v, r = .tuple #[v, .int .i64 (bestPay D), .int .i64 (bestE D)] ∧ RowsAt B v (bestR D) ∧ Ge H B) := by
  refine AFun.mk ok45 hm (Nat.le_of_ble_eq_true rfl) ?_
  have hb := h.blocks.one
  have hw := h.walk.one
  simp [a45, r45, hb, hw]
  refine fcall_fun (checkDay_spec (h.ge (by simp)) hT) ?_
  rintro _ H1 ⟨rfl, g1⟩
  have G1 : Ge H H1 := Ge.trans (by simp) g1
  have k1 := g1.got (n := H.next) (by simp) rfl
  have n1 := g1.next
  simp at k1 n1
  by_cases hc : checkD D = 0
  case neg =>
    have he : bestE D = checkD D := by simp [bestE, hc]
    have hp : bestPay D = 0 := by simp [bestPay, he, hc]
    have hr : bestR D = [] := by simp [bestR, he, hc]
    simp [hc, he, hp, hr]
    exact ⟨rows_nil, G1⟩
  have hV := valid_of hc
  simp [hc, k1]
  refine fcall_fun (newPlanned_spec (h.ge G1) hV) ?_
  rintro _ H2 ⟨s, k, q, rfl, hO, g2⟩
  have G2 := G1.trans g2
  have hP : PlanAt H2 b w s k q D (known0 D) := hO.at (h.ge G2)
  simp
  refine fcall_fun (best_spec hP hV (hG.ge G2)) ?_
  rintro _ H3 ⟨v, rfl, hv, g3⟩
  have G3 := G2.trans g3
  have hcc : choose (legalL D (known0 D)) (payN D) (2 ^ segN D - 1) = bestC D := rfl
  have hll : planOf (legalL D (known0 D)) (payN D) (2 ^ segN D - 1) = bestL D := rfl
  rw [hcc]
  rw [hll] at hv
  cases hok : (bestC D).ok
  · have he : bestE D = 9 := by simp [bestE, hc, hok]
    have hp : bestPay D = 0 := by simp [bestPay, he]
    have hr : bestR D = [] := by simp [bestR, he]
    simp [he, hp, hr]
    exact ⟨rows_nil, G3⟩
  · have he : bestE D = 0 := by simp [bestE, hc, hok]
    have hp : bestPay D = (bestC D).pay := by simp [bestPay, he]
    have hr : bestR D = (bestL D).map rowOf := by simp [bestR, he]
    simp [he, hp]
    rw [hr]
    exact ⟨hv, G3⟩

end Go.Proofs.YtllkhaabcfnlpaaDoor


/-
  Weights of sets, fair weights, and the bound by them.
-/
namespace Go.Proofs.YtllkhaabcfnlpaaDoor
open Go Go.Ab

section
variable {D : Dy} {b w s k q : Value} {H : Heap}
end

end Go.Proofs.YtllkhaabcfnlpaaDoor


/-
  Which plans are right; days that a statement may play.
-/
namespace Go.Proofs.YtllkhaabcfnlpaaDoor
open Go Go.Ab

def readyB (D : Dy) : Bool := thinB D && decide (checkD D = 0)
def lightB (D : Dy) : Bool := readyB D && decide (segN D ≤ 8)
theorem ready_spec {D : Dy} {b w : Value} {H : Heap} (h : DayAt H b w D) : AFun Tryd.prog 52 [dayV D b w] H (fun r B => r = .bool (readyB D) ∧ Ge H B) := by
  refine AFun.mk ok52 hm (Nat.le_of_ble_eq_true rfl) ?_
  have hb := h.blocks.one
  have hw := h.walk.one
  simp [a52, r52, hb, hw]
  refine fcall_fun (thin_spec (h.ge (by simp))) ?_
  rintro _ H1 ⟨rfl, g1⟩
  have G1 : Ge H H1 := Ge.trans (by simp) g1
  have k1 := g1.got (n := H.next) (by simp) rfl
  simp at k1
  unfold readyB
  cases hth : thinB D
  · simp
    exact G1
  simp [k1]
  refine fcall_fun (fault36_spec (h.ge G1) (thinB_thin hth)) ?_
  rintro _ H2 ⟨rfl, g2⟩
  simp
  exact G1.trans g2
theorem ready_facts {D : Dy} (h : readyB D = true) : D.Thin ∧ checkD D = 0 ∧ Valid D := by
  unfold readyB at h
  rw [Bool.and_eq_true, decide_eq_true_eq] at h
  exact ⟨thinB_thin h.1, h.2, valid_of h.2⟩
theorem light_spec {D : Dy} {b w : Value} {H : Heap} (h : DayAt H b w D) : AFun Tryd.prog 47 [dayV D b w] H (fun r B => r = .bool (lightB D) ∧ Ge H B) := by
  refine AFun.mk ok47 hm (Nat.le_of_ble_eq_true rfl) ?_
  have hb := h.blocks.one
  have hw := h.walk.one
  simp [a47, r47, hb, hw]
  refine fcall_fun (ready_spec (h.ge (by simp))) ?_
  rintro _ H1 ⟨rfl, g1⟩
  have G1 : Ge H H1 := Ge.trans (by simp) g1
  have k1 := g1.got (n := H.next) (by simp) rfl
  simp at k1
  unfold lightB
  cases hr : readyB D
  · simp
    exact G1
  obtain ⟨hT, _, _⟩ := ready_facts hr
  simp [k1]
  refine fcall_fun (segments_spec (h.ge G1) hT) ?_
  rintro _ H2 ⟨rfl, g2⟩
  have hseg : segsOf D.blocks = segN D := segPs_length.symm
  rw [hseg]
  simp
  refine ⟨?_, G1.trans g2⟩
  by_cases h8 : segN D ≤ 8
  · simp [h8]; omega
  · simp [h8]; omega

section
variable {I : Nat → Heap → Prop} {F : Heap → Prop} {H : Heap} {v pv : Value}
end

section
variable {D : Dy} {b w s k q : Value}
end

end Go.Proofs.YtllkhaabcfnlpaaDoor


/-
  What DutyBounds answers.
-/
namespace Go.Proofs.YtllkhaabcfnlpaaDoor
open Go Go.Ab

end Go.Proofs.YtllkhaabcfnlpaaDoor


/-
  The best plan is a right one, in order; no right one is better.
-/
namespace Go.Proofs.YtllkhaabcfnlpaaDoor
open Go Go.Ab

section
variable {D : Dy}
theorem mem_LL {d : Nat} (h0 : d ≠ 0) (hlt : d < 2 ^ segN D) (hl : legalN D (known0 D) d = true) : d ∈ legalL D (known0 D) := passL_mem.2 ⟨by omega, hl⟩

theorem full_lt (hV : Valid D) : 2 ^ segN D - 1 < 1024 := by have := pow_segN hV; omega

theorem best_ok (hc : checkD D = 0) (hE : bestE D = 0) : (bestC D).ok = true := by
  unfold bestE at hE
  rw [if_pos hc] at hE
  cases h : (bestC D).ok
  · rw [h] at hE; simp at hE
  · rfl
theorem best_part (hV : Valid D) (hok : (bestC D).ok = true) : Part (legalL D (known0 D)) (2 ^ segN D - 1) (bestL D) ∧ (bestL D).length = (bestC D).n ∧ sumP (payN D) (bestL D) = (bestC D).pay ∧ (bestL D).Pairwise (fun a b => low a < low b) := by
  obtain ⟨h1, h2, h3, h4, _⟩ := plan_part (pay := payN D) (LL_ok hV) _ (full_lt hV) hok
  exact ⟨h1, h2, h3, h4⟩
end

end Go.Proofs.YtllkhaabcfnlpaaDoor


/-
  What is legal with a segment is legal with that segment alone.
-/
namespace Go.Proofs.YtllkhaabcfnlpaaDoor
open Go Go.Ab

section
variable {α : Type}
theorem swapL_mem' {l : List α} {j : Nat} {x : α} (h : x ∈ l) : x ∈ swapL l j := by
  by_cases hj : j + 1 < l.length
  · rw [swapL_eq hj]
    obtain ⟨k, hk, rfl⟩ := List.mem_iff_getElem.1 h
    rw [List.mem_iff_getElem]
    by_cases e1 : k = j
    · subst e1
      refine ⟨k + 1, by simp; omega, ?_⟩
      have e2 : ¬ k = k + 1 := by omega
      simp [List.getElem_set, e2]
    · by_cases e2 : k = j + 1
      · subst e2
        exact ⟨j, by simp; omega, by simp [List.getElem_set]⟩
      · refine ⟨k, by simp; omega, ?_⟩
        have e3 : ¬ j = k := fun e => e1 e.symm
        have e4 : ¬ j + 1 = k := fun e => e2 e.symm
        simp [List.getElem_set, e3, e4]
  · have e : swapL l j = l := by
      unfold swapL
      have : l[j + 1]? = none := List.getElem?_eq_none (by omega)
      rw [this]
      split
      · rename_i h1; cases h1
      · rfl
    rw [e]; exact h
theorem sink_mem' (lt : α → α → Bool) : ∀ (j : Nat) (l : List α) {x : α}, x ∈ l → x ∈ sink lt l j
  | 0, _, _, h => h
  | j + 1, l, x, h => by
    unfold sink
    split
    · split
      · exact sink_mem' lt j _ (swapL_mem' h)
      · exact h
    · exact h
theorem insTo_mem' (lt : α → α → Bool) (l : List α) : ∀ i {x : α}, x ∈ l → x ∈ insTo lt l i
  | 0, _, h => h
  | i + 1, _, h => sink_mem' lt i _ (insTo_mem' lt l i h)
end

section
variable {D : Dy}
/-- The segments of a piece lie in it. -/
structure SegIn (D : Dy) (p : Pc) : Prop where
  same : p.e = p.b
  lt : p.f < p.t
  seg : ∀ q, p.s.testBit q = true → (spD D q).1 = p.b ∧ p.f ≤ (spD D q).2 ∧ (spD D q).2 + 1 ≤ p.t
theorem blk_mono (hV : Valid D) {b j : Nat} (hs : D.has b (j + 1)) : (D.rel b j).lo ≤ (D.rel b (j + 1)).lo ∧ (D.rel b j).hi ≤ (D.rel b (j + 1)).hi := by
  obtain ⟨x, h1, h2⟩ := hs
  have hb := hV.blk x (List.mem_of_getElem? h1)
  unfold okBlk at hb
  rw [Bool.and_eq_true, List.all_eq_true] at hb
  have := hb.2 (j + 1) (by simpa using h2)
  have hj : j < x.length := by omega
  simp only [okAt, bef, Nat.add_sub_cancel, Bool.and_eq_true, decide_eq_true_eq] at this
  have e1 : D.rel b j = x[j] := by simp [Dy.rel, h1, hj]
  have e2 : D.rel b (j + 1) = x[j + 1] := by simp [Dy.rel, h1, h2]
  rw [e1, e2]
  simpa [hj, h2] using this.1
theorem has_le {b i j : Nat} (hs : D.has b j) (h : i ≤ j) : D.has b i := by
  obtain ⟨x, h1, h2⟩ := hs
  exact ⟨x, h1, by omega⟩
theorem blk_le (hV : Valid D) {b i : Nat} : ∀ {j : Nat}, D.has b j → i ≤ j → (D.rel b i).lo ≤ (D.rel b j).lo ∧ (D.rel b i).hi ≤ (D.rel b j).hi
  | 0, _, h => by
    have : i = 0 := by omega
    subst this; exact ⟨Int.le_refl _, Int.le_refl _⟩
  | j + 1, hs, h => by
    by_cases e : i = j + 1
    · subst e; exact ⟨Int.le_refl _, Int.le_refl _⟩
    · have := blk_le hV (has_le hs (by omega : j ≤ j + 1)) (by omega : i ≤ j)
      have := blk_mono hV hs
      omega

theorem kAt0 {b n : Nat} (hs : D.has b n) : kAt (known0 D) b n = ((D.rel b n).lo, (D.rel b n).hi) := by
  obtain ⟨x, h1, h2⟩ := hs
  have e1 : D.rel b n = x[n] := by simp [Dy.rel, h1, h2]
  rw [e1]
  simp [kAt, known0, h1, h2]
end

/-- What the law asks of pieces. -/
structure LegalP (D : Dy) (K : List (List (Int × Int))) (ps : List Pc) : Prop where
  count : (ps.length : Int) ≤ D.law.pieces
  piece : ∀ p ∈ ps, lastOf K p ≤ D.law.piece
  drive : (ps.map (lastOf K)).sum ≤ D.law.drive
  free : ∀ j, j + 1 < ps.length → D.law.brk ≤ freeOf D K (ps[j]?.getD fz) (ps[j + 1]?.getD fz)
  spread : spreadOf D K ps ≤ D.law.spread
theorem legalB_iff {D : Dy} (hV : Valid D) {K : List (List (Int × Int))} {ps : List Pc} : legalB D K ps = true ↔ LegalP D K ps := by
  have hl := law_bounds hV
  have hlT : lTo K ps ps.length = ps.map (lastOf K) := by unfold lTo; rw [List.take_length]
  unfold legalB answers
  rw [hlT]
  simp only [List.all_cons, List.all_nil, id, Bool.and_true, Bool.and_eq_true, decide_eq_true_eq, List.length_map]
  constructor
  · rintro ⟨h1, h2, h3, h4, h5⟩
    refine ⟨h1, fun p hp => ?_, h3, fun j hj => ?_, h5⟩
    · exact ((foldl_max (ps.map (lastOf K)) 0 D.law.piece).1 h2).2 _ (List.mem_map.2 ⟨p, hp, rfl⟩)
    · have := List.all_eq_true.1 h4 (freeOf D K (ps[j]?.getD fz) (ps[j + 1]?.getD fz)) (by unfold bTo; exact List.mem_map.2 ⟨j, by simp; omega, rfl⟩)
      simpa using this
  · rintro ⟨h1, h2, h3, h4, h5⟩
    refine ⟨h1, ?_, h3, ?_, h5⟩
    · refine (foldl_max (ps.map (lastOf K)) 0 D.law.piece).2 ⟨by omega, fun x hx => ?_⟩
      obtain ⟨p, hp, rfl⟩ := List.mem_map.1 hx
      exact h2 p hp
    · rw [List.all_eq_true]
      intro x hx
      unfold bTo at hx
      obtain ⟨j, hj, rfl⟩ := List.mem_map.1 hx
      rw [List.mem_range] at hj
      exact decide_eq_true (h4 j (by omega))

end Go.Proofs.YtllkhaabcfnlpaaDoor


/-
  Duties by bits; which segments are barred.
-/
namespace Go.Proofs.YtllkhaabcfnlpaaDoor
open Go Go.Ab

theorem aval_shr16 {P : Program} {t : Nat → Value} {H : Heap} {N x y : Nat} {d : Option Tmp} {T U ty : TypeId} {pos : String} {af : Array Edge} {g : Option (Nat × Bool)} {m s : Nat} (hx : t x = .int .u16 (m : Int)) (hy : t y = .int .u64 (s : Int)) (h1 : x < N) (h2 : y < N) (hs : s < 16) :
    aval P t H (.gen N ⟨d, .binOp .shr T (.tmp x) (.tmp y) U, ty, pos, af, g⟩) = some (.int .u16 ((m / 2 ^ s : Nat) : Int)) := by
  refine aval_gen ?_ rfl fun w => ?_
  · simp [Op.operands, flatO, hx, hy, h1, h2, flat, flat1]
  · have e2 : min s IntKind.u16.bits = s := by simp [IntKind.bits]; omega
    simp [execOp, evO, hx, hy, eqGuard, binOp, Op.shift, e2]
theorem rem16 {q : Nat} : binI BinOp.rem (.int .u16 (q : Int)) (.int .u16 2) = some (.int .u16 ((q % 2 : Nat) : Int)) := by
  have e : binI BinOp.rem (.int .u16 (q : Int)) (.int .u16 2) = some (.int .u16 ((q : Int).tmod 2)) := rfl
  have e2 : ((q : Int).tmod 2) = ((q % 2 : Nat) : Int) := (Int.ofNat_tmod q 2).symm
  rw [e, e2]

/-- A duty by bits; at least one segment. -/
def setB (n m : Nat) : List Int := if setR n m = [] then [0] else setR n m
theorem setB_duty {n m : Nat} (hn : 0 < n) : isDutyB n (setB n m) = true := by
  unfold setB
  split
  · have := rise_duty (n := n) (l := [0]) (by simp) (fun x hx => by simp at hx; omega) (by simp)
    simpa [bitsI] using this
  · rename_i h
    exact rise_duty bitsFrom_rise (fun x hx => (bitsFrom_mem.1 hx).1) fun e => h (by rw [setR, e]; rfl)
theorem setB_length {n m : Nat} (h : n ≤ 10) : (setB n m).length ≤ 10 := by
  unfold setB
  split
  · simp
  · have := setR_length (n := n) (m := m); omega
theorem set_spec {D : Dy} {b w : Value} {H : Heap} {m : Nat} (h : DayAt H b w D) (hT : D.Thin) (hV : Valid D) :
    AFun Tryd.prog 49 [dayV D b w, .int .u16 (m : Int)] H (fun r B => OwnSl B H.next r ((setB (segN D) m).map (Value.int .i64)) ∧ Ge H B) := by
  refine AFun.mk ok49 hm (Nat.le_of_ble_eq_true rfl) ?_
  have hb := h.blocks.one
  have hw := h.walk.one
  have h10 := segN_le hV
  have hseg : segsOf D.blocks = segN D := segPs_length.symm
  simp [a49, r49, hb, hw]
  refine floop_intro (fun z => z.d = [] ∧ Ge H z.H ∧ H.next < z.H.next ∧ z.t 1 = .int .u16 (m : Int) ∧ z.t 2 = .pointer (some ⟨H.next, 0, none⟩) ∧ z.H.get H.next = .cells true (dayV D b w).cells.toList 10 ∧ ∃ j : Nat, j ≤ segN D ∧ z.t 6 = .int .i64 (j : Int) ∧ OwnSl z.H (H.next + 1) (z.t 5) ((setR j m).map (Value.int .i64))) (fun z => segN D - (intOf (z.t 6)).toNat) ?_ ?_
  · exact ⟨rfl, by simp, by simp, by simp, by simp, by simp [Value.cells], 0, by omega, by simp, .inl ⟨by simp, by simp [setR, bitsI, bitsFrom]⟩⟩
  rintro ⟨t, _, A⟩ ⟨rfl, g, hn, t1, t2, kd, j, hj, t6, o5⟩
  dsimp only at g hn t1 t2 kd t6 o5
  simp [Value.cells] at kd
  generalize t5 : t 5 = v5 at o5
  simp [t2, t6, kd]
  refine fcall_fun (segments_spec (h.ge g) hT) ?_
  rintro _ A1 ⟨rfl, g1⟩
  have n1 := g1.next
  have kd1 := g1.got hn kd
  have G1 := g.trans g1
  rw [hseg]
  simp [t6]
  have hlen := setR_length (n := j) (m := m)
  by_cases hjn : j < segN D
  case neg =>
    have : j = segN D := by omega
    subst this
    have hl := (o5.ge g1).lenV
    simp only [List.length_map] at hl
    simp [hjn, t5, hl]
    by_cases h0 : setR (segN D) m = []
    · have hsb : setB (segN D) m = [0] := by simp [setB, h0]
      rw [h0] at o5
      simp [h0, t5]
      refine fapp_own (lo := H.next + 1) (x := .int .i64 0) ((o5.ge g1).ge (Ge.new _ _)) (slCells_new (rw := true) (c := 1) (by simp)) rfl (by simp) (by omega) (by simp) (by omega) (by simp; omega) fun u3 C k3 k4 k5 k6 => ?_
      have h5n : ∀ m, slName v5 = some m → H.next + 1 ≤ m := fun m hm => (o5.names hm).1
      simp
      rw [hsb]
      refine ⟨OwnSl.lower (by simpa using k3) (by omega), by have := G1.next; omega, fun n hn => ?_⟩
      have f0 := G1.next
      have f3 : n ≠ A1.next := by omega
      rw [k6 n (by omega) (fun e => by have := h5n n e; omega)]; simp [f3, G1.get n hn]
    · have hsb : setB (segN D) m = setR (segN D) m := by simp [setB, h0]
      simp [h0, t5]
      rw [hsb]
      exact ⟨(o5.ge g1).lower (by omega), G1⟩
  have hw64 : IntKind.u64.wrap (j : Int) = (j : Int) := wrap_u64 (by omega)
  simp [hjn, t1, t6, hw64]
  have hstep := setR_step (m := m) (j := j)
  have hbit : m.testBit j = decide (m / 2 ^ j % 2 = 1) := Nat.testBit_eq_decide_div_mod_eq
  obtain ⟨q, hq⟩ : ∃ q, m / 2 ^ j = q := ⟨_, rfl⟩
  rw [hq] at hbit
  have hmod : q % 2 = 0 ∨ q % 2 = 1 := by omega
  rw [aval_shr16 (m := m) (s := j) (by simp) (by simp) (by decide) (by decide) (by omega), hq]
  simp [rem16]
  rcases hmod with h0 | h1
  · have hb0 : m.testBit j = false := by rw [hbit, h0]; rfl
    have hc0 : ¬ (q : Int) % 2 = 1 := by omega
    rw [hb0] at hstep
    simp only [Bool.false_eq_true, if_false] at hstep
    simp [hc0, t6, add_in (x := j) (y := 1) (by omega) (by omega)]
    exact ⟨⟨G1, by omega, t1, t2, by simpa [Value.cells] using kd1, j + 1, by omega, by omega, by rw [hstep, t5]; exact o5.ge g1⟩, by omega⟩
  · have hb1 : m.testBit j = true := by rw [hbit, h1]; rfl
    have hc1 : (q : Int) % 2 = 1 := by omega
    rw [hb1] at hstep
    simp only [if_true] at hstep
    simp [hc1, t5, t6]
    refine fapp_own (lo := H.next + 1) (x := .int .i64 (j : Int)) ((o5.ge g1).ge (Ge.new _ _)) (slCells_new (rw := true) (c := 1) (by simp)) rfl (by simp; omega) (by omega) (by simp) (by omega) (by simp; omega) fun u3 C k3 k4 k5 k6 => ?_
    have h5n : ∀ m, slName v5 = some m → H.next + 1 ≤ m := fun m hm => (o5.names hm).1
    have gC : Ge H C := ⟨by have := G1.next; omega, fun n hn => by
      have f0 := G1.next
      have f3 : n ≠ A1.next := by omega
      rw [k6 n (by omega) (fun e => by have := h5n n e; omega)]; simp [f3, G1.get n hn]⟩
    have kC : C.get H.next = A1.get H.next := (k6 H.next (by omega) (fun e => by have := h5n _ e; omega)).trans (by rw [Heap.new_get, if_neg (by omega)])
    simp [t6, add_in (x := j) (y := 1) (by omega) (by omega)]
    exact ⟨⟨gC, by omega, t1, t2, by simpa [Value.cells] using kC.trans kd1, j + 1, by omega, by omega, by rw [hstep, List.map_append]; exact k3⟩, by omega⟩

section
variable {D : Dy}
end

end Go.Proofs.YtllkhaabcfnlpaaDoor


/-
  Days alike: when the same duties are legal, and are paid as much.
-/
namespace Go.Proofs.YtllkhaabcfnlpaaDoor
open Go Go.Ab

theorem fold_pay {rec : Nat → Ch} {pay pay' : Nat → Int} {m : Nat} : ∀ (l : List Nat) (b : Ch), (∀ d ∈ l, pay d = pay' d) → l.foldl (stepC rec pay m) b = l.foldl (stepC rec pay' m) b
  | [], _, _ => rfl
  | x :: l, b, h => by
    rw [List.foldl_cons, List.foldl_cons]
    have e : stepC rec pay m b x = stepC rec pay' m b x := by
      unfold stepC
      rw [h x (List.mem_cons_self ..)]
    rw [e]
    exact fold_pay l _ fun d hd => h d (List.mem_cons_of_mem _ hd)
theorem chooseK_pay {L : List Nat} {pay pay' : Nat → Int} (h : ∀ d ∈ L, pay d = pay' d) : ∀ k, chooseK L pay k = chooseK L pay' k
  | 0 => rfl
  | k + 1 => by
    funext m
    simp only [chooseK, chooseK_pay h k]
    split
    · rfl
    · exact fold_pay _ _ fun d hd => h d (List.mem_filter.1 hd).1
theorem choose_pay {L : List Nat} {pay pay' : Nat → Int} (h : ∀ d ∈ L, pay d = pay' d) : choose L pay = choose L pay' := by
  funext m
  unfold choose
  rw [chooseK_pay h]
theorem passL_congr {p p' : Nat → Bool} {i : Nat} (h : ∀ d, d ≠ 0 → d < i → p d = p' d) : passL p i = passL p' i := by
  unfold passL
  refine List.filter_congr fun d hd => ?_
  obtain ⟨j, hj, rfl⟩ := List.mem_range'.1 hd
  exact h _ (by omega) (by omega)

/-- Two days in which the same sets are legal, and are paid as much. -/
structure SameD (D D' : Dy) : Prop where
  segs : segN D' = segN D
  legal : ∀ m, m ≠ 0 → m < 2 ^ segN D → legalN D' (known0 D') m = legalN D (known0 D) m
  pay : ∀ m, m ≠ 0 → m < 2 ^ segN D → payN D' m = payN D m
theorem SameD.list {D D' : Dy} (h : SameD D D') : legalL D' (known0 D') = legalL D (known0 D) := by
  unfold legalL
  rw [h.segs]
  exact passL_congr h.legal
theorem SameD.best {D D' : Dy} (h : SameD D D') : bestC D' = bestC D ∧ bestL D' = bestL D := by
  have hp : ∀ d ∈ legalL D (known0 D), payN D' d = payN D d := fun d hd => h.pay d (by have := (passL_mem.1 hd).1; omega) (passL_mem.1 hd).1.2
  unfold bestC bestL planOf
  rw [h.list, h.segs, choose_pay hp]
  exact ⟨rfl, rfl⟩

def Rl.later (x : Int) (r : Rl) : Rl := ⟨r.place, r.lo + x, r.hi + x⟩
/-- The day so many minutes later. -/
def Dy.later (D : Dy) (x : Int) : Dy := { D with blocks := D.blocks.map fun b => b.map (Rl.later x) }

section
variable {D : Dy} {x : Int}
end

end Go.Proofs.YtllkhaabcfnlpaaDoor


/-
  Easier days: what was legal is legal, for no more pay.
-/
namespace Go.Proofs.YtllkhaabcfnlpaaDoor
open Go Go.Ab

section
variable {D : Dy}
/-- The pieces of a legal duty lie one behind the other. -/
theorem legal_chain (hV : Valid D) {m : Nat} (hlt : m < 2 ^ segN D) (hl : legalN D (known0 D) m = true) : ∀ i, (hi : i < (piecesL D m).length) → ∀ k, (hk : k < i) → (D.rel ((piecesL D m)[k]'(by omega)).b ((piecesL D m)[k]'(by omega)).t).hi < (D.rel (piecesL D m)[i].b (piecesL D m)[i].f).lo := by
  obtain ⟨_, _, _, l4, _⟩ := (legalB_iff hV).1 hl
  have hok : ∀ x ∈ piecesL D m, PcOk D m x := fun x hx => piecesL_mem hlt hx
  have hlaw := law_bounds hV
  have hstep : ∀ i (hi : i + 1 < (piecesL D m).length), (D.rel ((piecesL D m)[i]'(by omega)).b ((piecesL D m)[i]'(by omega)).t).hi < (D.rel (piecesL D m)[i + 1].b (piecesL D m)[i + 1].f).lo := fun i hi => by
    have hf := l4 i hi
    have ha : (piecesL D m)[i]?.getD fz = (piecesL D m)[i] := by simp [(by omega : i < (piecesL D m).length)]
    have hb : (piecesL D m)[i + 1]?.getD fz = (piecesL D m)[i + 1] := by simp [hi]
    have oa := hok _ (List.getElem_mem (show i < (piecesL D m).length by omega))
    have ob := hok _ (List.getElem_mem hi)
    rw [ha, hb] at hf
    unfold freeOf restOf at hf
    rw [oa.same, kAt0 ob.fst, kAt0 oa.lst] at hf
    simp only at hf
    have hw := (walkOf_bound hV oa.lst ob.fst).1
    omega
  intro i
  induction i with
  | zero => intro hi k hk; omega
  | succ i ih =>
    intro hi k hk
    by_cases e : k = i
    · subst e; exact hstep k hi
    · have h1 := ih (by omega) k (by omega)
      have h2 := hstep i hi
      have o := hok _ (List.getElem_mem (show i < (piecesL D m).length by omega))
      have h3 := blk_le hV o.lst (Nat.le_of_lt o.lt)
      have h4 := rel_valid hV o.lst
      omega
end

/-- A day that asks less. -/
structure EasyD (D D' : Dy) : Prop where
  segs : segPs D' = segPs D
  has : ∀ b n, D.has b n → D'.has b n
  lo : ∀ b n, D.has b n → (D.rel b n).lo ≤ (D'.rel b n).lo
  hi : ∀ b n, D.has b n → (D'.rel b n).hi = (D.rel b n).hi
  walk : ∀ b n c k, D.has b n → D.has c k → D'.walkOf b n c k ≤ D.walkOf b n c k
  piece : D.law.piece ≤ D'.law.piece
  drive : D.law.drive ≤ D'.law.drive
  spread : D.law.spread ≤ D'.law.spread
  pieces : D.law.pieces ≤ D'.law.pieces
  brk : D'.law.brk ≤ D.law.brk
  on : D'.law.on ≤ D.law.on
  off : D'.law.off ≤ D.law.off
  least : D'.law.least = D.law.least

section
variable {D D' : Dy}
theorem easy_runs (h : EasyD D D') : ∀ k m, runsK D' k m = runsK D k m
  | 0, _ => rfl
  | k + 1, m => by simp only [runsK, h.segs, easy_runs h k]
theorem sum_le {f g : Pc → Int} : ∀ (l : List Pc), (∀ p ∈ l, f p ≤ g p) → (l.map f).sum ≤ (l.map g).sum
  | [], _ => Int.le_refl _
  | p :: l, h => by
    have h1 := h p (List.mem_cons_self ..)
    have h2 := sum_le l fun q hq => h q (List.mem_cons_of_mem _ hq)
    simp only [List.map_cons, List.sum_cons]
    omega
theorem easy_pieces (hV : Valid D) (hV' : Valid D') (h : EasyD D D') {m : Nat} (hlt : m < 2 ^ segN D) (hl : legalN D (known0 D) m = true) : piecesL D' m = piecesL D m := by
  unfold piecesL
  rw [easy_runs h]
  refine insSort_congr _ _ _ fun i k hi hk => ?_
  have hchain := legal_chain hV hlt hl
  have hmem : ∀ x ∈ runsK D 16 m, x ∈ piecesL D m := fun x hx => insTo_mem' _ _ _ hx
  have key : ∀ x ∈ runsK D 16 m, ∀ y ∈ runsK D 16 m, (loOf D' x < loOf D' y ↔ loOf D x < loOf D y) := fun x hx y hy => by
    obtain ⟨a, ha, rfl⟩ := List.mem_iff_getElem.1 (hmem x hx)
    obtain ⟨c, hc, rfl⟩ := List.mem_iff_getElem.1 (hmem y hy)
    have oa := piecesL_mem hlt (List.getElem_mem ha)
    have oc := piecesL_mem hlt (List.getElem_mem hc)
    have half : ∀ p q (hp : PcOk D m p) (hq : PcOk D m q), (D.rel p.b p.t).hi < (D.rel q.b q.f).lo → loOf D p < loOf D q ∧ loOf D' p < loOf D' q := fun p q hp hq hh => by
      unfold loOf
      have h1 := blk_le hV hp.lst (Nat.le_of_lt hp.lt)
      have h2 := rel_valid hV hp.fst
      have h3 := rel_valid hV' (h.has _ _ hp.fst)
      have h4 := h.hi _ _ hp.fst
      have h5 := h.lo _ _ hq.fst
      omega
    by_cases e : a = c
    · subst e; omega
    · by_cases e2 : a < c
      · obtain ⟨h1, h2⟩ := half _ _ oa oc (hchain c hc a e2)
        omega
      · obtain ⟨h1, h2⟩ := half _ _ oc oa (hchain a ha c (by omega))
        omega
  exact decide_eq_decide.2 (key _ (List.getElem_mem hi) _ (List.getElem_mem (by omega)))

theorem easy_legal (hV : Valid D) (hV' : Valid D') (h : EasyD D D') {m : Nat} (h0 : m ≠ 0) (hlt : m < 2 ^ segN D) (hl : legalN D (known0 D) m = true) : legalN D' (known0 D') m = true ∧ payN D' m ≤ payN D m := by
  have hps := easy_pieces hV hV' h hlt hl
  obtain ⟨l1, l2, l3, l4, l5⟩ := (legalB_iff hV).1 hl
  have hok : ∀ x ∈ piecesL D m, PcOk D m x := fun x hx => piecesL_mem hlt hx
  have hpos := piecesL_pos (D := D) h0
  have hlast : ∀ x ∈ piecesL D m, lastOf (known0 D') x ≤ lastOf (known0 D) x := fun x hx => by
    have o := hok x hx
    unfold lastOf
    rw [o.same, kAt0 o.lst, kAt0 o.fst, kAt0 (h.has _ _ o.lst), kAt0 (h.has _ _ o.fst)]
    have h1 := h.hi _ _ o.lst
    have h2 := h.lo _ _ o.fst
    simp only; omega
  have hspread : spreadOf D' (known0 D') (piecesL D m) ≤ spreadOf D (known0 D) (piecesL D m) := by
    have o0 := hok _ (List.getElem_mem hpos)
    have on := hok _ (List.getElem_mem (show (piecesL D m).length - 1 < (piecesL D m).length by omega))
    have g0 : (piecesL D m)[0]?.getD fz = (piecesL D m)[0] := by simp [hpos]
    have gn : (piecesL D m)[(piecesL D m).length - 1]?.getD fz = (piecesL D m)[(piecesL D m).length - 1] := by simp [(by omega : (piecesL D m).length - 1 < (piecesL D m).length)]
    unfold spreadOf
    rw [g0, gn, on.same, kAt0 on.lst, kAt0 o0.fst, kAt0 (h.has _ _ on.lst), kAt0 (h.has _ _ o0.fst)]
    have h1 := h.hi _ _ on.lst
    have h2 := h.lo _ _ o0.fst
    have h3 := h.on
    have h4 := h.off
    simp only; omega
  have e1 := h.piece
  have e2 := h.drive
  have e3 := h.spread
  have e4 := h.pieces
  have e5 := h.brk
  refine ⟨?_, ?_⟩
  · unfold legalN
    rw [hps]
    refine (legalB_iff hV').2 ⟨by omega, fun p hp => ?_, ?_, fun j hj => ?_, by omega⟩
    · have := l2 p hp
      have := hlast p hp
      omega
    · have := sum_le (piecesL D m) hlast
      omega
    · have hf := l4 j hj
      have ha : (piecesL D m)[j]?.getD fz = (piecesL D m)[j] := by simp [(by omega : j < (piecesL D m).length)]
      have hb : (piecesL D m)[j + 1]?.getD fz = (piecesL D m)[j + 1] := by simp [hj]
      have oa := hok _ (List.getElem_mem (show j < (piecesL D m).length by omega))
      have ob := hok _ (List.getElem_mem hj)
      rw [ha, hb] at hf ⊢
      unfold freeOf restOf at hf ⊢
      rw [oa.same, kAt0 ob.fst, kAt0 oa.lst] at hf
      rw [oa.same, kAt0 (h.has _ _ ob.fst), kAt0 (h.has _ _ oa.lst)]
      have h1 := h.hi _ _ oa.lst
      have h2 := h.lo _ _ ob.fst
      have h3 := h.walk _ _ _ _ oa.lst ob.fst
      simp only at hf ⊢
      omega
  · unfold payN payOf
    rw [hps]
    have := h.least
    omega

/-- The fewest duties of an easier day are not more. -/
theorem easy_best (hV : Valid D) (hV' : Valid D') (h : EasyD D D') (hok : (bestC D).ok = true) : (bestC D').ok = true ∧ (bestC D').n ≤ (bestC D).n := by
  obtain ⟨p1, p2, _⟩ := best_part hV hok
  have hn : segN D' = segN D := by rw [segN, h.segs]
  have hpart : Part (legalL D' (known0 D')) (2 ^ segN D' - 1) (bestL D) := by
    rw [hn]
    refine ⟨fun d hd => ?_, p1.disj, p1.all⟩
    have hm := passL_mem.1 (p1.mem d hd)
    refine mem_LL (by omega) (by rw [hn]; exact hm.1.2) (easy_legal hV hV' h (by omega) hm.1.2 hm.2).1
  have := choose_least (pay := payN D') (LL_ok hV') _ (full_lt hV') _ hpart
  unfold bestC at this ⊢
  refine ⟨this.1, ?_⟩
  have e : (bestL D).length = (choose (legalL D (known0 D)) (payN D) (2 ^ segN D - 1)).n := p2
  omega
end

end Go.Proofs.YtllkhaabcfnlpaaDoor


/-
  What DutyLater answers.
-/
namespace Go.Proofs.YtllkhaabcfnlpaaDoor
open Go Go.Ab

theorem cells_len : ∀ (l : List Rl), (l.flatMap Rl.cells).length = l.length * 3
  | [] => rfl
  | r :: l => by
    have ih := cells_len l
    have e : ((r :: l).flatMap Rl.cells).length = (l.flatMap Rl.cells).length + 3 := by simp [Rl.cells]
    rw [e, ih, List.length_cons]; omega
theorem cells_one : ∀ (l : List Rl), (l.flatMap Rl.cells).all one = true
  | [] => rfl
  | r :: l => by
    have ih := cells_one l
    have e1 : (r :: l).flatMap Rl.cells = .int .i64 r.place :: .int .i64 r.lo :: .int .i64 r.hi :: l.flatMap Rl.cells := rfl
    rw [e1]
    simpa using ih
theorem rel_ld : ∀ (l : List Rl) (i : Nat) (h : i < l.length), (l.flatMap Rl.cells)[i * 3 + 1]? = some (.int .i64 (l[i]'h).lo) ∧ (l.flatMap Rl.cells)[i * 3 + 2]? = some (.int .i64 (l[i]'h).hi)
  | [], i, h => by simp at h
  | r :: l, 0, _ => ⟨rfl, rfl⟩
  | r :: l, i + 1, h => by
    have hi : i < l.length := by simpa using h
    have ih := rel_ld l i hi
    have e : (i + 1) * 3 + 1 = i * 3 + 1 + 3 := by omega
    have e' : (i + 1) * 3 + 2 = i * 3 + 2 + 3 := by omega
    have e1 : (r :: l).flatMap Rl.cells = .int .i64 r.place :: .int .i64 r.lo :: .int .i64 r.hi :: l.flatMap Rl.cells := rfl
    rw [e, e', e1]
    simpa using ih
theorem rels_cells {A : Heap} {lo q cap c : Nat} {l : List Rl} (hlo : lo ≤ q) (hq : q < A.next) (h : A.get q = .cells true (l.flatMap Rl.cells) c) (hl : l.length ≤ cap) (hc : cap * 3 ≤ c) : OwnS A lo 3 (.slice (some ⟨q, 0, none⟩) l.length cap) l.length (l.flatMap Rl.cells) :=
  .inr ⟨q, cap, c, rfl, hlo, hq, h, (cells_len l).symm, hl, hc⟩
end Go.Proofs.YtllkhaabcfnlpaaDoor


/-
  How many duties a best plan has; the copies of a day's walks and blocks.
-/
namespace Go.Proofs.YtllkhaabcfnlpaaDoor
open Go Go.Ab

def bestLen (D : Dy) : Int := if bestE D = 0 then ((bestC D).n : Int) else 1000
theorem best53_spec {D : Dy} {b w : Value} {H : Heap} (h : DayAt H b w D) (hT : D.Thin) (hG : Gl H) :
    AFun Tryd.prog 53 [dayV D b w] H (fun r B => r = .int .i64 (bestLen D) ∧ Ge H B) := by
  refine AFun.mk ok53 hm (Nat.le_of_ble_eq_true rfl) ?_
  have hb := h.blocks.one
  have hw := h.walk.one
  simp [a53, r53, hb, hw]
  refine fcall_fun (day18_spec (h.ge (by simp)) hT) ?_
  rintro _ H1 ⟨b1, w1, rfl, hd1, g1⟩
  have G1 : Ge H H1 := Ge.trans (by simp) g1
  simp
  refine fcall_fun (bestF_spec hd1 hT (hG.ge G1)) ?_
  rintro _ H2 ⟨v, rfl, hv, g2⟩
  have G2 := G1.trans g2
  have hv1 := hv.one
  have hvl := hv.lenV
  unfold bestLen
  by_cases hE : bestE D = 0
  · have hc : checkD D = 0 := by
      unfold bestE at hE
      by_cases hc : checkD D = 0
      · exact hc
      · rw [if_neg hc] at hE; exact absurd hE hc
    have hV := valid_of hc
    have hok := best_ok hc hE
    have hl : (bestR D).length = (bestC D).n := by
      have := (best_part hV hok).2.1
      simp [bestR, hE, this]
    rw [hl] at hvl
    simp [hE, hv1, hvl]
    exact G2
  · simp [hE, hv1]
    exact G2
theorem bestLen_le {D D' : Dy} (hc : checkD D = 0) (hc' : checkD D' = 0) (h : EasyD D D') (hn : segN D ≤ 8) : bestLen D' ≤ bestLen D := by
  have hV := valid_of hc
  have hV' := valid_of hc'
  have hE : ∀ D : Dy, checkD D = 0 → (bestE D = 0 ↔ (bestC D).ok = true) := fun D hc => by
    unfold bestE
    rw [if_pos hc]
    cases (bestC D).ok <;> simp
  unfold bestLen
  by_cases h1 : bestE D = 0
  · obtain ⟨k1, k2⟩ := easy_best hV hV' h ((hE D hc).1 h1)
    rw [if_pos h1, if_pos ((hE D' hc').2 k1)]
    omega
  · rw [if_neg h1]
    split
    · have hb := (choose_bounds (pay := payN D') (LL_ok hV') (fun d _ => payN_bounds hV' d) (2 ^ segN D' - 1)).1
      have hn' : segN D' ≤ 8 := by rw [segN, h.segs]; exact hn
      have hp : 2 ^ segN D' ≤ 2 ^ 8 := Nat.pow_le_pow_right (by omega) hn'
      have : (bestC D').n ≤ 2 ^ segN D' - 1 := hb
      omega
    · omega
end Go.Proofs.YtllkhaabcfnlpaaDoor


/-
  DutyEasier: its code in parts, and what it answers behind the change.
-/
namespace Go.Proofs.YtllkhaabcfnlpaaDoor
open Go Go.Ab

def arm0 : ACode :=
  (.region [⟨(some 104), (.mov (.t 12)), none⟩, ⟨(some 105), (.mov (.t 12)), none⟩, ⟨(some 106), (.nilc (.t 105)), none⟩, ⟨(some 107), (.fa 0 (.t 106)), none⟩, ⟨(some 108), (.ld false 1 (.t 107)), none⟩, ⟨(some 109), (.mov (.t 13)), none⟩, ⟨(some 110), (.bin .add (.t 108) (.t 109)), none⟩, ⟨(some 111), (.gen 284 ⟨(some 111), (.call ⟨.builtin .min, #[(.const (.int .i64 3000)), (.tmp 110)], #[3, 3]⟩), 3, "outright.go:333", #[{ on := 6, ground := Go.Ground.data }], none⟩), none⟩, ⟨(some 112), (.nilc (.t 104)), none⟩, ⟨(some 113), (.fa 0 (.t 112)), none⟩, ⟨none, (.st 1 (.t 113) (.t 111)), none⟩])
def arm1 : ACode :=
  (.region [⟨(some 116), (.mov (.t 12)), none⟩, ⟨(some 117), (.mov (.t 12)), none⟩, ⟨(some 118), (.nilc (.t 117)), none⟩, ⟨(some 119), (.fa 1 (.t 118)), none⟩, ⟨(some 120), (.ld false 1 (.t 119)), none⟩, ⟨(some 121), (.mov (.t 13)), none⟩, ⟨(some 122), (.bin .add (.t 120) (.t 121)), none⟩, ⟨(some 123), (.gen 284 ⟨(some 123), (.call ⟨.builtin .min, #[(.const (.int .i64 3000)), (.tmp 122)], #[3, 3]⟩), 3, "outright.go:335", #[{ on := 6, ground := Go.Ground.data }], none⟩), none⟩, ⟨(some 124), (.nilc (.t 116)), none⟩, ⟨(some 125), (.fa 1 (.t 124)), none⟩, ⟨none, (.st 1 (.t 125) (.t 123)), none⟩])
def arm2 : ACode :=
  (.region [⟨(some 128), (.mov (.t 12)), none⟩, ⟨(some 129), (.mov (.t 12)), none⟩, ⟨(some 130), (.nilc (.t 129)), none⟩, ⟨(some 131), (.fa 2 (.t 130)), none⟩, ⟨(some 132), (.ld false 1 (.t 131)), none⟩, ⟨(some 133), (.mov (.t 13)), none⟩, ⟨(some 134), (.bin .add (.t 132) (.t 133)), none⟩, ⟨(some 135), (.gen 284 ⟨(some 135), (.call ⟨.builtin .min, #[(.const (.int .i64 3000)), (.tmp 134)], #[3, 3]⟩), 3, "outright.go:337", #[{ on := 6, ground := Go.Ground.data }], none⟩), none⟩, ⟨(some 136), (.nilc (.t 128)), none⟩, ⟨(some 137), (.fa 2 (.t 136)), none⟩, ⟨none, (.st 1 (.t 137) (.t 135)), none⟩])
def arm3 : ACode :=
  (.region [⟨(some 140), (.mov (.t 12)), none⟩, ⟨(some 141), (.mov (.t 12)), none⟩, ⟨(some 142), (.nilc (.t 141)), none⟩, ⟨(some 143), (.fa 7 (.t 142)), none⟩, ⟨(some 144), (.ld false 1 (.t 143)), none⟩, ⟨(some 145), (.bin .add (.t 144) (.c (.int .i64 1))), none⟩, ⟨(some 146), (.gen 284 ⟨(some 146), (.call ⟨.builtin .min, #[(.const (.int .i64 3)), (.tmp 145)], #[3, 3]⟩), 3, "outright.go:339", #[{ on := 5, ground := Go.Ground.data }], none⟩), none⟩, ⟨(some 147), (.nilc (.t 140)), none⟩, ⟨(some 148), (.fa 7 (.t 147)), none⟩, ⟨none, (.st 1 (.t 148) (.t 146)), none⟩])
def arm4 : ACode :=
  (.region [⟨(some 151), (.mov (.t 12)), none⟩, ⟨(some 152), (.mov (.t 12)), none⟩, ⟨(some 153), (.nilc (.t 152)), none⟩, ⟨(some 154), (.fa 3 (.t 153)), none⟩, ⟨(some 155), (.ld false 1 (.t 154)), none⟩, ⟨(some 156), (.mov (.t 13)), none⟩, ⟨(some 157), (.bin .sub (.t 155) (.t 156)), none⟩, ⟨(some 158), (.gen 284 ⟨(some 158), (.call ⟨.builtin .max, #[(.const (.int .i64 1)), (.tmp 157)], #[3, 3]⟩), 3, "outright.go:341", #[{ on := 6, ground := Go.Ground.data }], none⟩), none⟩, ⟨(some 159), (.nilc (.t 151)), none⟩, ⟨(some 160), (.fa 3 (.t 159)), none⟩, ⟨none, (.st 1 (.t 160) (.t 158)), none⟩])
def arm5 : ACode :=
  (.region [⟨(some 163), (.mov (.t 12)), none⟩, ⟨(some 164), (.mov (.t 12)), none⟩, ⟨(some 165), (.nilc (.t 164)), none⟩, ⟨(some 166), (.fa 4 (.t 165)), none⟩, ⟨(some 167), (.ld false 1 (.t 166)), none⟩, ⟨(some 168), (.mov (.t 13)), none⟩, ⟨(some 169), (.bin .sub (.t 167) (.t 168)), none⟩, ⟨(some 170), (.gen 284 ⟨(some 170), (.call ⟨.builtin .max, #[(.const (.int .i64 0)), (.tmp 169)], #[3, 3]⟩), 3, "outright.go:343", #[{ on := 6, ground := Go.Ground.data }], none⟩), none⟩, ⟨(some 171), (.nilc (.t 163)), none⟩, ⟨(some 172), (.fa 4 (.t 171)), none⟩, ⟨none, (.st 1 (.t 172) (.t 170)), none⟩])
def arm6 : ACode :=
  (.region [⟨(some 175), (.mov (.t 12)), none⟩, ⟨(some 176), (.mov (.t 12)), none⟩, ⟨(some 177), (.nilc (.t 176)), none⟩, ⟨(some 178), (.fa 5 (.t 177)), none⟩, ⟨(some 179), (.ld false 1 (.t 178)), none⟩, ⟨(some 180), (.mov (.t 13)), none⟩, ⟨(some 181), (.bin .sub (.t 179) (.t 180)), none⟩, ⟨(some 182), (.gen 284 ⟨(some 182), (.call ⟨.builtin .max, #[(.const (.int .i64 0)), (.tmp 181)], #[3, 3]⟩), 3, "outright.go:345", #[{ on := 6, ground := Go.Ground.data }], none⟩), none⟩, ⟨(some 183), (.nilc (.t 175)), none⟩, ⟨(some 184), (.fa 5 (.t 183)), none⟩, ⟨none, (.st 1 (.t 184) (.t 182)), none⟩])
def arm7 : ACode :=
  (.seq
                             (.draw 11 [⟨⟨(some 187), (.fa 9 (.t 11)), none⟩, 0, false, []⟩, ⟨⟨(some 188), (.ld false 1 (.t 187)), none⟩, 1, false, []⟩, ⟨⟨(some 189), (.mov (.t 2)), none⟩, 2, false, []⟩, ⟨⟨(some 190), (.cvi .i64 (.t 189)), none⟩, 3, false, []⟩, ⟨⟨(some 191), (.fa 9 (.t 11)), none⟩, 4, false, []⟩, ⟨⟨(some 192), (.ld false 1 (.t 191)), none⟩, 5, false, []⟩, ⟨⟨(some 193), (.len (.t 192)), none⟩, 6, false, []⟩, ⟨⟨(some 194), (.bin .rem (.t 190) (.t 193)), none⟩, 7, false, []⟩, ⟨⟨(some 195), (.isl 1 (.t 188) (.t 194)), none⟩, 8, false, []⟩, ⟨⟨(some 196), (.ld false 1 (.t 195)), none⟩, 9, false, []⟩, ⟨⟨(some 14), (.mov (.t 196)), none⟩, 10, false, []⟩])
                             (.seq
                              (.region [⟨(some 197), (.mov (.t 13)), none⟩, ⟨(some 198), (.mov (.t 14)), none⟩, ⟨(some 199), (.len (.t 198)), none⟩, ⟨(some 200), (.bin .rem (.t 197) (.t 199)), none⟩, ⟨(some 15), (.mov (.t 200)), none⟩])
                              (.region [⟨(some 201), (.mov (.t 14)), none⟩, ⟨(some 202), (.mov (.t 15)), none⟩, ⟨(some 203), (.mov (.t 14)), none⟩, ⟨(some 204), (.mov (.t 15)), none⟩, ⟨(some 205), (.isl 1 (.t 203) (.t 204)), none⟩, ⟨(some 206), (.ld false 1 (.t 205)), none⟩, ⟨(some 207), (.mov (.t 13)), none⟩, ⟨(some 208), (.bin .sub (.t 206) (.t 207)), none⟩, ⟨(some 209), (.gen 284 ⟨(some 209), (.call ⟨.builtin .max, #[(.const (.int .i64 0)), (.tmp 208)], #[3, 3]⟩), 3, "outright.go:349", #[{ on := 7, ground := Go.Ground.data }], none⟩), none⟩, ⟨(some 210), (.isl 1 (.t 201) (.t 202)), none⟩, ⟨none, (.st 1 (.t 210) (.t 209)), none⟩])))
def arm8 : ACode :=
  (.seq
                             (.region [⟨(some 53), (.mov (.t 2)), none⟩, ⟨(some 54), (.cvi .i64 (.t 53)), none⟩, ⟨(some 55), (.fa 8 (.t 11)), none⟩, ⟨(some 56), (.ld false 1 (.t 55)), none⟩, ⟨(some 57), (.len (.t 56)), none⟩, ⟨(some 58), (.bin .rem (.t 54) (.t 57)), none⟩, ⟨(some 16), (.mov (.t 58)), none⟩])
                             (.seq
                              (.region [⟨(some 59), (.bsl 0 [] []), none⟩, ⟨(some 60), (.fa 8 (.t 11)), none⟩, ⟨(some 61), (.ld false 1 (.t 60)), none⟩, ⟨(some 62), (.mov (.t 16)), none⟩, ⟨(some 63), (.isl 1 (.t 61) (.t 62)), none⟩, ⟨(some 64), (.ld false 1 (.t 63)), none⟩, ⟨(some 65), (.app 3 24 (.t 59) (.t 64)), none⟩, ⟨(some 17), (.mov (.t 65)), none⟩])
                              (.seq
                               (.seq
                                (.region [⟨(some 66), (.mov (.t 13)), none⟩, ⟨(some 67), (.mov (.t 17)), none⟩, ⟨(some 68), (.len (.t 67)), none⟩, ⟨(some 69), (.bin .rem (.t 66) (.t 68)), none⟩, ⟨(some 18), (.mov (.t 69)), none⟩])
                                (.block 1
                                 (.loop
                                  (.seq
                                   (.seq
                                    (.region [⟨(some 70), (.mov (.t 18)), none⟩, ⟨(some 71), (.mov (.t 17)), none⟩, ⟨(some 72), (.len (.t 71)), none⟩, ⟨(some 73), (.bin .lss (.t 70) (.t 72)), none⟩])
                                    (.cond (.t 73)
                                     .skip
                                     (.exit 1)))
                                   (.seq
                                    (.block 2
                                     (.draw 22 [⟨⟨(some 76), (.mov (.t 17)), none⟩, 0, false, []⟩, ⟨⟨(some 77), (.mov (.t 18)), none⟩, 1, false, []⟩, ⟨⟨(some 78), (.mov (.t 17)), none⟩, 2, false, []⟩, ⟨⟨(some 79), (.mov (.t 18)), none⟩, 3, false, []⟩, ⟨⟨(some 80), (.isl 3 (.t 78) (.t 79)), none⟩, 4, false, []⟩, ⟨⟨(some 81), (.fa 1 (.t 80)), none⟩, 5, false, []⟩, ⟨⟨(some 82), (.fa 1 (.t 81)), none⟩, 6, false, []⟩, ⟨⟨(some 83), (.ld false 1 (.t 82)), none⟩, 7, false, []⟩, ⟨⟨(some 84), (.mov (.t 17)), none⟩, 8, false, []⟩, ⟨⟨(some 85), (.mov (.t 18)), none⟩, 9, false, []⟩, ⟨⟨(some 86), (.isl 3 (.t 84) (.t 85)), none⟩, 10, false, []⟩, ⟨⟨(some 87), (.fa 1 (.t 86)), none⟩, 11, false, []⟩, ⟨⟨(some 88), (.fa 0 (.t 87)), none⟩, 12, false, []⟩, ⟨⟨(some 89), (.ld false 1 (.t 88)), none⟩, 13, false, []⟩, ⟨⟨(some 90), (.mov (.t 13)), none⟩, 14, false, []⟩, ⟨⟨(some 91), (.bin .rem (.t 90) (.c (.int .i64 7))), none⟩, 15, false, []⟩, ⟨⟨(some 92), (.bin .add (.t 89) (.t 91)), none⟩, 16, false, []⟩, ⟨⟨(some 93), (.gen 284 ⟨(some 93), (.call ⟨.builtin .min, #[(.tmp 83), (.tmp 92)], #[3, 3]⟩), 3, "outright.go:355", #[{ on := 7, ground := Go.Ground.data }, { on := 16, ground := Go.Ground.data }], none⟩), none⟩, 17, false, []⟩, ⟨⟨(some 94), (.isl 3 (.t 76) (.t 77)), none⟩, 18, false, []⟩, ⟨⟨(some 95), (.fa 1 (.t 94)), none⟩, 19, false, []⟩, ⟨⟨(some 96), (.fa 0 (.t 95)), none⟩, 20, false, []⟩, ⟨⟨none, (.st 1 (.t 96) (.t 93)), none⟩, 21, true, []⟩]))
                                    (.region [⟨(some 74), (.mov (.t 18)), none⟩, ⟨(some 75), (.bin .add (.t 74) (.c (.int .i64 1))), none⟩, ⟨(some 18), (.mov (.t 75)), none⟩]))))))
                               (.region [⟨(some 97), (.fa 8 (.t 11)), none⟩, ⟨(some 98), (.ld false 1 (.t 97)), none⟩, ⟨(some 99), (.mov (.t 16)), none⟩, ⟨(some 100), (.mov (.t 17)), none⟩, ⟨(some 101), (.isl 1 (.t 98) (.t 99)), none⟩, ⟨none, (.st 1 (.t 101) (.t 100)), none⟩]))))
def tail12 : ACode :=
  (.seq
           (.seq
            (.region [⟨(some 211), (.ld true 10 (.t 11)), none⟩, ⟨(some 212), (.call (.c (.func (.func 36) #[] #[])) [(.t 211)]), none⟩, ⟨(some 213), (.bin .neq (.t 212) (.c (.int .i64 0))), none⟩])
            (.cond (.t 213)
             (.seq
              (.region [⟨(some 214), (.call (.c (.func (.func 16) #[] #[])) []), none⟩, ⟨(some 10), (.mov (.t 214)), none⟩])
              .ret)
             .skip))
           (.seq
            (.region [⟨(some 215), (.ld true 10 (.t 5)), none⟩, ⟨(some 216), (.mov (.t 4)), none⟩, ⟨(some 217), (.call (.c (.func (.func 49) #[] #[])) [(.t 215), (.t 216)]), none⟩, ⟨(some 19), (.mov (.t 217)), none⟩])
            (.seq
             (.region [⟨(some 219), (.ld true 10 (.t 5)), none⟩, ⟨(some 220), (.call (.c (.func (.func 18) #[] #[])) [(.t 219)]), none⟩, ⟨(some 221), (.mov (.t 19)), none⟩, ⟨(some 222), (.call (.c (.func (.func 20) #[] #[])) [(.t 221)]), none⟩, ⟨(some 223), (.call (.c (.func (.func 19) #[] #[])) [(.t 220), (.t 222)]), none⟩, ⟨(some 218), (.mov (.t 223)), none⟩, ⟨(some 224), (.ext (.t 218) 0), none⟩, ⟨(some 225), (.ext (.t 218) 1), none⟩, ⟨(some 20), (.mov (.t 224)), none⟩, ⟨(some 21), (.mov (.t 225)), none⟩])
             (.seq
              (.region [⟨(some 227), (.ld true 10 (.t 11)), none⟩, ⟨(some 228), (.call (.c (.func (.func 18) #[] #[])) [(.t 227)]), none⟩, ⟨(some 229), (.mov (.t 19)), none⟩, ⟨(some 230), (.call (.c (.func (.func 20) #[] #[])) [(.t 229)]), none⟩, ⟨(some 231), (.call (.c (.func (.func 19) #[] #[])) [(.t 228), (.t 230)]), none⟩, ⟨(some 226), (.mov (.t 231)), none⟩, ⟨(some 232), (.ext (.t 226) 0), none⟩, ⟨(some 233), (.ext (.t 226) 1), none⟩, ⟨(some 22), (.mov (.t 232)), none⟩, ⟨(some 23), (.mov (.t 233)), none⟩])
              (.seq
               (.region [⟨(some 235), (.ld true 10 (.t 5)), none⟩, ⟨(some 236), (.call (.c (.func (.func 18) #[] #[])) [(.t 235)]), none⟩, ⟨(some 237), (.mov (.t 19)), none⟩, ⟨(some 238), (.call (.c (.func (.func 20) #[] #[])) [(.t 237)]), none⟩, ⟨(some 239), (.call (.c (.func (.func 21) #[] #[])) [(.t 236), (.t 238)]), none⟩, ⟨(some 234), (.mov (.t 239)), none⟩, ⟨(some 240), (.ext (.t 234) 0), none⟩, ⟨(some 241), (.ext (.t 234) 1), none⟩, ⟨(some 24), (.mov (.t 240)), none⟩, ⟨(some 25), (.mov (.t 241)), none⟩])
               (.seq
                (.region [⟨(some 243), (.ld true 10 (.t 11)), none⟩, ⟨(some 244), (.call (.c (.func (.func 18) #[] #[])) [(.t 243)]), none⟩, ⟨(some 245), (.mov (.t 19)), none⟩, ⟨(some 246), (.call (.c (.func (.func 20) #[] #[])) [(.t 245)]), none⟩, ⟨(some 247), (.call (.c (.func (.func 21) #[] #[])) [(.t 244), (.t 246)]), none⟩, ⟨(some 242), (.mov (.t 247)), none⟩, ⟨(some 248), (.ext (.t 242) 0), none⟩, ⟨(some 249), (.ext (.t 242) 1), none⟩, ⟨(some 26), (.mov (.t 248)), none⟩, ⟨(some 27), (.mov (.t 249)), none⟩])
                (.seq
                 (.seq
                  (.region [⟨(some 250), (.mov (.t 21)), none⟩, ⟨(some 251), (.bin .neq (.t 250) (.c (.int .i64 0))), none⟩, ⟨(some 252), (.mov (.t 251)), none⟩, ⟨(some 253), (.mov (.t 23)), (some (252, false))⟩, ⟨(some 254), (.bin .neq (.t 253) (.c (.int .i64 0))), (some (252, false))⟩, ⟨(some 255), (.pick (.t 252) (.c (.bool true)) (.t 254)), none⟩, ⟨(some 256), (.mov (.t 255)), none⟩, ⟨(some 257), (.mov (.t 20)), (some (256, false))⟩, ⟨(some 258), (.mov (.t 257)), (some (256, false))⟩, ⟨(some 259), (.mov (.t 22)), (some (258, true))⟩, ⟨(some 260), (.not (.t 259)), (some (258, true))⟩, ⟨(some 261), (.mov (.t 260)), (some (258, true))⟩, ⟨(some 262), (.mov (.t 25)), (some (261, false))⟩, ⟨(some 263), (.bin .neq (.t 262) (.c (.int .i64 0))), (some (261, false))⟩, ⟨(some 264), (.pick (.t 261) (.c (.bool true)) (.t 263)), (some (258, true))⟩, ⟨(some 265), (.mov (.t 264)), (some (258, true))⟩, ⟨(some 266), (.mov (.t 27)), (some (265, false))⟩, ⟨(some 267), (.bin .neq (.t 266) (.c (.int .i64 0))), (some (265, false))⟩, ⟨(some 268), (.pick (.t 265) (.c (.bool true)) (.t 267)), (some (258, true))⟩, ⟨(some 269), (.mov (.t 268)), (some (258, true))⟩, ⟨(some 270), (.mov (.t 26)), (some (269, false))⟩, ⟨(some 271), (.mov (.t 24)), (some (269, false))⟩, ⟨(some 272), (.bin .gtr (.t 270) (.t 271)), (some (269, false))⟩, ⟨(some 273), (.pick (.t 269) (.c (.bool true)) (.t 272)), (some (258, true))⟩, ⟨(some 274), (.pick (.t 258) (.t 273) (.c (.bool false))), (some (256, false))⟩, ⟨(some 275), (.pick (.t 256) (.c (.bool true)) (.t 274)), none⟩])
                  (.cond (.t 275)
                   (.seq
                    (.region [⟨(some 10), (.mov (.c (.bool false))), none⟩])
                    .ret)
                   .skip))
                 (.seq
                  (.draw 9 [⟨⟨(some 276), (.ld true 10 (.t 11)), none⟩, 0, false, []⟩, ⟨⟨(some 278), (.ld true 10 (.t 5)), none⟩, 2, false, []⟩, ⟨⟨(some 277), (.call (.c (.func (.func 53) #[] #[])) [(.t 276)]), none⟩, 1, true, [2]⟩, ⟨⟨(some 279), (.call (.c (.func (.func 53) #[] #[])) [(.t 278)]), none⟩, 3, true, []⟩, ⟨⟨(some 280), (.bin .leq (.t 277) (.t 279)), none⟩, 4, false, []⟩, ⟨⟨(some 281), (.mov (.t 280)), none⟩, 5, false, []⟩, ⟨⟨(some 282), (.call (.c (.func (.func 16) #[] #[])) []), (some (281, true))⟩, 6, true, []⟩, ⟨⟨(some 283), (.pick (.t 281) (.t 282) (.c (.bool false))), none⟩, 7, false, []⟩, ⟨⟨(some 10), (.mov (.t 283)), none⟩, 8, false, []⟩])
                  .ret))))))))
theorem a12_eq : a12 =
  (.seq
   (.region [⟨(some 5), (.box (.t 0)), none⟩, ⟨(some 10), (.mov (.c (.bool false))), none⟩])
   (.seq
    (.seq
     (.region [⟨(some 28), (.ld true 10 (.t 5)), none⟩, ⟨(some 29), (.call (.c (.func (.func 47) #[] #[])) [(.t 28)]), none⟩, ⟨(some 30), (.not (.t 29)), none⟩, ⟨(some 31), (.mov (.t 30)), none⟩, ⟨(some 32), (.ld true 10 (.t 5)), (some (31, false))⟩, ⟨(some 33), (.call (.c (.func (.func 37) #[] #[])) [(.t 32)]), (some (31, false))⟩, ⟨(some 34), (.bin .eql (.t 33) (.c (.int .i64 0))), (some (31, false))⟩, ⟨(some 35), (.pick (.t 31) (.c (.bool true)) (.t 34)), none⟩])
     (.cond (.t 35)
      (.seq
       (.region [⟨(some 36), (.call (.c (.func (.func 16) #[] #[])) []), none⟩, ⟨(some 10), (.mov (.t 36)), none⟩])
       .ret)
      .skip))
    (.seq
     (.region [⟨(some 37), (.ld true 10 (.t 5)), none⟩, ⟨(some 11), (.new [(.int .i64 0), (.int .i64 0), (.int .i64 0), (.int .i64 0), (.int .i64 0), (.int .i64 0), (.int .i64 0), (.int .i64 0), (.slice none 0 0), (.slice none 0 0)]), none⟩, ⟨none, (.st 10 (.t 11) (.t 37)), none⟩])
     (.seq
      (.region [⟨(some 38), (.fa 0 (.t 11)), none⟩, ⟨(some 12), (.mov (.t 38)), none⟩])
      (.seq
       (.region [⟨(some 39), (.mov (.t 3)), none⟩, ⟨(some 40), (.cvi .i64 (.t 39)), none⟩, ⟨(some 41), (.bin .rem (.t 40) (.c (.int .i64 200))), none⟩, ⟨(some 13), (.mov (.t 41)), none⟩])
       (.seq
        (.region [⟨(some 42), (.fa 9 (.t 5)), none⟩, ⟨(some 43), (.ld false 1 (.t 42)), none⟩, ⟨(some 44), (.call (.c (.func (.func 28) #[] #[])) [(.t 43)]), none⟩, ⟨(some 45), (.fa 9 (.t 11)), none⟩, ⟨none, (.st 1 (.t 45) (.t 44)), none⟩])
        (.seq
         (.region [⟨(some 46), (.bsl 0 [] []), none⟩, ⟨(some 47), (.fa 8 (.t 5)), none⟩, ⟨(some 48), (.ld false 1 (.t 47)), none⟩, ⟨(some 49), (.app 1 24 (.t 46) (.t 48)), none⟩, ⟨(some 50), (.fa 8 (.t 11)), none⟩, ⟨none, (.st 1 (.t 50) (.t 49)), none⟩])
         (.seq
          (.seq
           (.region [⟨(some 51), (.mov (.t 1)), none⟩, ⟨(some 52), (.bin .rem (.t 51) (.c (.int .u8 9))), none⟩])
           (.block 0
            (.seq
             (.region [⟨(some 103), (.bin .eql (.t 52) (.c (.int .u8 0))), none⟩, ⟨(some 102), (.mov (.t 103)), none⟩])
             (.cond (.t 102)
              arm0
              (.seq
               (.region [⟨(some 115), (.bin .eql (.t 52) (.c (.int .u8 1))), none⟩, ⟨(some 114), (.mov (.t 115)), none⟩])
               (.cond (.t 114)
                arm1
                (.seq
                 (.region [⟨(some 127), (.bin .eql (.t 52) (.c (.int .u8 2))), none⟩, ⟨(some 126), (.mov (.t 127)), none⟩])
                 (.cond (.t 126)
                  arm2
                  (.seq
                   (.region [⟨(some 139), (.bin .eql (.t 52) (.c (.int .u8 3))), none⟩, ⟨(some 138), (.mov (.t 139)), none⟩])
                   (.cond (.t 138)
                    arm3
                    (.seq
                     (.region [⟨(some 150), (.bin .eql (.t 52) (.c (.int .u8 4))), none⟩, ⟨(some 149), (.mov (.t 150)), none⟩])
                     (.cond (.t 149)
                      arm4
                      (.seq
                       (.region [⟨(some 162), (.bin .eql (.t 52) (.c (.int .u8 5))), none⟩, ⟨(some 161), (.mov (.t 162)), none⟩])
                       (.cond (.t 161)
                        arm5
                        (.seq
                         (.region [⟨(some 174), (.bin .eql (.t 52) (.c (.int .u8 6))), none⟩, ⟨(some 173), (.mov (.t 174)), none⟩])
                         (.cond (.t 173)
                          arm6
                          (.seq
                           (.region [⟨(some 186), (.bin .eql (.t 52) (.c (.int .u8 7))), none⟩, ⟨(some 185), (.mov (.t 186)), none⟩])
                           (.cond (.t 185)
                            arm7
                            arm8))))))))))))))))))
          tail12)))))))) := rfl

/-- What the change leaves: another day, and if it is valid, one that asks less. -/
def Fin12 (D : Dy) (H2 : Heap) (A : Heap) : Prop :=
  ∃ (D' : Dy) (v8 w' : Value), Ge H2 A ∧ H2.next < A.next ∧ A.get H2.next = .cells true [.int .i64 D'.law.piece, .int .i64 D'.law.drive, .int .i64 D'.law.spread, .int .i64 D'.law.brk, .int .i64 D'.law.on, .int .i64 D'.law.off, .int .i64 D'.law.least, .int .i64 D'.law.pieces, v8, w'] 10 ∧ DayAt A v8 w' D' ∧ D'.Thin ∧ (checkD D' = 0 → EasyD D D')

theorem tail12_spec {D : Dy} {b w : Value} {H H2 A : Heap} {m n1 N : Nat} {t : Nat → Value} (h : DayAt H b w D) (hT : D.Thin) (hc : checkD D = 0) (h8 : segN D ≤ 8) (hpos : 0 < segN D) (hG : Gl H) (hwk : ∀ A, Ge H A → AFun Tryd.prog 16 [] A (fun r B => r = .bool true ∧ Ge A B))
    (G2 : Ge H H2) (hn1 : n1 < H2.next) (k1 : H2.get n1 = .cells true [.int .i64 D.law.piece, .int .i64 D.law.drive, .int .i64 D.law.spread, .int .i64 D.law.brk, .int .i64 D.law.on, .int .i64 D.law.off, .int .i64 D.law.least, .int .i64 D.law.pieces, b, w] 10)
    (t4 : t 4 = .int .u16 (m : Int)) (t5 : t 5 = .pointer (some ⟨n1, 0, none⟩)) (t11 : t 11 = .pointer (some ⟨H2.next, 0, none⟩)) (hF : Fin12 D H2 A) :
    vc Tryd.prog N none (vdrawD Tryd.prog) tail12 (bodyQ Tryd.prog r12 fun r _ => r = .bool true) ⟨t, [], A⟩ := by
  obtain ⟨D', v8, w', g, hx, kx, hDA, hT', hE⟩ := hF
  have hV := valid_of hc
  have hb := h.blocks.one
  have hw := h.walk.one
  have hv8 := hDA.blocks.one
  have hw' := hDA.walk.one
  have hseg : segsOf D.blocks = segN D := segPs_length.symm
  have h10 := segN_le hV
  have GA := G2.trans g
  have kA := g.got hn1 k1
  simp [tail12, r12, t11, kx]
  refine fcall_fun (fault36_spec (D := D') hDA hT') ?_
  rintro _ B1 ⟨rfl, gB1⟩
  have GB1 := GA.trans gB1
  by_cases hc' : checkD D' = 0
  case neg =>
    simp [hc']
    refine fcall_fun (hwk _ GB1) ?_
    rintro _ _ ⟨rfl, _⟩
    simp
  have hV' := valid_of hc'
  have hez := hE hc'
  have hn' : segN D' = segN D := by rw [segN, hez.segs]
  have hseg' : segsOf D'.blocks = segN D := by rw [← hn']; exact segPs_length.symm
  have nA : n1 < A.next := by have := g.next; omega
  have kB1 := gB1.got nA kA
  have xB1 := gB1.got hx kx
  have nB1 := gB1.next
  simp [hc', t4, t5, kB1]
  refine fcall_fun (set_spec (h.ge GB1) hT hV) ?_
  rintro vs C1 ⟨os, gC1⟩
  have GC1 := GB1.trans gC1
  have hsl := setB_length (n := segN D) (m := m) h10
  have is1 : IntsAt C1 vs (setB (segN D) m) := own_ints os (by omega)
  have hdm := setB_duty (n := segN D) (m := m) hpos
  obtain ⟨hlt, hm0⟩ := duty_mask (D := D) (xs := setB (segN D) m) (by rw [hseg]; exact hdm)
  have hem : errD D (setB (segN D) m) = 0 := by simp [errD, hc, hseg, hdm]
  have hem' : errD D' (setB (segN D) m) = 0 := by simp [errD, hc', hseg', hdm]
  have hleg : legalD D (setB (segN D) m) = true → legalD D' (setB (segN D) m) = true ∧ payD D' (setB (segN D) m) ≤ payD D (setB (segN D) m) := fun hl => easy_legal hV hV' hez hm0 hlt hl
  have hbest := bestLen_le hc hc' hez h8
  generalize hX : setB (segN D) m = X at *
  have kC1 := gC1.got (n := n1) (by omega) kB1
  have xC1 := gC1.got (n := H2.next) (by omega) xB1
  have nC1 := gC1.next
  have iv := IntsAt.one is1
  have hDC1 : DayAt C1 v8 w' D' := hDA.ge (gB1.trans gC1)
  simp [t5, kC1]
  refine fcall_fun (day18_spec (h.ge GC1) hT) ?_
  rintro _ C2 ⟨b2, w2, rfl, hd2, gC2⟩
  simp
  refine fcall_fun (list_spec (IntsAt.ge is1 gC2) (by omega)) ?_
  rintro v3 C3 ⟨o3, gC3⟩
  simp
  refine fcall_fun (legal_spec (hd2.ge gC3) hT (own_ints o3 (by omega)) (by omega)) ?_
  rintro _ C4 ⟨rfl, gC4⟩
  have g14 := gC2.trans (gC3.trans gC4)
  have GC4 := GC1.trans g14
  have n14 := g14.next
  have xC4 := g14.got (n := H2.next) (by omega) xC1
  have kC4 := g14.got (n := n1) (by omega) kC1
  simp [t11, xC4]
  refine fcall_fun (day18_spec (D := D') (hDC1.ge g14) hT') ?_
  rintro _ C5 ⟨b5, w5, rfl, hd5, gC5⟩
  simp
  refine fcall_fun (list_spec (IntsAt.ge is1 (g14.trans gC5)) (by omega)) ?_
  rintro v6 C6 ⟨o6, gC6⟩
  simp
  refine fcall_fun (legal_spec (hd5.ge gC6) hT' (own_ints o6 (by omega)) (by omega)) ?_
  rintro _ C7 ⟨rfl, gC7⟩
  have g17 := g14.trans (gC5.trans (gC6.trans gC7))
  have GC7 := GC1.trans g17
  have n17 := g17.next
  have xC7 := g17.got (n := H2.next) (by omega) xC1
  have kC7 := g17.got (n := n1) (by omega) kC1
  simp [t5, kC7]
  refine fcall_fun (day18_spec (h.ge GC7) hT) ?_
  rintro _ C8 ⟨b8, w8, rfl, hd8, gC8⟩
  simp
  refine fcall_fun (list_spec (IntsAt.ge is1 (g17.trans gC8)) (by omega)) ?_
  rintro v9 C9 ⟨o9, gC9⟩
  simp
  refine fcall_fun (payF_spec (hd8.ge gC9) hT (own_ints o9 (by omega)) (by omega)) ?_
  rintro _ E1 ⟨rfl, gE1⟩
  have g1E := g17.trans (gC8.trans (gC9.trans gE1))
  have GE1 := GC1.trans g1E
  have n1E := g1E.next
  have xE1 := g1E.got (n := H2.next) (by omega) xC1
  have kE1 := g1E.got (n := n1) (by omega) kC1
  simp [t11, xE1]
  refine fcall_fun (day18_spec (D := D') (hDC1.ge g1E) hT') ?_
  rintro _ E2 ⟨bE, wE, rfl, hdE, gE2⟩
  simp
  refine fcall_fun (list_spec (IntsAt.ge is1 (g1E.trans gE2)) (by omega)) ?_
  rintro vE E3 ⟨oE, gE3⟩
  simp
  refine fcall_fun (payF_spec (hdE.ge gE3) hT' (own_ints oE (by omega)) (by omega)) ?_
  rintro _ E4 ⟨rfl, gE4⟩
  have g1F := g1E.trans (gE2.trans (gE3.trans gE4))
  have GE4 := GC1.trans g1F
  have n1F := g1F.next
  have xE4 := g1F.got (n := H2.next) (by omega) xC1
  have kE4 := g1F.got (n := n1) (by omega) kC1
  have hp : legalD D X = true → payE D X = 0 := fun hl => by simp [payE, hem, hl]
  have hp' : legalD D' X = true → payE D' X = 0 := fun hl => by simp [payE, hem', hl]
  rw [hem, hem']
  have hnn : n1 ≠ E4.next := by omega
  have hcond : (legalD D X = false) ∨ (legalD D X = true ∧ legalD D' X = true ∧ payE D X = 0 ∧ payE D' X = 0 ∧ ¬ payD D X < payD D' X) := by
    cases hl : legalD D X
    · exact .inl rfl
    · obtain ⟨h1, h2⟩ := hleg hl
      exact .inr ⟨rfl, h1, hp hl, hp' h1, by omega⟩
  rcases hcond with hl | ⟨hl, hl', hpe, hpe', hpl⟩
  case' inl => simp [hl, t5, t11, xE4, kE4]
  case' inr => simp [hl, hl', hpe, hpe', hpl, t5, t11, xE4, kE4]
  all_goals
    have g9 : Ge E4 (⟨E4.get, E4.next + 9⟩ : Heap) := Ge.grow_le (by omega) (Ge.refl _)
    refine fcall_fun (best53_spec (D := D') (hDC1.ge (g1F.trans g9)) hT' (hG.ge (GE4.trans g9))) ?_
    rintro _ M1 ⟨rfl, gM1⟩
    have gEM := g9.trans gM1
    have kM1 := gEM.got (n := n1) (by omega) kE4
    simp [t5, kM1]
    refine fcall_fun (best53_spec (h.ge (GE4.trans gEM)) hT (hG.ge (GE4.trans gEM))) ?_
    rintro _ M2 ⟨rfl, gM2⟩
    simp [hbest]
    refine fcall_fun (hwk _ (GE4.trans (gEM.trans gM2))) ?_
    rintro _ _ ⟨rfl, _⟩
    simp [hbest]

end Go.Proofs.YtllkhaabcfnlpaaDoor


/-
  Rows of one's own, each by itself.
-/
namespace Go.Proofs.YtllkhaabcfnlpaaDoor
open Go Go.Ab

/-- Rows of one's own, each by itself. -/
structure RowsX (A : Heap) (lo : Nat) (v : Value) (rs : List (List Int)) (vs : List Value) : Prop where
  own : OwnSl A lo v vs
  len : vs.length = rs.length
  row : ∀ k (h : k < rs.length), ∃ u, vs[k]? = some u ∧ OwnSl A lo u (rs[k].map (.int .i64)) ∧ ∀ m, slName u = some m → slName v ≠ some m
  apart : ∀ (i j : Nat) (u u' : Value) (m : Nat), i ≠ j → vs[i]? = some u → vs[j]? = some u' → slName u = some m → slName u' ≠ some m

theorem RowsX.keep {A B : Heap} {lo : Nat} {v : Value} {rs : List (List Int)} {vs : List Value} (h : RowsX A lo v rs vs) (hn : A.next ≤ B.next) (hk : ∀ n, lo ≤ n → n < A.next → B.get n = A.get n) : RowsX B lo v rs vs := by
  refine ⟨h.own.keep hn fun n hs => hk n (h.own.names hs).1 (h.own.names hs).2, h.len, fun k hk2 => ?_, h.apart⟩
  obtain ⟨u, h1, h2, h3⟩ := h.row k hk2
  exact ⟨u, h1, h2.keep hn fun n hs => hk n (h2.names hs).1 (h2.names hs).2, h3⟩
theorem RowsX.rows {A : Heap} {lo : Nat} {v : Value} {rs : List (List Int)} {vs : List Value} (h : RowsX A lo v rs vs) (hl : rs.length < 2 ^ 63) (hs : ∀ r ∈ rs, r.length < 2 ^ 63) : RowsAt A v rs :=
  ⟨vs, by rw [← h.len]; exact h.own.slr, hl, fun i hi => let ⟨u, h1, h2, _⟩ := h.row i hi; ⟨u, h1, own_ints h2 (hs _ (List.getElem_mem hi))⟩⟩

theorem rowsX_spec {H : Heap} {v : Value} {xs : List (List Int)} (hv : RowsAt H v xs) (hl : xs.length ≤ 2 ^ 20) (hll : ∀ l ∈ xs, l.length ≤ 2 ^ 20) : AFun Tryd.prog 28 [v] H (fun r B => (∃ vs, RowsX B H.next r xs vs) ∧ Ge H B) := by
  refine AFun.mk ok28 hm (Nat.le_of_ble_eq_true rfl) ?_
  have h62 := hv.lt
  simp [a28, r28]
  refine floop_intro (fun z => z.d = [] ∧ Ge H z.H ∧ z.t 0 = v ∧ ∃ i : Nat, i ≤ xs.length ∧ z.t 4 = .int .i64 (i : Int) ∧ ∃ vs, RowsX z.H H.next (z.t 3) (xs.take i) vs) (fun z => xs.length - (intOf (z.t 4)).toNat) ?_ ?_
  · exact ⟨rfl, by simp, by simp, 0, by simp, by simp, [], ⟨.inl ⟨by simp, rfl⟩, by simp, fun k hk => by simp at hk, fun i j u u' m _ h => by simp at h⟩⟩
  rintro ⟨t, _, A⟩ ⟨rfl, g, t0, i, hi, t4, vs, hR⟩
  dsimp only at g t0 t4 hR
  generalize t3 : t 3 = v3 at hR
  simp [t0, t4, hv.lenV]
  refine fcond_intro (fun hc => ?_) (fun hc => ?_)
  case refine_2 =>
    have h1 : i = xs.length := by simp at hc; omega
    subst h1
    rw [List.take_length] at hR
    simp [t3]
    exact ⟨⟨vs, hR⟩, g⟩
  have h1 : i < xs.length := by simpa using hc
  obtain ⟨p, u, e1, e2, e3⟩ := hv.atGe g h1
  have hxi := hll _ (List.getElem_mem h1)
  simp [t0, t4, e1, e2]
  refine fcall_fun (list_spec (e3.ge g) hxi) ?_
  rintro x B ⟨hx, gB⟩
  have hx1 := hx.one
  have gn := g.next
  have gBn := gB.next
  have hvl : vs.length = i := by rw [hR.len, List.length_take]; omega
  simp [t3, hx1, one_cells]
  have gB2 : Ge A (B.new (.cells true [x] 1)) := gB.newOf _
  refine fapp_own (lo := H.next) (x := x) (hR.own.ge gB2) (slCells_new (rw := true) (c := 1) (by simp)) hx1 (by omega) (by omega) (by simp) (by omega) (by simp; omega) fun u' C k1 k2 k3 k4 => ?_
  have h3 : ∀ m, slName v3 = some m → H.next ≤ m ∧ m < A.next := fun m hm => hR.own.names hm
  have gC : Ge H C := by
    refine ⟨by omega, fun n hn => ?_⟩
    have e1 : n ≠ B.next := by omega
    rw [k4 n (by omega) (fun e => by have := (h3 n e).1; omega)]
    simp [e1, gB.get n (by omega), g.get n hn]
  have kC : ∀ n, n < B.next → slName v3 ≠ some n → C.get n = B.get n := fun n hn hne => by
    have e1 : n ≠ B.next := by omega
    rw [k4 n (by omega) hne]; simp [e1]
  simp [t4, add_in (x := i) (y := 1) (by omega) (by omega)]
  refine ⟨⟨gC, t0, i + 1, by omega, by omega, vs ++ [x], k1, ?_, fun k hk => ?_, fun a c ua uc q hac ha hc' hq => ?_⟩, by omega⟩
  · rw [List.length_append, hvl, List.length_take]; simp; omega
  · rw [List.length_take] at hk
    have htk : (xs.take (i + 1))[k]'(by rw [List.length_take]; omega) = xs[k]'(by omega) := by simp
    rw [htk]
    by_cases e : k < i
    · obtain ⟨u0, m1, m2, m3⟩ := hR.row k (by rw [List.length_take]; omega)
      have htk2 : (xs.take i)[k]'(by rw [List.length_take]; omega) = xs[k]'(by omega) := by simp
      rw [htk2] at m2
      refine ⟨u0, by rw [List.getElem?_append_left (by omega)]; exact m1, m2.keep (by omega) fun n hn => ?_, fun q hq => ?_⟩
      · have := (m2.names hn).2
        rw [kC n (by omega) (m3 n hn), gB.get n this]
      · rw [k2]
        have := (m2.names hq).2
        intro e; cases e; omega
    · have hki : k = i := by omega
      subst hki
      refine ⟨x, by rw [List.getElem?_append_right (by omega), hvl]; simp, (hx.lower (lo' := H.next) (by omega)).keep (by omega) fun n hn => ?_, fun q hq => ?_⟩
      · have hnn := hx.names hn
        refine kC n hnn.2 fun e => ?_
        have := (h3 n e).2; omega
      · rw [k2]
        have := (hx.names hq).2
        intro e; cases e; omega
  · by_cases ea : a < vs.length
    · rw [List.getElem?_append_left ea] at ha
      by_cases ec : c < vs.length
      · rw [List.getElem?_append_left ec] at hc'
        exact hR.apart a c ua uc q hac ha hc' hq
      · rw [List.getElem?_append_right (by omega)] at hc'
        have hcx : uc = x := by
          have hl := (List.getElem?_eq_some_iff.1 hc').1
          have : c - vs.length = 0 := by simp at hl; omega
          rw [this] at hc'; simpa using hc'.symm
        subst hcx
        obtain ⟨u0, m1, m2, _⟩ := hR.row a (by rw [List.length_take]; omega)
        rw [m1] at ha; cases ha
        intro e
        have := (m2.names hq).2
        have := (hx.names e).1
        omega
    · rw [List.getElem?_append_right (by omega)] at ha
      have hl := (List.getElem?_eq_some_iff.1 ha).1
      have ha0 : a - vs.length = 0 := by simp at hl; omega
      rw [ha0] at ha
      have hax : ua = x := by simpa using ha.symm
      subst hax
      by_cases ec : c < vs.length
      · rw [List.getElem?_append_left ec] at hc'
        obtain ⟨u0, m1, m2, _⟩ := hR.row c (by rw [List.length_take]; omega)
        rw [m1] at hc'; cases hc'
        intro e
        have := (m2.names e).2
        have := (hx.names hq).1
        omega
      · have hl2 := (List.getElem?_eq_some_iff.1 hc').1
        simp at hl2 hl
        omega

end Go.Proofs.YtllkhaabcfnlpaaDoor


/-
  DutyEasier: the changes of the law's numbers.
-/
namespace Go.Proofs.YtllkhaabcfnlpaaDoor
open Go Go.Ab

section
variable {P : Program} {t : Nat → Value} {H : Heap} {N y : Nat} {k : IntKind} {m n : Int} {d : Option Tmp} {T U ty : TypeId} {pos : String} {af : Array Edge} {g : Option (Nat × Bool)}
theorem aval_minC (hy : t y = .int k n) (h2 : y < N) :
    aval P t H (.gen N ⟨d, .call ⟨.builtin .min, #[.const (.int k m), .tmp y], #[T, U]⟩, ty, pos, af, g⟩) = some (.int k (min m n)) := by
  refine aval_gen ?_ rfl fun w => ?_
  · simp [Op.operands, Call.operands, flatO, hy, h2, flat, flat1]
  · simp [execOp, resolve, invoke, builtin, Builtin.min_, Builtin.min2, evO, hy]
    split <;> omega
theorem aval_nilc {a : Addr} {x : Opd} (h : x.ev t = .pointer (some a)) : aval P t H (.nilc x) = some (.pointer (some a)) := by
  simp only [aval, h]
end

/-- What the change begins with. -/
structure Pre12 (D : Dy) (H2 A : Heap) (v8 w' : Value) (vs ws : List Value) : Prop where
  ge : Ge H2 A
  lt : H2.next < A.next
  cell : A.get H2.next = .cells true [.int .i64 D.law.piece, .int .i64 D.law.drive, .int .i64 D.law.spread, .int .i64 D.law.brk, .int .i64 D.law.on, .int .i64 D.law.off, .int .i64 D.law.least, .int .i64 D.law.pieces, v8, w'] 10
  own : OwnSl A (H2.next + 1) v8 vs
  len : vs.length = D.blocks.length
  rel : ∀ i (h : i < D.blocks.length), ∃ u, vs[i]? = some u ∧ RelsAt H2 u D.blocks[i]
  walk : RowsX A (H2.next + 1) w' D.walk ws
  ap : ∀ n, slName v8 = some n → slName w' ≠ some n ∧ ∀ (k : Nat) (u : Value), ws[k]? = some u → slName u ≠ some n

theorem rels_blks {A H2 : Heap} {lo : Nat} {v : Value} {vs : List Value} {bs : List (List Rl)} (h : OwnSl A lo v vs) (hl : vs.length = bs.length) (h63 : bs.length < 2 ^ 63) (hr : ∀ i (h : i < bs.length), ∃ u, vs[i]? = some u ∧ RelsAt H2 u bs[i]) (g : Ge H2 A) : BlksAt A v bs :=
  ⟨vs, by rw [← hl]; exact h.slr, h63, fun i hi => let ⟨u, h1, h2⟩ := hr i hi; ⟨u, h1, h2.ge g⟩⟩

/-- The law asks less. -/
structure EasyL (l l' : Lw) : Prop where
  piece : l.piece ≤ l'.piece
  drive : l.drive ≤ l'.drive
  spread : l.spread ≤ l'.spread
  pieces : l.pieces ≤ l'.pieces
  brk : l'.brk ≤ l.brk
  on : l'.on ≤ l.on
  off : l'.off ≤ l.off
  least : l'.least = l.least

theorem easy_law {D : Dy} {l : Lw} (h : EasyL D.law l) : EasyD D { D with law := l } :=
  ⟨rfl, fun _ _ h => h, fun _ _ _ => Int.le_refl _, fun _ _ _ => rfl, fun _ _ _ _ _ _ => Int.le_refl _, h.piece, h.drive, h.spread, h.pieces, h.brk, h.on, h.off, h.least⟩

theorem fin_law {D : Dy} {H2 A : Heap} {v8 w' : Value} {vs ws : List Value} (hT : D.Thin) (hp : Pre12 D H2 A v8 w' vs ws) (l : Lw) (h : EasyL D.law l) :
    Fin12 D H2 (A.set H2.next (.cells true [.int .i64 l.piece, .int .i64 l.drive, .int .i64 l.spread, .int .i64 l.brk, .int .i64 l.on, .int .i64 l.off, .int .i64 l.least, .int .i64 l.pieces, v8, w'] 10)) := by
  have hl1 := hT.few
  have hl2 := hT.places
  have hx := hp.lt
  have g := hp.ge.setNew (Nat.le_refl H2.next) (.cells true [.int .i64 l.piece, .int .i64 l.drive, .int .i64 l.spread, .int .i64 l.brk, .int .i64 l.on, .int .i64 l.off, .int .i64 l.least, .int .i64 l.pieces, v8, w'] 10)
  refine ⟨{ D with law := l }, v8, w', g, by simpa using hx, by simp, ⟨?_, ?_⟩, ⟨hT.few, hT.short, hT.places, hT.rows⟩, fun _ => easy_law h⟩
  · refine rels_blks (hp.own.keep (by simp) fun n hn => ?_) hp.len (show D.blocks.length < 2 ^ 63 by omega) hp.rel g
    have := (hp.own.names hn).1
    rw [Heap.set_get, if_neg (by omega)]
  · exact (hp.walk.keep (by simp) fun n h1 _ => by rw [Heap.set_get, if_neg (by omega)]).rows (show D.walk.length < 2 ^ 63 by omega) fun r hr => by have := hT.rows r hr; omega

section
variable {D : Dy} {H2 A : Heap} {v8 w' : Value} {vs ws : List Value} {t : Nat → Value} {N n : Nat} {Q : APost}
theorem arm0_spec (hV : Valid D) (hT : D.Thin) (hp : Pre12 D H2 A v8 w' vs ws) (hn : n < 200) (t12 : t 12 = .pointer (some ⟨H2.next, 0, none⟩)) (t13 : t 13 = .int .i64 (n : Int))
    (K : ∀ t' A', t' 4 = t 4 → t' 5 = t 5 → t' 11 = t 11 → Fin12 D H2 A' → Q .normal ⟨t', [], A'⟩) : vc Tryd.prog N none (vdrawD Tryd.prog) arm0 Q ⟨t, [], A⟩ := by
  have hl := law_bounds hV
  have hc := hp.cell
  simp [arm0, t12, t13]
  rw [aval_nilc (a := ⟨H2.next, 0, none⟩) (by simp [t12])]
  simp [hc, t13, add_in (x := D.law.piece) (y := (n : Int)) (by omega) (by omega)]
  rw [aval_minC (k := .i64) (n := D.law.piece + n) (by simp) (by decide)]
  simp
  rw [aval_nilc (a := ⟨H2.next, 0, none⟩) (by simp [t12])]
  simp [hc]
  exact K _ _ (by simp) (by simp) (by simp) (fin_law hT hp { D.law with piece := min 3000 (D.law.piece + n) } ⟨by simp; omega, Int.le_refl _, Int.le_refl _, Int.le_refl _, Int.le_refl _, Int.le_refl _, Int.le_refl _, rfl⟩)
theorem arm1_spec (hV : Valid D) (hT : D.Thin) (hp : Pre12 D H2 A v8 w' vs ws) (hn : n < 200) (t12 : t 12 = .pointer (some ⟨H2.next, 0, none⟩)) (t13 : t 13 = .int .i64 (n : Int))
    (K : ∀ t' A', t' 4 = t 4 → t' 5 = t 5 → t' 11 = t 11 → Fin12 D H2 A' → Q .normal ⟨t', [], A'⟩) : vc Tryd.prog N none (vdrawD Tryd.prog) arm1 Q ⟨t, [], A⟩ := by
  have hl := law_bounds hV
  have hc := hp.cell
  simp [arm1, t12, t13]
  rw [aval_nilc (a := ⟨H2.next, 0, none⟩) (by simp [t12])]
  simp [hc, t13, add_in (x := D.law.drive) (y := (n : Int)) (by omega) (by omega)]
  rw [aval_minC (k := .i64) (n := D.law.drive + n) (by simp) (by decide)]
  simp
  rw [aval_nilc (a := ⟨H2.next, 0, none⟩) (by simp [t12])]
  simp [hc]
  exact K _ _ (by simp) (by simp) (by simp) (fin_law hT hp { D.law with drive := min 3000 (D.law.drive + n) } ⟨Int.le_refl _, by simp; omega, Int.le_refl _, Int.le_refl _, Int.le_refl _, Int.le_refl _, Int.le_refl _, rfl⟩)
theorem arm2_spec (hV : Valid D) (hT : D.Thin) (hp : Pre12 D H2 A v8 w' vs ws) (hn : n < 200) (t12 : t 12 = .pointer (some ⟨H2.next, 0, none⟩)) (t13 : t 13 = .int .i64 (n : Int))
    (K : ∀ t' A', t' 4 = t 4 → t' 5 = t 5 → t' 11 = t 11 → Fin12 D H2 A' → Q .normal ⟨t', [], A'⟩) : vc Tryd.prog N none (vdrawD Tryd.prog) arm2 Q ⟨t, [], A⟩ := by
  have hl := law_bounds hV
  have hc := hp.cell
  simp [arm2, t12, t13]
  rw [aval_nilc (a := ⟨H2.next, 0, none⟩) (by simp [t12])]
  simp [hc, t13, add_in (x := D.law.spread) (y := (n : Int)) (by omega) (by omega)]
  rw [aval_minC (k := .i64) (n := D.law.spread + n) (by simp) (by decide)]
  simp
  rw [aval_nilc (a := ⟨H2.next, 0, none⟩) (by simp [t12])]
  simp [hc]
  exact K _ _ (by simp) (by simp) (by simp) (fin_law hT hp { D.law with spread := min 3000 (D.law.spread + n) } ⟨Int.le_refl _, Int.le_refl _, by simp; omega, Int.le_refl _, Int.le_refl _, Int.le_refl _, Int.le_refl _, rfl⟩)
theorem arm3_spec (hV : Valid D) (hT : D.Thin) (hp : Pre12 D H2 A v8 w' vs ws) (hn : n < 200) (t12 : t 12 = .pointer (some ⟨H2.next, 0, none⟩)) (t13 : t 13 = .int .i64 (n : Int))
    (K : ∀ t' A', t' 4 = t 4 → t' 5 = t 5 → t' 11 = t 11 → Fin12 D H2 A' → Q .normal ⟨t', [], A'⟩) : vc Tryd.prog N none (vdrawD Tryd.prog) arm3 Q ⟨t, [], A⟩ := by
  have hl := law_bounds hV
  have hc := hp.cell
  simp [arm3, t12, t13]
  rw [aval_nilc (a := ⟨H2.next, 0, none⟩) (by simp [t12])]
  simp [hc, t13, add_in (x := D.law.pieces) (y := 1) (by omega) (by omega)]
  rw [aval_minC (k := .i64) (n := D.law.pieces + 1) (by simp) (by decide)]
  simp
  rw [aval_nilc (a := ⟨H2.next, 0, none⟩) (by simp [t12])]
  simp [hc]
  exact K _ _ (by simp) (by simp) (by simp) (fin_law hT hp { D.law with pieces := min 3 (D.law.pieces + 1) } ⟨Int.le_refl _, Int.le_refl _, Int.le_refl _, by simp; omega, Int.le_refl _, Int.le_refl _, Int.le_refl _, rfl⟩)
theorem arm4_spec (hV : Valid D) (hT : D.Thin) (hp : Pre12 D H2 A v8 w' vs ws) (hn : n < 200) (t12 : t 12 = .pointer (some ⟨H2.next, 0, none⟩)) (t13 : t 13 = .int .i64 (n : Int))
    (K : ∀ t' A', t' 4 = t 4 → t' 5 = t 5 → t' 11 = t 11 → Fin12 D H2 A' → Q .normal ⟨t', [], A'⟩) : vc Tryd.prog N none (vdrawD Tryd.prog) arm4 Q ⟨t, [], A⟩ := by
  have hl := law_bounds hV
  have hc := hp.cell
  simp [arm4, t12, t13]
  rw [aval_nilc (a := ⟨H2.next, 0, none⟩) (by simp [t12])]
  simp [hc, t13, sub_in (x := D.law.brk) (y := (n : Int)) (by omega) (by omega)]
  rw [aval_maxC (k := .i64) (n := D.law.brk - n) (by simp) (by decide)]
  simp
  rw [aval_nilc (a := ⟨H2.next, 0, none⟩) (by simp [t12])]
  simp [hc]
  exact K _ _ (by simp) (by simp) (by simp) (fin_law hT hp { D.law with brk := max 1 (D.law.brk - n) } ⟨Int.le_refl _, Int.le_refl _, Int.le_refl _, Int.le_refl _, by simp; omega, Int.le_refl _, Int.le_refl _, rfl⟩)
theorem arm5_spec (hV : Valid D) (hT : D.Thin) (hp : Pre12 D H2 A v8 w' vs ws) (hn : n < 200) (t12 : t 12 = .pointer (some ⟨H2.next, 0, none⟩)) (t13 : t 13 = .int .i64 (n : Int))
    (K : ∀ t' A', t' 4 = t 4 → t' 5 = t 5 → t' 11 = t 11 → Fin12 D H2 A' → Q .normal ⟨t', [], A'⟩) : vc Tryd.prog N none (vdrawD Tryd.prog) arm5 Q ⟨t, [], A⟩ := by
  have hl := law_bounds hV
  have hc := hp.cell
  simp [arm5, t12, t13]
  rw [aval_nilc (a := ⟨H2.next, 0, none⟩) (by simp [t12])]
  simp [hc, t13, sub_in (x := D.law.on) (y := (n : Int)) (by omega) (by omega)]
  rw [aval_maxC (k := .i64) (n := D.law.on - n) (by simp) (by decide)]
  simp
  rw [aval_nilc (a := ⟨H2.next, 0, none⟩) (by simp [t12])]
  simp [hc]
  exact K _ _ (by simp) (by simp) (by simp) (fin_law hT hp { D.law with on := max 0 (D.law.on - n) } ⟨Int.le_refl _, Int.le_refl _, Int.le_refl _, Int.le_refl _, Int.le_refl _, by simp; omega, Int.le_refl _, rfl⟩)
theorem arm6_spec (hV : Valid D) (hT : D.Thin) (hp : Pre12 D H2 A v8 w' vs ws) (hn : n < 200) (t12 : t 12 = .pointer (some ⟨H2.next, 0, none⟩)) (t13 : t 13 = .int .i64 (n : Int))
    (K : ∀ t' A', t' 4 = t 4 → t' 5 = t 5 → t' 11 = t 11 → Fin12 D H2 A' → Q .normal ⟨t', [], A'⟩) : vc Tryd.prog N none (vdrawD Tryd.prog) arm6 Q ⟨t, [], A⟩ := by
  have hl := law_bounds hV
  have hc := hp.cell
  simp [arm6, t12, t13]
  rw [aval_nilc (a := ⟨H2.next, 0, none⟩) (by simp [t12])]
  simp [hc, t13, sub_in (x := D.law.off) (y := (n : Int)) (by omega) (by omega)]
  rw [aval_maxC (k := .i64) (n := D.law.off - n) (by simp) (by decide)]
  simp
  rw [aval_nilc (a := ⟨H2.next, 0, none⟩) (by simp [t12])]
  simp [hc]
  exact K _ _ (by simp) (by simp) (by simp) (fin_law hT hp { D.law with off := max 0 (D.law.off - n) } ⟨Int.le_refl _, Int.le_refl _, Int.le_refl _, Int.le_refl _, Int.le_refl _, Int.le_refl _, by simp; omega, rfl⟩)
end

end Go.Proofs.YtllkhaabcfnlpaaDoor


/-
  DutyEasier: a shorter walk.
-/
namespace Go.Proofs.YtllkhaabcfnlpaaDoor
open Go Go.Ab

theorem rem_int {a c : Nat} (hc : 0 < c) : binI BinOp.rem (.int .i64 (a : Int)) (.int .i64 (c : Int)) = some (.int .i64 ((a % c : Nat) : Int)) := by
  have e : binI BinOp.rem (.int .i64 (a : Int)) (.int .i64 (c : Int)) = if (c : Int) = 0 then none else some (.int .i64 ((a : Int).tmod c)) := rfl
  have e2 : ((a : Int).tmod c) = ((a % c : Nat) : Int) := (Int.ofNat_tmod a c).symm
  rw [e, if_neg (by omega), e2]

/-- The walk is shorter. -/
def walkS (D : Dy) (a k : Nat) (x : Int) : Dy := { D with walk := D.walk.set a (((D.walk[a]?).getD []).set k x) }

theorem walkS_easy {D : Dy} {a k : Nat} {x : Int} (hx : ∀ (h : a < D.walk.length) (h2 : k < D.walk[a].length), x ≤ D.walk[a][k]) : EasyD D (walkS D a k x) := by
  refine ⟨rfl, fun _ _ h => h, fun _ _ _ => Int.le_refl _, fun _ _ _ => rfl, fun b n c q _ _ => ?_, Int.le_refl _, Int.le_refl _, Int.le_refl _, Int.le_refl _, Int.le_refl _, Int.le_refl _, Int.le_refl _, rfl⟩
  have hrel : ∀ b n, (walkS D a k x).rel b n = D.rel b n := fun _ _ => rfl
  unfold Dy.walkOf
  rw [hrel, hrel]
  simp only [walkS]
  by_cases e : a = (D.rel b n).place.toNat
  · subst e
    by_cases hl : (D.rel b n).place.toNat < D.walk.length
    · simp only [List.getElem?_set_self hl, List.getElem?_eq_getElem hl, Option.getD_some, Option.bind_some]
      by_cases e2 : k = (D.rel c q).place.toNat
      · subst e2
        by_cases hl2 : (D.rel c q).place.toNat < D.walk[(D.rel b n).place.toNat].length
        · rw [List.getElem?_set_self hl2, List.getElem?_eq_getElem hl2]
          exact hx hl hl2
        · rw [List.getElem?_eq_none (by rw [List.length_set]; omega), List.getElem?_eq_none (by omega)]
          exact Int.le_refl _
      · rw [List.getElem?_set_ne e2]
        exact Int.le_refl _
    · rw [List.getElem?_eq_none (by rw [List.length_set]; omega), List.getElem?_eq_none (by omega)]
      exact Int.le_refl _
  · rw [List.getElem?_set_ne e]
    exact Int.le_refl _

theorem arm7_spec {D : Dy} {H2 A : Heap} {v8 w' : Value} {vs ws : List Value} {t : Nat → Value} {N n p : Nat} {Q : APost} (hV : Valid D) (hT : D.Thin) (hp : Pre12 D H2 A v8 w' vs ws) (hn : n < 200) (hpz : p < 256) (t2 : t 2 = .int .u8 (p : Int)) (t11 : t 11 = .pointer (some ⟨H2.next, 0, none⟩)) (t13 : t 13 = .int .i64 (n : Int))
    (K : ∀ t' A', t' 4 = t 4 → t' 5 = t 5 → t' 11 = t 11 → Fin12 D H2 A' → Q .normal ⟨t', [], A'⟩) : vc Tryd.prog N none (vdrawD Tryd.prog) arm7 Q ⟨t, [], A⟩ := by
  have hc := hp.cell
  have hwl := hV.places
  have hlt := hp.lt
  have g11 : Ge A (⟨A.get, A.next + 11⟩ : Heap) := Ge.grow_le (by omega) (Ge.refl _)
  have hR := (hp.walk.keep (B := ⟨A.get, A.next + 11⟩) (by simp) fun _ _ _ => rfl)
  have hlen := hR.own.lenV
  rw [hR.len] at hlen
  have hwp : IntKind.i64.wrap (p : Int) = (p : Int) := wrap_i64n (by omega)
  obtain ⟨a, ha⟩ : ∃ a, p % D.walk.length = a := ⟨_, rfl⟩
  have ha1 : a < D.walk.length := by rw [← ha]; exact Nat.mod_lt _ (by omega)
  have hrem := rem_int (a := p) (c := D.walk.length) (by omega)
  rw [ha] at hrem
  obtain ⟨u, f1, f2, f3⟩ := hR.row a ha1
  have hsl := hR.own.slr
  obtain ⟨ptr, e1, e2⟩ := hsl.at1 (k := .i64) (i := a) (by rw [hR.len]; exact ha1)
  rw [f1] at e2
  have hrow := hV.row _ (List.getElem_mem ha1)
  simp [arm7, t2, t11, hc, hwp, hlen, hrem, e1, e2]
  obtain ⟨r, hr⟩ : ∃ r, D.walk[a] = r := ⟨_, rfl⟩
  rw [hr] at f2 hrow
  have hul := f2.lenV
  simp only [List.length_map] at hul
  obtain ⟨k, hk⟩ : ∃ k, n % r.length = k := ⟨_, rfl⟩
  have hk1 : k < r.length := by rw [← hk]; exact Nat.mod_lt _ (by omega)
  have hrem2 := rem_int (a := n) (c := r.length) (by omega)
  rw [hk] at hrem2
  have hrk := hrow.2 _ (List.getElem_mem hk1)
  have hui : IntsAt (⟨A.get, A.next + 11⟩ : Heap) u r := own_ints f2 (by omega)
  have hf2 := f2
  rcases f2 with ⟨hu0, h0⟩ | ⟨q, cap, c, hu0, q1, q2, q3, q4, q5⟩
  · have : r.length = 0 := by have := congrArg List.length h0; simpa using this
    omega
  subst hu0
  simp only [List.length_map] at q4 hul hui f1 f3 e2
  have hq3 : A.get q = .cells true (r.map (Value.int .i64)) c := q3
  have he : islV 1 (.slice (some ⟨q, 0, none⟩) r.length cap) (.int .i64 (k : Int)) = some (.pointer (some ⟨q, k, none⟩)) := by
    rw [islV_in (by omega) (by omega)]; simp
  have hld : (r.map (Value.int .i64))[k]? = some (.int .i64 r[k]) := by simp [hk1]
  obtain ⟨x, hx⟩ : ∃ x, max 0 (r[k] - (n : Int)) = x := ⟨_, rfl⟩
  have hwr : wrL (r.map (Value.int .i64)) k [.int .i64 x] = (r.set k x).map (Value.int .i64) := by
    rw [wrL_one _ _ _ (by simpa using hk1), List.map_set]
  have hk2 : k + 1 ≤ r.length := hk1
  simp [t13, hrem2, he, hq3, hld, sub_in (x := r[k]) (y := (n : Int)) (by omega) (by omega)]
  rw [aval_maxC (k := .i64) (n := r[k] - (n : Int)) (by simp) (by decide), hx]
  simp [he, hq3, hk2, hwr]
  have hms : (r.map (Value.int .i64)).set k (.int .i64 x) = (r.set k x).map (Value.int .i64) := by rw [List.map_set]
  rw [hms]
  refine K _ _ (by simp) (by simp) (by simp) ?_
  have gH : Ge H2 ((⟨A.get, A.next + 11⟩ : Heap).set q (.cells true ((r.set k x).map (Value.int .i64)) c)) := Ge.setNew (hp.ge.trans g11) (by omega) _
  have hqX : H2.next ≠ q := by omega
  have hnq : ∀ m, slName (.slice (some ⟨q, 0, none⟩) r.length cap) = some m → m = q := fun m hm => by simp [slName] at hm; omega
  have hnq2 : slName (.slice (some ⟨q, 0, none⟩) r.length cap) = some q := rfl
  have hfew := hT.few
  have hpl := hT.places
  have hrT := hT.rows r (by rw [← hr]; exact List.getElem_mem ha1)
  refine ⟨walkS D a k x, v8, w', gH, by simp; omega, by rw [Heap.set_get, if_neg hqX]; exact hc, ⟨?_, ?_⟩, ⟨hT.few, hT.short, by simp only [walkS, List.length_set]; exact hT.places, fun r' hr' => ?_⟩, fun _ => walkS_easy fun h1 h2 => ?_⟩
  · refine rels_blks ((hp.own.ge g11).keep (by simp) fun m hm => ?_) hp.len (show D.blocks.length < 2 ^ 63 by omega) hp.rel gH
    have := (hp.ap m hm).2 a _ f1
    have hmq : m ≠ q := fun e => this (by rw [e]; rfl)
    rw [Heap.set_get, if_neg hmq]
  · refine ⟨ws, ?_, by simp only [walkS, List.length_set]; omega, fun i hi => ?_⟩
    · have := (hR.own.keep (B := (⟨A.get, A.next + 11⟩ : Heap).set q (.cells true ((r.set k x).map (Value.int .i64)) c)) (by simp) fun m hm => by
        have : m ≠ q := fun e => f3 q hnq2 (by rw [← e]; exact hm)
        rw [Heap.set_get, if_neg this]).slr
      rw [hR.len] at this
      simpa [walkS] using this
    · have hi' : i < D.walk.length := by simpa [walkS] using hi
      by_cases e : i = a
      · subst e
        have hget : ((walkS D i k x).walk)[i]'hi = r.set k x := by
          simp [walkS, ha1, hr]
        refine ⟨_, f1, ?_⟩
        rw [hget]
        have ho : OwnSl ((⟨A.get, A.next + 11⟩ : Heap).set q (.cells true ((r.set k x).map (Value.int .i64)) c)) (H2.next + 1) (.slice (some ⟨q, 0, none⟩) r.length cap) ((r.set k x).map (Value.int .i64)) :=
          .inr ⟨q, cap, c, by simp, by omega, by simpa using q2, by simp, by simpa using q4, q5⟩
        exact own_ints ho (by rw [List.length_set]; omega)
      · obtain ⟨u', m1, m2, m3⟩ := hR.row i hi'
        have hget : ((walkS D a k x).walk)[i]'hi = D.walk[i] := by
          simp [walkS, List.getElem_set, Ne.symm e]
        refine ⟨u', m1, ?_⟩
        rw [hget]
        have hri := hT.rows _ (List.getElem_mem hi')
        refine own_ints (m2.keep (by simp) fun m hm => ?_) (by omega)
        have : m ≠ q := fun e2 => hR.apart a i _ u' q (Ne.symm e) f1 m1 hnq2 (by rw [← e2]; exact hm)
        rw [Heap.set_get, if_neg this]
  · simp only [walkS] at hr'
    rcases List.mem_or_eq_of_mem_set hr' with hr' | rfl
    · exact hT.rows r' hr'
    · rw [List.length_set, List.getElem?_eq_getElem ha1, Option.getD_some, hr]; exact hrT
  · subst hr
    omega

end Go.Proofs.YtllkhaabcfnlpaaDoor

