/-
  Joined texts of a calculus of abstract memory, of the program's code in it, and of contracts.
-/
import Derived.Test.YtllkhaabcfnlpaaDoorJ6
import Derived.Test.YtllkhaabcfnlpaaDoorJ9
import Derived.Test.YtllkhaabcfnlpaaDoorJ10
import Derived.Test.YtllkhaabcfnlpaaDoorJ11
import Derived.WalkKit
import Derived.ProofKit
import Derived.OpenShut
import Derived.Deep.DeepHandedRow
import Derived.Test.YtllkhaabcfnlpaaDoorCards
import Derived.Test.YtllkhaabcfnlpaaDoorTie
/-
  The plan that was chosen, as lists of segments.
-/
namespace Go.Proofs.YtllkhaabcfnlpaaDoor
open Go Go.Ab

theorem own_S {A : Heap} {lo : Nat} {u : Value} {l : List Int} (h : OwnSl A lo u (l.map (.int .i64))) : OwnS A lo 1 u l.length (l.flatMap iCell) := by
  rw [iCell_flat]
  rcases h with ⟨rfl, h0⟩ | ⟨n, cap, c, rfl, k1, k2, k3, k4, k5⟩
  · have h00 : l.length = 0 := by have := congrArg List.length h0; simpa using this
    exact .inl ⟨rfl, h00, h0⟩
  · exact .inr ⟨n, cap, c, by simp, k1, k2, k3, by simp, by simpa using k4, by omega⟩

/-- A duty as the program's list. -/
def rowOf (d : Nat) : List Int := bitsI (bitsL d)
theorem rowOf_length {d : Nat} : (rowOf d).length ≤ 10 := by
  have := List.length_filter_le (fun x => d.testBit x) (List.range' 0 10)
  simpa [rowOf, bitsI, bitsL, bitsFrom] using this

theorem first_mem {L : List Nat} {pay : Nat → Int} (hL : SetsOk L) {m : Nat} (hf : (choose L pay m).first ≠ 0) : (choose L pay m).first ∈ L ∧ diffN (choose L pay m).first m = 0 := by
  have h0 : m ≠ 0 := fun e => by subst e; rw [choose_zero] at hf; exact hf rfl
  rcases choose_made hL h0 with e | ⟨_, d, hd, hs, _, e⟩
  · rw [e] at hf; exact absurd rfl hf
  have ef : (choose L pay m).first = d := by rw [e]; rfl
  rw [ef]
  exact ⟨(List.mem_filter.1 hd).1, hs⟩

theorem plan_spec {L : List Nat} {pay : Nat → Int} {mk m : Nat} {H : Heap} {f : Nat → Option Value} (hL : SetsOk L) (hm10 : m < 1024) (hK : KnownC H L pay mk f) (hmk : mk < H.next) (hf : (f m).isSome = true) (hG : Gl H) :
    AFun Tryd.prog 106 [bitsV m, .map (some mk)] H (fun r B => RowsAt B r ((planOf L pay m).map rowOf) ∧ Ge H B) := by
  refine AFun.mk ok106 hm (Nat.le_of_ble_eq_true rfl) ?_
  simp [a106, r106]
  refine floop_intro (fun z => z.d = [] ∧ Ge H z.H ∧ H.next ≤ z.H.next ∧ z.t 1 = .map (some mk) ∧ ∃ (left : Nat) (done : List Nat), z.t 6 = bitsV left ∧ done.length + left ≤ m ∧ planOf L pay m = done ++ planOf L pay left ∧ (f left).isSome = true ∧ RowsG 1 iCell z.H H.next (fun _ => False) (z.t 5) (done.map rowOf)) (fun z => (intOf (z.t 6)).toNat) ?_ ?_
  · refine ⟨rfl, by simp, by simp, by simp, m, [], by simp, by simp, by simp, hf, ?_⟩
    exact ⟨⟨[], .inr ⟨H.next, 0, 0, by simp, Nat.le_refl _, by simp, by simp, by simp, by simp⟩, rfl, fun k hk => by simp at hk⟩, fun _ _ h => h⟩
  rintro ⟨t, _, A⟩ ⟨rfl, g, hn, t1, left, done, t6, hdl, hpl, hfl, hR⟩
  dsimp only at g hn t1 t6 hR
  generalize t5 : t 5 = v5 at hR
  have hval : f left = some (chV (choose L pay left)) := by
    obtain ⟨v, hv⟩ := Option.isSome_iff_exists.1 hfl
    rw [hv, (hK.val left v hv).1]
  have hcl := (hK.val left _ hval).2
  have hlk : ∀ X : Heap, X.get mk = H.get mk → lk1H Tryd.prog 102 (.agg #[.int .u64 0, .int .i64 0, .int .i64 0, .bool false]) X (bitsV left) (.map (some mk)) = some (chV (choose L pay left)) := fun X hX => by
    rw [(hK.map.keep hX).lk1 flat_ch0, hval]; rfl
  have hA := hlk A (g.get _ hmk)
  simp [t1, t6, hA]
  by_cases hz : (choose L pay left).first = 0
  · rw [planOf_end hz, List.append_nil] at hpl
    simp [hz, t5]
    rw [hpl]
    refine ⟨rows_done hR (by simp; omega) fun r hr => ?_, g⟩
    obtain ⟨d, _, rfl⟩ := List.mem_map.1 hr
    have := rowOf_length (d := d); omega
  obtain ⟨hfL, hsub⟩ := first_mem hL hz
  obtain ⟨hp1, hp2⟩ := planOf_step hL (pay := pay) hz
  have hf10 := (hL _ hfL).2
  have hcl2 := hcl hz
  have hl10 : left < 1024 := by omega
  generalize choose L pay left = c at *
  simp [hz, t5, t1, t6, hA]
  refine fcall_fun (setList_spec hf10 (hG.ge g)) ?_
  rintro u B ⟨ou, gB⟩
  have hu1 := ou.one
  have nB := gB.next
  simp [hu1, one_cells]
  have gB2 : Ge A (B.new (.cells true [u] 1)) := gB.newOf _
  have hR2 : RowsG 1 iCell (B.new (.cells true [u] 1)) H.next (fun _ => False) v5 (done.map rowOf) := hR.keep gB2.next (fun n _ hn _ => gB2.get n hn) (fun _ _ hf => hf)
  have hou : OwnSl (B.new (.cells true [u] 1)) H.next u ((rowOf c.first).map (.int .i64)) := by
    have e : (rowOf c.first).map (Value.int .i64) = intL (bitsL c.first) := by simp [rowOf, bitsI]
    rw [e]
    exact (ou.ge (Ge.new _ _)).lower hn
  refine hR2.push (r := rowOf c.first) (x := u) (X' := fun _ => False) (own_S hou) (fun m hm => ⟨fun e => ?_, fun hf => hf⟩) (fun m hf => hf.elim) (slCells_new (rw := true) (c := 1) (by simp)) (by simp; omega) (by simp) (by omega) (by simp; omega) fun u' C k1 k2 k3 k4 => ?_
  · have := (ou.names hm).1
    have := (hR.names e).2
    omega
  have h3 : ∀ m, slName v5 = some m → H.next ≤ m := fun m hm => (hR.names hm).1
  have gC : Ge H C := by
    refine ⟨by omega, fun n hn => ?_⟩
    have e1 : n ≠ B.next := by omega
    rw [k4 n (by omega) (fun e => by have := h3 n e; omega)]
    simp [e1, gB.get n (by omega), g.get n hn]
  have hC := hlk C (gC.get _ hmk)
  simp [t1, t6, hC]
  rw [aval_diff (a := left) (b := c.first) (by simp) (by simp) (by decide) (by decide) (by omega) (by omega)]
  simp
  exact ⟨⟨gC, by omega, t1, diffN left c.first, rfl, done ++ [c.first], by simp; omega, by rw [hpl, hp1]; simp, hcl2, by simpa using k1⟩, by rw [t6]; simp; exact hp2⟩

end Go.Proofs.YtllkhaabcfnlpaaDoor


/-
  Truths: what the program and the reference ask of times.
-/
namespace Go.Proofs.YtllkhaabcfnlpaaDoor
open Go Go.Ab

theorem _root_.Go.Ab.IntsAt.atAll {H : Heap} {v : Value} {xs : List Int} (h : IntsAt H v xs) {i : Nat} (hi : i < xs.length) : ∃ p, islV 1 v (.int .i64 i) = some p ∧ ∀ A, Ge H A → ldV A false 1 p = some (.int .i64 xs[i]) := by
  obtain ⟨p, h1, _⟩ := h.at hi
  refine ⟨p, h1, fun A g => ?_⟩
  obtain ⟨q, h2, h3⟩ := (h.ge g).at hi
  rw [h1] at h2; cases h2; exact h3

end Go.Proofs.YtllkhaabcfnlpaaDoor


/-
  What DutyBars answers.
-/
namespace Go.Proofs.YtllkhaabcfnlpaaDoor
open Go Go.Ab

end Go.Proofs.YtllkhaabcfnlpaaDoor


/-
  A best plan of a planned day.
-/
namespace Go.Proofs.YtllkhaabcfnlpaaDoor
open Go Go.Ab

/-- The pay of a set of segments. -/
def payN (D : Dy) (d : Nat) : Int := payOf D (known0 D) (piecesL D d)
theorem payN_bounds {D : Dy} (hV : Valid D) (d : Nat) : 0 ≤ payN D d ∧ payN D d ≤ 100000 := by
  have h1 := law_bounds hV
  have hK : ∀ b n, (0 ≤ (kAt (known0 D) b n).1 ∧ (kAt (known0 D) b n).1 ≤ 3000) ∧ (0 ≤ (kAt (known0 D) b n).2 ∧ (kAt (known0 D) b n).2 ≤ 3000) := fun b n => by
    have hb := (known0_ok hV).bound
    unfold kAt
    cases hx : (known0 D)[b]? with
    | none => simp
    | some x =>
      cases hy : x[n]? with
      | none => simp [hy]
      | some y =>
        have := hb x (List.mem_of_getElem? hx) y (List.mem_of_getElem? hy)
        simpa [hy] using this
  unfold payN payOf spreadOf
  have h2 := hK ((piecesL D d)[(piecesL D d).length - 1]?.getD fz).e ((piecesL D d)[(piecesL D d).length - 1]?.getD fz).t
  have h3 := hK ((piecesL D d)[0]?.getD fz).b ((piecesL D d)[0]?.getD fz).f
  omega
theorem LL_ok {D : Dy} (hV : Valid D) : SetsOk (legalL D (known0 D)) := fun d hd => by
  have h := (passL_mem.1 hd).1
  have := (pow_segN hV).2
  omega
theorem LL_len {D : Dy} (hV : Valid D) : (legalL D (known0 D)).length ≤ 1024 := Nat.le_trans passL_length (pow_segN hV).2

/-- The slices of the duties that begin with each segment. -/
structure Begs (A : Heap) (lo : Nat) (L : List Nat) (f : Nat → Option Value) : Prop where
  own : ∀ i, i < 10 → OwnSl A lo ((f (2 ^ i)).getD (.slice none 0 0)) ((L.filter fun d => low d == i).map bitsV)
  apart : ∀ i j n, i < 10 → j < 10 → i ≠ j → slName ((f (2 ^ i)).getD (.slice none 0 0)) = some n → slName ((f (2 ^ j)).getD (.slice none 0 0)) ≠ some n

section
variable {A B : Heap} {lo : Nat} {L : List Nat} {f : Nat → Option Value}
theorem Begs.keep (h : Begs A lo L f) (hn : A.next ≤ B.next) (hk : ∀ n, lo ≤ n → n < A.next → (∃ b cs c, A.get n = .cells b cs c) → B.get n = A.get n) : Begs B lo L f := by
  refine ⟨fun i hi => (h.own i hi).keep hn fun n hs => ?_, h.apart⟩
  have hnm := (h.own i hi).names hs
  refine hk n hnm.1 hnm.2 ?_
  rcases h.own i hi with ⟨e, _⟩ | ⟨m, cap, c, e, h1, h2, h3, _⟩
  · rw [e] at hs; cases hs
  · rw [e] at hs; cases hs
    exact ⟨_, _, _, h3⟩
theorem pow_inj {i j : Nat} (h : 2 ^ i = 2 ^ j) : i = j := (Nat.pow_right_inj (by omega : 1 < 2)).1 h
theorem Begs.push {d n : Nat} {u : Value} (h : Begs A lo L f) (_hd : low d < 10) (hu : OwnSl B lo u (((L.filter fun x => low x == low d).map bitsV) ++ [bitsV d])) (hun : slName u = some n) (hn : A.next ≤ n) (hnext : A.next ≤ B.next)
    (hk : ∀ m, lo ≤ m → m < A.next → slName ((f (2 ^ low d)).getD (.slice none 0 0)) ≠ some m → B.get m = A.get m) : Begs B lo (L ++ [d]) (putF f (2 ^ low d) u) := by
  have hsame : ∀ j, j = low d → (putF f (2 ^ low d) u (2 ^ j)).getD (.slice none 0 0) = u := fun j e => by subst e; simp [putF]
  have hother : ∀ j, j ≠ low d → (putF f (2 ^ low d) u (2 ^ j)).getD (.slice none 0 0) = (f (2 ^ j)).getD (.slice none 0 0) := fun j e => by
    have : ¬ 2 ^ j = 2 ^ low d := fun e2 => e (pow_inj e2)
    simp [putF, this]
  refine ⟨fun j hj => ?_, fun i j m hi hj hij hm => ?_⟩
  · rw [List.filter_append, List.map_append]
    by_cases e : j = low d
    · rw [hsame j e, e]
      simpa using hu
    · rw [hother j e]
      have e2 : ¬ low d = j := fun e3 => e e3.symm
      simp only [List.filter_cons, List.filter_nil, beq_iff_eq, e2, if_false, List.map_nil, List.append_nil]
      exact (h.own j hj).keep hnext fun m hs => hk m ((h.own j hj).names hs).1 ((h.own j hj).names hs).2 fun e3 => h.apart j (low d) m hj _hd e hs e3
  · by_cases e1 : i = low d
    · rw [hsame i e1, hun] at hm
      have e2 : j ≠ low d := fun e2 => hij (e1.trans e2.symm)
      rw [hother j e2]
      cases hm
      intro hs
      have := ((h.own j hj).names hs).2
      omega
    · rw [hother i e1] at hm
      by_cases e2 : j = low d
      · rw [hsame j e2, hun]
        intro hs
        cases hs
        have := ((h.own i hi).names hm).2
        omega
      · rw [hother j e2]; exact h.apart i j m hi hj hij hm

/-- A slice stays if the cells stay. -/
theorem _root_.Go.Ab.SlR.same {sz len : Nat} {v : Value} {cs : List Value} (h : SlR A sz v len cs) (hn : A.next ≤ B.next) (hk : ∀ n, n < A.next → (∃ b cs c, A.get n = .cells b cs c) → B.get n = A.get n) : SlR B sz v len cs := by
  refine ⟨?_, fun a n c e => Nat.lt_of_lt_of_le (h.2 a n c e) hn⟩
  rcases h.cases with ⟨rfl | rfl, rfl, rfl⟩ | ⟨n, o, cap, rw, ds, c, rfl, hg, hr⟩
  · rfl
  · rfl
  · simp only [slCells, hk n (h.2 _ _ _ rfl) ⟨_, _, _, hg⟩, hg, hr, Option.map_some]
end

theorem best_spec {D : Dy} {b w s k q : Value} {H : Heap} (hP : PlanAt H b w s k q D (known0 D)) (hV : Valid D) (hG : Gl H) :
    AFun Tryd.prog 80 [planV D b w s k q] H (fun r B => ∃ v, r = .tuple #[v, .int .i64 (choose (legalL D (known0 D)) (payN D) (2 ^ segN D - 1)).pay, .bool (choose (legalL D (known0 D)) (payN D) (2 ^ segN D - 1)).ok] ∧ RowsAt B v ((planOf (legalL D (known0 D)) (payN D) (2 ^ segN D - 1)).map rowOf) ∧ Ge H B) := by
  refine AFun.mk ok80 hm (Nat.le_of_ble_eq_true rfl) ?_
  have hb := hP.day.blocks.one
  have hw := hP.day.walk.one
  have hs := hP.segs.one
  have hk := hP.known.one
  have hq : one q = true := SlR.one hP.quest
  obtain ⟨hp1, hp2⟩ := pow_segN hV
  simp [a80, r80, hb, hw, hs, hk, hq]
  generalize hH1 : Heap.set _ (H.next + 4) _ = H1
  have g1 : Ge H H1 := by
    rw [← hH1]
    exact (((((Ge.new _ _).newOf _).newOf _).setNew (by simp) _).newOf _).newOf _ |>.setNew (by simp) _
  have n1 : H1.next = H.next + 5 := by rw [← hH1]; simp
  have k0 : H1.get H.next = .cells true (planCells D b w s k q) 13 := by rw [← hH1]; simp
  have k1 : H1.get (H.next + 1) = .map [] 0 := by rw [← hH1]; simp
  have k2 : H1.get (H.next + 2) = .cells true [.map (some (H.next + 1))] 1 := by rw [← hH1]; simp
  have k3 : H1.get (H.next + 3) = .map [] 0 := by rw [← hH1]; simp
  have k4 : H1.get (H.next + 4) = .cells true [.map (some (H.next + 3))] 1 := by rw [← hH1]; simp
  clear hH1
  refine fcall_fun (legalDuties_spec (hP.ge g1) hV (known0_ok hV)) ?_
  rintro v H2 ⟨o2, g2⟩
  have n2 := g2.next
  replace k0 := g2.got (by omega) k0
  replace k1 := g2.got (by omega) k1
  replace k2 := g2.got (by omega) k2
  replace k3 := g2.got (by omega) k3
  replace k4 := g2.got (by omega) k4
  have G2 := g1.trans g2
  have hsl := o2.slr
  simp only [List.length_map] at hsl
  have hLok := LL_ok hV
  have hLlen := LL_len hV
  have hLd : ∀ d ∈ legalL D (known0 D), d < 2 ^ segN D := fun d hd => (passL_mem.1 hd).1.2
  simp [hsl.lenV]
  generalize hLL : legalL D (known0 D) = L at *
  refine floop_intro (fun z => z.d = [] ∧ H2.next ≤ z.H.next ∧ (∀ n, n < H2.next → n ≠ H.next + 1 → n ≠ H.next + 3 → z.H.get n = H2.get n) ∧ z.t 1 = .pointer (some ⟨H.next, 0, none⟩) ∧ z.t 5 = .pointer (some ⟨H.next + 2, 0, none⟩) ∧ z.t 6 = .pointer (some ⟨H.next + 4, 0, none⟩) ∧ z.t 15 = v ∧ z.t 16 = .int .i64 (L.length : Int) ∧
    ∃ (i : Nat) (fp fb : Nat → Option Value), i ≤ L.length ∧ z.t 17 = .int .i64 (i : Int) ∧ MapFn z.H (H.next + 1) fp ∧ (∀ d ∈ L.take i, fp d = some (.int .i64 (payN D d))) ∧ MapFn z.H (H.next + 3) fb ∧ Begs z.H H2.next (L.take i) fb) (fun z => L.length - (intOf (z.t 17)).toNat) ?_ ?_
  · refine ⟨rfl, Nat.le_refl _, fun n _ _ _ => rfl, by simp, by simp, by simp, by simp, by simp, 0, fun _ => none, fun _ => none, by omega, by simp, MapFn.empty k1, fun d hd => by simp at hd, MapFn.empty k3, ⟨fun i _ => .inl ⟨rfl, rfl⟩, fun i j n _ _ _ h => by cases h⟩⟩
  rintro ⟨t, _, A⟩ ⟨rfl, hn, hkeep, t1, t5, t6, t15, t16, i, fp, fb, hi, t17, hmp, hfp, hmb, hbg⟩
  dsimp only at hn hkeep t1 t5 t6 t15 t16 t17 hmp hmb hbg
  have a0 := (hkeep H.next (by omega) (by omega) (by omega)).trans k0
  have a2 := (hkeep (H.next + 2) (by omega) (by omega) (by omega)).trans k2
  have a4 := (hkeep (H.next + 4) (by omega) (by omega) (by omega)).trans k4
  have hslA : SlR A 1 v L.length (L.map bitsV) := hsl.same hn fun n h1 ⟨_, _, _, h2⟩ => hkeep n h1 (fun e => by rw [e, k1] at h2; cases h2) (fun e => by rw [e, k3] at h2; cases h2)
  have gA : Ge H A := ⟨by omega, fun n h => (hkeep n (by have := G2.next; omega) (by omega) (by omega)).trans (G2.get n h)⟩
  simp [t16, t17]
  refine fcond_intro (fun hc => ?_) (fun hc => ?_)
  case refine_2 =>
    have : i = L.length := by simp at hc; omega
    subst this
    rw [List.take_length] at hfp hbg
    have zp : MapFn (A.new (.map [] 0)) A.next fun _ => none := MapFn.empty (by simp)
    obtain ⟨x, hx1, hx2⟩ := zp.put 0 (chV ⟨0, 0, 0, true⟩)
    have hx3 : mupH Tryd.prog 102 (A.new (.map [] 0)) (.int .u64 0) (.agg #[.int .u64 0, .int .i64 0, .int .i64 0, .bool true]) (.map (some A.next)) = some ((A.new (.map [] 0)).set A.next x) := hx1
    simp [hx3, t5, t6]
    have y0 : H.next ≠ A.next := by omega
    have y1 : H.next ≠ A.next + 1 := by omega
    have y2 : H.next ≠ A.next + 2 := by omega
    simp [t1, a0, y0, y1, y2]
    have gX : ∀ (c : AObj), Ge A (({ get := ((((((A.new (AObj.map [] 0)).set A.next x).new (AObj.cells true [Value.map none] 1)).set (A.next + 1) (AObj.cells true [Value.map (some A.next)] 1)).new (AObj.cells true [Value.nilFunc] 1)).set (A.next + 2) (AObj.cells true [Value.func (Fn.func 104) #[] #[.pointer (some ⟨A.next + 1, 0, none⟩), .pointer (some ⟨H.next + 4, 0, none⟩), .pointer (some ⟨A.next + 2, 0, none⟩), .pointer (some ⟨H.next + 2, 0, none⟩)]] 1)).get, next := A.next + 9 } : Heap).set (A.next + 7) c) := fun c => by
      refine Ge.setNew (Ge.grow_le (by omega) ?_) (by omega) _
      exact (((((Ge.new A _).setNew (Nat.le_refl _) _).newOf _).setNew (by omega) _).newOf _).setNew (by omega) _
    refine fcall_fun (all_spec (hP.ge (gA.trans (gX _))) hV) ?_
    rintro _ C ⟨rfl, gC⟩
    have nC := gC.next
    simp at nC
    have gAC := (gX _).trans gC
    have ck := gC.got (n := A.next) (by simp) rfl
    have c1 := gC.got (n := A.next + 1) (by simp) rfl
    have c3 := gC.got (n := A.next + 2) (by simp) rfl
    have c7 := gC.got (n := A.next + 7) (by simp) rfl
    simp at ck c1 c3 c7
    clear gX gC
    have c0 := gAC.got (n := H.next) (by omega) a0
    have c2 := gAC.got (n := H.next + 2) (by omega) a2
    have c4 := gAC.got (n := H.next + 4) (by omega) a4
    have gHC := gA.trans gAC
    have hK : KnownC C L (payN D) A.next (putF (fun _ => none) 0 (chV ⟨0, 0, 0, true⟩)) := by
      refine ⟨hx2 _ ck, by simp [putF], fun k v hv => ?_⟩
      unfold putF at hv
      by_cases e : k = 0
      · subst e
        rw [choose_zero]
        rw [if_pos rfl] at hv
        exact ⟨(Option.some.inj hv).symm, fun h => absurd rfl h⟩
      · rw [if_neg e] at hv; cases hv
    have hS : Sit C L (payN D) (A.next + 1) (H.next + 4) (A.next + 2) (H.next + 2) A.next (H.next + 3) (H.next + 1) := by
      refine ⟨c1, c4, c3, c2, by omega, by omega, ⟨fp, hmp.ge gAC (by omega), hfp⟩, ⟨fb, hmb.ge gAC (by omega), fun j hj => ?_⟩⟩
      have := ((hbg.own j hj).ge gAC).slr
      simpa using this
    have hpay : ∀ d ∈ L, 0 ≤ payN D d ∧ payN D d ≤ 100000 := fun d _ => payN_bounds hV d
    simp [t1, c0, c3]
    refine fcall_intro ((ACall.of_fun (R := fun r B => r = chV (choose L (payN D) (2 ^ segN D - 1)) ∧ GeX A.next C B ∧ ∃ f', KnownC B L (payN D) A.next f' ∧ (∀ k, (putF (fun _ => none) 0 (chV ⟨0, 0, 0, true⟩) k).isSome = true → (f' k).isSome = true) ∧ (f' (2 ^ segN D - 1)).isSome = true) (by simpa using chooseF_spec hLok hpay hLlen (2 ^ segN D - 1) (by omega) C _ hS hK)).mono ?_)
    rintro _ E ⟨rfl, gE, f2, hK2, _, hsome⟩
    have nE := gE.next
    have e0 := (gE.get H.next (by omega) (by omega)).trans c0
    have e1 := (gE.get (A.next + 1) (by omega) (by omega)).trans c1
    have e7 := (gE.get (A.next + 7) (by omega) (by omega)).trans c7
    have gHE : Ge H E := ⟨by have := gHC.next; omega, fun n hn => (gE.get n (by have := gHC.next; omega) (by omega)).trans (gHC.get n hn)⟩
    generalize hch : choose L (payN D) (2 ^ segN D - 1) = c at *
    have y7 : H.next ≠ A.next + 7 := by omega
    have y7k : A.next ≠ A.next + 7 := by omega
    simp [t1, e7, e0, e1, y7]
    have gX : Ge H ({ get := (E.set (A.next + 7) (.cells true (chC c) 4)).get, next := E.next + 11 } : Heap) := Ge.grow_le (by have := gHE.next; omega) (gHE.setNew (by omega) _)
    refine fcall_fun (all_spec (hP.ge gX) hV) ?_
    rintro _ F ⟨rfl, gF⟩
    have nF := gF.next
    simp at nF
    have f0 := gF.got (n := H.next) (by simp; omega) (by simp [y7]; exact e0)
    have f1 := gF.got (n := A.next + 1) (by simp; omega) (by simp; exact e1)
    have f7 := gF.got (n := A.next + 7) (by simp; omega) rfl
    simp at f7
    have hK3 : KnownC F L (payN D) A.next f2 := hK2.keep ((gF.get A.next (by simp; omega)).trans (by simp [y7k]))
    have gHF := gX.trans gF
    simp [t1, f0, f1, f7]
    refine fcall_fun (plan_spec hLok (by omega) hK3 (by omega) hsome (hG.ge gHF)) ?_
    rintro r R ⟨hr, gR⟩
    have r7 := gR.got (n := A.next + 7) (by omega) f7
    simp [f7, r7]
    exact ⟨hr, gHF.trans gR⟩
  have h1 : i < L.length := by simpa using hc
  obtain ⟨p, e1, e2⟩ := hslA.at1 (k := .i64) (i := i) (by simpa using h1)
  have e3 : (L.map bitsV)[i]? = some (bitsV L[i]) := by simp [h1]
  rw [e3] at e2
  have hdL := List.getElem_mem h1
  have hd0 := hLok _ hdL
  have hdn := hLd _ hdL
  have htk : L.take (i + 1) = L.take i ++ [L[i]] := List.take_succ_eq_append_getElem h1
  generalize L[i] = d at *
  simp [t1, t5, t15, t17, e1, e2, a0, a2]
  refine fcall_fun (pay_spec (hP.ge (gA.grow 6)) hV (known0_ok hV) hdn hd0.1) ?_
  rintro _ B ⟨rfl, gB⟩
  have nB := gB.next
  simp only at nB
  have hd10 : d < 1024 := hd0.2
  have b0 := gB.got (n := H.next) (by simp; omega) a0
  have b2 := gB.got (n := H.next + 2) (by simp; omega) a2
  have b4 := gB.got (n := H.next + 4) (by simp; omega) a4
  obtain ⟨x, hx1, hx2⟩ := (hmp.keep (B := B) (gB.get _ (by simp; omega))).put d (.int .i64 (payN D d))
  have hpd : payOf D (known0 D) (piecesL D d) = payN D d := rfl
  simp [t1, t5, b0, b2, hpd, hx1, t6, b4]
  refine fcall_fun (lowest_spec hd0.1 hd10 _) ?_
  rintro _ C ⟨rfl, hC⟩
  have nC : C.next = B.next + 11 := by rw [hC]; simp
  have hCg : ∀ n, n ≠ H.next + 1 → n ≠ B.next + 8 → C.get n = B.get n := fun n h1 h2 => by rw [hC]; simp [h1, h2]
  have c8 : C.get (B.next + 8) = .cells true [bitsV d] 1 := by rw [hC]; simp
  have c1 : C.get (H.next + 1) = x := by rw [hC]; simp; omega
  clear hC
  have c4 := (hCg (H.next + 4) (by omega) (by omega)).trans b4
  simp [t6, c4]
  refine fcall_fun (lowest_spec hd0.1 hd10 _) ?_
  rintro _ C' ⟨rfl, hC⟩
  subst hC
  obtain ⟨_, l10, _⟩ := low_facts hd0.1 hd10
  have cb : MapFn C' (H.next + 3) fb := hmb.keep ((hCg _ (by omega) (by omega)).trans (gB.get _ (by simp; omega)))
  have hl1 := cb.lk1 flat_nil (2 ^ low d)
  simp [t6, c4, hl1]
  have hkC : ∀ m, H2.next ≤ m → m < A.next → C'.get m = A.get m := fun m h1 h2 => (hCg m (by omega) (by omega)).trans (gB.get m (by show m < A.next + 6; omega))
  have ho := (hbg.own (low d) l10).keep (B := C') (by omega) fun m hm => hkC m ((hbg.own (low d) l10).names hm).1 ((hbg.own (low d) l10).names hm).2
  have hnm := fun m hm => (hbg.own (low d) l10).names (n := m) hm
  generalize hold : (fb (2 ^ low d)).getD (.slice none 0 0) = old at *
  have hfl : ((L.take i).filter fun x => low x == low d).length ≤ 1024 := Nat.le_trans (List.length_filter_le _ _) (by rw [List.length_take]; omega)
  refine fapp_own' (lo := H2.next) (x := bitsV d) ho (slCells_new (rw := true) (c := 1) c8) rfl (by simp; omega) (by omega) (by omega) (by omega) fun u E k5 k6 k7 k8 => ?_
  have hE : ∀ n, n < H2.next → E.get n = C'.get n := fun n hn => k8 n (by omega) fun e => by have := (hnm n e).1; omega
  have e4 := (hE (H.next + 4) (by omega)).trans c4
  have eb : MapFn E (H.next + 3) fb := cb.keep (hE _ (by omega))
  obtain ⟨y, hy1, hy2⟩ := eb.put (2 ^ low d) u
  simp [t6, e4, hy1, t17, add_in (x := i) (y := 1) (by omega) (by omega)]
  have kF : ∀ n, n ≠ H.next + 3 → (E.set (H.next + 3) y).get n = E.get n := fun n hn => by simp [hn]
  refine ⟨⟨by omega, fun n h1 h2 h3 => ?_, t1, t5, t15, t16, i + 1, by omega, by omega, putF fp d (.int .i64 (payN D d)), hx2 _ ?_, fun d' hd' => ?_, putF fb (2 ^ low d) u, hy2 _ (by simp), ?_⟩, by omega⟩
  · rw [if_neg h3, hE n h1, hCg n h2 (by omega), gB.get n (by show n < A.next + 6; omega)]
    exact hkeep n h1 h2 h3
  · rw [kF _ (by omega), hE _ (by omega)]; exact c1
  · unfold putF
    by_cases e : d' = d
    · rw [if_pos e, e]
    · rw [if_neg e]
      rw [htk] at hd'
      rcases List.mem_append.1 hd' with hd' | hd'
      · exact hfp d' hd'
      · exact absurd (by simpa using hd') e
  · rw [htk]
    refine hbg.push l10 (n := B.next + 9) ?_ k6 (by omega) (by simp; omega) fun m h1 h2 h3 => ?_
    · exact k5.keep (by simp) fun n hn => kF n (by have := (k5.names hn).1; omega)
    · rw [kF m (by omega), k8 m (by omega) (by rw [← hold]; exact h3)]
      exact hkC m h1 h2

/-- The best choice of a day; the answers of Best. -/
def bestC (D : Dy) : Ch := choose (legalL D (known0 D)) (payN D) (2 ^ segN D - 1)
def bestL (D : Dy) : List Nat := planOf (legalL D (known0 D)) (payN D) (2 ^ segN D - 1)
def bestE (D : Dy) : Int := if checkD D = 0 then (if (bestC D).ok then 0 else 9) else checkD D
def bestPay (D : Dy) : Int := if bestE D = 0 then (bestC D).pay else 0
def bestR (D : Dy) : List (List Int) := if bestE D = 0 then (bestL D).map rowOf else []

theorem rows_nil {H : Heap} : RowsAt H (.slice none 0 0) [] := ⟨[], ⟨rfl, fun _ _ _ h => by cases h⟩, by simp, fun i h => by simp at h⟩

theorem bestF_spec {D : Dy} {b w : Value} {H : Heap} (h : DayAt H b w D) (hT : D.Thin) (hG : Gl H) :
    AFun Tryd.prog 45 [dayV D b w] H (fun r B => ∃ v, r = .tuple #[v, .int .i64 (bestPay D), .int .i64 (bestE D)] ∧ RowsAt B v (bestR D) ∧ Ge H B) := by
  refine AFun.mk ok45 hm (Nat.le_of_ble_eq_true rfl) ?_
  have hb := h.blocks.one
  have hw := h.walk.one
  simp [a45, r45, hb, hw]
  refine fcall_fun (checkDay_spec (h.ge (by simp)) hT) ?_
  rintro _ H1 ⟨rfl, g1⟩
  have G1 : Ge H H1 := Ge.trans (by simp) g1
  have k1 := g1.got (n := H.next) (by simp) rfl
  have n1 := g1.next
  simp at k1 n1
  by_cases hc : checkD D = 0
  case neg =>
    have he : bestE D = checkD D := by simp [bestE, hc]
    have hp : bestPay D = 0 := by simp [bestPay, he, hc]
    have hr : bestR D = [] := by simp [bestR, he, hc]
    simp [hc, he, hp, hr]
    exact ⟨rows_nil, G1⟩
  have hV := valid_of hc
  simp [hc, k1]
  refine fcall_fun (newPlanned_spec (h.ge G1) hV) ?_
  rintro _ H2 ⟨s, k, q, rfl, hO, g2⟩
  have G2 := G1.trans g2
  have hP : PlanAt H2 b w s k q D (known0 D) := hO.at (h.ge G2)
  simp
  refine fcall_fun (best_spec hP hV (hG.ge G2)) ?_
  rintro _ H3 ⟨v, rfl, hv, g3⟩
  have G3 := G2.trans g3
  have hcc : choose (legalL D (known0 D)) (payN D) (2 ^ segN D - 1) = bestC D := rfl
  have hll : planOf (legalL D (known0 D)) (payN D) (2 ^ segN D - 1) = bestL D := rfl
  rw [hcc]
  rw [hll] at hv
  cases hok : (bestC D).ok
  · have he : bestE D = 9 := by simp [bestE, hc, hok]
    have hp : bestPay D = 0 := by simp [bestPay, he]
    have hr : bestR D = [] := by simp [bestR, he]
    simp [he, hp, hr]
    exact ⟨rows_nil, G3⟩
  · have he : bestE D = 0 := by simp [bestE, hc, hok]
    have hp : bestPay D = (bestC D).pay := by simp [bestPay, he]
    have hr : bestR D = (bestL D).map rowOf := by simp [bestR, he]
    simp [he, hp]
    rw [hr]
    exact ⟨hv, G3⟩

end Go.Proofs.YtllkhaabcfnlpaaDoor


/-
  Weights of sets, fair weights, and the bound by them.
-/
namespace Go.Proofs.YtllkhaabcfnlpaaDoor
open Go Go.Ab

section
variable {D : Dy} {b w s k q : Value} {H : Heap}
end

end Go.Proofs.YtllkhaabcfnlpaaDoor


/-
  Which plans are right; days that a statement may play.
-/
namespace Go.Proofs.YtllkhaabcfnlpaaDoor
open Go Go.Ab

def readyB (D : Dy) : Bool := thinB D && decide (checkD D = 0)
def lightB (D : Dy) : Bool := readyB D && decide (segN D ≤ 8)
theorem ready_spec {D : Dy} {b w : Value} {H : Heap} (h : DayAt H b w D) : AFun Tryd.prog 52 [dayV D b w] H (fun r B => r = .bool (readyB D) ∧ Ge H B) := by
  refine AFun.mk ok52 hm (Nat.le_of_ble_eq_true rfl) ?_
  have hb := h.blocks.one
  have hw := h.walk.one
  simp [a52, r52, hb, hw]
  refine fcall_fun (thin_spec (h.ge (by simp))) ?_
  rintro _ H1 ⟨rfl, g1⟩
  have G1 : Ge H H1 := Ge.trans (by simp) g1
  have k1 := g1.got (n := H.next) (by simp) rfl
  simp at k1
  unfold readyB
  cases hth : thinB D
  · simp
    exact G1
  simp [k1]
  refine fcall_fun (fault36_spec (h.ge G1) (thinB_thin hth)) ?_
  rintro _ H2 ⟨rfl, g2⟩
  simp
  exact G1.trans g2
theorem ready_facts {D : Dy} (h : readyB D = true) : D.Thin ∧ checkD D = 0 ∧ Valid D := by
  unfold readyB at h
  rw [Bool.and_eq_true, decide_eq_true_eq] at h
  exact ⟨thinB_thin h.1, h.2, valid_of h.2⟩
theorem light_spec {D : Dy} {b w : Value} {H : Heap} (h : DayAt H b w D) : AFun Tryd.prog 47 [dayV D b w] H (fun r B => r = .bool (lightB D) ∧ Ge H B) := by
  refine AFun.mk ok47 hm (Nat.le_of_ble_eq_true rfl) ?_
  have hb := h.blocks.one
  have hw := h.walk.one
  simp [a47, r47, hb, hw]
  refine fcall_fun (ready_spec (h.ge (by simp))) ?_
  rintro _ H1 ⟨rfl, g1⟩
  have G1 : Ge H H1 := Ge.trans (by simp) g1
  have k1 := g1.got (n := H.next) (by simp) rfl
  simp at k1
  unfold lightB
  cases hr : readyB D
  · simp
    exact G1
  obtain ⟨hT, _, _⟩ := ready_facts hr
  simp [k1]
  refine fcall_fun (segments_spec (h.ge G1) hT) ?_
  rintro _ H2 ⟨rfl, g2⟩
  have hseg : segsOf D.blocks = segN D := segPs_length.symm
  rw [hseg]
  simp
  refine ⟨?_, G1.trans g2⟩
  by_cases h8 : segN D ≤ 8
  · simp [h8]; omega
  · simp [h8]; omega

section
variable {I : Nat → Heap → Prop} {F : Heap → Prop} {H : Heap} {v pv : Value}
theorem every_list_inv {xs : List (List Int)} (h0 : I 0 H) (hv : ∀ i A, I i A → RowsAt A v xs)
    (hp : ∀ i A (h : i < xs.length) u, IntsAt A u xs[i] → I i A → ACall Tryd.prog pv [u] A (fun r B => ∃ b, r = .bool b ∧ (b = true → I (i + 1) B) ∧ (b = false → F B))) :
    AFun Tryd.prog 107 [v, pv] H (fun r B => ∃ b, r = .bool b ∧ (b = true → I xs.length B) ∧ (b = false → F B)) := by
  refine AFun.mk ok107 hm (Nat.le_of_ble_eq_true rfl) ?_
  have h62 := (hv _ _ h0).lt
  simp [a107, r107, (hv _ _ h0).lenV]
  refine floop_intro (fun s => s.d = [] ∧ s.t 1 = pv ∧ s.t 7 = v ∧ s.t 8 = .int .i64 xs.length ∧ ∃ i : Nat, i ≤ xs.length ∧ s.t 9 = .int .i64 i ∧ I i s.H) (fun s => xs.length - (intOf (s.t 9)).toNat) ?_ ?_
  · exact ⟨rfl, by simp, by simp, by simp, 0, by simp, by simp, h0⟩
  · rintro ⟨t, _, A⟩ ⟨rfl, h1, h7, h8, i, hi, h9, hn⟩
    dsimp only at h1 h7 h8 h9 hn
    simp [h8, h9]
    refine fcond_intro (fun hc => ?_) (fun hc => ?_)
    · have hi' : i < xs.length := by simpa using hc
      obtain ⟨q, u, e1, e2, e3⟩ := (hv _ _ hn).at hi'
      simp [h1, h7, h9, e1, e2]
      refine fcall_intro ((hp i A hi' u e3 hn).mono ?_)
      rintro _ B ⟨b, rfl, k1, k2⟩
      cases b
      · simp [k2 rfl]
      · simp [h9, add_in (x := i) (y := 1) (by omega) (by omega)]
        exact ⟨⟨h1, h7, h8, i + 1, by omega, by omega, k1 rfl⟩, by omega⟩
    · have : i = xs.length := by simp at hc; omega
      subst this
      simp [hn]
end

/-- A duty that is legal and lies in what is left. -/
def rowOk (D : Dy) (left : Nat) (x : List Int) : Bool := isDutyB (segN D) x && (decide (diffN (maskL x) left = 0) && legalN D (known0 D) (maskL x))
/-- What is left of some segments after some duties, if they all are so. -/
def planGo (D : Dy) : List (List Int) → Nat → Option Nat
  | [], left => some left
  | x :: T, left => if rowOk D left x then planGo D T (diffN left (maskL x)) else none
def planB (D : Dy) (T : List (List Int)) : Bool := decide (planGo D T (2 ^ segN D - 1) = some 0)
theorem planGo_drop {D : Dy} {T : List (List Int)} {i left : Nat} (hi : i < T.length) : planGo D (T.drop i) left = if rowOk D left T[i] then planGo D (T.drop (i + 1)) (diffN left (maskL T[i])) else none := by
  rw [List.drop_eq_getElem_cons hi]; rfl

section
variable {D : Dy} {b w s k q : Value}
theorem isPlan1_spec {n1 n2 c1 c2 left : Nat} {r1 : Bool} {v : Value} {x : List Int} {A : Heap} (hP : PlanAt A b w s k q D (known0 D)) (hV : Valid D) (hv : IntsAt A v x) (hlen : x.length < 2 ^ 31) (hl : left < 1024)
    (h1 : A.get n1 = .cells r1 (planCells D b w s k q) c1) (h2 : A.get n2 = .cells true [bitsV left] c2) (l1 : n1 < A.next) (l2 : n2 < A.next) (hne : n1 ≠ n2) :
    AFun Tryd.prog 108 [v, .pointer (some ⟨n1, 0, none⟩), .pointer (some ⟨n2, 0, none⟩)] A (fun r B => r = .bool (rowOk D left x) ∧ GeX n2 A B ∧ ∃ m, m < 1024 ∧ B.get n2 = .cells true [bitsV (diffN left m)] c2 ∧ (rowOk D left x = true → m = maskL x)) := by
  refine AFun.mk ok108 hm (Nat.le_of_ble_eq_true rfl) ?_
  have hseg : segsOf D.blocks = segN D := segPs_length.symm
  simp only [planCells] at h1
  simp [a108, r108, h1]
  refine fcall_fun (segmentsOf_spec hP hV hv hlen) ?_
  rintro _ B ⟨m, rfl, hm10, hmm, g1⟩
  rw [hseg] at hmm ⊢
  have nB := g1.next
  have b1 := g1.got l1 h1
  have b2 := g1.got l2 h2
  have hm10' : m < 1024 := hm10
  have hfin : ∀ C : Heap, Ge B C → GeX n2 A (C.set n2 (.cells true [bitsV (diffN left m)] c2)) := fun C gC => ⟨by have := gC.next; simp; omega, fun n hn hne2 => by simp [hne2]; rw [gC.get n (by omega), g1.get n hn]⟩
  unfold rowOk
  cases hd : isDutyB (segN D) x
  · simp [b2]
    rw [aval_diff (a := left) (b := m) (by simp) (by simp) (by decide) (by decide) (by omega) (by omega)]
    simp [b2]
    exact ⟨hfin B (Ge.refl _), m, hm10', rfl⟩
  have hmx : m = maskL x := hmm (by unfold isDutyB at hd; rw [Bool.and_eq_true] at hd; exact hd.1)
  obtain ⟨hlt, h0⟩ := duty_mask (D := D) (xs := x) (by rw [hseg]; exact hd)
  rw [← hmx] at hlt h0 ⊢
  simp [b2]
  rw [aval_diff (a := m) (b := left) (by simp) (by simp) (by decide) (by decide) (by omega) (by omega)]
  simp
  by_cases hs : diffN m left = 0
  case neg =>
    simp [hs, b2]
    rw [aval_diff (a := left) (b := m) (by simp) (by simp) (by decide) (by decide) (by omega) (by omega)]
    simp [b2]
    exact ⟨hfin B (Ge.refl _), m, hm10', rfl⟩
  simp [hs, b1]
  refine fcall_fun (isLegal_spec (hP.ge g1) hV (known0_ok hV) hlt h0) ?_
  rintro _ C ⟨rfl, g2⟩
  have c2' := g2.got (by omega) b2
  have hleg : legalB D (known0 D) (piecesL D m) = legalN D (known0 D) m := rfl
  rw [hleg]
  simp [hs, c2']
  rw [aval_diff (a := left) (b := m) (by simp) (by simp) (by decide) (by decide) (by omega) (by omega)]
  simp [c2', hs]
  exact ⟨hfin C g2, m, hm10', rfl, fun _ => rfl⟩

theorem isPlan_spec {H : Heap} {v : Value} {T : List (List Int)} (hP : PlanAt H b w s k q D (known0 D)) (hV : Valid D) (hv : RowsAt H v T) (hlen : ∀ x ∈ T, x.length < 2 ^ 31) :
    AFun Tryd.prog 81 [planV D b w s k q, v] H (fun r B => r = .bool (planB D T) ∧ Ge H B) := by
  refine AFun.mk ok81 hm (Nat.le_of_ble_eq_true rfl) ?_
  have hb := hP.day.blocks.one
  have hw := hP.day.walk.one
  have hs := hP.segs.one
  have hk := hP.known.one
  have hq : one q = true := SlR.one hP.quest
  obtain ⟨hp1, hp2⟩ := pow_segN hV
  simp [a81, r81, hb, hw, hs, hk, hq]
  refine fcall_fun (all_spec (hP.ge (by simp)) hV) ?_
  rintro _ H1 ⟨rfl, g1⟩
  have G1 : Ge H H1 := Ge.trans (by simp) g1
  have k1 := g1.got (n := H.next) (by simp) rfl
  have n1 := g1.next
  simp at k1 n1
  have y1 : H.next ≠ H1.next := by omega
  simp
  have G2 : ∀ c, Ge H1 ((H1.new (.cells true [.int .u64 0] 1)).set H1.next c) := fun c => (Ge.new _ _).setNew (Nat.le_refl _) _
  refine fcall_fun (every_list_inv (xs := T) (I := fun i A => Ge H A ∧ H1.next < A.next ∧ A.get H.next = .cells true (planCells D b w s k q) 13 ∧ ∃ left, left < 1024 ∧ A.get H1.next = .cells true [bitsV left] 1 ∧ planGo D T (2 ^ segN D - 1) = planGo D (T.drop i) left)
    (F := fun A => Ge H A ∧ H1.next < A.next ∧ planGo D T (2 ^ segN D - 1) = none) ?_ ?_ ?_) ?_
  · exact ⟨G1.trans (G2 _), by simp, by simp [y1, k1], 2 ^ segN D - 1, by omega, by simp, by simp⟩
  · exact fun i A hI => RowsOf.ge hv hI.1
  · rintro i A hi u hu ⟨gA, nA, a1, left, hl, a2, hgo⟩
    refine ACall.of_fun ?_
    have := isPlan1_spec (c2 := 1) (hP.ge gA) hV hu (hlen _ (List.getElem_mem hi)) hl a1 a2 (by omega) nA y1
    simp only [Array.toList_empty, List.nil_append, List.cons_append] 
    refine AFun.mono (by simpa using this) ?_
    rintro r B ⟨rfl, gB, m, hm, b2, hmm⟩
    have gHB := GeX.toGe gA gB (by omega)
    have nB := gB.next
    refine ⟨_, rfl, fun hr => ⟨gHB, by omega, (gB.get H.next (by omega) y1).trans a1, diffN left m, Nat.lt_of_le_of_lt ?_ hl, b2, ?_⟩, fun hr => ⟨gHB, by omega, ?_⟩⟩
    · have e : diffN left m &&& left = diffN left m := by
        refine Nat.eq_of_testBit_eq fun i => ?_
        rw [Nat.testBit_and, testBit_diff]
        cases left.testBit i <;> simp
      rw [← e]; exact Nat.and_le_right
    · rw [hgo, planGo_drop hi, if_pos hr, hmm hr]
    · rw [hgo, planGo_drop hi, hr]; rfl
  rintro _ B ⟨c, rfl, h1, h2⟩
  cases c
  · obtain ⟨gB, _, hgo⟩ := h2 rfl
    simp
    refine ⟨?_, gB⟩
    simp [planB, hgo]
  · obtain ⟨gB, _, _, left, _, b2, hgo⟩ := h1 rfl
    rw [List.drop_length] at hgo
    simp [b2]
    refine ⟨?_, gB⟩
    simp [planB, hgo, planGo]
end

theorem provePlan_spec {D : Dy} {b w v : Value} {H : Heap} {T : List (List Int)} (h : DayAt H b w D) (hT : D.Thin) (hv : RowsAt H v T) (hlen : ∀ x ∈ T, x.length < 2 ^ 31) :
    AFun Tryd.prog 46 [dayV D b w, v] H (fun r B => r = .bool (decide (checkD D = 0) && planB D T) ∧ Ge H B) := by
  refine AFun.mk ok46 hm (Nat.le_of_ble_eq_true rfl) ?_
  have hb := h.blocks.one
  have hw := h.walk.one
  simp [a46, r46, hb, hw]
  refine fcall_fun (checkDay_spec (h.ge (by simp)) hT) ?_
  rintro _ H1 ⟨rfl, g1⟩
  have G1 : Ge H H1 := Ge.trans (by simp) g1
  have k1 := g1.got (n := H.next) (by simp) rfl
  simp at k1
  by_cases hc : checkD D = 0
  case neg =>
    simp [hc]
    exact G1
  have hV := valid_of hc
  simp [hc, k1]
  refine fcall_fun (newPlanned_spec (h.ge G1) hV) ?_
  rintro _ H2 ⟨s, k, q, rfl, hO, g2⟩
  have G2 := G1.trans g2
  have hP : PlanAt H2 b w s k q D (known0 D) := hO.at (h.ge G2)
  simp [hc]
  refine fcall_fun (isPlan_spec hP hV (RowsOf.ge hv G2) hlen) ?_
  rintro _ H3 ⟨rfl, g3⟩
  simp [hc]
  exact G2.trans g3

end Go.Proofs.YtllkhaabcfnlpaaDoor


/-
  What DutyBounds answers.
-/
namespace Go.Proofs.YtllkhaabcfnlpaaDoor
open Go Go.Ab

theorem setR_bits {n m : Nat} (h : m < 2 ^ n) (hn : n ≤ 10) : bitsFrom n m 0 = bitsL m := by
  refine rise_ext bitsFrom_rise bitsFrom_rise fun x => ?_
  rw [bitsFrom_mem, bitsFrom_mem]
  exact ⟨fun k => ⟨by omega, k.2⟩, fun k => ⟨bit_lt h k.2, k.2⟩⟩

end Go.Proofs.YtllkhaabcfnlpaaDoor


/-
  The best plan is a right one, in order; no right one is better.
-/
namespace Go.Proofs.YtllkhaabcfnlpaaDoor
open Go Go.Ab

section
variable {D : Dy}
theorem row_setR (hV : Valid D) {d : Nat} (hd : d ∈ legalL D (known0 D)) : rowOf d = setR (segN D) d := by
  have h := (passL_mem.1 hd).1
  unfold rowOf setR
  rw [setR_bits h.2 (segN_le hV)]
theorem row_facts (hV : Valid D) {d : Nat} (hd : d ∈ legalL D (known0 D)) : isDutyB (segN D) (rowOf d) = true ∧ maskL (rowOf d) = d ∧ legalN D (known0 D) d = true := by
  have h := passL_mem.1 hd
  rw [row_setR hV hd]
  exact ⟨setR_duty (by omega) h.1.2, setR_mask h.1.2, h.2⟩
theorem mem_LL {d : Nat} (h0 : d ≠ 0) (hlt : d < 2 ^ segN D) (hl : legalN D (known0 D) d = true) : d ∈ legalL D (known0 D) := passL_mem.2 ⟨by omega, hl⟩

theorem full_lt (hV : Valid D) : 2 ^ segN D - 1 < 1024 := by have := pow_segN hV; omega

theorem planGo_part {T : List (List Int)} : ∀ {left r : Nat}, planGo D T left = some r → (∀ x ∈ T, isDutyB (segN D) x = true ∧ legalN D (known0 D) (maskL x) = true) ∧ (r = 0 → Part (legalL D (known0 D)) left (T.map maskL)) := by
  induction T with
  | nil =>
    intro left r h
    simp only [planGo, Option.some.injEq] at h
    exact ⟨fun x hx => by simp at hx, fun e => by rw [h, e]; exact Part.nil⟩
  | cons x T ih =>
    intro left r h
    simp only [planGo] at h
    split at h
    · rename_i hx
      obtain ⟨i1, i2⟩ := ih h
      unfold rowOk at hx
      simp only [Bool.and_eq_true, decide_eq_true_eq] at hx
      obtain ⟨hd, hs, hl⟩ := hx
      have hseg : segsOf D.blocks = segN D := segPs_length.symm
      obtain ⟨hlt, h0⟩ := duty_mask (D := D) (xs := x) (by rw [hseg]; exact hd)
      refine ⟨fun y hy => ?_, fun e => Part.cons (mem_LL h0 hlt hl) hs (i2 e)⟩
      rcases List.mem_cons.1 hy with rfl | hy
      · exact ⟨hd, hl⟩
      · exact i1 y hy
    · cases h
theorem part_planGo (hV : Valid D) : ∀ {l : List Nat} {left : Nat}, Part (legalL D (known0 D)) left l → planGo D (l.map rowOf) left = some 0
  | [], left, h => by
    have : left = 0 := by
      refine Nat.eq_of_testBit_eq fun i => ?_
      rw [h.all i, Nat.zero_testBit]; rfl
    rw [this]; rfl
  | d :: l, left, h => by
    have hd := h.mem d (List.mem_cons_self ..)
    obtain ⟨hs, ht⟩ := h.tail
    obtain ⟨k1, k2, k3⟩ := row_facts hV hd
    simp only [List.map_cons, planGo]
    have hok : rowOk D left (rowOf d) = true := by
      unfold rowOk
      rw [k1, k2, hs, k3]; rfl
    rw [if_pos hok, k2]
    exact part_planGo hV ht

theorem planB_part {T : List (List Int)} (h : planB D T = true) : (∀ x ∈ T, isDutyB (segN D) x = true ∧ legalN D (known0 D) (maskL x) = true) ∧ Part (legalL D (known0 D)) (2 ^ segN D - 1) (T.map maskL) := by
  unfold planB at h
  rw [decide_eq_true_eq] at h
  obtain ⟨h1, h2⟩ := planGo_part h
  exact ⟨h1, h2 rfl⟩

theorem best_ok (hc : checkD D = 0) (hE : bestE D = 0) : (bestC D).ok = true := by
  unfold bestE at hE
  rw [if_pos hc] at hE
  cases h : (bestC D).ok
  · rw [h] at hE; simp at hE
  · rfl
theorem best_part (hV : Valid D) (hok : (bestC D).ok = true) : Part (legalL D (known0 D)) (2 ^ segN D - 1) (bestL D) ∧ (bestL D).length = (bestC D).n ∧ sumP (payN D) (bestL D) = (bestC D).pay ∧ (bestL D).Pairwise (fun a b => low a < low b) := by
  obtain ⟨h1, h2, h3, h4, _⟩ := plan_part (pay := payN D) (LL_ok hV) _ (full_lt hV) hok
  exact ⟨h1, h2, h3, h4⟩
theorem best_planB (hV : Valid D) (hok : (bestC D).ok = true) : planB D ((bestL D).map rowOf) = true := by
  unfold planB
  rw [part_planGo hV (best_part hV hok).1]; rfl
theorem best_least (hV : Valid D) {T : List (List Int)} (h : planB D T = true) : (bestC D).ok = true ∧ ((bestC D).n < T.length ∨ (bestC D).n = T.length ∧ (bestC D).pay ≤ sumP (payN D) (T.map maskL)) := by
  have := choose_least (pay := payN D) (LL_ok hV) _ (full_lt hV) _ (planB_part h).2
  simpa [bestC] using this
theorem best_len (hV : Valid D) : (bestC D).n ≤ 1023 := by
  have h := (choose_bounds (pay := payN D) (LL_ok hV) (fun d _ => payN_bounds hV d) (2 ^ segN D - 1)).1
  have h2 := full_lt hV
  unfold bestC
  omega
theorem sumP_bounds (hV : Valid D) : ∀ (l : List Nat), 0 ≤ sumP (payN D) l ∧ sumP (payN D) l ≤ 100000 * l.length
  | [] => by simp [sumP]
  | d :: l => by
    have ih := sumP_bounds hV l
    have hd := payN_bounds hV d
    rw [sumP_cons, List.length_cons]
    omega
theorem sumP_append {pay : Nat → Int} {l : List Nat} {d : Nat} : sumP pay (l ++ [d]) = sumP pay l + pay d := by simp [sumP]

theorem pay_good (hc : checkD D = 0) {x : List Int} (hd : isDutyB (segN D) x = true) (hl : legalN D (known0 D) (maskL x) = true) : payE D x = 0 ∧ payD D x = payN D (maskL x) := by
  have hseg : segsOf D.blocks = segN D := segPs_length.symm
  have he : errD D x = 0 := by simp [errD, hc, hseg, hd]
  have hleg : legalD D x = true := hl
  exact ⟨by simp [payE, he, hleg], rfl⟩

theorem row_head {d : Nat} (h0 : d ≠ 0) (h : d < 1024) : rowOf d = (low d : Int) :: bitsI (bitsL (diffN d (2 ^ low d))) := by
  obtain ⟨_, _, f3, _⟩ := low_facts h0 h
  rw [rowOf, f3]; rfl
end

/-- Lists in the order of their first numbers. -/
def OrdR (T : List (List Int)) : Prop := ∀ i (h : i + 1 < T.length), ∃ a l b l', T[i] = a :: l ∧ T[i + 1] = b :: l' ∧ a ≤ b
theorem ordered_spec {H : Heap} {v : Value} {T : List (List Int)} (hv : RowsAt H v T) (hord : OrdR T) :
    AFun Tryd.prog 51 [v] H (fun r B => r = .bool true ∧ Ge H B) := by
  refine AFun.mk ok51 hm (Nat.le_of_ble_eq_true rfl) ?_
  have h62 := hv.lt
  simp [a51, r51]
  refine floop_intro (fun z => z.d = [] ∧ Ge H z.H ∧ z.t 0 = v ∧ ∃ i : Nat, 1 ≤ i ∧ z.t 3 = .int .i64 (i : Int) ∧ i ≤ T.length + 1) (fun z => T.length + 1 - (intOf (z.t 3)).toNat) ?_ ?_
  · exact ⟨rfl, by simp, by simp, 1, by omega, by simp, by omega⟩
  rintro ⟨t, _, A⟩ ⟨rfl, g, t0, i, hi1, t3, hi⟩
  dsimp only at g t0 t3
  simp [t0, t3, hv.lenV]
  refine fcond_intro (fun hc => ?_) (fun hc => ?_)
  case refine_2 =>
    simp
    exact g
  have h1 : i < T.length := by simpa using hc
  have h2 : i - 1 < T.length := by omega
  obtain ⟨p, u, e1, e2, e3⟩ := hv.atAll h1
  obtain ⟨p', u', e4, e5, e6⟩ := hv.atAll h2
  obtain ⟨a, l, b, l', ha, hb, hab⟩ := hord (i - 1) (by omega)
  have hi2 : i - 1 + 1 = i := by omega
  simp only [hi2] at hb
  rw [hb] at e3
  rw [ha] at e6
  have hcast : ((i - 1 : Nat) : Int) = (i : Int) - 1 := by omega
  rw [hcast] at e4
  have g31 : Ge H (⟨A.get, A.next + 31⟩ : Heap) := g.grow 31
  obtain ⟨q, f1, f2⟩ := IntsAt.atI (IntsAt.ge e3 g31) (i := 0) (by omega) (by simp)
  obtain ⟨q', f3, f4⟩ := IntsAt.atI (IntsAt.ge e6 g31) (i := 0) (by omega) (by simp)
  simp at f2 f4
  have hlt : ¬ b < a := by omega
  have hl1 : ¬ ((l'.length : Int) + 1 = 0) := by omega
  have hl2 : ¬ ((l.length : Int) + 1 = 0) := by omega
  simp [t0, t3, e1, e2 _ g31, IntsAt.lenV e3, sub_in (x := (i : Int)) (y := 1) (by omega) (by omega), e4, e5 _ g31, IntsAt.lenV e6, f1, f2, f3, f4, hlt, hl1, hl2]
  simp [t3, add_in (x := i) (y := 1) (by omega) (by omega)]
  exact ⟨⟨g31, t0, i + 1, by omega, by omega, by omega⟩, by omega⟩

theorem best_ordered {D : Dy} (hV : Valid D) (hok : (bestC D).ok = true) : OrdR ((bestL D).map rowOf) := by
  intro i h
  obtain ⟨h1, _, _, h4⟩ := best_part hV hok
  have hl : i + 1 < (bestL D).length := by simpa using h
  have m1 := LL_ok hV _ (h1.mem _ (List.getElem_mem (show i < (bestL D).length by omega)))
  have m2 := LL_ok hV _ (h1.mem _ (List.getElem_mem hl))
  have := List.pairwise_iff_getElem.1 h4 i (i + 1) (by omega) hl (by omega)
  refine ⟨_, _, _, _, by rw [List.getElem_map, row_head m1.1 m1.2], by rw [List.getElem_map, row_head m2.1 m2.2], by omega⟩

end Go.Proofs.YtllkhaabcfnlpaaDoor


/-
  What DutyFewest answers.
-/
namespace Go.Proofs.YtllkhaabcfnlpaaDoor
open Go Go.Ab

theorem short_facts {T : List (List Int)} (h : shortB T = true) : T.length ≤ 12 ∧ ∀ r ∈ T, r.length ≤ 14 := by
  unfold shortB at h
  rw [Bool.and_eq_true, decide_eq_true_eq, List.all_eq_true] at h
  exact ⟨h.1, fun r hr => by simpa using h.2 r hr⟩

/-- What the duties of some lists pay. -/
def paysTo (D : Dy) (T : List (List Int)) (i : Nat) : Int := sumP (payN D) ((T.take i).map maskL)
theorem paysTo_step {D : Dy} {T : List (List Int)} {i : Nat} (h : i < T.length) : paysTo D T (i + 1) = paysTo D T i + payN D (maskL T[i]) := by
  unfold paysTo
  rw [List.take_succ_eq_append_getElem h, List.map_append]
  exact sumP_append

theorem dutyFewest_of {D : Dy} {b w v : Value} {H : Heap} {T : List (List Int)} (h : DayAt H b w D) (hv : RowsAt H v T) (hG : Gl H) (hwk : ∀ A, Ge H A → AFun Tryd.prog 16 [] A (fun r B => r = .bool true ∧ Ge A B)) :
    AFun Tryd.prog 9 [dayV D b w, v] H (fun r _ => r = .bool true) := by
  refine AFun.mk ok9 hm (Nat.le_of_ble_eq_true rfl) ?_
  have hb := h.blocks.one
  have hw := h.walk.one
  simp [a9, r9, hb, hw]
  refine fcall_fun (light_spec (h.ge (by simp))) ?_
  rintro _ H1 ⟨rfl, g1⟩
  have G1 : Ge H H1 := Ge.trans (by simp) g1
  have k1 := g1.got (n := H.next) (by simp) rfl
  have n1 := g1.next
  simp at k1 n1
  cases hli : lightB D
  · simp
    refine fcall_fun (hwk _ G1) ?_
    rintro _ _ ⟨rfl, _⟩
    simp
  have hli2 := hli
  unfold lightB at hli2
  rw [Bool.and_eq_true, decide_eq_true_eq] at hli2
  obtain ⟨hT, hc, hV⟩ := ready_facts hli2.1
  simp
  refine fcall_fun (short_spec (RowsOf.ge hv G1)) ?_
  rintro _ H2 ⟨rfl, g2⟩
  have G2 := G1.trans g2
  have k2 := g2.got (n := H.next) (by omega) k1
  have n2 := g2.next
  cases hsh : shortB T
  · simp
    refine fcall_fun (hwk _ G2) ?_
    rintro _ _ ⟨rfl, _⟩
    simp
  obtain ⟨hT12, hT14⟩ := short_facts hsh
  simp [k2]
  -- Best
  refine fcall_fun (day18_spec (h.ge G2) hT) ?_
  rintro _ H3 ⟨b3, w3, rfl, hd3, g3⟩
  have G3 := G2.trans g3
  have k3 := g3.got (n := H.next) (by omega) k2
  have n3 := g3.next
  simp
  refine fcall_fun (bestF_spec hd3 hT (hG.ge G3)) ?_
  rintro _ H4 ⟨vp, rfl, hp, g4⟩
  have G4 := G3.trans g4
  have k4 := g4.got (n := H.next) (by omega) k3
  have n4 := g4.next
  have hp1 := hp.one
  simp [k4, hp1]
  -- ProvePlan
  refine fcall_fun (day18_spec (h.ge G4) hT) ?_
  rintro _ H5 ⟨b5, w5, rfl, hd5, g5⟩
  have G5 := G4.trans g5
  have k5 := g5.got (n := H.next) (by omega) k4
  have n5 := g5.next
  simp
  refine fcall_fun (rows28_spec (RowsOf.ge hv G5) (by omega) (fun r hr => by have := hT14 r hr; omega)) ?_
  rintro v6 H6 ⟨o6, g6⟩
  have G6 := G5.trans g6
  have k6 := g6.got (n := H.next) (by omega) k5
  have n6 := g6.next
  have h6 := rows_done o6 (by omega) (fun r hr => by have := hT14 r hr; omega)
  simp
  refine fcall_fun (provePlan_spec (hd5.ge g6) hT h6 (fun r hr => by have := hT14 r hr; omega)) ?_
  rintro _ H7 ⟨rfl, g7⟩
  have G7 := G6.trans g7
  have k7 := g7.got (n := H.next) (by omega) k6
  have n7 := g7.next
  have g47 := g5.trans (g6.trans g7)
  have hpB : (decide (checkD D = 0) && planB D T) = planB D T := by simp [hc]
  rw [hpB]
  by_cases hE : bestE D = 0
  case neg =>
    have hE9 : bestE D = 9 := by
      unfold bestE at hE ⊢
      rw [if_pos hc] at hE ⊢
      cases hok : (bestC D).ok
      · simp
      · rw [hok] at hE; simp at hE
    have hno : planB D T = false := by
      cases hpl : planB D T
      · rfl
      · exfalso
        have := (best_least hV hpl).1
        unfold bestE at hE
        rw [if_pos hc, if_pos this] at hE
        exact hE rfl
    simp [hE9, hno]
    refine fcall_fun (hwk _ G7) ?_
    rintro _ _ ⟨rfl, _⟩
    simp
  have hok := best_ok hc hE
  obtain ⟨hpart, hlenP, hsumP, _⟩ := best_part hV hok
  have hPB := best_planB hV hok
  have hord := best_ordered hV hok
  have hn := best_len hV
  have hR : bestR D = (bestL D).map rowOf := by simp [bestR, hE]
  have hpay : bestPay D = (bestC D).pay := by simp [bestPay, hE]
  have hmask : ((bestL D).map rowOf).map maskL = bestL D := by
    rw [List.map_map]
    conv => rhs; rw [← List.map_id (bestL D)]
    exact List.map_congr_left fun d hd => (row_facts hV (hpart.mem d hd)).2.1
  have hPl : ((bestL D).map rowOf).length = (bestC D).n := by rw [List.length_map, hlenP]
  have hP14 : ∀ r ∈ (bestL D).map rowOf, r.length ≤ 10 := fun r hr => by
    obtain ⟨d, _, rfl⟩ := List.mem_map.1 hr
    exact rowOf_length
  have hgoodP := (planB_part hPB).1
  have hpaysP : paysTo D ((bestL D).map rowOf) ((bestL D).map rowOf).length = (bestC D).pay := by
    unfold paysTo
    rw [List.take_length, hmask, hsumP]
  rw [hR] at hp
  obtain ⟨P, hPdef⟩ : ∃ P, P = (bestL D).map rowOf := ⟨_, rfl⟩
  rw [← hPdef] at hPB hord hPl hP14 hgoodP hpaysP hp
  have hp7 : RowsAt H7 vp P := RowsOf.ge hp g47
  simp [hE]
  refine floop_intro (fun z => z.d = [] ∧ Ge H7 z.H ∧ z.t 1 = v ∧ z.t 2 = .pointer (some ⟨H.next, 0, none⟩) ∧ z.t 5 = vp ∧ z.t 6 = .int .i64 (bestPay D) ∧ z.t 8 = .bool (planB D T) ∧ ∃ i : Nat, i ≤ P.length ∧ z.t 10 = .int .i64 (i : Int) ∧ z.t 9 = .int .i64 (paysTo D P i)) (fun z => P.length - (intOf (z.t 10)).toNat) ?_ ?_
  · exact ⟨rfl, by simp, by simp, by simp, by simp, by simp, by simp, 0, by omega, by simp, by simp [paysTo, sumP]⟩
  rintro ⟨t, _, A⟩ ⟨rfl, g, t1, t2, t5, t6, t8, i, hi, t10, t9⟩
  dsimp only at g t1 t2 t5 t6 t8 t10 t9
  have kA := g.got (n := H.next) (by omega) k7
  have nA := g.next
  simp [t5, t10, hp7.lenV]
  refine fcond_intro (fun hcc => ?_) (fun hcc => ?_)
  case refine_1 =>
    have h1 : i < P.length := by simpa using hcc
    obtain ⟨p, u, e1, e2, e3⟩ := hp7.atAll h1
    have hx := hgoodP P[i] (List.getElem_mem h1)
    have hx14 := hP14 P[i] (List.getElem_mem h1)
    obtain ⟨hpe, hpd⟩ := pay_good hc hx.1 hx.2
    have hstep := paysTo_step (D := D) h1
    have hb1 := sumP_bounds hV ((P.take (i + 1)).map maskL)
    have hb2 : ((P.take (i + 1)).map maskL).length ≤ 1024 := by rw [List.length_map, List.length_take]; omega
    have g13 : Ge A (⟨A.get, A.next + 13⟩ : Heap) := Ge.grow_le (by omega) (Ge.refl _)
    have gA := g.trans g13
    simp [t2, t5, t10, kA, e1, e2 _ gA]
    refine fcall_fun (day18_spec (h.ge (G7.trans gA)) hT) ?_
    rintro _ A1 ⟨bA, wA, rfl, hdA, gA1⟩
    have GA1 := gA.trans gA1
    simp [t5, t10, e1, e2 _ GA1]
    refine fcall_fun (list_spec (e3.ge GA1) (by omega)) ?_
    rintro vl A2 ⟨ol, gA2⟩
    have GA2 := GA1.trans gA2
    simp [t5, t10, e1, e2 _ GA2]
    refine fcall_fun (payF_spec (hdA.ge gA2) hT (own_ints ol (by omega)) (by omega)) ?_
    rintro _ A3 ⟨rfl, gA3⟩
    have GA3 := GA2.trans gA3
    rw [hpe, hpd, if_pos rfl]
    have hin : 0 ≤ paysTo D P i + payN D (maskL P[i]) ∧ paysTo D P i + payN D (maskL P[i]) ≤ 102400000 := by
      rw [← hstep]
      unfold paysTo
      omega
    simp [t9, t10, add_in (x := paysTo D P i) (y := payN D (maskL P[i])) (by omega) (by omega), add_in (x := i) (y := 1) (by omega) (by omega)]
    exact ⟨⟨GA3, t1, t2, t5, t6, t8, i + 1, by omega, by omega, by rw [hstep]⟩, by omega⟩
  have hiP : i = P.length := by simp at hcc; omega
  rw [hiP, hpaysP, ← hpay] at t9
  clear hcc t10
  simp [t2, t5, t6, t9, kA]
  refine fcall_fun (day18_spec (h.ge (G7.trans g)) hT) ?_
  rintro _ B1 ⟨bB, wB, rfl, hdB, gB1⟩
  have GB1 := g.trans gB1
  simp [t5]
  refine fcall_fun (rows28_spec (RowsOf.ge hp7 GB1) (by omega) (fun r hr => by have := hP14 r hr; omega)) ?_
  rintro v2 B2 ⟨o2, gB2⟩
  have GB2 := GB1.trans gB2
  have hv2 := rows_done o2 (by omega) (fun r hr => by have := hP14 r hr; omega)
  simp
  refine fcall_fun (provePlan_spec (hdB.ge gB2) hT hv2 (fun r hr => by have := hP14 r hr; omega)) ?_
  rintro _ B3 ⟨rfl, gB3⟩
  have GB3 := GB2.trans gB3
  rw [hPB]
  simp [hc, t5]
  refine fcall_fun (ordered_spec (RowsOf.ge hp7 GB3) hord) ?_
  rintro _ B4 ⟨rfl, gB4⟩
  have GB4 := GB3.trans gB4
  have kB := GB4.got (n := H.next) (by omega) k7
  have nB := GB4.next
  simp [t8]
  cases hpl : planB D T
  · simp
    refine fcall_fun (hwk _ (G7.trans GB4)) ?_
    rintro _ _ ⟨rfl, _⟩
    simp
  obtain ⟨_, hleast⟩ := best_least hV hpl
  obtain ⟨hgoodT, hpartT⟩ := planB_part hpl
  have hpaysT : paysTo D T T.length = sumP (payN D) (T.map maskL) := by unfold paysTo; rw [List.take_length]
  rw [← hpaysT] at hleast
  have hvB := RowsOf.ge hv (G7.trans GB4)
  simp
  refine floop_intro (fun z => z.d = [] ∧ Ge B4 z.H ∧ z.t 1 = v ∧ z.t 2 = .pointer (some ⟨H.next, 0, none⟩) ∧ z.t 5 = vp ∧ z.t 6 = .int .i64 (bestPay D) ∧ ∃ i : Nat, i ≤ T.length ∧ z.t 14 = .int .i64 (i : Int) ∧ z.t 13 = .int .i64 (paysTo D T i)) (fun z => T.length - (intOf (z.t 14)).toNat) ?_ ?_
  · exact ⟨rfl, by simp, by simp [t1], by simp [t2], by simp [t5], by simp [t6], 0, by omega, by simp, by simp [paysTo, sumP]⟩
  clear t1 t2 t5 t6 t8 t9
  rintro ⟨t, _, A'⟩ ⟨rfl, g', t1, t2, t5, t6, j, hj, t14, t13⟩
  dsimp only at g' t1 t2 t5 t6 t14 t13
  have kA' := g'.got (n := H.next) (by omega) kB
  simp [t1, t14, hvB.lenV]
  refine fcond_intro (fun hcc => ?_) (fun hcc => ?_)
  case refine_1 =>
    have h1 : j < T.length := by simpa using hcc
    obtain ⟨p, u, e1, e2, e3⟩ := hvB.atAll h1
    have hx := hgoodT T[j] (List.getElem_mem h1)
    have hx14 := hT14 T[j] (List.getElem_mem h1)
    obtain ⟨hpe, hpd⟩ := pay_good hc hx.1 hx.2
    have hstep := paysTo_step (D := D) h1
    have hb1 := sumP_bounds hV ((T.take (j + 1)).map maskL)
    have hb2 : ((T.take (j + 1)).map maskL).length ≤ 1024 := by rw [List.length_map, List.length_take]; omega
    have g13 : Ge A' (⟨A'.get, A'.next + 13⟩ : Heap) := Ge.grow_le (by omega) (Ge.refl _)
    have gA := g'.trans g13
    simp [t1, t2, t14, kA', e1, e2 _ gA]
    refine fcall_fun (day18_spec (h.ge (G7.trans (GB4.trans gA))) hT) ?_
    rintro _ A1 ⟨bA, wA, rfl, hdA, gA1⟩
    have GA1 := gA.trans gA1
    simp [t1, t14, e1, e2 _ GA1]
    refine fcall_fun (list_spec (e3.ge GA1) (by omega)) ?_
    rintro vl A2 ⟨ol, gA2⟩
    have GA2 := GA1.trans gA2
    simp [t1, t14, e1, e2 _ GA2]
    refine fcall_fun (payF_spec (hdA.ge gA2) hT (own_ints ol (by omega)) (by omega)) ?_
    rintro _ A3 ⟨rfl, gA3⟩
    have GA3 := GA2.trans gA3
    rw [hpe, hpd, if_pos rfl]
    have hin : 0 ≤ paysTo D T j + payN D (maskL T[j]) ∧ paysTo D T j + payN D (maskL T[j]) ≤ 102400000 := by
      rw [← hstep]
      unfold paysTo
      omega
    simp [t13, t14, add_in (x := paysTo D T j) (y := payN D (maskL T[j])) (by omega) (by omega), add_in (x := j) (y := 1) (by omega) (by omega)]
    exact ⟨⟨GA3, t1, t2, t5, t6, j + 1, by omega, by omega, by rw [hstep]⟩, by omega⟩
  have hjT : j = T.length := by simp at hcc; omega
  rw [hjT] at t13
  have hge : (P.length : Int) ≤ T.length := by omega
  by_cases hgt : (P.length : Int) < T.length
  · simp [t1, t5, hvB.lenV, hp7.lenV, hge, hgt]
    refine fcall_fun (hwk _ (G7.trans (GB4.trans g'))) ?_
    rintro _ _ ⟨rfl, _⟩
    simp
  · have hpp : bestPay D ≤ paysTo D T T.length := by rw [hpay]; omega
    simp [t1, t5, t6, t13, hvB.lenV, hp7.lenV, hge, hgt, hpp]
    refine fcall_fun (hwk _ (G7.trans (GB4.trans g'))) ?_
    rintro _ _ ⟨rfl, _⟩
    simp

end Go.Proofs.YtllkhaabcfnlpaaDoor


/-
  The tables of math/bits, and a world for the witness, as the laws of package duty need them.
-/
namespace Go.Proofs.YtllkhaabcfnlpaaDoor
open Go Go.Ab Go.ChangeShapes Go.WideShapes Go.ChangeAt Go.RowKit

theorem ownT : ownKnob Tryd.prog.godebug = none := by kernel_rfl
theorem gTab0 : Tryd.prog.globalNamed "math/bits.deBruijn32tab" = some 0 := by kernel_rfl
theorem gTab1 : Tryd.prog.globalNamed "math/bits.deBruijn64tab" = some 1 := by kernel_rfl
theorem gType0 : (Tryd.prog.globals[0]?).map (·.type) = some 180 := by kernel_rfl
theorem gType1 : (Tryd.prog.globals[1]?).map (·.type) = some 181 := by kernel_rfl
theorem cellsT180 : Tryd.prog.cellsOf 180 = 32 := by kernel_rfl
theorem cellsT181 : Tryd.prog.cellsOf 181 = 64 := by kernel_rfl
theorem cellsT5 : Tryd.prog.cellsOf 5 = 1 := by kernel_rfl

theorem laidT : laidOutB Tryd.prog = true := by kernel_rfl
theorem readT {l : List Nat} (h : l.all (fun t => Tryd.prog.readableRec t && decide (t < Tryd.prog.types.size)) = true) : ∀ t ∈ l, Tryd.prog.readableRec t = true ∧ t < Tryd.prog.types.size := by
  intro t ht
  have := List.all_eq_true.1 h t ht
  simpa using this

/-- What the row's list gives. -/
abbrev tabsL {H : Type} : List (String × DataW H) := [("math/bits.deBruijn32tab", Rows.laid_math_bits_deBruijn32tab), ("math/bits.deBruijn64tab", Rows.laid_math_bits_deBruijn64tab)]
theorem tables {W : World} (h : laidMetH Tryd.prog tabsL W) : gmax ≤ W.heap.size ∧ ∀ g, g < gmax → ∃ cs c, [gl0, gl1][g]? = some (some (false, cs, c)) ∧ cs.all flat1 = true ∧ (absH W.heap).get g = .cells false cs c := by
  have t0 := abs_tab (Lib.tabIs_of_head (k := .u8) (zs := [0, 1, 28, 2, 29, 14, 24, 3, 30, 22, 20, 15, 25, 17, 4, 8, 31, 27, 13, 23, 21, 19, 16, 7, 26, 12, 18, 6, 11, 5, 10, 9]) gTab0 gType0 Tryd.underlying180 Tryd.underlying5 cellsT5 cellsT180 h) gTab0
  have t1 := abs_tab (Lib.tabIs_of_head (k := .u8) (zs := [0, 1, 56, 2, 57, 49, 28, 3, 61, 58, 42, 50, 38, 29, 17, 4, 62, 47, 59, 36, 45, 43, 51, 22, 53, 39, 33, 30, 24, 18, 12, 5, 63, 55, 48, 27, 60, 41, 37, 16, 46, 35, 44, 21, 52, 32, 23, 11, 54, 26, 40, 15, 34, 20, 31, 10, 25, 14, 19, 9, 13, 8, 7, 6]) (rest := []) gTab1 gType1 Tryd.underlying181 Tryd.underlying5 cellsT5 cellsT181 (laidMet.tail h)) gTab1
  refine ⟨t1.1, fun g hg => ?_⟩
  match g, hg with
  | 0, _ => exact ⟨_, _, rfl, rfl, t0.2⟩
  | 1, _ => exact ⟨_, _, rfl, rfl, t1.2⟩

/-- A world for the witness: the settled one with the arguments' memory, the tables holding what their initialisers lay. -/
noncomputable def laidCells (l : Array Value) : Obj → Obj
  | .cells _ t frozen => .cells l t frozen
  | o => o
noncomputable def laidWorld (os : Os) (args : Array Value) : World :=
  { World.holding Tryd.prog os ⟨#[], args, []⟩ with heap := ((World.holding Tryd.prog os ⟨#[], args, []⟩).heap.modify 0 (laidCells #[.int .u8 0, .int .u8 1, .int .u8 28, .int .u8 2, .int .u8 29, .int .u8 14, .int .u8 24, .int .u8 3, .int .u8 30, .int .u8 22, .int .u8 20, .int .u8 15, .int .u8 25, .int .u8 17, .int .u8 4, .int .u8 8, .int .u8 31, .int .u8 27, .int .u8 13, .int .u8 23, .int .u8 21, .int .u8 19, .int .u8 16, .int .u8 7, .int .u8 26, .int .u8 12, .int .u8 18, .int .u8 6, .int .u8 11, .int .u8 5, .int .u8 10, .int .u8 9])).modify 1 (laidCells #[.int .u8 0, .int .u8 1, .int .u8 56, .int .u8 2, .int .u8 57, .int .u8 49, .int .u8 28, .int .u8 3, .int .u8 61, .int .u8 58, .int .u8 42, .int .u8 50, .int .u8 38, .int .u8 29, .int .u8 17, .int .u8 4, .int .u8 62, .int .u8 47, .int .u8 59, .int .u8 36, .int .u8 45, .int .u8 43, .int .u8 51, .int .u8 22, .int .u8 53, .int .u8 39, .int .u8 33, .int .u8 30, .int .u8 24, .int .u8 18, .int .u8 12, .int .u8 5, .int .u8 63, .int .u8 55, .int .u8 48, .int .u8 27, .int .u8 60, .int .u8 41, .int .u8 37, .int .u8 16, .int .u8 46, .int .u8 35, .int .u8 44, .int .u8 21, .int .u8 52, .int .u8 32, .int .u8 23, .int .u8 11, .int .u8 54, .int .u8 26, .int .u8 40, .int .u8 15, .int .u8 34, .int .u8 20, .int .u8 31, .int .u8 10, .int .u8 25, .int .u8 14, .int .u8 19, .int .u8 9, .int .u8 13, .int .u8 8, .int .u8 7, .int .u8 6]) }

end Go.Proofs.YtllkhaabcfnlpaaDoor


/-
  The arguments of the laws of package duty, as the calculus has them: days, lists, rows, words, numbers.
-/
namespace Go.Proofs.YtllkhaabcfnlpaaDoor
open Go Go.Ab Go.RowKit Go.ChangeShapes Go.WideShapes

theorem cells3 : Tryd.prog.cellsOf 3 = 1 := by kernel_rfl
theorem cells28 : Tryd.prog.cellsOf 28 = 1 := by kernel_rfl
theorem cells80 : Tryd.prog.cellsOf 80 = 1 := by kernel_rfl
theorem cells24 : Tryd.prog.cellsOf 24 = 1 := by kernel_rfl
theorem cells25 : Tryd.prog.cellsOf 25 = 1 := by kernel_rfl
theorem cells82 : Tryd.prog.cellsOf 82 = 2 := by kernel_rfl
theorem cells84 : Tryd.prog.cellsOf 84 = 3 := by kernel_rfl
theorem cells23 : Tryd.prog.cellsOf 23 = 8 := by kernel_rfl
theorem cells27 : Tryd.prog.cellsOf 27 = 10 := by kernel_rfl
theorem abs_size (hp : Array Obj) : hp.size ≤ (absH hp).next := Nat.le_succ_of_le (Nat.le_mul_of_pos_right _ (Nat.succ_pos _))

theorem list3 {l : List Value} (h : l.length = 3) : ∃ a b c, l = [a, b, c] := by
  match l, h with
  | [a, b, c], _ => exact ⟨a, b, c, rfl⟩
theorem list10 {l : List Value} (h : l.length = 10) : ∃ a b c d e f g i j k, l = [a, b, c, d, e, f, g, i, j, k] := by
  match l, h with
  | [a, b, c, d, e, f, g, i, j, k], _ => exact ⟨a, b, c, d, e, f, g, i, j, k, rfl⟩

section
variable {H : Type} {enc : TypeId × Value → H} {w : World} {fuel : Nat} {v : Value} {x : DataW H × List MemPlace}

theorem maxLen_lt {n : Nat} (h : n ≤ maxLen) : n < 2 ^ 63 := by
  have : maxLen = 9223372036854775807 := rfl
  omega

theorem read_list (h : DataW.trod enc Tryd.prog w 0 (fun _ => true) true fuel 28 [v] = some x) : goodV w.heap.size (capM w.heap) v = true ∧ ∃ xs : List Int, IntsAt (absH w.heap) (absV w.heap.size v) xs := by
  obtain ⟨h1, xs, h2, h3, _⟩ := read_ints Tryd.underlying28 Tryd.underlying3 cells3 h
  exact ⟨h1, xs, h2, maxLen_lt h3⟩

theorem read_of {t e : TypeId} {α : Type} {R : Heap → Value → α → Prop} (ht : Tryd.prog.underlying t = some (.slice e)) (hc : Tryd.prog.cellsOf e = 1)
    (hs : ∀ n cs y, DataW.trod enc Tryd.prog w 0 (fun _ => true) true n e cs = some y → ∃ u, cs = [u])
    (hr : ∀ n u y, DataW.trod enc Tryd.prog w 0 (fun _ => true) true n e [u] = some y → goodV w.heap.size (capM w.heap) u = true ∧ ∃ x : α, R (absH w.heap) (absV w.heap.size u) x)
    (h : DataW.trod enc Tryd.prog w 0 (fun _ => true) true fuel t [v] = some x) : goodV w.heap.size (capM w.heap) v = true ∧ ∃ xs : List α, RowsOf R (absH w.heap) (absV w.heap.size v) xs := by
  obtain ⟨h1, l, h2, h3, h4⟩ := read_slice (α := α × Value) (f := fun x => [x.2]) (Q := fun x => R (absH w.heap) x.2 x.1) ht (by rw [hc]; omega) (fun n cs y hy => by
    obtain ⟨u, rfl⟩ := hs _ _ _ hy
    obtain ⟨k1, xs, k2⟩ := hr _ _ _ hy
    exact ⟨by simpa using k1, (xs, absV w.heap.size u), rfl, k2⟩) h
  refine ⟨h1, l.map (·.1), l.map (·.2), ?_, by simpa using maxLen_lt h3, fun i hi => ?_⟩
  · rw [hc] at h2
    have e : l.flatMap (fun x => [x.2]) = l.map (·.2) := by
      clear h2 h3 h4
      induction l with
      | nil => rfl
      | cons x l ih => simp [ih]
    rw [← e, List.length_map]
    exact h2
  · simp at hi
    exact ⟨l[i].2, by simp [hi], by simpa using h4 _ (List.getElem_mem hi)⟩

theorem one_slice {t e : TypeId} (ht : Tryd.prog.underlying t = some (.slice e)) {n : Nat} {cs : List Value} {y : DataW H × List MemPlace} (hy : DataW.trod enc Tryd.prog w 0 (fun _ => true) true n t cs = some y) : ∃ u, cs = [u] := by
  rcases Deep.open_slice ht hy with ⟨hv, _⟩ | ⟨a, len, cap, m, n, D, Pl, hv, _⟩ <;> exact ⟨_, hv⟩

theorem read_rows (h : DataW.trod enc Tryd.prog w 0 (fun _ => true) true fuel 25 [v] = some x) : goodV w.heap.size (capM w.heap) v = true ∧ ∃ xs : List (List Int), RowsAt (absH w.heap) (absV w.heap.size v) xs :=
  read_of Tryd.underlying25 cells28 (fun _ _ _ hy => one_slice Tryd.underlying28 hy) (fun _ _ _ hy => read_list hy) h

theorem read_relief {cs : List Value} (h : DataW.trod enc Tryd.prog w 0 (fun _ => true) true fuel 84 cs = some x) : (∀ u ∈ cs, goodV w.heap.size (capM w.heap) u = true) ∧ ∃ t : Rl, cs.map (absV w.heap.size) = t.cells ∧ True := by
  obtain ⟨ys, n, _, _, hl, hyl, hf⟩ := DataW.trod_struct Tryd.underlying84 h
  rw [cells84] at hl
  obtain ⟨c0, c1, c2, rfl⟩ := list3 hl
  have hy2 : ys.length = 2 := by simpa using hyl
  have e0 := hf 0 _ rfl
  have e1 := hf 1 _ rfl
  simp [cells3, cells82, hy2] at e0 e1
  obtain ⟨zs, m, _, _, hl', hyl', hf'⟩ := DataW.trod_struct Tryd.underlying82 e1
  have hz2 : zs.length = 2 := by simpa using hyl'
  have e2 := hf' 0 _ rfl
  have e3 := hf' 1 _ rfl
  simp [cells3, hz2] at e2 e3
  obtain ⟨z0, hz0, _⟩ := DataW.trod_int Tryd.underlying3 e0
  obtain ⟨z1, hz1, _⟩ := DataW.trod_int Tryd.underlying3 e2
  obtain ⟨z2, hz2, _⟩ := DataW.trod_int Tryd.underlying3 e3
  simp at hz0 hz1 hz2
  subst hz0 hz1 hz2
  exact ⟨by simp [goodV], ⟨z0, z1, z2⟩, rfl, trivial⟩

theorem read_rels (h : DataW.trod enc Tryd.prog w 0 (fun _ => true) true fuel 80 [v] = some x) : goodV w.heap.size (capM w.heap) v = true ∧ ∃ xs : List Rl, RelsAt (absH w.heap) (absV w.heap.size v) xs := by
  obtain ⟨h1, xs, h2, h3, _⟩ := read_slice (α := Rl) (f := Rl.cells) (Q := fun _ => True) Tryd.underlying80 (by rw [cells84]; omega) (fun n cs y hy => read_relief hy) h
  rw [cells84] at h2
  exact ⟨h1, xs, h2, maxLen_lt h3⟩

theorem read_blks (h : DataW.trod enc Tryd.prog w 0 (fun _ => true) true fuel 24 [v] = some x) : goodV w.heap.size (capM w.heap) v = true ∧ ∃ xs : List (List Rl), BlksAt (absH w.heap) (absV w.heap.size v) xs :=
  read_of Tryd.underlying24 cells80 (fun _ _ _ hy => one_slice Tryd.underlying80 hy) (fun _ _ _ hy => read_rels hy) h
end

section
variable {H : Type} {enc : TypeId × Value → H} {w : World} {base : Nat} {v : Value} {d : DataW H} {p : List MemPlace}

set_option maxRecDepth 100000 in
theorem read_dayV (hval : Value.okWide Tryd.prog w .any base 27 v) (h : DataW.Trod enc Tryd.prog w 0 (fun _ => true) true 27 v d p) :
    ∃ D b u, VR (absB w.heap) (dayV D b u) v ∧ DayAt (absH w.heap) b u D := by
  obtain ⟨cs, rfl, hsz⟩ := okWide_struct Tryd.underlying27 hval
  obtain ⟨fuel, h⟩ := h
  simp only [Value.cells] at h
  obtain ⟨ys, n, _, _, hl, hyl, hf⟩ := DataW.trod_struct Tryd.underlying27 h
  rw [cells27] at hl
  obtain ⟨l, rfl⟩ : ∃ l : List Value, cs = l.toArray := ⟨cs.toList, by simp⟩
  simp only at hl hf
  obtain ⟨c0, c1, c2, c3, c4, c5, c6, c7, c8, c9, rfl⟩ := list10 hl
  have hy3 : ys.length = 3 := by simpa using hyl
  have e0 := hf 0 _ rfl
  have e1 := hf 1 _ rfl
  have e2 := hf 2 _ rfl
  simp [cells23, cells24, cells25, hy3] at e0 e1 e2
  obtain ⟨zs, m, _, _, hl', hyl', hf'⟩ := DataW.trod_struct Tryd.underlying23 e0
  have hz8 : zs.length = 8 := by simpa using hyl'
  have f0 := hf' 0 _ rfl
  have f1 := hf' 1 _ rfl
  have f2 := hf' 2 _ rfl
  have f3 := hf' 3 _ rfl
  have f4 := hf' 4 _ rfl
  have f5 := hf' 5 _ rfl
  have f6 := hf' 6 _ rfl
  have f7 := hf' 7 _ rfl
  simp [cells3, hz8] at f0 f1 f2 f3 f4 f5 f6 f7
  obtain ⟨z0, h0, _⟩ := DataW.trod_int Tryd.underlying3 f0
  obtain ⟨z1, h1, _⟩ := DataW.trod_int Tryd.underlying3 f1
  obtain ⟨z2, h2, _⟩ := DataW.trod_int Tryd.underlying3 f2
  obtain ⟨z3, h3, _⟩ := DataW.trod_int Tryd.underlying3 f3
  obtain ⟨z4, h4, _⟩ := DataW.trod_int Tryd.underlying3 f4
  obtain ⟨z5, h5, _⟩ := DataW.trod_int Tryd.underlying3 f5
  obtain ⟨z6, h6, _⟩ := DataW.trod_int Tryd.underlying3 f6
  obtain ⟨z7, h7, _⟩ := DataW.trod_int Tryd.underlying3 f7
  obtain ⟨g8, xs, k8⟩ := read_blks e1
  obtain ⟨g9, us, k9⟩ := read_rows e2
  simp at h0 h1 h2 h3 h4 h5 h6 h7
  subst h0 h1 h2 h3 h4 h5 h6 h7
  refine ⟨⟨⟨z0, z1, z2, z3, z4, z5, z6, z7⟩, xs, us⟩, absV w.heap.size c8, absV w.heap.size c9, VR.mk_agg ?_, ⟨k8, k9⟩⟩
  exact ⟨.int _ _, .int _ _, .int _ _, .int _ _, .int _ _, .int _ _, .int _ _, .int _ _, good_VR g8, good_VR g9, trivial⟩

set_option maxRecDepth 100000 in
theorem read_rowsV (hval : Value.okWide Tryd.prog w .any base 25 v) (h : DataW.Trod enc Tryd.prog w 0 (fun _ => true) true 25 v d p) : VR (absB w.heap) (absV w.heap.size v) v ∧ ∃ xs, RowsAt (absH w.heap) (absV w.heap.size v) xs := by
  obtain ⟨a0, len, cap, rfl⟩ := okWide_slice Tryd.underlying25 hval
  obtain ⟨fuel, h⟩ := h
  obtain ⟨h1, h2⟩ := read_rows h
  exact ⟨good_VR h1, h2⟩
end

end Go.Proofs.YtllkhaabcfnlpaaDoor


/-
  The table of the package math/bits in the program's memory.
-/
namespace Go.Proofs.YtllkhaabcfnlpaaDoor
open Go Go.Ab

theorem gl_of {W : World} (hgl : gmax ≤ W.heap.size) (hgc : ∀ g, g < gmax → ∃ cs c, [gl0, gl1][g]? = some (some (false, cs, c)) ∧ cs.all flat1 = true ∧ (absH W.heap).get g = .cells false cs c) : Gl (absH W.heap) := by
  obtain ⟨cs, c, k1, _, k3⟩ := hgc 1 (by decide)
  have e := Option.some.inj (Option.some.inj k1)
  have e1 : tz64 = cs := congrArg (fun p => p.2.1) e
  subst e1
  exact ⟨Nat.le_trans hgl (abs_size _), c, k3⟩

end Go.Proofs.YtllkhaabcfnlpaaDoor

