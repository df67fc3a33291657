/-
  Joined texts of a calculus of abstract memory, of the program's code in it, and of contracts.
-/
import Derived.Test.YtllkhaabcfnlpaaDoorJ6
import Derived.Test.YtllkhaabcfnlpaaDoorJ7
import Derived.Test.YtllkhaabcfnlpaaDoorJ11
import Derived.Test.YtllkhaabcfnlpaaDoorJ12
import Derived.Test.YtllkhaabcfnlpaaDoorCards
import Derived.Test.YtllkhaabcfnlpaaDoorTie
import Derived.WalkKit
import Derived.ProofKit
import Derived.OpenShut
import Derived.Deep.DeepHandedRow
/-
  What the program says of a duty is what the reference says.
-/
namespace Go.Proofs.YtllkhaabcfnlpaaDoor
open Go Go.Ab

theorem same_pieces {D : Dy} {xs : List Int} (hd : isDutyB (segsOf D.blocks) xs = true) (hlen : xs.length ≤ 15) : ∃ zs : List (Pc × Nat), piecesL D (maskL xs) = zs.map Prod.fst ∧ insSort (rBefore D) (grpTo D xs xs.length) = zs.map fun z => toR z.1 z.2 := by
  obtain ⟨hmlt, hm0⟩ := duty_mask hd
  unfold isDutyB at hd
  rw [Bool.and_eq_true, decide_eq_true_eq] at hd
  have hr : ∀ j, j < xs.length → riseAt (segsOf D.blocks) xs j = true := fun j hj => List.all_eq_true.1 hd.1 j (by simpa using hj)
  have hb := riseB_bounds hr (Nat.le_refl _)
  have hxs : xs = (xs.map Int.toNat).map Int.ofNat := by
    rw [List.map_map]
    refine (List.ext_getElem (by simp) fun i h1 h2 => ?_)
    have := hb i h1
    simp; omega
  generalize hns : xs.map Int.toNat = ns at hxs
  have hnl : ns.length = xs.length := by rw [← hns]; simp
  have hnx : ∀ i (h : i < ns.length), (ns[i] : Int) = xs[i]'(by omega) := fun i h => by
    have := hb i (by omega)
    simp only [← hns, List.getElem_map]; omega
  have hrise : ns.Pairwise (· < ·) := by
    rw [List.pairwise_iff_getElem]
    have step : ∀ i (h : i + 1 < ns.length), ns[i] < ns[i + 1] := fun i h => by
      have := hr (i + 1) (by omega)
      simp [riseAt, lastAt, (by omega : i + 1 < xs.length), (by omega : i < xs.length)] at this
      have e1 := hnx i (by omega)
      have e2 := hnx (i + 1) h
      omega
    have : ∀ k i (h : i + k + 1 < ns.length), ns[i] < ns[i + k + 1] := fun k => by
      induction k with
      | zero => exact step
      | succ k ih => intro i h; have a := ih i (by omega); have b := step (i + k + 1) (by omega); have e : i + (k + 1) + 1 = i + k + 1 + 1 := by omega
                     simp only [e]; omega
    intro i j hi hj hij
    have h := this (j - i - 1) i (by omega)
    have e : i + (j - i - 1) + 1 = j := by omega
    simp only [e] at h; exact h
  have hnb : ∀ y ∈ ns, y < segsOf D.blocks := fun y hy => by
    obtain ⟨i, hi, rfl⟩ := List.mem_iff_getElem.1 hy
    have := hb i (by omega)
    have := hnx i hi
    omega
  have hbits : bitsFrom (segPs D).length (maskL xs) 0 = ns := by
    refine rise_ext bitsFrom_rise hrise fun x => ?_
    rw [bitsFrom_mem, maskL_bit, List.any_eq_true]
    constructor
    · rintro ⟨_, y, hy, he⟩
      rw [← hns]
      exact List.mem_map.2 ⟨y, hy, by simpa using he⟩
    · intro hx
      refine ⟨by rw [segPs_length]; exact hnb x hx, ?_⟩
      rw [← hns] at hx
      obtain ⟨y, hy, rfl⟩ := List.mem_map.1 hx
      exact ⟨y, hy, by simp⟩
  have hruns : runsK D 16 (maskL xs) = (segsG 16 D ns).map Prod.fst := by
    rw [runsK_segs 16 _ hmlt, hbits, segsG_fst]
  have hgrp : grpTo D xs xs.length = (segsG 16 D ns).map fun z => toR z.1 z.2 := by
    rw [hxs]
    have hl2 : (ns.map Int.ofNat).length = ns.length := by simp
    rw [hl2]
    cases hc : ns with
    | nil => rw [hc] at hnl; simp at hnl; omega
    | cons x0 rest =>
      have h1 : grpTo D ((x0 :: rest).map Int.ofNat) 1 = [] ++ [newR D x0] := by simp [grpTo, newR]
      have := grpTo_grpF (D := D) (ns := x0 :: rest) rest.length 1 (by simp; omega) (by omega) [] (newR D x0) h1
      rw [this]
      have hnb' := hnb
      rw [hc] at hnb' hnl
      simp only [List.nil_append, Nat.sub_self, List.getElem?_cons_zero, Option.getD_some, List.drop_one, List.tail_cons]
      rw [grpF_segs rest (segP D x0) (newR D x0) x0 15 Alike.new (hnb' x0 (by simp)) (fun y hy => hnb' y (by simp [hy])) (by simp at hnl; omega)]
      rfl
  have hrz := segsG_rise (D := D) 16 ns hrise
  generalize segsG 16 D ns = zs0 at hruns hgrp hrz
  refine ⟨insSort (fun x y => decide (loOf D x.1 < loOf D y.1)) zs0, ?_, ?_⟩
  · unfold piecesL
    rw [hruns, insSort_map]
  · rw [hgrp, insSort_map]
    congr 1
    refine insSort_congr _ _ _ fun i k hi hk => ?_
    have hg : (zs0[k]'(by omega)).2 < zs0[i].2 := List.pairwise_iff_getElem.1 hrz k i (by omega) hi hk
    have e1 : ∀ z : Pc × Nat, rLo D (toR z.1 z.2) = loOf D z.1 := fun z => rfl
    unfold rBefore
    rw [e1, e1]
    split
    · rename_i he
      have : ¬ loOf D zs0[i].1 < loOf D (zs0[k]'(by omega)).1 := by omega
      have h2 : ¬ (toR zs0[i].1 zs0[i].2).g < (toR (zs0[k]'(by omega)).1 (zs0[k]'(by omega)).2).g := by simp only [toR]; omega
      simp [this, h2]
    · rfl

end Go.Proofs.YtllkhaabcfnlpaaDoor

/-
  Legal, and paid: as the reference says.
-/
namespace Go.Proofs.YtllkhaabcfnlpaaDoor
open Go Go.Ab

theorem kAt_known {D : Dy} (b n : Nat) : kAt (known0 D) b n = (tAt (lowsD D) b n, tAt (highsD D) b n) := by
  unfold kAt tAt known0 lowsD highsD
  rw [List.getElem?_map, List.getElem?_map, List.getElem?_map]
  cases D.blocks[b]? with
  | none => rfl
  | some x =>
    simp only [Option.map_some, Option.bind_some]
    rw [List.getElem?_map, List.getElem?_map, List.getElem?_map]
    cases x[n]? <;> rfl
theorem lows_ok {D : Dy} (hV : Valid D) : TOk D (lowsD D) := by
  refine ⟨?_, ?_⟩
  · rintro b n ⟨x, h1, h2⟩
    exact ⟨x.map Rl.lo, by simp [lowsD, h1], by simpa using h2⟩
  · intro x hx y hy
    simp only [lowsD, List.mem_map] at hx
    obtain ⟨z, hz, rfl⟩ := hx
    obtain ⟨r, hr, rfl⟩ := List.mem_map.1 hy
    have := hV.rel hz hr; omega
theorem highs_ok {D : Dy} (hV : Valid D) : TOk D (highsD D) := by
  refine ⟨?_, ?_⟩
  · rintro b n ⟨x, h1, h2⟩
    exact ⟨x.map Rl.hi, by simp [highsD, h1], by simpa using h2⟩
  · intro x hx y hy
    simp only [highsD, List.mem_map] at hx
    obtain ⟨z, hz, rfl⟩ := hx
    obtain ⟨r, hr, rfl⟩ := List.mem_map.1 hy
    have := hV.rel hz hr; omega

section
variable {D : Dy} {zs : List (Pc × Nat)} {K : List (List (Int × Int))} {B E : List (List Int)} (hk : ∀ b n, kAt K b n = (tAt B b n, tAt E b n))
include hk
abbrev psOf (zs : List (Pc × Nat)) : List Pc := zs.map Prod.fst
abbrev rsOf (zs : List (Pc × Nat)) : List Rp := zs.map fun z => toR z.1 z.2

theorem last_same {m : Nat} {p : Pc} {g : Nat} (h : PcOk D m p) : lastOf K p = rLast B E (toR p g) := by
  unfold lastOf rLast
  rw [hk, hk, h.same]; rfl
theorem rest_same {m : Nat} {x y : Pc} {g g' : Nat} (hx : PcOk D m x) : restOf K x y = rRest B E (toR x g) (toR y g') := by
  unfold restOf rRest
  rw [hk, hk, hx.same]; rfl

omit hk in
theorem ps_at {i : Nat} (hi : i < zs.length) : (psOf zs)[i]?.getD fz = zs[i].1 := by simp [hi]
omit hk in
theorem rs_at {i : Nat} (hi : i < zs.length) : (rsOf zs)[i]?.getD rz = toR zs[i].1 zs[i].2 := by simp [hi]

theorem spread_same {m : Nat} (hok : ∀ z ∈ zs, PcOk D m z.1) (h0 : 0 < zs.length) : spreadOf D K (psOf zs) = rSpread D B E (rsOf zs) := by
  unfold spreadOf rSpread
  have hl1 : (psOf zs).length = zs.length := by simp
  have hl2 : (rsOf zs).length = zs.length := by simp
  rw [hl1, hl2, ps_at (by omega), ps_at h0, rs_at (by omega), rs_at h0, hk, hk]
  rw [(hok _ (List.getElem_mem (by omega))).same]
  simp only [toR]
  omega
theorem lasts_same {m : Nat} (hok : ∀ z ∈ zs, PcOk D m z.1) : lTo K (psOf zs) (psOf zs).length = (rsOf zs).map (rLast B E) := by
  unfold lTo
  rw [List.take_length, List.map_map, List.map_map]
  refine List.map_congr_left fun z hz => ?_
  exact last_same hk (hok z hz)

omit hk in
theorem foldl_max (l : List Int) : ∀ (a c : Int), l.foldl max a ≤ c ↔ a ≤ c ∧ ∀ x ∈ l, x ≤ c := by
  induction l with
  | nil => intro a c; simp
  | cons x l ih =>
    intro a c
    rw [List.foldl_cons, ih]
    simp only [List.mem_cons, forall_eq_or_imp]
    rw [Int.max_le, and_assoc]

theorem legal_same {m : Nat} (hV : Valid D) (hok : ∀ z ∈ zs, PcOk D m z.1) (h0 : 0 < zs.length) : legalB D K (psOf zs) = rObeys D B E (rsOf zs) := by
  have hlaw := law_bounds hV
  have hl1 : (psOf zs).length = zs.length := by simp
  have hl2 : (rsOf zs).length = zs.length := by simp
  have hlen : ((rsOf zs).map (rLast B E)).length = zs.length := by simp
  rw [Bool.eq_iff_iff]
  unfold legalB rObeys rHead answers
  rw [lasts_same hk hok, spread_same hk hok h0]
  simp only [List.all_cons, List.all_nil, id, Bool.and_true, Bool.and_eq_true, decide_eq_true_eq, List.all_eq_true, foldl_max, List.mem_range, hlen, hl2]
  constructor
  · rintro ⟨c1, ⟨_, c2⟩, c3, c4, c5⟩
    refine ⟨⟨c1, c3, c5⟩, fun i hi => ?_⟩
    have hx := hok _ (List.getElem_mem hi)
    unfold rStep
    rw [rs_at hi]
    have d1 : rLast B E (toR zs[i].1 zs[i].2) ≤ D.law.piece := c2 _ (List.mem_map.2 ⟨_, List.mem_map.2 ⟨zs[i], List.getElem_mem hi, rfl⟩, rfl⟩)
    by_cases hz : i = 0
    · simp [hz] at d1 ⊢; exact d1
    · have hm1 : i - 1 < zs.length := by omega
      rw [rs_at hm1]
      have hxm := hok _ (List.getElem_mem hm1)
      have hmem : freeOf D K zs[i - 1].1 zs[i].1 ∈ bTo (freeOf D K) (psOf zs) (psOf zs).length := by
        unfold bTo
        refine List.mem_map.2 ⟨i - 1, by rw [List.mem_range]; omega, ?_⟩
        rw [ps_at hm1, ps_at (by omega : i - 1 + 1 < zs.length)]
        have e : i - 1 + 1 = i := by omega
        simp only [e]
      have d2 := c4 _ hmem
      have d3 : freeOf D K zs[i - 1].1 zs[i].1 = rRest B E (toR zs[i - 1].1 zs[i - 1].2) (toR zs[i].1 zs[i].2) - D.walkOf zs[i - 1].1.b zs[i - 1].1.t zs[i].1.b zs[i].1.f := by
        unfold freeOf
        rw [rest_same hk hxm (g := zs[i - 1].2) (g' := zs[i].2), hxm.same]
      simp only [toR] at d1 d3 ⊢
      simp [hz, d1]
      exact decide_eq_true (by omega)
  · rintro ⟨⟨c1, c3, c5⟩, hall⟩
    refine ⟨c1, ⟨by omega, fun y hy => ?_⟩, c3, fun y hy => ?_, c5⟩
    · obtain ⟨r, hr, rfl⟩ := List.mem_map.1 hy
      obtain ⟨z, hz, rfl⟩ := List.mem_map.1 hr
      obtain ⟨i, hi, rfl⟩ := List.mem_iff_getElem.1 hz
      have := hall i hi
      unfold rStep at this
      rw [rs_at hi, Bool.and_eq_true, decide_eq_true_eq] at this
      exact this.1
    · unfold bTo at hy
      obtain ⟨j, hj, rfl⟩ := List.mem_map.1 hy
      rw [List.mem_range] at hj
      have hj1 : j + 1 < zs.length := by omega
      have hj0 : j < zs.length := by omega
      rw [ps_at hj0, ps_at hj1]
      have := hall (j + 1) hj1
      unfold rStep at this
      rw [Bool.and_eq_true] at this
      have h2 := this.2
      have e : j + 1 - 1 = j := by omega
      rw [e, rs_at hj0, rs_at hj1] at h2
      have hxm := hok _ (List.getElem_mem hj0)
      have d3 : freeOf D K zs[j].1 zs[j + 1].1 = rRest B E (toR zs[j].1 zs[j].2) (toR zs[j + 1].1 zs[j + 1].2) - D.walkOf zs[j].1.b zs[j].1.t zs[j + 1].1.b zs[j + 1].1.f := by
        unfold freeOf
        rw [rest_same hk hxm (g := zs[j].2) (g' := zs[j + 1].2), hxm.same]
      rw [d3]
      simp only [toR] at h2 ⊢
      simp at h2
      have h3 := of_decide_eq_true h2
      omega
end

end Go.Proofs.YtllkhaabcfnlpaaDoor

/-
  The reference on one duty.
-/
namespace Go.Proofs.YtllkhaabcfnlpaaDoor
open Go Go.Ab

theorem isDuty23_spec {D : Dy} {b w v : Value} {H : Heap} {xs : List Int} (h : DayAt H b w D) (hT : D.Thin) (hv : IntsAt H v xs) (hlen : xs.length < 2 ^ 31) :
    AFun Tryd.prog 23 [dayV D b w, v] H (fun r B => r = .bool (isDutyB (segsOf D.blocks) xs) ∧ Ge H B) := by
  refine AFun.mk ok23 hm (Nat.le_of_ble_eq_true rfl) ?_
  have hb := h.blocks.one
  have hw := h.walk.one
  have hseg : segsOf D.blocks ≤ 140 := by have := hT.segs D.blocks.length; rwa [List.take_length] at this
  simp [a23, r23, hb, hw]
  refine floop_intro (fun z => z.d = [] ∧ Ge H z.H ∧ H.next < z.H.next ∧ z.t 1 = v ∧ z.t 2 = .pointer (some ⟨H.next, 0, none⟩) ∧ z.H.get H.next = .cells true (dayV D b w).cells.toList 10 ∧ ∃ i : Nat, i ≤ xs.length ∧ z.t 5 = .int .i64 i ∧ ∀ j, j < i → riseAt (segsOf D.blocks) xs j = true) (fun z => xs.length - (intOf (z.t 5)).toNat) ?_ ?_
  · exact ⟨rfl, by simp, by simp, by simp, by simp, by simp [Value.cells], 0, by omega, by simp, fun j hj => by omega⟩
  rintro ⟨t, _, A⟩ ⟨rfl, g, hn, t1, t2, kd, i, hi, t5, hall⟩
  dsimp only at g hn t1 t2 kd t5
  simp [Value.cells] at kd
  simp [t1, t5, hv.lenV]
  refine fcond_intro (fun hc => ?_) (fun hc => ?_)
  case refine_2 =>
    have : i = xs.length := by simp at hc; omega
    subst this
    simp [t1, hv.lenV, g]
    have : riseB (segsOf D.blocks) xs = true := by unfold riseB; rw [List.all_eq_true]; intro j hj; exact hall j (by simpa using hj)
    simp [isDutyB, this]
  have hi' : i < xs.length := by simpa using hc
  have hbound := riseB_bounds hall hi
  have hno : riseAt (segsOf D.blocks) xs i = false → isDutyB (segsOf D.blocks) xs = false := fun hf => by
    have : riseB (segsOf D.blocks) xs = false := by unfold riseB; rw [List.all_eq_false]; exact ⟨i, by simpa using hi', by simp [hf]⟩
    rw [isDutyB, this]; rfl
  have g25 := g.grow 25
  obtain ⟨p, e1, e2⟩ := (hv.ge g25).at hi'
  simp [t1, t2, t5, kd, e1, e2]
  refine fcall_fun (segments_spec (h.ge g25) hT) ?_
  rintro _ A1 ⟨rfl, g1⟩
  have gA : Ge A A1 := (Ge.more A 25).trans g1
  have n1 := g1.next
  simp only at n1
  obtain ⟨p1, e1', e2'⟩ := (hv.ge (g.trans gA)).at hi'
  rw [e1] at e1'; cases e1'
  simp [e2']
  rw [sub_in (by omega) (by omega)]
  simp
  refine fcall_fun (in_spec _ _ _ _) ?_
  rintro _ _ ⟨rfl, rfl⟩
  have kd1 := gA.got hn kd
  have hat : riseAt (segsOf D.blocks) xs i = (decide (lastAt xs i + 1 ≤ xs[i]) && decide (xs[i] ≤ (segsOf D.blocks : Int) - 1)) := by simp [riseAt, hi']
  have hla : 0 < i → lastAt xs i = xs[i - 1]'(by omega) ∧ 0 ≤ xs[i - 1]'(by omega) := fun h0 => by
    have hz : ¬ i = 0 := by omega
    have him : i - 1 < xs.length := by omega
    exact ⟨by simp [lastAt, hz, him], (hbound (i - 1) (by omega)).1⟩
  by_cases hin : 0 ≤ xs[i] ∧ xs[i] ≤ (segsOf D.blocks : Int) - 1
  case neg =>
    have hf : (decide (0 ≤ xs[i]) && decide (xs[i] ≤ (segsOf D.blocks : Int) - 1)) = false := by
      rw [Bool.eq_false_iff]; intro hh; simp at hh; exact hin hh
    have hrf : riseAt (segsOf D.blocks) xs i = false := by
      rw [hat, Bool.eq_false_iff]; intro hh
      simp at hh
      by_cases h0 : 0 < i
      · have := hla h0; exact hin ⟨by omega, hh.2⟩
      · have h00 : i = 0 := by omega
        subst h00
        simp [lastAt] at hh
        exact hin ⟨by omega, hh.2⟩
    simp [hf, hno hrf]
    exact g.trans gA
  have ht : (decide (0 ≤ xs[i]) && decide (xs[i] ≤ (segsOf D.blocks : Int) - 1)) = true := by simp; exact hin
  simp [ht, t5]
  by_cases h0 : 0 < i
  case neg =>
    have h00 : i = 0 := by omega
    have hrt : riseAt (segsOf D.blocks) xs i = true := by
      rw [hat]; subst h00; simp [lastAt]; omega
    simp [ht, h0, t5, add_in (x := i) (y := 1) (by omega) (by omega)]
    refine ⟨⟨g.trans gA, by omega, t1, t2, by simpa [Value.cells] using kd1, i + 1, by omega, by omega, fun j hj => ?_⟩, by omega⟩
    by_cases e : j = i
    · rw [e]; exact hrt
    · exact hall j (by omega)
  have him : i - 1 < xs.length := by omega
  obtain ⟨pm, e3, e4⟩ := (hv.ge (g.trans gA)).at him
  have hc1 : ((i - 1 : Nat) : Int) = (i : Int) - 1 := by omega
  rw [hc1] at e3
  have hl := hla h0
  simp [ht, h0, t1, t5, e1, e2', sub_in (x := (i : Int)) (y := 1) (by omega) (by omega), e3, e4]
  by_cases hle : xs[i] ≤ xs[i - 1]
  · have hrf : riseAt (segsOf D.blocks) xs i = false := by
      rw [hat, Bool.eq_false_iff]; intro hh; simp at hh; omega
    simp [ht, h0, hle, hno hrf]
    exact g.trans gA
  · have hrt : riseAt (segsOf D.blocks) xs i = true := by
      rw [hat]; simp; omega
    simp [ht, h0, hle, t5, add_in (x := i) (y := 1) (by omega) (by omega)]
    refine ⟨⟨g.trans gA, by omega, t1, t2, by simpa [Value.cells] using kd1, i + 1, by omega, by omega, fun j hj => ?_⟩, by omega⟩
    by_cases e : j = i
    · rw [e]; exact hrt
    · exact hall j (by omega)

theorem duty_bounds {D : Dy} {xs : List Int} (hd : isDutyB (segsOf D.blocks) xs = true) : ∀ x ∈ xs, 0 ≤ x ∧ x.toNat < segsOf D.blocks := fun x hx => by
  unfold isDutyB at hd
  rw [Bool.and_eq_true] at hd
  obtain ⟨j, hj, rfl⟩ := List.mem_iff_getElem.1 hx
  have := riseB_bounds (n := segsOf D.blocks) (xs := xs) (k := xs.length) (fun i hi => List.all_eq_true.1 hd.1 i (by simpa using hi)) (Nat.le_refl _) j hj
  omega

theorem legal24_spec {D : Dy} {b w v : Value} {H : Heap} {xs : List Int} (h : DayAt H b w D) (hT : D.Thin) (hV : Valid D) (hv : IntsAt H v xs) (hd : isDutyB (segsOf D.blocks) xs = true) (hlen : xs.length ≤ 15) :
    AFun Tryd.prog 24 [dayV D b w, v] H (fun r B => r = .bool (legalD D xs) ∧ Ge H B) := by
  refine AFun.mk ok24 hm (Nat.le_of_ble_eq_true rfl) ?_
  have hb := h.blocks.one
  have hw := h.walk.one
  have hb0 := duty_bounds hd
  simp [a24, r24, hb, hw]
  have g0 : Ge H (⟨(H.new (.cells true [.int .i64 D.law.piece, .int .i64 D.law.drive, .int .i64 D.law.spread, .int .i64 D.law.brk, .int .i64 D.law.on, .int .i64 D.law.off, .int .i64 D.law.least, .int .i64 D.law.pieces, b, w] 10)).get, H.next + 11⟩ : Heap) := Ge.grow_le (by omega) (Ge.new _ _)
  refine fcall_fun (pieces30_spec (h.ge g0) hT hV (hv.ge g0) hb0 (by omega)) ?_
  rintro vp H1 ⟨hp, g1⟩
  have k0 := g1.got (n := H.next) (by simp) rfl
  simp at k0
  have G1 := g0.trans g1
  have n1 := g1.next
  simp only at n1
  simp [k0]
  refine fcall_fun (lows_spec (h.ge G1) hV) ?_
  rintro vl H2 ⟨hl, g2⟩
  have k2 := g2.got (n := H.next) (by omega) k0
  have G2 := G1.trans g2
  have n2 := g2.next
  simp [k2]
  refine fcall_fun (highs_spec (h.ge G2) hV) ?_
  rintro vh H3 ⟨hh, g3⟩
  have k3 := g3.got (n := H.next) (by omega) k2
  have G3 := G2.trans g3
  simp [k3]
  obtain ⟨zs, hz1, hz2⟩ := same_pieces hd hlen
  obtain ⟨hmlt, hm0⟩ := duty_mask hd
  have hok : ∀ z ∈ zs, PcOk D (maskL xs) z.1 := fun z hz => piecesL_mem hmlt (by rw [hz1]; exact List.mem_map.2 ⟨z, hz, rfl⟩)
  have hz0 : 0 < zs.length := by have := piecesL_pos (D := D) hm0; rw [hz1] at this; simpa using this
  have hz16 : zs.length ≤ 16 := by have := piecesL_length (D := D) (m := maskL xs); rw [hz1] at this; simpa using this
  rw [hz2] at hp
  have hrok : ∀ x ∈ rsOf zs, RpOk D x := fun x hx => by
    obtain ⟨z, hz, rfl⟩ := List.mem_map.1 hx
    exact ⟨(hok z hz).fst, (hok z hz).lst⟩
  refine fcall_fun (obeys_spec ((hp.ge g2).ge g3) (RowsOf.ge hl g3) hh hV (h.ge G3) (lows_ok hV) (highs_ok hV) hrok (by simpa using hz16) (by simpa using hz0)) ?_
  rintro _ H4 ⟨rfl, g4⟩
  simp [G3.trans g4]
  unfold legalD
  rw [hz1]; exact (legal_same kAt_known hV hok hz0).symm

theorem pay25_spec {D : Dy} {b w v : Value} {H : Heap} {xs : List Int} (h : DayAt H b w D) (hT : D.Thin) (hV : Valid D) (hv : IntsAt H v xs) (hd : isDutyB (segsOf D.blocks) xs = true) (hlen : xs.length ≤ 15) :
    AFun Tryd.prog 25 [dayV D b w, v] H (fun r B => r = .int .i64 (payD D xs) ∧ Ge H B) := by
  refine AFun.mk ok25 hm (Nat.le_of_ble_eq_true rfl) ?_
  have hb := h.blocks.one
  have hw := h.walk.one
  have hb0 := duty_bounds hd
  have hlaw := law_bounds hV
  simp [a25, r25, hb, hw]
  have g0 : Ge H (⟨(H.new (.cells true [.int .i64 D.law.piece, .int .i64 D.law.drive, .int .i64 D.law.spread, .int .i64 D.law.brk, .int .i64 D.law.on, .int .i64 D.law.off, .int .i64 D.law.least, .int .i64 D.law.pieces, b, w] 10)).get, H.next + 15⟩ : Heap) := Ge.grow_le (by omega) (Ge.new _ _)
  refine fcall_fun (pieces30_spec (h.ge g0) hT hV (hv.ge g0) hb0 (by omega)) ?_
  rintro vp H1 ⟨hp, g1⟩
  have k0 := g1.got (n := H.next) (by simp) rfl
  simp at k0
  have G1 := g0.trans g1
  have n1 := g1.next
  simp only at n1
  simp [k0]
  refine fcall_fun (lows_spec (h.ge G1) hV) ?_
  rintro vl H2 ⟨hl, g2⟩
  have k2 := g2.got (n := H.next) (by omega) k0
  have G2 := G1.trans g2
  have n2 := g2.next
  simp [k2]
  refine fcall_fun (highs_spec (h.ge G2) hV) ?_
  rintro vh H3 ⟨hh, g3⟩
  have k3 := g3.got (n := H.next) (by omega) k2
  have G3 := G2.trans g3
  simp [k3]
  obtain ⟨zs, hz1, hz2⟩ := same_pieces hd hlen
  obtain ⟨hmlt, hm0⟩ := duty_mask hd
  have hok : ∀ z ∈ zs, PcOk D (maskL xs) z.1 := fun z hz => piecesL_mem hmlt (by rw [hz1]; exact List.mem_map.2 ⟨z, hz, rfl⟩)
  have hz0 : 0 < zs.length := by have := piecesL_pos (D := D) hm0; rw [hz1] at this; simpa using this
  have hz16 : zs.length ≤ 16 := by have := piecesL_length (D := D) (m := maskL xs); rw [hz1] at this; simpa using this
  rw [hz2] at hp
  have hrok : ∀ x ∈ rsOf zs, RpOk D x := fun x hx => by
    obtain ⟨z, hz, rfl⟩ := List.mem_map.1 hx
    exact ⟨(hok z hz).fst, (hok z hz).lst⟩
  refine fcall_fun (spread_spec ((hp.ge g2).ge g3) (RowsOf.ge hl g3) hh hV (h.ge G3) (lows_ok hV) (highs_ok hV) hrok (by simpa using hz16) (by simpa using hz0)) ?_
  rintro _ H4 ⟨rfl, g4⟩
  simp [g4.got (n := H.next) (by have := g3.next; omega) k3]
  rw [aval_max (k := .i64) (m := D.law.least) (n := rSpread D (lowsD D) (highsD D) (rsOf zs)) (by simp) (by simp) (by decide) (by decide)]
  simp [G3.trans g4]
  unfold payD payOf
  rw [hz1, spread_same kAt_known hok hz0]
  omega

end Go.Proofs.YtllkhaabcfnlpaaDoor

/-
  Contracts of the small functions of the laws' package.
-/
namespace Go.Proofs.YtllkhaabcfnlpaaDoor
open Go Go.Ab

theorem map_one_int (xs : List Int) : (xs.map (Value.int .i64)).all one = true := by simp

theorem list_spec {H : Heap} {v : Value} {xs : List Int} (hv : IntsAt H v xs) (hl : xs.length ≤ 2 ^ 20) : AFun Tryd.prog 20 [v] H (fun r B => OwnSl B H.next r (xs.map (.int .i64)) ∧ Ge H B) := by
  refine AFun.mk ok20 hm (Nat.le_of_ble_eq_true rfl) ?_
  have g0 := Ge.new H (.cells true [] 0)
  simp [a20, r20]
  refine ⟨0, [], some H.next, 0, xs.length, xs.map (.int .i64), by simp [baseOf], (hv.ge g0).1.1, map_one_int _, by omega, ?_⟩
  rw [if_neg (by simp)]
  simp
  have hc : xs.length ≤ capN 0 0 xs.length := by unfold capN; split <;> omega
  refine ⟨.inr ⟨H.next + 1, capN 0 0 xs.length, capN 0 0 xs.length, by simp, by omega, by simp [appHeap], by simp [appHeap], by simpa using hc, Nat.le_refl _⟩, ?_⟩
  exact Ge.app (Ge.new _ _) (by omega) (by simp) (by simp)

def shortB (xs : List (List Int)) : Bool := decide (xs.length ≤ 12) && xs.all fun l => decide (l.length ≤ 14)
theorem short_spec {H : Heap} {v : Value} {xs : List (List Int)} (hv : RowsAt H v xs) : AFun Tryd.prog 26 [v] H (fun r B => r = .bool (shortB xs) ∧ Ge H B) := by
  refine AFun.mk ok26 hm (Nat.le_of_ble_eq_true rfl) ?_
  have h62 := hv.lt
  unfold shortB
  simp [a26, r26]
  refine floop_intro (fun z => z.d = [] ∧ z.H = H ∧ z.t 0 = v ∧ ∃ i : Nat, i ≤ xs.length ∧ i ≤ 13 ∧ z.t 3 = .int .i64 i ∧ ∀ l ∈ xs.take i, l.length ≤ 14) (fun z => xs.length - (intOf (z.t 3)).toNat) ?_ ?_
  · exact ⟨rfl, rfl, by simp, 0, by simp, by simp, by simp, by simp⟩
  rintro ⟨t, _, A⟩ ⟨rfl, rfl, t0, i, hi, hi16, t3, hall⟩
  dsimp only at t0 t3 hv
  simp [t0, t3, hv.lenV]
  by_cases h1 : i < xs.length
  · by_cases h2 : (12 : Int) < i
    · have h5 : ¬ xs.length ≤ 12 := by omega
      simp [h1, h2, h5, t3]
    · obtain ⟨p, u, e1, e2, e3⟩ := hv.at h1
      simp [h1, h2, t0, t3, e1, e2, e3.lenV]
      refine fcond_intro (fun hc => ?_) (fun hc => ?_)
      · simp at hc
        simp
        intro _
        exact ⟨xs[i], List.getElem_mem h1, by omega⟩
      · simp at hc
        simp [t3, add_in (x := i) (y := 1) (by omega) (by omega)]
        refine ⟨⟨t0, i + 1, by omega, by omega, by omega, ?_⟩, by omega⟩
        intro l hl
        rw [List.take_succ_eq_append_getElem h1] at hl
        rcases List.mem_append.1 hl with hl | hl
        · exact hall l hl
        · simp at hl; subst hl; omega
  · simp [h1, t0, hv.lenV]
    have : xs.take i = xs := List.take_of_length_le (by omega)
    rw [this] at hall
    have e : (xs.all fun l => decide (l.length ≤ 14)) = true := by simpa using hall
    rw [e]
    simp
    omega

def thinB (D : Dy) : Bool := (D.blocks.all fun l => decide (l.length ≤ 14)) && (decide (D.blocks.length ≤ 10) && (decide (D.walk.length ≤ 8) && shortB D.walk))
theorem thinB_thin {D : Dy} (h : thinB D = true) : D.Thin := by
  simp [thinB, shortB] at h
  exact ⟨h.2.1, h.1, h.2.2.1, h.2.2.2.2⟩
theorem thin_spec {D : Dy} {b w : Value} {H : Heap} (h : DayAt H b w D) : AFun Tryd.prog 15 [dayV D b w] H (fun r B => r = .bool (thinB D) ∧ Ge H B) := by
  refine AFun.mk ok15 hm (Nat.le_of_ble_eq_true rfl) ?_
  have hb := h.blocks.one
  have hw := h.walk.one
  have h62 := h.blocks.lt
  unfold thinB
  simp [a15, r15, hb, hw]
  refine floop_intro (fun z => z.d = [] ∧ Ge H z.H ∧ H.next < z.H.next ∧ z.t 1 = .pointer (some ⟨H.next, 0, none⟩) ∧ z.H.get H.next = .cells true (dayV D b w).cells.toList 10 ∧ ∃ i : Nat, i ≤ D.blocks.length ∧ i ≤ 11 ∧ z.t 3 = .int .i64 i ∧ ∀ l ∈ D.blocks.take i, l.length ≤ 14) (fun z => D.blocks.length - (intOf (z.t 3)).toNat) ?_ ?_
  · exact ⟨rfl, by simp, by simp, by simp, by simp [Value.cells], 0, by simp, by simp, by simp, by simp⟩
  rintro ⟨t, _, A⟩ ⟨rfl, g, hn, t1, kd, i, hi, hi16, t3, hall⟩
  dsimp only at g hn t1 kd t3
  simp [Value.cells] at kd
  simp [t1, kd, t3, h.blocks.lenV]
  by_cases h1 : i < D.blocks.length
  · by_cases h2 : (10 : Int) < i
    · have h5 : ¬ D.blocks.length ≤ 10 := by omega
      simp [h1, h2, h5, t3, g]
    · obtain ⟨p, u, e1, e2, e3⟩ := h.blocks.atAll h1
      have e21 := e2 A g
      simp [h1, h2, t1, kd, t3, e1, e21, e3.lenV]
      refine fcond_intro (fun hc => ?_) (fun hc => ?_)
      · simp at hc
        simp [g]
        intro hall2
        have := hall2 _ (List.getElem_mem h1); omega
      · simp at hc
        simp [t3, add_in (x := i) (y := 1) (by omega) (by omega)]
        refine ⟨⟨g, hn, t1, by simpa [Value.cells] using kd, i + 1, by omega, by omega, by omega, ?_⟩, by omega⟩
        intro l hl
        rw [List.take_succ_eq_append_getElem h1] at hl
        rcases List.mem_append.1 hl with hl | hl
        · exact hall l hl
        · simp at hl; subst hl; omega
  · have : D.blocks.take i = D.blocks := List.take_of_length_le (by omega)
    rw [this] at hall
    have e : (D.blocks.all fun l => decide (l.length ≤ 14)) = true := by simpa using hall
    rw [e]
    simp [h1, t1, kd, h.blocks.lenV, h.walk.lenV]
    by_cases h3 : (D.blocks.length : Int) ≤ 10
    case neg =>
      have h3n : ¬ D.blocks.length ≤ 10 := by omega
      simp [h3, h3n, g]
    have h3n : D.blocks.length ≤ 10 := by omega
    simp [h3, h3n, t1, kd, h.walk.lenV]
    by_cases h4 : (D.walk.length : Int) ≤ 8
    case neg =>
      have h4n : ¬ D.walk.length ≤ 8 := by omega
      simp [h3, h4, h4n, g]
    have h4n : D.walk.length ≤ 8 := by omega
    simp [h3, h4, h4n, t1, kd]
    refine fcall_fun (short_spec (h.walk.ge g)) ?_
    rintro _ B ⟨rfl, gB⟩
    simp [h3, h4, h3n, h4n, g.trans gB]

theorem faultF_spec {D : Dy} {b w : Value} {H : Heap} (h : DayAt H b w D) (hT : D.Thin) : AFun Tryd.prog 22 [dayV D b w] H (fun v B => v = .int .i64 (checkD D) ∧ Ge H B) := by
  refine AFun.mk ok22 hm (Nat.le_of_ble_eq_true rfl) ?_
  have hb := h.blocks.one
  have hw := h.walk.one
  simp [a22, r22, hb, hw]
  refine fcall_fun (fault36_spec (h.ge (by simp)) hT) ?_
  rintro _ B ⟨rfl, g⟩
  simp
  exact Ge.trans (by simp) g

theorem rows28_spec {H : Heap} {v : Value} {xs : List (List Int)} (hv : RowsAt H v xs) (hl : xs.length ≤ 2 ^ 20) (hll : ∀ l ∈ xs, l.length ≤ 2 ^ 20) : AFun Tryd.prog 28 [v] H (fun r B => RowsG 1 iCell B H.next (fun _ => False) r xs ∧ Ge H B) := by
  refine AFun.mk ok28 hm (Nat.le_of_ble_eq_true rfl) ?_
  have h62 := hv.lt
  simp [a28, r28]
  refine floop_intro (fun z => z.d = [] ∧ Ge H z.H ∧ z.t 0 = v ∧ ∃ i : Nat, i ≤ xs.length ∧ z.t 4 = .int .i64 i ∧ RowsG 1 iCell z.H H.next (fun _ => False) (z.t 3) (xs.take i)) (fun z => xs.length - (intOf (z.t 4)).toNat) ?_ ?_
  · exact ⟨rfl, by simp, by simp, 0, by simp, by simp, RowsG.nil (by simp)⟩
  rintro ⟨t, _, A⟩ ⟨rfl, g, t0, i, hi, t4, hR⟩
  dsimp only at g t0 t4 hR
  generalize t3 : t 3 = v3 at hR
  simp [t0, t4, hv.lenV]
  refine fcond_intro (fun hc => ?_) (fun hc => ?_)
  case refine_2 =>
    have h1 : i = xs.length := by simp at hc; omega
    subst h1
    rw [List.take_length] at hR
    simp [t3]
    exact ⟨hR, g⟩
  have h1 : i < xs.length := by simpa using hc
  obtain ⟨p, u, e1, e2, e3⟩ := hv.atGe g h1
  have hxi := hll _ (List.getElem_mem h1)
  simp [t0, t4, e1, e2]
  refine fcall_fun (list_spec (e3.ge g) hxi) ?_
  rintro x B ⟨hx, gB⟩
  have hx1 := hx.one
  simp [t3, hx1, one_cells]
  have gB2 : Ge A (B.new (.cells true [x] 1)) := gB.newOf _
  have hR2 : RowsG 1 iCell (B.new (.cells true [x] 1)) H.next (fun _ => False) v3 (xs.take i) := hR.keep gB2.next (fun n _ hn _ => gB2.get n hn) (fun _ _ hf => hf)
  have gn := g.next
  have gBn := gB.next
  have hox : OwnS (B.new (.cells true [x] 1)) H.next 1 x xs[i].length (xs[i].flatMap iCell) := by
    rw [iCell_flat]
    rcases hx with ⟨rfl, h0⟩ | ⟨n, cap, c, rfl, k1, k2, k3, k4, k5⟩
    · have h00 : xs[i].length = 0 := by have := congrArg List.length h0; simpa using this
      exact .inl ⟨rfl, h00, h0⟩
    · have f1 : n ≠ B.next := by omega
      exact .inr ⟨n, cap, c, by simp, by omega, by simp; omega, by simp [f1, k3], by simp, by simpa using k4, by omega⟩
  refine hR2.push (r := xs[i]) (x := x) (X' := fun _ => False) hox (fun m hm => ⟨fun e => ?_, fun hf => hf⟩) (fun m hf => hf.elim) (slCells_new (rw := true) (c := 1) (by simp)) (by simp; omega) (by simp) (by omega) (by simp; omega) fun u' C k1 k2 k3 k4 => ?_
  · have := (hx.names hm).1
    have := (hR.names e).2
    omega
  have h3 : ∀ m, slName v3 = some m → H.next ≤ m := fun m hm => (hR.names hm).1
  have gC : Ge H C := by
    refine ⟨by omega, fun n hn => ?_⟩
    have e1 : n ≠ B.next := by omega
    rw [k4 n (by omega) (fun e => by have := h3 n e; omega)]
    simp [e1, gB.get n (by omega), g.get n hn]
  simp [t4, add_in (x := i) (y := 1) (by omega) (by omega)]
  refine ⟨⟨gC, t0, i + 1, by omega, by omega, ?_⟩, by omega⟩
  rw [List.take_succ_eq_append_getElem h1]; exact k1

end Go.Proofs.YtllkhaabcfnlpaaDoor

/-
  The contract of the function that lays a day for the program.
-/
namespace Go.Proofs.YtllkhaabcfnlpaaDoor
open Go Go.Ab

theorem day18_spec {D : Dy} {b w : Value} {H : Heap} (h : DayAt H b w D) (hT : D.Thin) : AFun Tryd.prog 18 [dayV D b w] H (fun r B => ∃ b' w', r = dayV D b' w' ∧ DayAt B b' w' D ∧ Ge H B) := by
  refine AFun.mk ok18 hm (Nat.le_of_ble_eq_true rfl) ?_
  have hb := h.blocks.one
  have hw := h.walk.one
  have hfew := hT.few
  simp [a18, r18, hb, hw]
  have gC : Ge H ((⟨((((H.new (.cells true [.int .i64 D.law.piece, .int .i64 D.law.drive, .int .i64 D.law.spread, .int .i64 D.law.brk, .int .i64 D.law.on, .int .i64 D.law.off, .int .i64 D.law.least, .int .i64 D.law.pieces, b, w] 10)).new (.cells true [.int .i64 0, .int .i64 0, .int .i64 0, .int .i64 0, .int .i64 0, .int .i64 0, .int .i64 0, .int .i64 0, .slice none 0 0, .slice none 0 0] 10)).new (.cells true [.int .i64 0, .int .i64 0, .int .i64 0, .int .i64 0, .int .i64 0, .int .i64 0, .int .i64 0, .int .i64 0] 8)).set (H.next + 2) (.cells true [.int .i64 D.law.piece, .int .i64 D.law.drive, .int .i64 D.law.spread, .int .i64 D.law.brk, .int .i64 D.law.on, .int .i64 D.law.off, .int .i64 D.law.least, .int .i64 D.law.pieces] 8)).get, H.next + 26⟩ : Heap).set (H.next + 24) (.cells true [.int .i64 0, .int .i64 0, .int .i64 0, .int .i64 0, .int .i64 0, .int .i64 0, .int .i64 0, .int .i64 0, .slice none 0 0, .slice none 0 0] 10)) :=
    Ge.setNew (Ge.grow_le (by omega) (Ge.setNew (((Ge.new _ _).newOf _).newOf _) (by omega) _)) (by omega) _
  refine fcall_fun (rows28_spec (h.walk.ge gC) (by have := hT.places; omega) (fun l hl => by have := hT.rows l hl; omega)) ?_
  rintro w' B0 ⟨hR0, g0⟩
  have n0 := g0.next
  have c0 := g0.got (n := H.next) (by simp) rfl
  have c1 := g0.got (n := H.next + 1) (by simp) rfl
  have c2 := g0.got (n := H.next + 2) (by simp) rfl
  have c24 := g0.got (n := H.next + 24) (by simp) rfl
  simp at n0 c0 c1 c2 c24
  have hw1 := hR0.one
  have gH0 := gC.trans g0
  clear gC
  simp [c2, c24, hw1, one_cells]
  have hR0' : ∀ B : Heap, B0.next ≤ B.next → (∀ n, H.next + 26 ≤ n → n < B0.next → B.get n = B0.get n) → RowsAt B w' D.walk := fun B h1 h2 =>
    rows_done (hR0.keep h1 (fun n h3 h4 _ => h2 n (by simpa using h3) h4) (fun _ _ hf => hf)) (by have := hT.places; omega) fun r hr => by have := hT.rows r hr; omega
  generalize hA0 : B0.set (H.next + 24) _ = A0
  have nA0 : A0.next = B0.next := by rw [← hA0]; rfl
  have kA0 : ∀ n, n ≠ H.next + 24 → A0.get n = B0.get n := fun n hn => by rw [← hA0, Heap.set_get, if_neg hn]
  have gA0 : Ge H A0 := ⟨by have := gH0.next; omega, fun n hn => by rw [kA0 n (by omega)]; exact gH0.get n hn⟩
  have q0 : A0.get (H.next + 24) = .cells true [.int .i64 D.law.piece, .int .i64 D.law.drive, .int .i64 D.law.spread, .int .i64 D.law.brk, .int .i64 D.law.on, .int .i64 D.law.off, .int .i64 D.law.least, .int .i64 D.law.pieces, .slice none 0 0, w'] 10 := by rw [← hA0]; simp
  clear hA0
  have d0 := (kA0 H.next (by omega)).trans c0
  have d1 := (kA0 (H.next + 1) (by omega)).trans c1
  -- the blocks, one by one
  refine floop_intro (fun z => z.d = [] ∧ A0.next ≤ z.H.next ∧ (∀ n, n < A0.next → n ≠ H.next + 24 → z.H.get n = A0.get n) ∧ z.t 1 = .pointer (some ⟨H.next, 0, none⟩) ∧ z.t 2 = .pointer (some ⟨H.next + 1, 0, none⟩) ∧ z.t 4 = .pointer (some ⟨H.next + 24, 0, none⟩) ∧ ∃ i : Nat, i ≤ D.blocks.length ∧ z.t 5 = .int .i64 i ∧ ∃ v8, z.H.get (H.next + 24) = .cells true [.int .i64 D.law.piece, .int .i64 D.law.drive, .int .i64 D.law.spread, .int .i64 D.law.brk, .int .i64 D.law.on, .int .i64 D.law.off, .int .i64 D.law.least, .int .i64 D.law.pieces, v8, w'] 10 ∧ RowsG 3 Rl.cells z.H A0.next (fun _ => False) v8 (D.blocks.take i)) (fun z => D.blocks.length - (intOf (z.t 5)).toNat) ?_ ?_
  · exact ⟨rfl, Nat.le_refl _, fun _ _ _ => rfl, by simp, by simp, by simp, 0, by omega, by simp, .slice none 0 0, q0, RowsG.nil rfl⟩
  rintro ⟨t, _, A⟩ ⟨rfl, hn, hk, t1, t2, t4, i, hi, t5, v8, kq, hR⟩
  dsimp only at hn hk t1 t2 t4 t5 kq hR
  have gHA : Ge H A := ⟨by have := gA0.next; omega, fun n h1 => by have := gA0.next; rw [hk n (by omega) (by omega)]; exact gA0.get n h1⟩
  have kd := (hk H.next (by omega) (by omega)).trans d0
  simp [t1, kd, t5, h.blocks.lenV]
  refine fcond_intro (fun hc => ?_) (fun hc => ?_)
  case refine_2 =>
    have : i = D.blocks.length := by simp at hc; omega
    subst this
    have kd1 := (hk (H.next + 1) (by omega) (by omega)).trans d1
    have hv8 := hR.one
    rw [List.take_length] at hR
    simp [t2, t4, kq, kd1, hv8, hw1]
    refine ⟨v8, w', ⟨rfl, rfl⟩, ⟨?_, ?_⟩, gHA.setNew (by omega) _⟩
    · have hR2 := hR.keep (B := A.set (H.next + 1) (.cells true [.int .i64 D.law.piece, .int .i64 D.law.drive, .int .i64 D.law.spread, .int .i64 D.law.brk, .int .i64 D.law.on, .int .i64 D.law.off, .int .i64 D.law.least, .int .i64 D.law.pieces, v8, w'] 10)) (X' := fun _ => False) (by simp) (fun n h1 h2 _ => by rw [Heap.set_get, if_neg (by omega)]) (fun _ _ hf => hf)
      exact hR2.rows (R := RelsAt) (by omega) fun u r hr ho => ⟨ho.slr, by have := hT.short r hr; omega⟩
    · exact hR0' _ (by simp; omega) fun n h1 h2 => by rw [Heap.set_get, if_neg (by omega), hk n (by omega) (by omega), kA0 n (by omega)]
  have hi' : i < D.blocks.length := by simpa using hc
  obtain ⟨p, u, e1, e2, e3⟩ := h.blocks.atAll hi'
  have hl := hT.short _ (List.getElem_mem hi')
  simp
  refine floop_intro (fun z => z.d = [] ∧ A0.next ≤ z.H.next ∧ (∀ n, n < A0.next → n ≠ H.next + 24 → z.H.get n = A0.get n) ∧ z.t 1 = .pointer (some ⟨H.next, 0, none⟩) ∧ z.t 2 = .pointer (some ⟨H.next + 1, 0, none⟩) ∧ z.t 4 = .pointer (some ⟨H.next + 24, 0, none⟩) ∧ z.t 5 = .int .i64 i ∧ z.H.get (H.next + 24) = .cells true [.int .i64 D.law.piece, .int .i64 D.law.drive, .int .i64 D.law.spread, .int .i64 D.law.brk, .int .i64 D.law.on, .int .i64 D.law.off, .int .i64 D.law.least, .int .i64 D.law.pieces, v8, w'] 10 ∧ ∃ j : Nat, j ≤ D.blocks[i].length ∧ z.t 7 = .int .i64 j ∧ OwnS z.H A0.next 3 (z.t 6) j ((D.blocks[i].take j).flatMap Rl.cells) ∧ RowsG 3 Rl.cells z.H A0.next (fun m => slName (z.t 6) = some m) v8 (D.blocks.take i)) (fun z => D.blocks[i].length - (intOf (z.t 7)).toNat) ?_ ?_
  · exact ⟨rfl, hn, hk, by simp [t1], by simp [t2], by simp [t4], by simp [t5], kq, 0, by omega, by simp, .inl ⟨by simp, rfl, by simp⟩, hR.keep (Nat.le_refl _) (fun _ _ _ _ => rfl) (fun m _ hm => by simp [slName] at hm)⟩
  have t5o := t5
  clear t1 t2 t4 t5 kq hR hn hk gHA kd hc
  rintro ⟨t, _, A⟩ ⟨rfl, hn, hk, t1, t2, t4, t5, kq, j, hj, t7, o6, hR⟩
  dsimp only at hn hk t1 t2 t4 t5 kq t7 o6 hR
  generalize t6 : t 6 = v6 at o6 hR
  have gHA : Ge H A := ⟨by have := gA0.next; omega, fun n h1 => by have := gA0.next; rw [hk n (by omega) (by omega)]; exact gA0.get n h1⟩
  have kd := (hk H.next (by omega) (by omega)).trans d0
  have e21 := e2 A gHA
  simp [t1, kd, t5, t7, e1, e21, e3.lenV]
  refine fcond_intro (fun hc => ?_) (fun hc => ?_)
  case refine_2 =>
    have : j = D.blocks[i].length := by simp at hc; omega
    subst this
    have hv6 := o6.one
    rw [List.take_length] at o6
    have ne24 : H.next + 24 ≠ A.next := by omega
    simp [t4, t6, kq, hv6, one_cells, ne24]
    have hR1 := hR.keep (B := A.new (.cells true [v6] 1)) (X' := fun m => slName v6 = some m) (by simp) (fun n _ h2 _ => by simp [Nat.ne_of_lt h2]) (fun m _ hm => hm)
    refine hR1.push (r := D.blocks[i]) (x := v6) (X' := fun _ => False) (o6.ge (Ge.new _ _)) (fun m hm => ⟨fun e => hR1.own m e hm, fun hf => hf⟩) (fun m hm => hm.elim) (slCells_new (rw := true) (c := 1) (by simp)) (by rw [List.length_take]; omega) (by simp) (by omega) (by simp; omega) fun u' B k1 k2 k3 k4 => ?_
    have h8 : ∀ m, slName v8 = some m → A0.next ≤ m := fun m hm => (hR.names hm).1
    have kB : ∀ n, n < A0.next → B.get n = A.get n := fun n h1 => by
      rw [k4 n (by omega) (fun e => by have := h8 n e; omega), Heap.new_get, if_neg (by omega)]
    have kBq := (kB (H.next + 24) (by omega)).trans kq
    have hu' := k1.one
    simp [t4, kBq, hu', hw1, one_cells, t5, add_in (x := i) (y := 1) (by omega) (by omega)]
    refine ⟨⟨by omega, fun n h1 h2 => ?_, t1, t2, i + 1, by omega, by omega, ?_⟩, by rw [t5o]; simp; omega⟩
    · simp [h2]; rw [kB n h1]; exact hk n h1 h2
    · rw [List.take_succ_eq_append_getElem hi']
      exact k1.keep (by simp) (fun n h1 _ _ => by rw [Heap.set_get, if_neg (by omega)]) (fun _ _ hf => hf)
  have hj' : j < D.blocks[i].length := by simpa using hc
  obtain ⟨n, o, f1, f2, f3, _, _⟩ := e3.at hj'
  have gn := gHA.next
  have f3A : ldA (A.get n) true 3 o = some D.blocks[i][j].val := by rw [gHA.get n f2]; exact f3
  simp [t1, kd, t5, t7, e1, e21, f1, f3A, t6, Rl.val]
  have g1 : Ge A (((A.new (.cells true [.int .i64 0, .int .i64 0, .int .i64 0] 3)).set A.next (.cells true [.int .i64 D.blocks[i][j].place, .int .i64 D.blocks[i][j].lo, .int .i64 D.blocks[i][j].hi] 3)).new (.cells true [.int .i64 D.blocks[i][j].place, .int .i64 D.blocks[i][j].lo, .int .i64 D.blocks[i][j].hi] 3)) := ((Ge.new _ _).setNew (Nat.le_refl _) _).newOf _
  refine fapp_ownS (lo := A0.next) (xs := D.blocks[i][j].cells) (o6.ge g1) (by simp [slCells, rdL, Rl.cells]) rfl (by simp [Rl.cells]) (by omega) (by omega) (by simp) (by omega) (by simp; omega) fun u6 B k1 k2 k3 k4 => ?_
  have h6n : ∀ m, slName v6 = some m → A0.next ≤ m := fun m hm => (o6.names hm).1
  have kB : ∀ m, m < A.next → slName v6 ≠ some m → B.get m = A.get m := fun m h1 h2 => by
    rw [k4 m (by omega) h2]; exact g1.get m h1
  have kBq := (kB (H.next + 24) (by omega) (fun e => by have := h6n _ e; omega)).trans kq
  simp [t7, add_in (x := j) (y := 1) (by omega) (by omega)]
  refine ⟨⟨by omega, fun m h1 h2 => ?_, t1, t2, t4, t5, kBq, j + 1, by omega, by omega, ?_, ?_⟩, by omega⟩
  · rw [kB m (by omega) (fun e => by have := h6n m e; omega)]; exact hk m h1 h2
  · rw [List.take_succ_eq_append_getElem hj', List.flatMap_append]
    simpa using k1
  · refine hR.keep (by omega) (fun m h1 h2 h3 => kB m h2 h3) fun m hm hx => ?_
    rw [k2] at hx; cases hx; omega

end Go.Proofs.YtllkhaabcfnlpaaDoor

/-
  Truths: what the program and the reference ask of times.
-/
namespace Go.Proofs.YtllkhaabcfnlpaaDoor
open Go Go.Ab

theorem _root_.Go.Ab.IntsAt.atAll {H : Heap} {v : Value} {xs : List Int} (h : IntsAt H v xs) {i : Nat} (hi : i < xs.length) : ∃ p, islV 1 v (.int .i64 i) = some p ∧ ∀ A, Ge H A → ldV A false 1 p = some (.int .i64 xs[i]) := by
  obtain ⟨p, h1, _⟩ := h.at hi
  refine ⟨p, h1, fun A g => ?_⟩
  obtain ⟨q, h2, h3⟩ := (h.ge g).at hi
  rw [h1] at h2; cases h2; exact h3

theorem ints_spec {H : Heap} {v u : Value} {xs ys : List Int} (hv : IntsAt H v xs) (hu : IntsAt H u ys) : AFun Tryd.prog 33 [v, u] H (fun r B => r = .bool (decide (xs = ys)) ∧ Ge H B) := by
  refine AFun.mk ok33 hm (Nat.le_of_ble_eq_true rfl) ?_
  have h62 := hv.2
  simp [a33, r33, hv.lenV, hu.lenV]
  by_cases hl : xs.length = ys.length
  case neg =>
    have : xs ≠ ys := fun e => hl (by rw [e])
    have hl2 : ¬ (xs.length : Int) = ys.length := by omega
    simp [hl, hl2, this]
  have hl2 : (xs.length : Int) = ys.length := by omega
  simp [hl, hl2]
  refine floop_intro (fun z => z.d = [] ∧ Ge H z.H ∧ z.t 0 = v ∧ z.t 1 = u ∧ ∃ i : Nat, i ≤ xs.length ∧ z.t 5 = .int .i64 i ∧ xs.take i = ys.take i) (fun z => xs.length - (intOf (z.t 5)).toNat) ?_ ?_
  · exact ⟨rfl, by simp, by simp, by simp, 0, by simp, by simp, by simp⟩
  rintro ⟨t, _, A⟩ ⟨rfl, g, t0, t1, i, hi, t5, hall⟩
  dsimp only at g t0 t1 t5
  simp [t0, t1, t5, hv.lenV]
  refine fcond_intro (fun hc => ?_) (fun hc => ?_)
  case refine_2 =>
    have h1 : xs.length ≤ i := by simp at hc; omega
    rw [List.take_of_length_le h1, List.take_of_length_le (by omega)] at hall
    simp [hall, g]
  have h1 : i < xs.length := by simp at hc; omega
  have h2 : i < ys.length := by omega
  obtain ⟨p, e1, e2⟩ := hv.atAll h1
  obtain ⟨q, f1, f2⟩ := hu.atAll h2
  have g9 := g.grow 9
  simp [t0, t1, t5, e1, e2 _ g9, f1, f2 _ g9]
  refine fcond_intro (fun hc => ?_) (fun hc => ?_)
  · simp at hc
    have : xs ≠ ys := fun e => hc (by simp [e])
    simp [this, g9]
  · simp at hc
    simp [t5, add_in (x := i) (y := 1) (by omega) (by omega)]
    refine ⟨⟨g9, t0, t1, i + 1, by omega, by omega, ?_⟩, by omega⟩
    rw [List.take_succ_eq_append_getElem h1, List.take_succ_eq_append_getElem h2, hall, hc]

/-- May a relief have such a time? -/
def tOk (r : List Rl) (ts : List Int) (i : Nat) : Bool := (decide ((r[i]?.getD ⟨0, 0, 0⟩).lo ≤ ts[i]?.getD 0) && decide (ts[i]?.getD 0 ≤ (r[i]?.getD ⟨0, 0, 0⟩).hi)) && (decide (i = 0) || decide (ts[i - 1]?.getD 0 ≤ ts[i]?.getD 0))
def truthOf (r : List Rl) (ts : List Int) : Bool := decide (ts.length = r.length) && (List.range r.length).all (tOk r ts)
def truthD (D : Dy) (T : List (List Int)) : Bool := decide (T.length = D.blocks.length) && (List.range D.blocks.length).all fun i => truthOf (D.blocks[i]?.getD []) (T[i]?.getD [])

theorem all_no {n i : Nat} {p : Nat → Bool} (hi : i < n) (h : p i = false) : (List.range n).all p = false := by
  rw [← Bool.not_eq_true, List.all_eq_true]
  intro hall
  have := hall i (by simpa using hi)
  rw [h] at this; cases this
theorem all_yes {n : Nat} {p : Nat → Bool} (h : ∀ k, k < n → p k = true) : (List.range n).all p = true := by
  rw [List.all_eq_true]
  intro k hk
  exact h k (by simpa using hk)

theorem truthOf_spec {H : Heap} {v u : Value} {r : List Rl} {ts : List Int} (hv : RelsAt H v r) (hu : IntsAt H u ts) (h0 : ∀ x ∈ r, 0 ≤ x.lo) : AFun Tryd.prog 92 [v, u] H (fun q B => q = .bool (truthOf r ts) ∧ Ge H B) := by
  refine AFun.mk ok92 hm (Nat.le_of_ble_eq_true rfl) ?_
  have h62 := hv.2
  unfold truthOf
  simp [a92, r92, hv.lenV, hu.lenV]
  by_cases hl : ts.length = r.length
  case neg =>
    have hl2 : ¬ (ts.length : Int) = r.length := by omega
    simp [hl, hl2]
  have hl2 : (ts.length : Int) = r.length := by omega
  simp [hl, hl2, hv.lenV]
  refine floop_intro (fun z => z.d = [] ∧ Ge H z.H ∧ z.t 1 = u ∧ z.t 13 = v ∧ z.t 14 = .int .i64 r.length ∧ ∃ i : Nat, i ≤ r.length ∧ z.t 15 = .int .i64 i ∧ z.t 5 = .int .i64 (if i = 0 then 0 else ts[i - 1]?.getD 0) ∧ ∀ k, k < i → tOk r ts k = true) (fun z => r.length - (intOf (z.t 15)).toNat) ?_ ?_
  · exact ⟨rfl, by simp, by simp, by simp, by simp, 0, by simp, by simp, by simp, fun k hk => by omega⟩
  rintro ⟨t, _, A⟩ ⟨rfl, g, t1, t13, t14, i, hi, t15, t5, hall⟩
  dsimp only at g t1 t13 t14 t15 t5
  simp [t14, t15]
  refine fcond_intro (fun hc => ?_) (fun hc => ?_)
  case refine_2 =>
    have h1 : i = r.length := by simp at hc; omega
    subst h1
    have := all_yes hall
    simp only [List.all_eq_true, List.mem_range] at this
    simp [g]
    exact ⟨hl, this⟩
  have h1 : i < r.length := by simpa using hc
  have h2 : i < ts.length := by omega
  obtain ⟨n, o, e1, ln, e2, _⟩ := (hv.ge g).at h1
  obtain ⟨q, f1, f2⟩ := hu.atAll h2
  have gn : Ge A ((A.new (.cells true [.int .i64 0, .int .i64 0, .int .i64 0] 3)).set A.next (.cells true [.int .i64 r[i].place, .int .i64 r[i].lo, .int .i64 r[i].hi] 3)) := (Ge.new _ _).setNew (Nat.le_refl _) _
  have gn15 : Ge H (⟨((A.new (.cells true [.int .i64 0, .int .i64 0, .int .i64 0] 3)).set A.next (.cells true [.int .i64 r[i].place, .int .i64 r[i].lo, .int .i64 r[i].hi] 3)).get, A.next + 15⟩ : Heap) := Ge.grow_le (by have := g.next; omega) (g.trans gn)
  have f2' := f2 _ gn15
  simp [t1, t13, t15, t5, e1, e2, Rl.val, f1, f2']
  rw [aval_max (k := .i64) (m := if i = 0 then 0 else ts[i - 1]?.getD 0) (n := r[i].lo) (by simp [t5]) (by simp) (by decide) (by decide)]
  simp
  refine fcall_fun (within_spec _ _ _ _) ?_
  rintro _ _ ⟨rfl, rfl⟩
  have hlo := h0 _ (List.getElem_mem h1)
  have hok : (decide (max (if i = 0 then 0 else ts[i - 1]?.getD 0) r[i].lo ≤ ts[i]) && decide (ts[i] ≤ r[i].hi)) = tOk r ts i := by
    unfold tOk
    simp only [h1, h2, List.getElem?_eq_getElem, Option.getD_some]
    rw [Bool.eq_iff_iff]
    simp only [Bool.and_eq_true, Bool.or_eq_true, decide_eq_true_eq]
    by_cases hz : i = 0
    · simp only [hz, if_true, true_or, and_true]
      subst hz
      omega
    · simp only [hz, if_false, false_or]
      omega
  rw [hok]
  cases hb : tOk r ts i
  · have := all_no (n := r.length) h1 hb
    have h3 : ∃ x, x < r.length ∧ tOk r ts x = false := ⟨i, h1, hb⟩
    simp
    exact ⟨fun _ => h3, gn15⟩
  · simp [t1, f1, f2', t15, add_in (x := i) (y := 1) (by omega) (by omega)]
    refine ⟨⟨gn15, t13, t14, i + 1, by omega, by omega, by simp [h2], fun k hk => ?_⟩, by omega⟩
    by_cases hk2 : k = i
    · subst hk2; exact hb
    · exact hall k (by omega)

end Go.Proofs.YtllkhaabcfnlpaaDoor

/-
  Truths of a day: the program's question and the reference's.
-/
namespace Go.Proofs.YtllkhaabcfnlpaaDoor
open Go Go.Ab

theorem truthD_no {D : Dy} {T : List (List Int)} {i : Nat} (hi : i < D.blocks.length) (h : truthOf (D.blocks[i]?.getD []) (T[i]?.getD []) = false) : truthD D T = false := by
  unfold truthD
  rw [all_no hi h, Bool.and_false]
theorem truthD_yes {D : Dy} {T : List (List Int)} (hl : T.length = D.blocks.length) (h : ∀ k, k < D.blocks.length → truthOf (D.blocks[k]?.getD []) (T[k]?.getD []) = true) : truthD D T = true := by
  unfold truthD
  rw [all_yes h, hl]; simp
theorem truthD_len {D : Dy} {T : List (List Int)} (hl : T.length ≠ D.blocks.length) : truthD D T = false := by simp [truthD, hl]
theorem truthOf_no {r : List Rl} {ts : List Int} {i : Nat} (hi : i < r.length) (h : tOk r ts i = false) : truthOf r ts = false := by
  unfold truthOf
  rw [all_no hi h, Bool.and_false]
theorem truthOf_yes {r : List Rl} {ts : List Int} (hl : ts.length = r.length) (h : ∀ k, k < r.length → tOk r ts k = true) : truthOf r ts = true := by
  unfold truthOf
  rw [all_yes h, hl]; simp
theorem truthOf_len {r : List Rl} {ts : List Int} (hl : ts.length ≠ r.length) : truthOf r ts = false := by simp [truthOf, hl]

theorem isTruth_spec {D : Dy} {b w v : Value} {H : Heap} {T : List (List Int)} (h : DayAt H b w D) (hV : Valid D) (hT : RowsAt H v T) : AFun Tryd.prog 66 [dayV D b w, v] H (fun r B => r = .bool (truthD D T) ∧ Ge H B) := by
  refine AFun.mk ok66 hm (Nat.le_of_ble_eq_true rfl) ?_
  have hb := h.blocks.one
  have hw := h.walk.one
  have hfew := hV.few
  simp [a66, r66, hb, hw, hT.lenV, h.blocks.lenV]
  by_cases hl : T.length = D.blocks.length
  case neg =>
    have hl2 : ¬ (T.length : Int) = D.blocks.length := by omega
    simp [hl2, truthD_len hl]
  have hl2 : (T.length : Int) = D.blocks.length := by omega
  simp [hl2, h.blocks.lenV]
  refine floop_intro (fun z => z.d = [] ∧ Ge H z.H ∧ z.t 1 = v ∧ z.t 14 = b ∧ z.t 15 = .int .i64 D.blocks.length ∧ ∃ i : Nat, i ≤ D.blocks.length ∧ z.t 16 = .int .i64 i ∧ ∀ k, k < i → truthOf (D.blocks[k]?.getD []) (T[k]?.getD []) = true) (fun z => D.blocks.length - (intOf (z.t 16)).toNat) ?_ ?_
  · exact ⟨rfl, by simp, by simp, by simp, by simp, 0, by simp, by simp, fun k hk => by omega⟩
  rintro ⟨t, _, A⟩ ⟨rfl, g, t1, t14, t15, i, hi, t16, hall⟩
  dsimp only at g t1 t14 t15 t16
  simp [t15, t16]
  refine fcond_intro (fun hc => ?_) (fun hc => ?_)
  case refine_2 =>
    have h1 : i = D.blocks.length := by simp at hc; omega
    subst h1
    simp [g, truthD_yes hl hall]
  have h1 : i < D.blocks.length := by simpa using hc
  have h2 : i < T.length := by omega
  obtain ⟨p, u, e1, e2, e3⟩ := h.blocks.atAll h1
  obtain ⟨p', u', f1, f2, f3⟩ := RowsOf.atAll hT h2
  have e21 := e2 A g
  have f21 := f2 A g
  simp [t1, t14, t16, e1, e21, f1, f21]
  refine fcall_fun (truthOf_spec (e3.ge g) (f3.ge g) (fun x hx => (hV.rel (List.getElem_mem h1) hx).2.2.1)) ?_
  rintro _ B ⟨rfl, gB⟩
  cases hb : truthOf D.blocks[i] T[i]
  · have : truthD D T = false := truthD_no h1 (by simp [h1, h2, hb])
    simp [this, g.trans gB]
  · simp [t16, add_in (x := i) (y := 1) (by omega) (by omega)]
    refine ⟨⟨g.trans gB, t1, t14, t15, i + 1, by omega, by omega, fun k hk => ?_⟩, by omega⟩
    by_cases hk2 : k = i
    · subst hk2; simp [h1, h2, hb]
    · exact hall k (by omega)

theorem refTruth_spec {D : Dy} {b w v : Value} {H : Heap} {T : List (List Int)} (h : DayAt H b w D) (hV : Valid D) (hT : RowsAt H v T) : AFun Tryd.prog 29 [dayV D b w, v] H (fun r B => r = .bool (truthD D T) ∧ Ge H B) := by
  refine AFun.mk ok29 hm (Nat.le_of_ble_eq_true rfl) ?_
  have hb := h.blocks.one
  have hw := h.walk.one
  have hfew := hV.few
  simp [a29, r29, hb, hw, hT.lenV, h.blocks.lenV]
  by_cases hl : T.length = D.blocks.length
  case neg =>
    have hl2 : ¬ (T.length : Int) = D.blocks.length := by omega
    simp [hl2, truthD_len hl]
  have hl2 : (T.length : Int) = D.blocks.length := by omega
  simp [hl2]
  refine floop_intro (fun z => z.d = [] ∧ Ge H z.H ∧ H.next < z.H.next ∧ z.t 1 = v ∧ z.t 2 = .pointer (some ⟨H.next, 0, none⟩) ∧ z.H.get H.next = .cells true (dayV D b w).cells.toList 10 ∧ ∃ i : Nat, i ≤ D.blocks.length ∧ z.t 5 = .int .i64 i ∧ ∀ k, k < i → truthOf (D.blocks[k]?.getD []) (T[k]?.getD []) = true) (fun z => D.blocks.length - (intOf (z.t 5)).toNat) ?_ ?_
  · exact ⟨rfl, by simp, by simp, by simp, by simp, by simp [Value.cells], 0, by simp, by simp, fun k hk => by omega⟩
  rintro ⟨t, _, A⟩ ⟨rfl, g, hn, t1, t2, kd, i, hi, t5, hall⟩
  dsimp only at g hn t1 t2 kd t5
  simp [Value.cells] at kd
  simp [t1, t5, hT.lenV]
  refine fcond_intro (fun hc => ?_) (fun hc => ?_)
  case refine_2 =>
    have h1 : i = D.blocks.length := by simp at hc; omega
    subst h1
    simp [g, truthD_yes hl hall]
  have h2 : i < T.length := by simpa using hc
  have h1 : i < D.blocks.length := by omega
  obtain ⟨p, u, e1, e2, e3⟩ := h.blocks.atAll h1
  obtain ⟨p', u', f1, f2, f3⟩ := RowsOf.atAll hT h2
  have hbl := hV.blen (List.getElem_mem h1)
  have g12 := g.grow 12
  simp [t1, t2, kd, t5, e1, e2 _ g12, f1, f2 _ g12, e3.lenV, f3.lenV]
  by_cases hli : T[i].length = D.blocks[i].length
  case neg =>
    have hli2 : ¬ (T[i].length : Int) = D.blocks[i].length := by omega
    have : truthD D T = false := truthD_no h1 (by simp [h1, h2, truthOf_len hli])
    simp [hli2, this, g12]
  have hli2 : (T[i].length : Int) = D.blocks[i].length := by omega
  simp [hli2]
  have n12 : A.next ≤ A.next + 12 := by omega
  refine floop_intro (fun z => z.d = [] ∧ Ge H z.H ∧ H.next < z.H.next ∧ z.t 1 = v ∧ z.t 2 = .pointer (some ⟨H.next, 0, none⟩) ∧ z.t 5 = .int .i64 i ∧ z.H.get H.next = .cells true (dayV D b w).cells.toList 10 ∧ ∃ j : Nat, j ≤ D.blocks[i].length ∧ z.t 6 = .int .i64 j ∧ ∀ k, k < j → tOk D.blocks[i] T[i] k = true) (fun z => D.blocks[i].length - (intOf (z.t 6)).toNat) ?_ ?_
  · exact ⟨rfl, g12, by simp; omega, by simp [t1], by simp [t2], by simp [t5], by simp [Value.cells, kd], 0, by simp, by simp, fun k hk => by omega⟩
  have t5o := t5
  clear t1 t2 kd t5 g hn g12 n12
  rintro ⟨t, _, A⟩ ⟨rfl, g, hn, t1, t2, t5, kd, j, hj, t6, hallj⟩
  dsimp only at g hn t1 t2 t5 t6 kd
  simp [Value.cells] at kd
  simp [t1, t5, t6, f1, f2 _ g, f3.lenV]
  refine fcond_intro (fun hc => ?_) (fun hc => ?_)
  case refine_2 =>
    have hj1 : j = D.blocks[i].length := by simp at hc; omega
    subst hj1
    simp [t5, add_in (x := i) (y := 1) (by omega) (by omega)]
    refine ⟨⟨g, hn, t1, t2, by simpa [Value.cells] using kd, i + 1, by omega, by omega, fun k hk => ?_⟩, by rw [t5o]; simp; omega⟩
    by_cases hk2 : k = i
    · subst hk2; simp [h1, h2, truthOf_yes hli hallj]
    · exact hall k (by omega)
  have hj2 : j < T[i].length := by simp at hc; omega
  have hj1 : j < D.blocks[i].length := by omega
  obtain ⟨n, o, l1, ln, l2, l3, _⟩ := e3.at hj1
  obtain ⟨q, m1, m2⟩ := f3.atAll hj2
  have g45 := g.grow 45
  have c2 := l3 2 (by omega)
  simp [Rl.cells] at c2
  have c2' : ldA (A.get n) false 1 (o + 2) = some (.int .i64 D.blocks[i][j].hi) := by rw [g.get n ln]; exact c2
  have hhas : D.has i j := ⟨_, List.getElem?_eq_getElem h1, hj1⟩
  have hrel : D.rel i j = D.blocks[i][j] := by simp [Dy.rel, h1, hj1]
  simp [t1, t2, kd, t5, t6, e1, e2 _ g45, f1, f2 _ g45, l1, m1, m2 _ g45, c2']
  refine fcall_fun (lo69_spec (h.ge g45) hhas) ?_
  rintro _ B ⟨rfl, gB⟩
  rw [hrel]
  have GB0 := g45.trans gB
  have kB0 := gB.got (n := H.next) (by show H.next < A.next + 45; omega) kd
  have cB : ldA (B.get n) false 1 (o + 1 + 1) = some (.int .i64 D.blocks[i][j].hi) := by rw [GB0.get n ln]; exact c2
  simp [e2 _ GB0, f2 _ GB0, m2 _ GB0, kB0, cB]
  refine fcall_fun (in_spec _ _ _ _) ?_
  rintro _ _ ⟨rfl, rfl⟩
  have GB := g45.trans gB
  have nB := gB.next
  have kB := gB.got (n := H.next) (by show H.next < A.next + 45; omega) kd
  simp only at nB
  have hok0 : tOk D.blocks[i] T[i] j = ((decide (D.blocks[i][j].lo ≤ T[i][j]) && decide (T[i][j] ≤ D.blocks[i][j].hi)) && (decide (j = 0) || decide (T[i][j - 1]?.getD 0 ≤ T[i][j]))) := by
    simp [tOk, hj1, hj2]
  cases hx : (decide (D.blocks[i][j].lo ≤ T[i][j]) && decide (T[i][j] ≤ D.blocks[i][j].hi))
  · have hbad : tOk D.blocks[i] T[i] j = false := by rw [hok0, hx]; rfl
    have : truthD D T = false := truthD_no h1 (by simp [h1, h2, truthOf_no hj1 hbad])
    simp [this, GB]
  by_cases hz : j = 0
  · subst hz
    have hgood : tOk D.blocks[i] T[i] 0 = true := by rw [hok0, hx]; simp
    simp [t6, add_in (x := 0) (y := 1) (by omega) (by omega)]
    refine ⟨⟨GB, by omega, t1, t2, t5, by simpa [Value.cells] using kB, 1, by omega, by simp, fun k hk => ?_⟩, by omega⟩
    have : k = 0 := by omega
    rw [this]; exact hgood
  have hz2 : 0 < j := by omega
  have hjm : j - 1 < T[i].length := by omega
  obtain ⟨q', r1, r2⟩ := f3.atAll hjm
  have hc1 : ((j - 1 : Nat) : Int) = (j : Int) - 1 := by omega
  rw [hc1] at r1
  simp [hz2, t1, t5, t6, f1, f2 _ GB, m1, m2 _ GB, sub_in (x := j) (y := 1) (by omega) (by omega), r1, r2 _ GB]
  refine fcond_intro (fun hc => ?_) (fun hc => ?_)
  · have hbad : tOk D.blocks[i] T[i] j = false := by
      rw [hok0, hx]
      simp at hc
      simp [hz, hjm, hc]
    have : truthD D T = false := truthD_no h1 (by simp [h1, h2, truthOf_no hj1 hbad])
    simp [this, GB]
  · have hgood : tOk D.blocks[i] T[i] j = true := by
      rw [hok0, hx]
      simp at hc
      simp [hz, hjm, hc]
    simp [t6, add_in (x := j) (y := 1) (by omega) (by omega)]
    refine ⟨⟨GB, by omega, t1, t2, t5, by simpa [Value.cells] using kB, j + 1, by omega, by omega, fun k hk => ?_⟩, by omega⟩
    by_cases hk2 : k = j
    · subst hk2; exact hgood
    · exact hallj k (by omega)

end Go.Proofs.YtllkhaabcfnlpaaDoor

/-
  A planned day in one truth.
-/
namespace Go.Proofs.YtllkhaabcfnlpaaDoor
open Go Go.Ab

def knownT (T : List (List Int)) : List (List (Int × Int)) := T.map fun l => l.map fun x => (x, x)
theorem kAt_truth {T : List (List Int)} (b n : Nat) : kAt (knownT T) b n = (tAt T b n, tAt T b n) := by
  unfold kAt tAt knownT
  rw [List.getElem?_map]
  cases T[b]? with
  | none => rfl
  | some x =>
    simp only [Option.map_some, Option.bind_some]
    rw [List.getElem?_map]
    cases x[n]? <;> rfl

/-- Where the known times stand. X: the row that grows. -/
structure KInv (D : Dy) (b w s v12 : Value) (A0 : Heap) (q : Nat) (A : Heap) (X : Nat → Prop) (v11 : Value) (rows : List (List (Int × Int))) : Prop where
  next : A0.next ≤ A.next
  keep : ∀ n, n < A0.next → n ≠ q → A.get n = A0.get n
  box : A.get q = .cells true [.int .i64 D.law.piece, .int .i64 D.law.drive, .int .i64 D.law.spread, .int .i64 D.law.brk, .int .i64 D.law.on, .int .i64 D.law.off, .int .i64 D.law.least, .int .i64 D.law.pieces, b, w, s, v11, v12] 13
  rows : RowsG 2 endCells A A0.next X v11 rows
  apart : ∀ m, X m → A0.next ≤ m ∧ m < A.next

section
variable {D : Dy} {b w s v12 : Value} {A0 A B : Heap} {q : Nat} {X X' : Nat → Prop} {v11 : Value} {rows : List (List (Int × Int))}

theorem KInv.move (h : KInv D b w s v12 A0 q A X v11 rows) (hq : q < A0.next) (hn : A.next ≤ B.next) (hk : ∀ n, n < A.next → ¬ X n → B.get n = A.get n) (hX : ∀ m, X' m → X m ∨ (A.next ≤ m ∧ m < B.next)) : KInv D b w s v12 A0 q B X' v11 rows := by
  have hXq : ∀ n, n < A0.next → ¬ X n := fun n hn2 hx => by have := (h.apart n hx).1; omega
  have hnx := h.next
  refine ⟨by omega, fun n h1 h2 => by rw [hk n (by omega) (hXq n h1)]; exact h.keep n h1 h2, by rw [hk q (by omega) (hXq q hq)]; exact h.box, ?_, ?_⟩
  · refine h.rows.keep hn (fun n _ h2 h3 => hk n h2 h3) fun m hm hx => ?_
    rcases hX m hx with hx | hx
    · exact hx
    · omega
  · intro m hx
    rcases hX m hx with hx | hx
    · have := h.apart m hx; exact ⟨this.1, by omega⟩
    · exact ⟨by omega, hx.2⟩

theorem KInv.row {u : Value} {n : Nat} {c : AObj} {rows' : List (List (Int × Int))} (h : KInv D b w s v12 A0 q A X v11 rows) (hq : q < A0.next) (hn : A.next ≤ n) (hB : n < B.next) (hu : slName u = some n)
    (hr : RowsG 2 endCells B A0.next (fun _ => False) u rows') (hk : ∀ m, m ≠ n → slName v11 ≠ some m → B.get m = A.get m)
    (hc : c = .cells true [.int .i64 D.law.piece, .int .i64 D.law.drive, .int .i64 D.law.spread, .int .i64 D.law.brk, .int .i64 D.law.on, .int .i64 D.law.off, .int .i64 D.law.least, .int .i64 D.law.pieces, b, w, s, u, v12] 13) :
    KInv D b w s v12 A0 q (B.set q c) (fun _ => False) u rows' := by
  have hnx := h.next
  have h11 : ∀ m, m < A0.next → slName v11 ≠ some m := fun m hm e => by have := (h.rows.names e).1; omega
  refine ⟨by simp; omega, fun m h1 h2 => ?_, by simp [hc], ?_, fun m hx => hx.elim⟩
  · simp [h2]; rw [hk m (by omega) (h11 m h1)]; exact h.keep m h1 h2
  · refine hr.keep (by simp) (fun m h1 h2 h3 => ?_) fun m hm hx => hx.elim
    have e2 : m ≠ q := by omega
    simp [e2]
end

theorem inTruth_spec {D : Dy} {K : List (List (Int × Int))} {b w s k q v : Value} {H : Heap} {T : List (List Int)} (h : PlanAt H b w s k q D K) (hT : RowsAt H v T) (hl : T.length ≤ 20) (hll : ∀ r ∈ T, r.length ≤ 20) :
    AFun Tryd.prog 67 [planV D b w s k q, v] H (fun r B => ∃ k', r = planV D b w s k' q ∧ PlanAt B b w s k' q D (knownT T) ∧ Ge H B) := by
  refine AFun.mk ok67 hm (Nat.le_of_ble_eq_true rfl) ?_
  have hb := h.day.blocks.one
  have hw := h.day.walk.one
  have hs := h.segs.one
  have hk := h.known.one
  have hq : one q = true := SlR.one h.quest
  simp [a67, r67, hb, hw, hs, hk, hq, hT.lenV]
  generalize hA0 : Heap.set _ H.next _ = A0
  have nx0 : A0.next = H.next + 2 := by rw [← hA0]; simp
  have g0 : Ge H A0 := by
    rw [← hA0]
    exact Ge.setNew (Ge.newOf (Ge.new H _) _) (by omega) _
  have c0 : A0.get H.next = .cells true [.int .i64 D.law.piece, .int .i64 D.law.drive, .int .i64 D.law.spread, .int .i64 D.law.brk, .int .i64 D.law.on, .int .i64 D.law.off, .int .i64 D.law.least, .int .i64 D.law.pieces, b, w, s, .slice none 0 0, q] 13 := by rw [← hA0]; simp
  have c1 : A0.get (H.next + 1) = .cells true [.int .i64 0, .int .i64 0, .int .i64 0, .int .i64 0, .int .i64 0, .int .i64 0, .int .i64 0, .int .i64 0, .slice none 0 0, .slice none 0 0, .slice none 0 0, .slice none 0 0, .slice none 0 0] 13 := by rw [← hA0]; simp
  clear hA0
  have geOf : ∀ {A X v11 rows}, KInv D b w s q A0 H.next A X v11 rows → Ge H A := fun hI => ⟨by have := hI.next; omega, fun n hn => by rw [hI.keep n (by omega) (by omega)]; exact g0.get n hn⟩
  refine floop_intro (fun z => z.d = [] ∧ z.t 2 = .pointer (some ⟨H.next, 0, none⟩) ∧ z.t 4 = .pointer (some ⟨H.next + 1, 0, none⟩) ∧ z.t 11 = v ∧ z.t 12 = .int .i64 T.length ∧ ∃ i : Nat, i ≤ T.length ∧ z.t 13 = .int .i64 i ∧ ∃ v11, KInv D b w s q A0 H.next z.H (fun _ => False) v11 ((knownT T).take i)) (fun z => T.length - (intOf (z.t 13)).toNat) ?_ ?_
  · exact ⟨rfl, by simp, by simp, by simp, by simp, 0, by simp, by simp, .slice none 0 0, Nat.le_refl _, fun _ _ _ => rfl, c0, RowsG.nil rfl, fun m hx => hx.elim⟩
  rintro ⟨t, _, A⟩ ⟨rfl, t2, t4, t11, t12, i, hi, t13, v11, hI⟩
  dsimp only at t2 t4 t11 t12 t13 hI
  simp [t12, t13]
  refine fcond_intro (fun hc => ?_) (fun hc => ?_)
  case refine_2 =>
    have : i = T.length := by simp at hc; omega
    subst this
    have hG := geOf hI
    have hnx := hI.next
    have e1 : A.get (H.next + 1) = _ := (hI.keep (H.next + 1) (by omega) (by omega)).trans c1
    simp [t2, t4, hI.box, e1, hb, hw, hs, hq, hI.rows.one]
    have hG2 : Ge H (A.set (H.next + 1) (.cells true [.int .i64 D.law.piece, .int .i64 D.law.drive, .int .i64 D.law.spread, .int .i64 D.law.brk, .int .i64 D.law.on, .int .i64 D.law.off, .int .i64 D.law.least, .int .i64 D.law.pieces, b, w, s, v11, q] 13)) := hG.setNew (by omega) _
    refine ⟨⟨h.day.ge hG2, h.segs.ge hG2, ?_, SlR.ge h.quest hG2⟩, hG2⟩
    have hfull : (knownT T).take T.length = knownT T := by rw [List.take_of_length_le]; simp [knownT]
    have hrows := hI.rows.keep (B := A.set (H.next + 1) (.cells true [.int .i64 D.law.piece, .int .i64 D.law.drive, .int .i64 D.law.spread, .int .i64 D.law.brk, .int .i64 D.law.on, .int .i64 D.law.off, .int .i64 D.law.least, .int .i64 D.law.pieces, b, w, s, v11, q] 13)) (X' := fun _ => False) (by simp) (fun n h1 h2 _ => by
      have : n ≠ H.next + 1 := by omega
      simp [this]) (fun _ _ hx => hx.elim)
    rw [hfull] at hrows
    refine hrows.rows (R := EndsAt) ?_ ?_
    · simp [knownT]; omega
    · intro u r hr ho
      refine ⟨ho.slr, ?_⟩
      simp only [knownT, List.mem_map] at hr
      obtain ⟨x, hx, rfl⟩ := hr
      have := hll _ hx
      simp; omega
  have hi' : i < T.length := by simpa using hc
  obtain ⟨p, u, e1, e2, e3⟩ := RowsOf.atAll hT hi'
  have hlr := hll _ (List.getElem_mem hi')
  simp [t11, t13, e1, e2 _ (geOf hI), e3.lenV]
  refine floop_intro (fun z => z.d = [] ∧ z.t 2 = .pointer (some ⟨H.next, 0, none⟩) ∧ z.t 4 = .pointer (some ⟨H.next + 1, 0, none⟩) ∧ z.t 11 = v ∧ z.t 12 = .int .i64 T.length ∧ z.t 13 = .int .i64 i ∧ z.t 17 = u ∧ z.t 18 = .int .i64 T[i].length ∧ ∃ j : Nat, j ≤ T[i].length ∧ z.t 19 = .int .i64 j ∧ ∃ v7 v11, z.t 7 = v7 ∧ OwnS z.H A0.next 2 v7 j (((T[i].take j).map fun x => (x, x)).flatMap endCells) ∧ KInv D b w s q A0 H.next z.H (fun m => slName v7 = some m) v11 ((knownT T).take i)) (fun z => T[i].length - (intOf (z.t 19)).toNat) ?_ ?_
  · refine ⟨rfl, by simp [t2], by simp [t4], by simp [t11], by simp [t12], by simp [t13], by simp, by simp, 0, by simp, by simp, .slice none 0 0, v11, by simp, .inl ⟨rfl, rfl, by simp⟩, ?_⟩
    exact hI.move (X' := fun m => slName (.slice none 0 0) = some m) (by omega) (Nat.le_refl _) (fun _ _ _ => rfl) (fun m hm => by cases hm)
  have t13o := t13
  clear t2 t4 t11 t12 t13 hI hc
  rintro ⟨t, _, A⟩ ⟨rfl, t2, t4, t11, t12, t13, t17, t18, j, hj, t19, v7, v11, t7, o7, hI⟩
  dsimp only at t2 t4 t11 t12 t13 t17 t18 t19 t7 o7 hI
  simp [t18, t19]
  refine fcond_intro (fun hc => ?_) (fun hc => ?_)
  case refine_2 =>
    have : j = T[i].length := by simp at hc; omega
    subst this
    have hv7 := o7.one
    have hnx := hI.next
    have ne0 : H.next ≠ A.next := by omega
    simp [t2, t7, hI.box, hv7, one_cells, ne0]
    have hI1 := hI.move (B := A.new (.cells true [v7] 1)) (X' := fun m => slName v7 = some m) (by omega) (by simp) (fun n hn _ => by simp [Nat.ne_of_lt hn]) (fun m hm => .inl hm)
    have o71 := o7.ge (Ge.new A (.cells true [v7] 1))
    have hlrow : (((T[i].take T[i].length).map fun x => (x, x))).length = T[i].length := by simp
    refine hI1.rows.push (r := (T[i].take T[i].length).map fun x => (x, x)) (x := v7) (X' := fun _ => False) (by rw [hlrow]; exact o71) (fun m hm => ⟨fun e => hI1.rows.own m e hm, fun hf => hf⟩) (fun m hf => hf.elim) (slCells_new (H := A.new (.cells true [v7] 1)) (rw := true) (c := 1) (by simp)) ?_ (by simp) (by omega) (by simp; omega) fun u' B k1 k2 k3 k4 => ?_
    · rw [List.length_take]; simp [knownT]; omega
    have hq11 : slName v11 ≠ some H.next := fun e => by have := (hI.rows.names e).1; omega
    have kq : B.get H.next = _ := k4 H.next (by simp; omega) hq11
    simp [ne0, hI.box] at kq
    have hu1 : one u' = true := k1.one
    simp [t2, kq, hu1, one_cells, t13, add_in (x := i) (y := 1) (by omega) (by omega)]
    refine ⟨⟨t4, t11, t12, i + 1, by omega, by omega, u', ?_⟩, by rw [t13o]; simp; omega⟩
    have hfin := hI1.row (q := H.next) (c := .cells true [.int .i64 D.law.piece, .int .i64 D.law.drive, .int .i64 D.law.spread, .int .i64 D.law.brk, .int .i64 D.law.on, .int .i64 D.law.off, .int .i64 D.law.least, .int .i64 D.law.pieces, b, w, s, u', q] 13) (by omega) (n := A.next + 1) (by simp) (by omega) k2 k1 k4 rfl
    have hrows : (knownT T).take i ++ [(T[i].take T[i].length).map fun x => (x, x)] = (knownT T).take (i + 1) := by
      rw [List.take_succ_eq_append_getElem (by simp [knownT]; exact hi')]
      simp [knownT]
    rw [hrows] at hfin
    exact hfin
  have hj' : j < T[i].length := by simpa using hc
  obtain ⟨p2, l1, l2⟩ := e3.atAll hj'
  have hnx := hI.next
  have l2' := l2 _ (geOf hI)
  simp [t17, t19, t7, l1, l2']
  have g1 : Ge A (A.new (.cells true [.int .i64 T[i][j], .int .i64 T[i][j]] 2)) := Ge.new _ _
  refine fapp_ownS (lo := A0.next) (xs := [.int .i64 T[i][j], .int .i64 T[i][j]]) (o7.ge g1) (by simp [slCells, rdL]) rfl (by simp) (by omega) (by omega) (by simp) (by omega) (by simp; omega) fun u7 B k1 k2 k3 k4 => ?_
  have hcs : (((T[i].take j).map fun x => (x, x)).flatMap endCells) ++ [.int .i64 T[i][j], .int .i64 T[i][j]] = (((T[i].take (j + 1)).map fun x => (x, x)).flatMap endCells) := by
    rw [List.take_succ_eq_append_getElem hj', List.map_append, List.flatMap_append]; rfl
  rw [hcs] at k1
  have hB : ∀ m, m < A.next → slName v7 ≠ some m → B.get m = A.get m := fun m hm hne => by
    rw [k4 m (by omega) hne]; exact g1.get m hm
  have hIB := hI.move (B := B) (X' := fun m => slName u7 = some m) (by omega) (by omega) (fun m hm hx => hB m hm hx) (fun m hm => .inr (by rw [k2] at hm; cases hm; omega))
  simp [t19, add_in (x := j) (y := 1) (by omega) (by omega)]
  refine ⟨⟨t2, t4, t11, t12, t13, t17, t18, j + 1, by omega, by simp, by simpa using k1, v11, hIB⟩, by omega⟩

end Go.Proofs.YtllkhaabcfnlpaaDoor

/-
  The contract of Do.
-/
namespace Go.Proofs.YtllkhaabcfnlpaaDoor
open Go Go.Ab

theorem truth_len {D : Dy} {T : List (List Int)} (h : truthD D T = true) : T.length = D.blocks.length := by
  unfold truthD at h
  rw [Bool.and_eq_true, decide_eq_true_eq] at h
  exact h.1
theorem truth_row {D : Dy} {T : List (List Int)} (h : truthD D T = true) {i : Nat} (hi : i < D.blocks.length) (hi2 : i < T.length) : truthOf D.blocks[i] T[i] = true := by
  unfold truthD at h
  rw [Bool.and_eq_true, List.all_eq_true] at h
  have := h.2 i (by simpa using hi)
  simpa [hi, hi2] using this
theorem truthOf_at {r : List Rl} {ts : List Int} (h : truthOf r ts = true) : ts.length = r.length ∧ ∀ i (hi : i < r.length) (hi2 : i < ts.length), r[i].lo ≤ ts[i] ∧ ts[i] ≤ r[i].hi := by
  unfold truthOf at h
  rw [Bool.and_eq_true, decide_eq_true_eq, List.all_eq_true] at h
  refine ⟨h.1, fun i hi hi2 => ?_⟩
  have := h.2 i (by simpa using hi)
  simp [tOk, hi, hi2] at this
  exact ⟨this.1.1, this.1.2⟩
theorem truth_rows {D : Dy} {T : List (List Int)} (hV : Valid D) (h : truthD D T = true) : ∀ x ∈ T, ∀ y ∈ x, 0 ≤ y ∧ y ≤ 3000 := by
  intro x hx y hy
  have hl := truth_len h
  obtain ⟨i, hi, rfl⟩ := List.mem_iff_getElem.1 hx
  have hr := truth_row h (i := i) (by omega) hi
  obtain ⟨h1, h2⟩ := truthOf_at hr
  obtain ⟨j, hj, rfl⟩ := List.mem_iff_getElem.1 hy
  have h3 := h2 j (by omega) hj
  have h4 := hV.rel (List.getElem_mem (by omega : i < D.blocks.length)) (List.getElem_mem (by omega : j < D.blocks[i].length))
  omega
theorem truth_spots {D : Dy} {T : List (List Int)} (h : truthD D T = true) {b n : Nat} (hs : D.has b n) : ∃ x, T[b]? = some x ∧ n < x.length := by
  obtain ⟨x, h1, h2⟩ := hs
  obtain ⟨hb, rfl⟩ := List.getElem?_eq_some_iff.1 h1
  have hl := truth_len h
  have hr := truth_row h hb (by omega)
  have h3 := (truthOf_at hr).1
  exact ⟨T[b], List.getElem?_eq_getElem (by omega), by omega⟩
theorem truth_TOk {D : Dy} {T : List (List Int)} (hV : Valid D) (h : truthD D T = true) : TOk D T := ⟨fun _ _ hs => truth_spots h hs, truth_rows hV h⟩
theorem truth_KOk {D : Dy} {T : List (List Int)} (hV : Valid D) (h : truthD D T = true) : KOk D (knownT T) := by
  refine ⟨fun b n hs => ?_, fun x hx y hy => ?_⟩
  · obtain ⟨x, h1, h2⟩ := truth_spots h hs
    exact ⟨x.map fun z => (z, z), by simp [knownT, h1], by simpa using h2⟩
  · simp only [knownT, List.mem_map] at hx
    obtain ⟨z, hz, rfl⟩ := hx
    obtain ⟨r, hr, rfl⟩ := List.mem_map.1 hy
    have := truth_rows hV h z hz r hr
    exact ⟨this, this⟩

def doE (D : Dy) (xs : List Int) (T : List (List Int)) : Int := if errD D xs = 0 then (if truthD D T then 0 else 2) else errD D xs
def doDrive (D : Dy) (xs : List Int) (T : List (List Int)) : Int := (lTo (knownT T) (piecesL D (maskL xs)) (piecesL D (maskL xs)).length).sum
def doSpread (D : Dy) (xs : List Int) (T : List (List Int)) : Int := spreadOf D (knownT T) (piecesL D (maskL xs))
def doBreaks (D : Dy) (xs : List Int) (T : List (List Int)) : List Int := bTo (restOf (knownT T)) (piecesL D (maskL xs)) (piecesL D (maskL xs)).length
def doLegal (D : Dy) (xs : List Int) (T : List (List Int)) : Bool := legalB D (knownT T) (piecesL D (maskL xs))

structure DoR (D : Dy) (xs : List Int) (T : List (List Int)) (A : Heap) (vd vs vB vl : Value) : Prop where
  one : Go.Ab.one vB = true
  bad : doE D xs T ≠ 0 → vd = .int .i64 0 ∧ vs = .int .i64 0 ∧ vB = .slice none 0 0 ∧ vl = .bool false
  good : doE D xs T = 0 → vd = .int .i64 (doDrive D xs T) ∧ vs = .int .i64 (doSpread D xs T) ∧ IntsAt A vB (doBreaks D xs T) ∧ vl = .bool (doLegal D xs T)
theorem DoR.ge {D : Dy} {xs : List Int} {T : List (List Int)} {A B : Heap} {vd vs vB vl : Value} (h : DoR D xs T A vd vs vB vl) (g : Ge A B) : DoR D xs T B vd vs vB vl :=
  ⟨h.one, h.bad, fun e => let ⟨a, b, c, d⟩ := h.good e; ⟨a, b, c.ge g, d⟩⟩

theorem do_spec {D : Dy} {b w v u : Value} {H : Heap} {xs : List Int} {T : List (List Int)} (h : DayAt H b w D) (hTh : D.Thin) (hv : IntsAt H v xs) (hlen : xs.length < 2 ^ 31) (hT : RowsAt H u T) (hl : T.length ≤ 20) (hll : ∀ r ∈ T, r.length ≤ 20) :
    AFun Tryd.prog 27 [dayV D b w, v, u] H (fun r B => ∃ vd vs vB vl, r = .tuple #[.agg #[vd, vs, vB, vl], .int .i64 (doE D xs T)] ∧ DoR D xs T B vd vs vB vl ∧ Ge H B) := by
  refine AFun.mk ok27 hm (Nat.le_of_ble_eq_true rfl) ?_
  have hb := h.blocks.one
  have hw := h.walk.one
  simp [a27, r27, hb, hw]
  refine fcall_fun (newPlannedDuty_spec (h.ge ((Ge.new _ _).newOf _)) hTh (hv.ge ((Ge.new _ _).newOf _)) hlen) ?_
  rintro _ H1 ⟨pv, m, rfl, ⟨hpl, hone⟩, g1, hgood⟩
  have G1 : Ge H H1 := Ge.trans ((Ge.new _ _).newOf _) g1
  have n1 := g1.next
  have k1 := g1.got (n := H.next + 1) (by simp) rfl
  simp at k1 n1
  by_cases he : errD D xs = 0
  case neg =>
    have hne : H.next + 1 ≠ H1.next := by omega
    have hdo : doE D xs T = errD D xs := by simp [doE, he]
    simp [hpl]
    rw [if_pos hone]
    simp [he, hne, k1, hdo]
    refine ⟨.int .i64 0, .int .i64 0, .slice none 0 0, .bool false, ⟨rfl, rfl, rfl, rfl⟩, ⟨rfl, fun _ => ⟨rfl, rfl, rfl, rfl⟩, fun e => absurd (hdo.symm.trans e) he⟩, ?_⟩
    exact (G1.trans ((Ge.new _ _).setNew (Nat.le_refl _) _)).setNew (by omega) _
  obtain ⟨hV, hd, s, k, q, hpv, hP, rfl⟩ := hgood he
  obtain ⟨hlt, h0⟩ := duty_mask hd
  have hpl2 : pv = [.int .i64 D.law.piece, .int .i64 D.law.drive, .int .i64 D.law.spread, .int .i64 D.law.brk, .int .i64 D.law.on, .int .i64 D.law.off, .int .i64 D.law.least, .int .i64 D.law.pieces, b, w, s, k, q] := by
    simpa using hpv
  subst hpl2
  have hs := hP.segs.one
  have hk := hP.known.one
  have hq : one q = true := SlR.one hP.quest
  have g2 : Ge H1 ((H1.new (.cells true [.int .i64 0, .int .i64 0, .int .i64 0, .int .i64 0, .int .i64 0, .int .i64 0, .int .i64 0, .int .i64 0, .slice none 0 0, .slice none 0 0, .slice none 0 0, .slice none 0 0, .slice none 0 0] 13)).set H1.next (.cells true [.int .i64 D.law.piece, .int .i64 D.law.drive, .int .i64 D.law.spread, .int .i64 D.law.brk, .int .i64 D.law.on, .int .i64 D.law.off, .int .i64 D.law.least, .int .i64 D.law.pieces, b, w, s, k, q] 13)) := (Ge.new _ _).setNew (Nat.le_refl _) _
  simp [he, hb, hw, hs, hk, hq]
  refine fcall_fun (isTruth_spec (h.ge (G1.trans g2)) hV (RowsOf.ge hT (G1.trans g2))) ?_
  rintro _ H2 ⟨rfl, g3⟩
  have G3 := G1.trans (g2.trans g3)
  have k3 := (g2.trans g3).got (n := H.next + 1) (by omega) k1
  have k4 := g3.got (n := H1.next) (by simp) rfl
  have n3 := g3.next
  simp at k4 n3
  cases htr : truthD D T
  · have hdo : doE D xs T = 2 := by simp [doE, he, htr]
    simp [he, k3, hdo]
    refine ⟨.int .i64 0, .int .i64 0, .slice none 0 0, .bool false, ⟨rfl, rfl, rfl, rfl⟩, ⟨rfl, fun _ => ⟨rfl, rfl, rfl, rfl⟩, fun e => by rw [hdo] at e; cases e⟩, ?_⟩
    exact G3.setNew (by omega) _
  have hdo : doE D xs T = 0 := by simp [doE, he, htr]
  simp [he, k4, hb, hw, hs, hk, hq]
  refine fcall_fun (inTruth_spec (hP.ge (g2.trans g3)) (RowsOf.ge hT G3) hl hll) ?_
  rintro _ H3 ⟨k', rfl, hP3, g4⟩
  have G4 := G3.trans g4
  have k5 := g4.got (n := H.next + 1) (by omega) k3
  have n4 := g4.next
  simp
  refine fcall_fun (work_spec hP3 hV (truth_KOk hV htr) hlt (piecesL_pos h0)) ?_
  rintro _ H4 ⟨vB, rfl, o1, g5⟩
  have G5 := G4.trans g5
  have k6 := g5.got (n := H.next + 1) (by omega) k5
  have hvB := o1.one
  simp [k6, hvB, hdo]
  have hset : ∀ c, OwnSl (H4.set (H.next + 1) c) H3.next vB ((bTo (restOf (knownT T)) (piecesL D (maskL xs)) (piecesL D (maskL xs)).length).map (Value.int .i64)) := fun c => o1.keep (by simp) fun n hn => by
    have := o1.names hn
    have : n ≠ H.next + 1 := by omega
    simp [this]
  refine ⟨_, _, vB, _, ⟨rfl, rfl, rfl, rfl⟩, ⟨hvB, fun e => absurd hdo e, fun _ => ⟨rfl, rfl, own_ints (hset _) ?_, rfl⟩⟩, ?_⟩
  · have := piecesL_length (D := D) (m := maskL xs)
    unfold doBreaks
    simp [bTo]; omega
  · exact G5.setNew (by omega) _

end Go.Proofs.YtllkhaabcfnlpaaDoor

/-
  What DutyLegal answers.
-/
namespace Go.Proofs.YtllkhaabcfnlpaaDoor
open Go Go.Ab

theorem checkD_cases (D : Dy) : checkD D = 0 ∨ checkD D = 1 ∨ checkD D = 3 := by
  unfold checkD
  split
  · right; right; rfl
  · split
    · left; rfl
    · right; left; rfl

theorem aval_neTr {t : Nat → Value} {H : Heap} {N x y : Nat} {a b : Bool} {d : Option Tmp} {ty U : TypeId} {pos : String} {af : Array Edge} {g : Option (Nat × Bool)} (hx : t x = .bool a) (hy : t y = .bool b) (h1 : x < N) (h2 : y < N) :
    aval Tryd.prog t H (.gen N ⟨d, .binOp .neq 4 (.tmp x) (.tmp y) U, ty, pos, af, g⟩) = some (.bool (!(a == b))) := by
  refine aval_gen ?_ rfl fun w => ?_
  · simp [Op.operands, flatO, hx, hy, h1, h2, flat, flat1]
  · have hg : Tryd.prog.eqGuardType Tryd.prog.depth 4 = false := by kernel_rfl
    simp only [execOp, evO, hx, hy, Sem.run_bind]
    have he := run_equalIn_bool' (P := Tryd.prog) w 9999 4 a b Tryd.underlying4
    simp [eqGuard, binOp, Op.equal, Op.maxDepth, he]

theorem dutyLegal_of {D : Dy} {b w v : Value} {H : Heap} {xs : List Int} (h : DayAt H b w D) (hv : IntsAt H v xs) (hwk : ∀ A, Ge H A → AFun Tryd.prog 16 [] A (fun r B => r = .bool true ∧ Ge A B)) :
    AFun Tryd.prog 3 [dayV D b w, v] H (fun r _ => r = .bool true) := by
  refine AFun.mk ok3 hm (Nat.le_of_ble_eq_true rfl) ?_
  have hb := h.blocks.one
  have hw := h.walk.one
  have h62 := hv.2
  simp [a3, r3, hb, hw]
  refine fcall_fun (thin_spec (h.ge (by simp))) ?_
  rintro _ H1 ⟨rfl, g1⟩
  have G1 : Ge H H1 := Ge.trans (by simp) g1
  have k1 := g1.got (n := H.next) (by simp) rfl
  have n1 := g1.next
  simp at k1 n1
  cases hth : thinB D
  · simp
    refine fcall_fun (hwk _ G1) ?_
    rintro _ _ ⟨rfl, _⟩
    simp
  have hT := thinB_thin hth
  simp [hv.lenV]
  by_cases hl : (14 : Int) < xs.length
  · simp [hl]
    refine fcall_fun (hwk _ G1) ?_
    rintro _ _ ⟨rfl, _⟩
    simp
  have hlen : xs.length ≤ 14 := by omega
  simp [hl, k1]
  -- CheckDay
  refine fcall_fun (day18_spec (h.ge G1) hT) ?_
  rintro _ H2 ⟨b2, w2, rfl, hd2, g2⟩
  have G2 := G1.trans g2
  have k2 := g2.got (n := H.next) (by omega) k1
  have n2 := g2.next
  simp
  refine fcall_fun (checkDay_spec hd2 hT) ?_
  rintro _ H3 ⟨rfl, g3⟩
  have G3 := G2.trans g3
  have k3 := g3.got (n := H.next) (by omega) k2
  have n3 := g3.next
  simp [k3]
  -- Legal
  refine fcall_fun (day18_spec (h.ge G3) hT) ?_
  rintro _ H4 ⟨b4, w4, rfl, hd4, g4⟩
  have G4 := G3.trans g4
  have k4 := g4.got (n := H.next) (by omega) k3
  have n4 := g4.next
  simp
  refine fcall_fun (list_spec (hv.ge G4) (by omega)) ?_
  rintro v5 H5 ⟨o5, g5⟩
  have G5 := G4.trans g5
  have k5 := g5.got (n := H.next) (by omega) k4
  have n5 := g5.next
  simp
  refine fcall_fun (legal_spec (hd4.ge g5) hT (own_ints o5 (by omega)) (by omega)) ?_
  rintro _ H6 ⟨rfl, g6⟩
  have G6 := G5.trans g6
  have k6 := g6.got (n := H.next) (by omega) k5
  have n6 := g6.next
  simp [k6]
  -- Pay
  refine fcall_fun (day18_spec (h.ge G6) hT) ?_
  rintro _ H7 ⟨b7, w7, rfl, hd7, g7⟩
  have G7 := G6.trans g7
  have k7 := g7.got (n := H.next) (by omega) k6
  have n7 := g7.next
  simp
  refine fcall_fun (list_spec (hv.ge G7) (by omega)) ?_
  rintro v8 H8 ⟨o8, g8⟩
  have G8 := G7.trans g8
  have k8 := g8.got (n := H.next) (by omega) k7
  have n8 := g8.next
  simp
  refine fcall_fun (payF_spec (hd7.ge g8) hT (own_ints o8 (by omega)) (by omega)) ?_
  rintro _ H9 ⟨rfl, g9⟩
  have G9 := G8.trans g9
  have k9 := g9.got (n := H.next) (by omega) k8
  have n9 := g9.next
  simp [k9]
  -- fault
  refine fcall_fun (faultF_spec (h.ge G9) hT) ?_
  rintro _ HA ⟨rfl, gA⟩
  have GA := G9.trans gA
  have kA := gA.got (n := H.next) (by omega) k9
  have nA := gA.next
  simp
  by_cases hc : checkD D = 0
  case neg =>
    have he : errD D xs = checkD D := by simp [errD, hc]
    have hp : payE D xs = checkD D := by simp [payE, he, hc]
    simp [hc, he, hp]
    refine fcall_fun (hwk _ GA) ?_
    rintro _ _ ⟨rfl, _⟩
    simp [hc, he, hp]
  have hV := valid_of hc
  simp [hc, kA]
  refine fcall_fun (isDuty23_spec (h.ge GA) hT (hv.ge GA) (by omega)) ?_
  rintro _ HB ⟨rfl, gB⟩
  have GB := GA.trans gB
  have kB := gB.got (n := H.next) (by omega) kA
  have nB := gB.next
  cases hd : isDutyB (segsOf D.blocks) xs
  · have he : errD D xs = 2 := by simp [errD, hc, hd]
    have hp : payE D xs = 2 := by simp [payE, he]
    simp [hc, he, hp]
    refine fcall_fun (hwk _ GB) ?_
    rintro _ _ ⟨rfl, _⟩
    simp [hc, he, hp]
  have he : errD D xs = 0 := by simp [errD, hc, hd]
  simp [hc, he, kB]
  refine fcall_fun (legal24_spec (h.ge GB) hT hV (hv.ge GB) hd (by omega)) ?_
  rintro _ HC ⟨rfl, gC⟩
  have GC := GB.trans gC
  have kC := gC.got (n := H.next) (by omega) kB
  have nC := gC.next
  simp
  rw [aval_neTr (a := legalD D xs) (b := legalD D xs) (by simp [he]) (by simp) (by decide) (by decide)]
  simp
  cases hl : legalD D xs
  · have hp : payE D xs = 10 := by simp [payE, he, hl]
    simp [hp, he, hl]
    refine fcall_fun (hwk _ GC) ?_
    rintro _ _ ⟨rfl, _⟩
    simp
  have hp : payE D xs = 0 := by simp [payE, he, hl]
  simp [hp, he, hl, kC]
  refine fcall_fun (pay25_spec (h.ge GC) hT hV (hv.ge GC) hd (by omega)) ?_
  rintro _ HD ⟨rfl, gD⟩
  have GD := GC.trans gD
  simp [hp, he, hl]
  refine fcall_fun (hwk _ GD) ?_
  rintro _ _ ⟨rfl, _⟩
  simp

end Go.Proofs.YtllkhaabcfnlpaaDoor

/-
  What DutyDoes answers.
-/
namespace Go.Proofs.YtllkhaabcfnlpaaDoor
open Go Go.Ab

theorem aval_eqTr {t : Nat → Value} {H : Heap} {N x y : Nat} {a b : Bool} {d : Option Tmp} {ty U : TypeId} {pos : String} {af : Array Edge} {g : Option (Nat × Bool)} (hx : t x = .bool a) (hy : t y = .bool b) (h1 : x < N) (h2 : y < N) :
    aval Tryd.prog t H (.gen N ⟨d, .binOp .eql 4 (.tmp x) (.tmp y) U, ty, pos, af, g⟩) = some (.bool (a == b)) := by
  refine aval_gen ?_ rfl fun w => ?_
  · simp [Op.operands, flatO, hx, hy, h1, h2, flat, flat1]
  · have hg : Tryd.prog.eqGuardType Tryd.prog.depth 4 = false := by kernel_rfl
    simp only [execOp, evO, hx, hy, Sem.run_bind]
    have he := run_equalIn_bool' (P := Tryd.prog) w 9999 4 a b Tryd.underlying4
    simp [eqGuard, binOp, Op.equal, Op.maxDepth, he]

theorem breaks_same {D : Dy} {zs : List (Pc × Nat)} {K : List (List (Int × Int))} {B E : List (List Int)} (hk : ∀ b n, kAt K b n = (tAt B b n, tAt E b n)) {m : Nat} (hok : ∀ z ∈ zs, PcOk D m z.1) :
    bTo (restOf K) (psOf zs) (psOf zs).length = (List.range ((rsOf zs).length - 1)).map fun j => rRest B E ((rsOf zs)[j]?.getD rz) ((rsOf zs)[j + 1]?.getD rz) := by
  have hl1 : (psOf zs).length = zs.length := by simp
  have hl2 : (rsOf zs).length = zs.length := by simp
  unfold bTo
  rw [hl1, hl2]
  refine List.map_congr_left fun j hj => ?_
  rw [List.mem_range] at hj
  have h0 : j < zs.length := by omega
  have h1 : j + 1 < zs.length := by omega
  rw [ps_at h0, ps_at h1, rs_at h0, rs_at h1]
  exact rest_same hk (hok _ (List.getElem_mem h0))

theorem dutyDoes_of {D : Dy} {b w v u : Value} {H : Heap} {xs : List Int} {T : List (List Int)} (h : DayAt H b w D) (hv : IntsAt H v xs) (hT : RowsAt H u T) (hwk : ∀ A, Ge H A → AFun Tryd.prog 16 [] A (fun r B => r = .bool true ∧ Ge A B)) :
    AFun Tryd.prog 4 [dayV D b w, v, u] H (fun r _ => r = .bool true) := by
  refine AFun.mk ok4 hm (Nat.le_of_ble_eq_true rfl) ?_
  have hb := h.blocks.one
  have hw := h.walk.one
  simp [a4, r4, hb, hw]
  refine fcall_fun (thin_spec (h.ge (by simp))) ?_
  rintro _ H1 ⟨rfl, g1⟩
  have G1 : Ge H H1 := Ge.trans (by simp) g1
  have k1 := g1.got (n := H.next) (by simp) rfl
  have n1 := g1.next
  simp at k1 n1
  cases hth : thinB D
  · simp
    refine fcall_fun (hwk _ G1) ?_
    rintro _ _ ⟨rfl, _⟩
    simp
  have hTh := thinB_thin hth
  simp [hv.lenV]
  by_cases hl : (14 : Int) < xs.length
  · simp [hl]
    refine fcall_fun (hwk _ G1) ?_
    rintro _ _ ⟨rfl, _⟩
    simp
  have hlen : xs.length ≤ 14 := by omega
  simp [hl]
  refine fcall_fun (short_spec (RowsOf.ge hT G1)) ?_
  rintro _ H2 ⟨rfl, g2⟩
  have G2 := G1.trans g2
  have k2 := g2.got (n := H.next) (by omega) k1
  have n2 := g2.next
  cases hsh : shortB T
  · simp [hl]
    refine fcall_fun (hwk _ G2) ?_
    rintro _ _ ⟨rfl, _⟩
    simp
  have hshort : T.length ≤ 12 ∧ ∀ r ∈ T, r.length ≤ 14 := by
    unfold shortB at hsh
    rw [Bool.and_eq_true, decide_eq_true_eq, List.all_eq_true] at hsh
    exact ⟨hsh.1, fun r hr => by simpa using hsh.2 r hr⟩
  have hll : ∀ r ∈ T, r.length ≤ 20 := fun r hr => by have := hshort.2 r hr; omega
  simp [hl, k2]
  -- Do
  refine fcall_fun (day18_spec (h.ge G2) hTh) ?_
  rintro _ H3 ⟨b3, w3, rfl, hd3, g3⟩
  have G3 := G2.trans g3
  have k3 := g3.got (n := H.next) (by omega) k2
  have n3 := g3.next
  simp
  refine fcall_fun (list_spec (hv.ge G3) (by omega)) ?_
  rintro v4 H4 ⟨o4, g4⟩
  have G4 := G3.trans g4
  have k4 := g4.got (n := H.next) (by omega) k3
  have n4 := g4.next
  simp
  refine fcall_fun (rows28_spec (RowsOf.ge hT G4) (by omega) (fun r hr => by have := hll r hr; omega)) ?_
  rintro v5 H5 ⟨o5, g5⟩
  have G5 := G4.trans g5
  have k5 := g5.got (n := H.next) (by omega) k4
  have n5 := g5.next
  have hT5 : RowsAt H5 v5 T := rows_done o5 (by omega) (fun r hr => by have := hll r hr; omega)
  simp
  refine fcall_fun (do_spec (hd3.ge (g4.trans g5)) hTh (IntsAt.ge (own_ints o4 (by omega)) g5) (by omega) hT5 (by omega) hll) ?_
  rintro _ H6 ⟨vd, vs, vB, vl, rfl, hR6, g6⟩
  have G6 := G5.trans g6
  have k6 := g6.got (n := H.next) (by omega) k5
  have n6 := g6.next
  have hvB := hR6.one
  have hvd : one vd = true := by
    by_cases he : doE D xs T = 0
    · rw [(hR6.good he).1]; rfl
    · rw [(hR6.bad he).1]; rfl
  have hvs : one vs = true := by
    by_cases he : doE D xs T = 0
    · rw [(hR6.good he).2.1]; rfl
    · rw [(hR6.bad he).2.1]; rfl
  have hvl : one vl = true := by
    by_cases he : doE D xs T = 0
    · rw [(hR6.good he).2.2.2]; rfl
    · rw [(hR6.bad he).2.2.2]; rfl
  have ne7 : H.next ≠ H6.next := by omega
  simp [hvB, hvd, hvs, hvl, k6, ne7]
  have g7 : Ge H6 ((H6.new (.cells true [.int .i64 0, .int .i64 0, .slice none 0 0, .bool false] 4)).set H6.next (.cells true [vd, vs, vB, vl] 4)) := (Ge.new _ _).setNew (Nat.le_refl _) _
  have G7 := G6.trans g7
  refine fcall_fun (faultF_spec (h.ge G7) hTh) ?_
  rintro _ H8 ⟨rfl, g8⟩
  have G8 := G7.trans g8
  have G68 := g7.trans g8
  have k8 := G68.got (n := H.next) (by omega) k6
  have q8 := g8.got (n := H6.next) (by simp) rfl
  have n8 := g8.next
  simp at q8 n8
  simp
  by_cases hc : checkD D = 0
  case neg =>
    have he : errD D xs = checkD D := by simp [errD, hc]
    have hdo : doE D xs T = checkD D := by simp [doE, he, hc]
    obtain ⟨rfl, rfl, rfl, rfl⟩ := hR6.bad (by rw [hdo]; exact hc)
    simp [hc, hdo, q8]
    refine fcall_fun (hwk _ G8) ?_
    rintro _ _ ⟨rfl, _⟩
    simp [hc, hdo]
  have hV := valid_of hc
  simp [hc, k8]
  refine fcall_fun (isDuty23_spec (h.ge G8) hTh (hv.ge G8) (by omega)) ?_
  rintro _ H9 ⟨rfl, g9⟩
  have G9 := G8.trans g9
  have k9 := g9.got (n := H.next) (by omega) k8
  have q9 := g9.got (n := H6.next) (by omega) q8
  have n9 := g9.next
  cases hd : isDutyB (segsOf D.blocks) xs
  · have he : errD D xs = 2 := by simp [errD, hc, hd]
    have hdo : doE D xs T = 2 := by simp [doE, he]
    obtain ⟨rfl, rfl, rfl, rfl⟩ := hR6.bad (by rw [hdo]; omega)
    simp [hc, hdo, q9]
    refine fcall_fun (hwk _ G9) ?_
    rintro _ _ ⟨rfl, _⟩
    simp [hc, hdo]
  have he : errD D xs = 0 := by simp [errD, hc, hd]
  simp [hc, k9]
  refine fcall_fun (refTruth_spec (h.ge G9) hV (RowsOf.ge hT G9)) ?_
  rintro _ HA ⟨rfl, gA⟩
  have GA := G9.trans gA
  have kA := gA.got (n := H.next) (by omega) k9
  have qA := gA.got (n := H6.next) (by omega) q9
  have nA := gA.next
  cases htr : truthD D T
  · have hdo : doE D xs T = 2 := by simp [doE, he, htr]
    obtain ⟨rfl, rfl, rfl, rfl⟩ := hR6.bad (by rw [hdo]; omega)
    simp [hc, hdo, qA]
    refine fcall_fun (hwk _ GA) ?_
    rintro _ _ ⟨rfl, _⟩
    simp [hc, hdo]
  have hdo : doE D xs T = 0 := by simp [doE, he, htr]
  obtain ⟨rfl, rfl, hBr, rfl⟩ := hR6.good hdo
  simp [hc, kA]
  refine fcall_fun (pieces30_spec (h.ge GA) hTh hV (hv.ge GA) (duty_bounds hd) (by omega)) ?_
  rintro vp HB ⟨hp, gB⟩
  have GB := GA.trans gB
  have kB := gB.got (n := H.next) (by omega) kA
  have qB := gB.got (n := H6.next) (by omega) qA
  have nB := gB.next
  obtain ⟨zs, hz1, hz2⟩ := same_pieces hd (by omega)
  obtain ⟨hmlt, hm0⟩ := duty_mask hd
  have hok : ∀ z ∈ zs, PcOk D (maskL xs) z.1 := fun z hz => piecesL_mem hmlt (by rw [hz1]; exact List.mem_map.2 ⟨z, hz, rfl⟩)
  have hz0 : 0 < zs.length := by have := piecesL_pos (D := D) hm0; rw [hz1] at this; simpa using this
  have hz16 : zs.length ≤ 16 := by have := piecesL_length (D := D) (m := maskL xs); rw [hz1] at this; simpa using this
  replace hp : RpsAt HB vp (rsOf zs) := by rw [hz2] at hp; exact hp
  have hrok : ∀ x ∈ rsOf zs, RpOk D x := fun x hx => by
    obtain ⟨z, hz, rfl⟩ := List.mem_map.1 hx
    exact ⟨(hok z hz).fst, (hok z hz).lst⟩
  have hT0 := truth_TOk hV htr
  have s1 : doDrive D xs T = ((rsOf zs).map (rLast T T)).sum := by
    unfold doDrive
    rw [hz1, lasts_same kAt_truth hok]
  have s2 : doSpread D xs T = rSpread D T T (rsOf zs) := by
    unfold doSpread
    rw [hz1, spread_same kAt_truth hok hz0]
  have s3 : doBreaks D xs T = (List.range ((rsOf zs).length - 1)).map fun j => rRest T T ((rsOf zs)[j]?.getD rz) ((rsOf zs)[j + 1]?.getD rz) := by
    unfold doBreaks
    rw [hz1, breaks_same kAt_truth hok]
  have s4 : doLegal D xs T = rObeys D T T (rsOf zs) := by
    unfold doLegal
    rw [hz1, legal_same kAt_truth hV hok hz0]
  have hl16 : (rsOf zs).length ≤ 16 := by simpa using hz16
  have hl0 : 0 < (rsOf zs).length := by simpa using hz0
  generalize rsOf zs = rs at *
  simp [hdo, qB]
  have gB' : Ge HB (⟨HB.get, HB.next + 44⟩ : Heap) := Ge.grow_le (by omega) (Ge.refl _)
  have GB' := GB.trans gB'
  refine fcall_fun (drive_spec (hp.ge gB') (RowsOf.ge hT GB') (RowsOf.ge hT GB') hT0 hT0 hrok hl16) ?_
  rintro _ HC ⟨rfl, gC⟩
  have GC := GB'.trans gC
  have gBC := gB'.trans gC
  have kC := gBC.got (n := H.next) (by omega) kB
  have qC := gBC.got (n := H6.next) (by omega) qB
  have nC := gBC.next
  simp [qC, kC, s1]
  refine fcall_fun (spread_spec (hp.ge gBC) (RowsOf.ge hT GC) (RowsOf.ge hT GC) hV (h.ge GC) hT0 hT0 hrok hl16 hl0) ?_
  rintro _ HD ⟨rfl, gD⟩
  have GD := GC.trans gD
  have gBD := gBC.trans gD
  have kD := gBD.got (n := H.next) (by omega) kB
  have qD := gBD.got (n := H6.next) (by omega) qB
  have nD := gBD.next
  simp [qD, kD, s2]
  refine fcall_fun (breaks_spec (hp.ge gBD) (RowsOf.ge hT GD) (RowsOf.ge hT GD) hT0 hT0 hrok hl16) ?_
  rintro vK HE ⟨hK, gE⟩
  have GE := GD.trans gE
  have gBE := gBD.trans gE
  have kE := gBE.got (n := H.next) (by omega) kB
  have qE := gBE.got (n := H6.next) (by omega) qB
  have nE := gBE.next
  simp [qE, kE]
  have hBrE : IntsAt HE vB (doBreaks D xs T) := hBr.ge (G68.trans (g9.trans (gA.trans (gB.trans gBE))))
  rw [s3] at hBrE
  refine fcall_fun (ints_spec hBrE hK) ?_
  rintro _ HF ⟨rfl, gF⟩
  have GF := GE.trans gF
  have gBF := gBE.trans gF
  have kF := gBF.got (n := H.next) (by omega) kB
  have qF := gBF.got (n := H6.next) (by omega) qB
  have nF := gBF.next
  simp [qF, kF]
  refine fcall_fun (obeys_spec (hp.ge gBF) (RowsOf.ge hT GF) (RowsOf.ge hT GF) hV (h.ge GF) hT0 hT0 hrok hl16 hl0) ?_
  rintro _ HG ⟨rfl, gG⟩
  have GG := GF.trans gG
  have gBG := gBF.trans gG
  have kG := gBG.got (n := H.next) (by omega) kB
  have qG := gBG.got (n := H6.next) (by omega) qB
  simp [qG, kG, s4]
  rw [aval_eqTr (a := rObeys D T T rs) (b := rObeys D T T rs) (by simp [s4]) (by simp) (by decide) (by decide)]
  simp
  refine fcall_fun (hwk _ GG) ?_
  rintro _ _ ⟨rfl, _⟩
  simp

end Go.Proofs.YtllkhaabcfnlpaaDoor

/-
  The tables of math/bits, and a world for the witness, as the laws of package duty need them.
-/
namespace Go.Proofs.YtllkhaabcfnlpaaDoor
open Go Go.Ab Go.ChangeShapes Go.WideShapes Go.ChangeAt Go.RowKit

theorem ownT : ownKnob Tryd.prog.godebug = none := by kernel_rfl
theorem gTab0 : Tryd.prog.globalNamed "math/bits.deBruijn32tab" = some 0 := by kernel_rfl
theorem gTab1 : Tryd.prog.globalNamed "math/bits.deBruijn64tab" = some 1 := by kernel_rfl
theorem gType0 : (Tryd.prog.globals[0]?).map (·.type) = some 180 := by kernel_rfl
theorem gType1 : (Tryd.prog.globals[1]?).map (·.type) = some 181 := by kernel_rfl
theorem cellsT180 : Tryd.prog.cellsOf 180 = 32 := by kernel_rfl
theorem cellsT181 : Tryd.prog.cellsOf 181 = 64 := by kernel_rfl
theorem cellsT5 : Tryd.prog.cellsOf 5 = 1 := by kernel_rfl

theorem laidT : laidOutB Tryd.prog = true := by kernel_rfl
theorem readT {l : List Nat} (h : l.all (fun t => Tryd.prog.readableRec t && decide (t < Tryd.prog.types.size)) = true) : ∀ t ∈ l, Tryd.prog.readableRec t = true ∧ t < Tryd.prog.types.size := by
  intro t ht
  have := List.all_eq_true.1 h t ht
  simpa using this

/-- What the row's list gives. -/
abbrev tabsL {H : Type} : List (String × DataW H) := [("math/bits.deBruijn32tab", Rows.laid_math_bits_deBruijn32tab), ("math/bits.deBruijn64tab", Rows.laid_math_bits_deBruijn64tab)]
theorem tables {W : World} (h : laidMetH Tryd.prog tabsL W) : gmax ≤ W.heap.size ∧ ∀ g, g < gmax → ∃ cs c, [gl0, gl1][g]? = some (some (false, cs, c)) ∧ cs.all flat1 = true ∧ (absH W.heap).get g = .cells false cs c := by
  have t0 := abs_tab (Lib.tabIs_of_head (k := .u8) (zs := [0, 1, 28, 2, 29, 14, 24, 3, 30, 22, 20, 15, 25, 17, 4, 8, 31, 27, 13, 23, 21, 19, 16, 7, 26, 12, 18, 6, 11, 5, 10, 9]) gTab0 gType0 Tryd.underlying180 Tryd.underlying5 cellsT5 cellsT180 h) gTab0
  have t1 := abs_tab (Lib.tabIs_of_head (k := .u8) (zs := [0, 1, 56, 2, 57, 49, 28, 3, 61, 58, 42, 50, 38, 29, 17, 4, 62, 47, 59, 36, 45, 43, 51, 22, 53, 39, 33, 30, 24, 18, 12, 5, 63, 55, 48, 27, 60, 41, 37, 16, 46, 35, 44, 21, 52, 32, 23, 11, 54, 26, 40, 15, 34, 20, 31, 10, 25, 14, 19, 9, 13, 8, 7, 6]) (rest := []) gTab1 gType1 Tryd.underlying181 Tryd.underlying5 cellsT5 cellsT181 (laidMet.tail h)) gTab1
  refine ⟨t1.1, fun g hg => ?_⟩
  match g, hg with
  | 0, _ => exact ⟨_, _, rfl, rfl, t0.2⟩
  | 1, _ => exact ⟨_, _, rfl, rfl, t1.2⟩

/-- A world for the witness: the settled one with the arguments' memory, the tables holding what their initialisers lay. -/
noncomputable def laidCells (l : Array Value) : Obj → Obj
  | .cells _ t frozen => .cells l t frozen
  | o => o
noncomputable def laidWorld (os : Os) (args : Array Value) : World :=
  { World.holding Tryd.prog os ⟨#[], args, []⟩ with heap := ((World.holding Tryd.prog os ⟨#[], args, []⟩).heap.modify 0 (laidCells #[.int .u8 0, .int .u8 1, .int .u8 28, .int .u8 2, .int .u8 29, .int .u8 14, .int .u8 24, .int .u8 3, .int .u8 30, .int .u8 22, .int .u8 20, .int .u8 15, .int .u8 25, .int .u8 17, .int .u8 4, .int .u8 8, .int .u8 31, .int .u8 27, .int .u8 13, .int .u8 23, .int .u8 21, .int .u8 19, .int .u8 16, .int .u8 7, .int .u8 26, .int .u8 12, .int .u8 18, .int .u8 6, .int .u8 11, .int .u8 5, .int .u8 10, .int .u8 9])).modify 1 (laidCells #[.int .u8 0, .int .u8 1, .int .u8 56, .int .u8 2, .int .u8 57, .int .u8 49, .int .u8 28, .int .u8 3, .int .u8 61, .int .u8 58, .int .u8 42, .int .u8 50, .int .u8 38, .int .u8 29, .int .u8 17, .int .u8 4, .int .u8 62, .int .u8 47, .int .u8 59, .int .u8 36, .int .u8 45, .int .u8 43, .int .u8 51, .int .u8 22, .int .u8 53, .int .u8 39, .int .u8 33, .int .u8 30, .int .u8 24, .int .u8 18, .int .u8 12, .int .u8 5, .int .u8 63, .int .u8 55, .int .u8 48, .int .u8 27, .int .u8 60, .int .u8 41, .int .u8 37, .int .u8 16, .int .u8 46, .int .u8 35, .int .u8 44, .int .u8 21, .int .u8 52, .int .u8 32, .int .u8 23, .int .u8 11, .int .u8 54, .int .u8 26, .int .u8 40, .int .u8 15, .int .u8 34, .int .u8 20, .int .u8 31, .int .u8 10, .int .u8 25, .int .u8 14, .int .u8 19, .int .u8 9, .int .u8 13, .int .u8 8, .int .u8 7, .int .u8 6]) }

end Go.Proofs.YtllkhaabcfnlpaaDoor

/-
  The arguments of the laws of package duty, as the calculus has them: days, lists, rows, words, numbers.
-/
namespace Go.Proofs.YtllkhaabcfnlpaaDoor
open Go Go.Ab Go.RowKit Go.ChangeShapes Go.WideShapes

theorem cells3 : Tryd.prog.cellsOf 3 = 1 := by kernel_rfl
theorem cells28 : Tryd.prog.cellsOf 28 = 1 := by kernel_rfl
theorem cells80 : Tryd.prog.cellsOf 80 = 1 := by kernel_rfl
theorem cells24 : Tryd.prog.cellsOf 24 = 1 := by kernel_rfl
theorem cells25 : Tryd.prog.cellsOf 25 = 1 := by kernel_rfl
theorem cells82 : Tryd.prog.cellsOf 82 = 2 := by kernel_rfl
theorem cells84 : Tryd.prog.cellsOf 84 = 3 := by kernel_rfl
theorem cells23 : Tryd.prog.cellsOf 23 = 8 := by kernel_rfl
theorem cells27 : Tryd.prog.cellsOf 27 = 10 := by kernel_rfl
theorem cells71 : Tryd.prog.cellsOf 71 = 1 := by kernel_rfl

theorem abs_size (hp : Array Obj) : hp.size ≤ (absH hp).next := Nat.le_succ_of_le (Nat.le_mul_of_pos_right _ (Nat.succ_pos _))

theorem list2 {l : List Value} (h : l.length = 2) : ∃ a b, l = [a, b] := by
  match l, h with
  | [a, b], _ => exact ⟨a, b, rfl⟩
theorem list3 {l : List Value} (h : l.length = 3) : ∃ a b c, l = [a, b, c] := by
  match l, h with
  | [a, b, c], _ => exact ⟨a, b, c, rfl⟩
theorem list8 {l : List Value} (h : l.length = 8) : ∃ a b c d e f g i, l = [a, b, c, d, e, f, g, i] := by
  match l, h with
  | [a, b, c, d, e, f, g, i], _ => exact ⟨a, b, c, d, e, f, g, i, rfl⟩
theorem list10 {l : List Value} (h : l.length = 10) : ∃ a b c d e f g i j k, l = [a, b, c, d, e, f, g, i, j, k] := by
  match l, h with
  | [a, b, c, d, e, f, g, i, j, k], _ => exact ⟨a, b, c, d, e, f, g, i, j, k, rfl⟩

section
variable {H : Type} {enc : TypeId × Value → H} {w : World} {fuel : Nat} {v : Value} {x : DataW H × List MemPlace}

theorem maxLen_lt {n : Nat} (h : n ≤ maxLen) : n < 2 ^ 63 := by
  have : maxLen = 9223372036854775807 := rfl
  omega

theorem read_list (h : DataW.trod enc Tryd.prog w 0 (fun _ => true) true fuel 28 [v] = some x) : goodV w.heap.size (capM w.heap) v = true ∧ ∃ xs : List Int, IntsAt (absH w.heap) (absV w.heap.size v) xs := by
  obtain ⟨h1, xs, h2, h3, _⟩ := read_ints Tryd.underlying28 Tryd.underlying3 cells3 h
  exact ⟨h1, xs, h2, maxLen_lt h3⟩

theorem read_of {t e : TypeId} {α : Type} {R : Heap → Value → α → Prop} (ht : Tryd.prog.underlying t = some (.slice e)) (hc : Tryd.prog.cellsOf e = 1)
    (hs : ∀ n cs y, DataW.trod enc Tryd.prog w 0 (fun _ => true) true n e cs = some y → ∃ u, cs = [u])
    (hr : ∀ n u y, DataW.trod enc Tryd.prog w 0 (fun _ => true) true n e [u] = some y → goodV w.heap.size (capM w.heap) u = true ∧ ∃ x : α, R (absH w.heap) (absV w.heap.size u) x)
    (h : DataW.trod enc Tryd.prog w 0 (fun _ => true) true fuel t [v] = some x) : goodV w.heap.size (capM w.heap) v = true ∧ ∃ xs : List α, RowsOf R (absH w.heap) (absV w.heap.size v) xs := by
  obtain ⟨h1, l, h2, h3, h4⟩ := read_slice (α := α × Value) (f := fun x => [x.2]) (Q := fun x => R (absH w.heap) x.2 x.1) ht (by rw [hc]; omega) (fun n cs y hy => by
    obtain ⟨u, rfl⟩ := hs _ _ _ hy
    obtain ⟨k1, xs, k2⟩ := hr _ _ _ hy
    exact ⟨by simpa using k1, (xs, absV w.heap.size u), rfl, k2⟩) h
  refine ⟨h1, l.map (·.1), l.map (·.2), ?_, by simpa using maxLen_lt h3, fun i hi => ?_⟩
  · rw [hc] at h2
    have e : l.flatMap (fun x => [x.2]) = l.map (·.2) := by
      clear h2 h3 h4
      induction l with
      | nil => rfl
      | cons x l ih => simp [ih]
    rw [← e, List.length_map]
    exact h2
  · simp at hi
    exact ⟨l[i].2, by simp [hi], by simpa using h4 _ (List.getElem_mem hi)⟩

theorem one_slice {t e : TypeId} (ht : Tryd.prog.underlying t = some (.slice e)) {n : Nat} {cs : List Value} {y : DataW H × List MemPlace} (hy : DataW.trod enc Tryd.prog w 0 (fun _ => true) true n t cs = some y) : ∃ u, cs = [u] := by
  rcases Deep.open_slice ht hy with ⟨hv, _⟩ | ⟨a, len, cap, m, n, D, Pl, hv, _⟩ <;> exact ⟨_, hv⟩

theorem read_rows (h : DataW.trod enc Tryd.prog w 0 (fun _ => true) true fuel 25 [v] = some x) : goodV w.heap.size (capM w.heap) v = true ∧ ∃ xs : List (List Int), RowsAt (absH w.heap) (absV w.heap.size v) xs :=
  read_of Tryd.underlying25 cells28 (fun _ _ _ hy => one_slice Tryd.underlying28 hy) (fun _ _ _ hy => read_list hy) h

theorem read_relief {cs : List Value} (h : DataW.trod enc Tryd.prog w 0 (fun _ => true) true fuel 84 cs = some x) : (∀ u ∈ cs, goodV w.heap.size (capM w.heap) u = true) ∧ ∃ t : Rl, cs.map (absV w.heap.size) = t.cells ∧ True := by
  obtain ⟨ys, n, _, _, hl, hyl, hf⟩ := DataW.trod_struct Tryd.underlying84 h
  rw [cells84] at hl
  obtain ⟨c0, c1, c2, rfl⟩ := list3 hl
  have hy2 : ys.length = 2 := by simpa using hyl
  have e0 := hf 0 _ rfl
  have e1 := hf 1 _ rfl
  simp [cells3, cells82, hy2] at e0 e1
  obtain ⟨zs, m, _, _, hl', hyl', hf'⟩ := DataW.trod_struct Tryd.underlying82 e1
  have hz2 : zs.length = 2 := by simpa using hyl'
  have e2 := hf' 0 _ rfl
  have e3 := hf' 1 _ rfl
  simp [cells3, hz2] at e2 e3
  obtain ⟨z0, hz0, _⟩ := DataW.trod_int Tryd.underlying3 e0
  obtain ⟨z1, hz1, _⟩ := DataW.trod_int Tryd.underlying3 e2
  obtain ⟨z2, hz2, _⟩ := DataW.trod_int Tryd.underlying3 e3
  simp at hz0 hz1 hz2
  subst hz0 hz1 hz2
  exact ⟨by simp [goodV], ⟨z0, z1, z2⟩, rfl, trivial⟩

theorem read_rels (h : DataW.trod enc Tryd.prog w 0 (fun _ => true) true fuel 80 [v] = some x) : goodV w.heap.size (capM w.heap) v = true ∧ ∃ xs : List Rl, RelsAt (absH w.heap) (absV w.heap.size v) xs := by
  obtain ⟨h1, xs, h2, h3, _⟩ := read_slice (α := Rl) (f := Rl.cells) (Q := fun _ => True) Tryd.underlying80 (by rw [cells84]; omega) (fun n cs y hy => read_relief hy) h
  rw [cells84] at h2
  exact ⟨h1, xs, h2, maxLen_lt h3⟩

theorem read_blks (h : DataW.trod enc Tryd.prog w 0 (fun _ => true) true fuel 24 [v] = some x) : goodV w.heap.size (capM w.heap) v = true ∧ ∃ xs : List (List Rl), BlksAt (absH w.heap) (absV w.heap.size v) xs :=
  read_of Tryd.underlying24 cells80 (fun _ _ _ hy => one_slice Tryd.underlying80 hy) (fun _ _ _ hy => read_rels hy) h
end

section
variable {H : Type} {enc : TypeId × Value → H} {w : World} {base : Nat} {v : Value} {d : DataW H} {p : List MemPlace}

set_option maxRecDepth 100000 in
theorem read_dayV (hval : Value.okWide Tryd.prog w .any base 27 v) (h : DataW.Trod enc Tryd.prog w 0 (fun _ => true) true 27 v d p) :
    ∃ D b u, VR (absB w.heap) (dayV D b u) v ∧ DayAt (absH w.heap) b u D := by
  obtain ⟨cs, rfl, hsz⟩ := okWide_struct Tryd.underlying27 hval
  obtain ⟨fuel, h⟩ := h
  simp only [Value.cells] at h
  obtain ⟨ys, n, _, _, hl, hyl, hf⟩ := DataW.trod_struct Tryd.underlying27 h
  rw [cells27] at hl
  obtain ⟨l, rfl⟩ : ∃ l : List Value, cs = l.toArray := ⟨cs.toList, by simp⟩
  simp only at hl hf
  obtain ⟨c0, c1, c2, c3, c4, c5, c6, c7, c8, c9, rfl⟩ := list10 hl
  have hy3 : ys.length = 3 := by simpa using hyl
  have e0 := hf 0 _ rfl
  have e1 := hf 1 _ rfl
  have e2 := hf 2 _ rfl
  simp [cells23, cells24, cells25, hy3] at e0 e1 e2
  obtain ⟨zs, m, _, _, hl', hyl', hf'⟩ := DataW.trod_struct Tryd.underlying23 e0
  have hz8 : zs.length = 8 := by simpa using hyl'
  have f0 := hf' 0 _ rfl
  have f1 := hf' 1 _ rfl
  have f2 := hf' 2 _ rfl
  have f3 := hf' 3 _ rfl
  have f4 := hf' 4 _ rfl
  have f5 := hf' 5 _ rfl
  have f6 := hf' 6 _ rfl
  have f7 := hf' 7 _ rfl
  simp [cells3, hz8] at f0 f1 f2 f3 f4 f5 f6 f7
  obtain ⟨z0, h0, _⟩ := DataW.trod_int Tryd.underlying3 f0
  obtain ⟨z1, h1, _⟩ := DataW.trod_int Tryd.underlying3 f1
  obtain ⟨z2, h2, _⟩ := DataW.trod_int Tryd.underlying3 f2
  obtain ⟨z3, h3, _⟩ := DataW.trod_int Tryd.underlying3 f3
  obtain ⟨z4, h4, _⟩ := DataW.trod_int Tryd.underlying3 f4
  obtain ⟨z5, h5, _⟩ := DataW.trod_int Tryd.underlying3 f5
  obtain ⟨z6, h6, _⟩ := DataW.trod_int Tryd.underlying3 f6
  obtain ⟨z7, h7, _⟩ := DataW.trod_int Tryd.underlying3 f7
  obtain ⟨g8, xs, k8⟩ := read_blks e1
  obtain ⟨g9, us, k9⟩ := read_rows e2
  simp at h0 h1 h2 h3 h4 h5 h6 h7
  subst h0 h1 h2 h3 h4 h5 h6 h7
  refine ⟨⟨⟨z0, z1, z2, z3, z4, z5, z6, z7⟩, xs, us⟩, absV w.heap.size c8, absV w.heap.size c9, VR.mk_agg ?_, ⟨k8, k9⟩⟩
  exact ⟨.int _ _, .int _ _, .int _ _, .int _ _, .int _ _, .int _ _, .int _ _, .int _ _, good_VR g8, good_VR g9, trivial⟩

set_option maxRecDepth 100000 in
theorem read_rowsV (hval : Value.okWide Tryd.prog w .any base 25 v) (h : DataW.Trod enc Tryd.prog w 0 (fun _ => true) true 25 v d p) : VR (absB w.heap) (absV w.heap.size v) v ∧ ∃ xs, RowsAt (absH w.heap) (absV w.heap.size v) xs := by
  obtain ⟨a0, len, cap, rfl⟩ := okWide_slice Tryd.underlying25 hval
  obtain ⟨fuel, h⟩ := h
  obtain ⟨h1, h2⟩ := read_rows h
  exact ⟨good_VR h1, h2⟩
set_option maxRecDepth 100000 in
theorem read_listV (hval : Value.okWide Tryd.prog w .any base 28 v) (h : DataW.Trod enc Tryd.prog w 0 (fun _ => true) true 28 v d p) : VR (absB w.heap) (absV w.heap.size v) v ∧ ∃ xs, IntsAt (absH w.heap) (absV w.heap.size v) xs := by
  obtain ⟨a0, len, cap, rfl⟩ := okWide_slice Tryd.underlying28 hval
  obtain ⟨fuel, h⟩ := h
  obtain ⟨h1, h2⟩ := read_list h
  exact ⟨good_VR h1, h2⟩

/-- Words of 16 bits. -/
def WordsAt (H : Heap) (v : Value) (xs : List Int) : Prop := SlR H 1 v xs.length (xs.map (.int .u16)) ∧ xs.length < 2 ^ 63 ∧ ∀ x ∈ xs, 0 ≤ x ∧ x < 2 ^ 16

set_option maxRecDepth 100000 in
theorem read_wordsV (hval : Value.okWide Tryd.prog w .any base 72 v) (h : DataW.Trod enc Tryd.prog w 0 (fun _ => true) true 72 v d p) : VR (absB w.heap) (absV w.heap.size v) v ∧ ∃ xs, WordsAt (absH w.heap) (absV w.heap.size v) xs := by
  obtain ⟨a0, len, cap, rfl⟩ := okWide_slice Tryd.underlying72 hval
  obtain ⟨fuel, h⟩ := h
  obtain ⟨h1, xs, h2, h3, h4⟩ := read_ints Tryd.underlying72 Tryd.underlying71 cells71 h
  refine ⟨good_VR h1, xs, h2, maxLen_lt h3, fun x hx => ?_⟩
  have := h4 x hx
  simp [Lit.wf, IntKind.min, IntKind.max, IntKind.signed, IntKind.bits] at this
  omega
set_option maxRecDepth 100000 in
theorem read_u16V (hval : Value.okWide Tryd.prog w .any base 71 v) (h : DataW.Trod enc Tryd.prog w 0 (fun _ => true) true 71 v d p) : ∃ x : Int, VR (absB w.heap) (.int .u16 x) v ∧ (0 ≤ x ∧ x < 65536) := by
  obtain ⟨x, rfl⟩ := okWide_int Tryd.underlying71 hval
  obtain ⟨fuel, h⟩ := h
  obtain ⟨z, hz, _, hw⟩ := DataW.trod_int Tryd.underlying71 h
  simp [Value.cells] at hz
  subst hz
  simp [Lit.wf, IntKind.min, IntKind.max, IntKind.signed, IntKind.bits] at hw
  exact ⟨x, .int _ _, by omega⟩
set_option maxRecDepth 100000 in
theorem read_u8V (hval : Value.okWide Tryd.prog w .any base 5 v) (h : DataW.Trod enc Tryd.prog w 0 (fun _ => true) true 5 v d p) : ∃ x : Int, VR (absB w.heap) (.int .u8 x) v ∧ (0 ≤ x ∧ x < 256) := by
  obtain ⟨x, rfl⟩ := okWide_int Tryd.underlying5 hval
  obtain ⟨fuel, h⟩ := h
  obtain ⟨z, hz, _, hw⟩ := DataW.trod_int Tryd.underlying5 h
  simp [Value.cells] at hz
  subst hz
  simp [Lit.wf, IntKind.min, IntKind.max, IntKind.signed, IntKind.bits] at hw
  exact ⟨x, .int _ _, by omega⟩
end

end Go.Proofs.YtllkhaabcfnlpaaDoor
