/-
  Joined texts of a calculus of abstract memory, of the program's code in it, and of contracts.
-/
import Derived.Test.YtllkhaabcfnlpaaDoorJ12
/-
  What the program says of a duty is what the reference says.
-/
namespace Go.Proofs.YtllkhaabcfnlpaaDoor
open Go Go.Ab

theorem same_pieces {D : Dy} {xs : List Int} (hd : isDutyB (segsOf D.blocks) xs = true) (hlen : xs.length ≤ 15) : ∃ zs : List (Pc × Nat), piecesL D (maskL xs) = zs.map Prod.fst ∧ insSort (rBefore D) (grpTo D xs xs.length) = zs.map fun z => toR z.1 z.2 := by
  obtain ⟨hmlt, hm0⟩ := duty_mask hd
  unfold isDutyB at hd
  rw [Bool.and_eq_true, decide_eq_true_eq] at hd
  have hr : ∀ j, j < xs.length → riseAt (segsOf D.blocks) xs j = true := fun j hj => List.all_eq_true.1 hd.1 j (by simpa using hj)
  have hb := riseB_bounds hr (Nat.le_refl _)
  have hxs : xs = (xs.map Int.toNat).map Int.ofNat := by
    rw [List.map_map]
    refine (List.ext_getElem (by simp) fun i h1 h2 => ?_)
    have := hb i h1
    simp; omega
  generalize hns : xs.map Int.toNat = ns at hxs
  have hnl : ns.length = xs.length := by rw [← hns]; simp
  have hnx : ∀ i (h : i < ns.length), (ns[i] : Int) = xs[i]'(by omega) := fun i h => by
    have := hb i (by omega)
    simp only [← hns, List.getElem_map]; omega
  have hrise : ns.Pairwise (· < ·) := by
    rw [List.pairwise_iff_getElem]
    have step : ∀ i (h : i + 1 < ns.length), ns[i] < ns[i + 1] := fun i h => by
      have := hr (i + 1) (by omega)
      simp [riseAt, lastAt, (by omega : i + 1 < xs.length), (by omega : i < xs.length)] at this
      have e1 := hnx i (by omega)
      have e2 := hnx (i + 1) h
      omega
    have : ∀ k i (h : i + k + 1 < ns.length), ns[i] < ns[i + k + 1] := fun k => by
      induction k with
      | zero => exact step
      | succ k ih => intro i h; have a := ih i (by omega); have b := step (i + k + 1) (by omega); have e : i + (k + 1) + 1 = i + k + 1 + 1 := by omega
                     simp only [e]; omega
    intro i j hi hj hij
    have h := this (j - i - 1) i (by omega)
    have e : i + (j - i - 1) + 1 = j := by omega
    simp only [e] at h; exact h
  have hnb : ∀ y ∈ ns, y < segsOf D.blocks := fun y hy => by
    obtain ⟨i, hi, rfl⟩ := List.mem_iff_getElem.1 hy
    have := hb i (by omega)
    have := hnx i hi
    omega
  have hbits : bitsFrom (segPs D).length (maskL xs) 0 = ns := by
    refine rise_ext bitsFrom_rise hrise fun x => ?_
    rw [bitsFrom_mem, maskL_bit, List.any_eq_true]
    constructor
    · rintro ⟨_, y, hy, he⟩
      rw [← hns]
      exact List.mem_map.2 ⟨y, hy, by simpa using he⟩
    · intro hx
      refine ⟨by rw [segPs_length]; exact hnb x hx, ?_⟩
      rw [← hns] at hx
      obtain ⟨y, hy, rfl⟩ := List.mem_map.1 hx
      exact ⟨y, hy, by simp⟩
  have hruns : runsK D 16 (maskL xs) = (segsG 16 D ns).map Prod.fst := by
    rw [runsK_segs 16 _ hmlt, hbits, segsG_fst]
  have hgrp : grpTo D xs xs.length = (segsG 16 D ns).map fun z => toR z.1 z.2 := by
    rw [hxs]
    have hl2 : (ns.map Int.ofNat).length = ns.length := by simp
    rw [hl2]
    cases hc : ns with
    | nil => rw [hc] at hnl; simp at hnl; omega
    | cons x0 rest =>
      have h1 : grpTo D ((x0 :: rest).map Int.ofNat) 1 = [] ++ [newR D x0] := by simp [grpTo, newR]
      have := grpTo_grpF (D := D) (ns := x0 :: rest) rest.length 1 (by simp; omega) (by omega) [] (newR D x0) h1
      rw [this]
      have hnb' := hnb
      rw [hc] at hnb' hnl
      simp only [List.nil_append, Nat.sub_self, List.getElem?_cons_zero, Option.getD_some, List.drop_one, List.tail_cons]
      rw [grpF_segs rest (segP D x0) (newR D x0) x0 15 Alike.new (hnb' x0 (by simp)) (fun y hy => hnb' y (by simp [hy])) (by simp at hnl; omega)]
      rfl
  have hrz := segsG_rise (D := D) 16 ns hrise
  generalize segsG 16 D ns = zs0 at hruns hgrp hrz
  refine ⟨insSort (fun x y => decide (loOf D x.1 < loOf D y.1)) zs0, ?_, ?_⟩
  · unfold piecesL
    rw [hruns, insSort_map]
  · rw [hgrp, insSort_map]
    congr 1
    refine insSort_congr _ _ _ fun i k hi hk => ?_
    have hg : (zs0[k]'(by omega)).2 < zs0[i].2 := List.pairwise_iff_getElem.1 hrz k i (by omega) hi hk
    have e1 : ∀ z : Pc × Nat, rLo D (toR z.1 z.2) = loOf D z.1 := fun z => rfl
    unfold rBefore
    rw [e1, e1]
    split
    · rename_i he
      have : ¬ loOf D zs0[i].1 < loOf D (zs0[k]'(by omega)).1 := by omega
      have h2 : ¬ (toR zs0[i].1 zs0[i].2).g < (toR (zs0[k]'(by omega)).1 (zs0[k]'(by omega)).2).g := by simp only [toR]; omega
      simp [this, h2]
    · rfl

end Go.Proofs.YtllkhaabcfnlpaaDoor

/-
  Legal, and paid: as the reference says.
-/
namespace Go.Proofs.YtllkhaabcfnlpaaDoor
open Go Go.Ab

theorem kAt_known {D : Dy} (b n : Nat) : kAt (known0 D) b n = (tAt (lowsD D) b n, tAt (highsD D) b n) := by
  unfold kAt tAt known0 lowsD highsD
  rw [List.getElem?_map, List.getElem?_map, List.getElem?_map]
  cases D.blocks[b]? with
  | none => rfl
  | some x =>
    simp only [Option.map_some, Option.bind_some]
    rw [List.getElem?_map, List.getElem?_map, List.getElem?_map]
    cases x[n]? <;> rfl
theorem lows_ok {D : Dy} (hV : Valid D) : TOk D (lowsD D) := by
  refine ⟨?_, ?_⟩
  · rintro b n ⟨x, h1, h2⟩
    exact ⟨x.map Rl.lo, by simp [lowsD, h1], by simpa using h2⟩
  · intro x hx y hy
    simp only [lowsD, List.mem_map] at hx
    obtain ⟨z, hz, rfl⟩ := hx
    obtain ⟨r, hr, rfl⟩ := List.mem_map.1 hy
    have := hV.rel hz hr; omega
theorem highs_ok {D : Dy} (hV : Valid D) : TOk D (highsD D) := by
  refine ⟨?_, ?_⟩
  · rintro b n ⟨x, h1, h2⟩
    exact ⟨x.map Rl.hi, by simp [highsD, h1], by simpa using h2⟩
  · intro x hx y hy
    simp only [highsD, List.mem_map] at hx
    obtain ⟨z, hz, rfl⟩ := hx
    obtain ⟨r, hr, rfl⟩ := List.mem_map.1 hy
    have := hV.rel hz hr; omega

section
variable {D : Dy} {zs : List (Pc × Nat)} {K : List (List (Int × Int))} {B E : List (List Int)} (hk : ∀ b n, kAt K b n = (tAt B b n, tAt E b n))
include hk
abbrev psOf (zs : List (Pc × Nat)) : List Pc := zs.map Prod.fst
abbrev rsOf (zs : List (Pc × Nat)) : List Rp := zs.map fun z => toR z.1 z.2

theorem last_same {m : Nat} {p : Pc} {g : Nat} (h : PcOk D m p) : lastOf K p = rLast B E (toR p g) := by
  unfold lastOf rLast
  rw [hk, hk, h.same]; rfl
theorem rest_same {m : Nat} {x y : Pc} {g g' : Nat} (hx : PcOk D m x) : restOf K x y = rRest B E (toR x g) (toR y g') := by
  unfold restOf rRest
  rw [hk, hk, hx.same]; rfl

omit hk in
theorem ps_at {i : Nat} (hi : i < zs.length) : (psOf zs)[i]?.getD fz = zs[i].1 := by simp [hi]
omit hk in
theorem rs_at {i : Nat} (hi : i < zs.length) : (rsOf zs)[i]?.getD rz = toR zs[i].1 zs[i].2 := by simp [hi]

theorem spread_same {m : Nat} (hok : ∀ z ∈ zs, PcOk D m z.1) (h0 : 0 < zs.length) : spreadOf D K (psOf zs) = rSpread D B E (rsOf zs) := by
  unfold spreadOf rSpread
  have hl1 : (psOf zs).length = zs.length := by simp
  have hl2 : (rsOf zs).length = zs.length := by simp
  rw [hl1, hl2, ps_at (by omega), ps_at h0, rs_at (by omega), rs_at h0, hk, hk]
  rw [(hok _ (List.getElem_mem (by omega))).same]
  simp only [toR]
  omega
theorem lasts_same {m : Nat} (hok : ∀ z ∈ zs, PcOk D m z.1) : lTo K (psOf zs) (psOf zs).length = (rsOf zs).map (rLast B E) := by
  unfold lTo
  rw [List.take_length, List.map_map, List.map_map]
  refine List.map_congr_left fun z hz => ?_
  exact last_same hk (hok z hz)

omit hk in
theorem foldl_max (l : List Int) : ∀ (a c : Int), l.foldl max a ≤ c ↔ a ≤ c ∧ ∀ x ∈ l, x ≤ c := by
  induction l with
  | nil => intro a c; simp
  | cons x l ih =>
    intro a c
    rw [List.foldl_cons, ih]
    simp only [List.mem_cons, forall_eq_or_imp]
    rw [Int.max_le, and_assoc]

theorem legal_same {m : Nat} (hV : Valid D) (hok : ∀ z ∈ zs, PcOk D m z.1) (h0 : 0 < zs.length) : legalB D K (psOf zs) = rObeys D B E (rsOf zs) := by
  have hlaw := law_bounds hV
  have hl1 : (psOf zs).length = zs.length := by simp
  have hl2 : (rsOf zs).length = zs.length := by simp
  have hlen : ((rsOf zs).map (rLast B E)).length = zs.length := by simp
  rw [Bool.eq_iff_iff]
  unfold legalB rObeys rHead answers
  rw [lasts_same hk hok, spread_same hk hok h0]
  simp only [List.all_cons, List.all_nil, id, Bool.and_true, Bool.and_eq_true, decide_eq_true_eq, List.all_eq_true, foldl_max, List.mem_range, hlen, hl2]
  constructor
  · rintro ⟨c1, ⟨_, c2⟩, c3, c4, c5⟩
    refine ⟨⟨c1, c3, c5⟩, fun i hi => ?_⟩
    have hx := hok _ (List.getElem_mem hi)
    unfold rStep
    rw [rs_at hi]
    have d1 : rLast B E (toR zs[i].1 zs[i].2) ≤ D.law.piece := c2 _ (List.mem_map.2 ⟨_, List.mem_map.2 ⟨zs[i], List.getElem_mem hi, rfl⟩, rfl⟩)
    by_cases hz : i = 0
    · simp [hz] at d1 ⊢; exact d1
    · have hm1 : i - 1 < zs.length := by omega
      rw [rs_at hm1]
      have hxm := hok _ (List.getElem_mem hm1)
      have hmem : freeOf D K zs[i - 1].1 zs[i].1 ∈ bTo (freeOf D K) (psOf zs) (psOf zs).length := by
        unfold bTo
        refine List.mem_map.2 ⟨i - 1, by rw [List.mem_range]; omega, ?_⟩
        rw [ps_at hm1, ps_at (by omega : i - 1 + 1 < zs.length)]
        have e : i - 1 + 1 = i := by omega
        simp only [e]
      have d2 := c4 _ hmem
      have d3 : freeOf D K zs[i - 1].1 zs[i].1 = rRest B E (toR zs[i - 1].1 zs[i - 1].2) (toR zs[i].1 zs[i].2) - D.walkOf zs[i - 1].1.b zs[i - 1].1.t zs[i].1.b zs[i].1.f := by
        unfold freeOf
        rw [rest_same hk hxm (g := zs[i - 1].2) (g' := zs[i].2), hxm.same]
      simp only [toR] at d1 d3 ⊢
      simp [hz, d1]
      exact decide_eq_true (by omega)
  · rintro ⟨⟨c1, c3, c5⟩, hall⟩
    refine ⟨c1, ⟨by omega, fun y hy => ?_⟩, c3, fun y hy => ?_, c5⟩
    · obtain ⟨r, hr, rfl⟩ := List.mem_map.1 hy
      obtain ⟨z, hz, rfl⟩ := List.mem_map.1 hr
      obtain ⟨i, hi, rfl⟩ := List.mem_iff_getElem.1 hz
      have := hall i hi
      unfold rStep at this
      rw [rs_at hi, Bool.and_eq_true, decide_eq_true_eq] at this
      exact this.1
    · unfold bTo at hy
      obtain ⟨j, hj, rfl⟩ := List.mem_map.1 hy
      rw [List.mem_range] at hj
      have hj1 : j + 1 < zs.length := by omega
      have hj0 : j < zs.length := by omega
      rw [ps_at hj0, ps_at hj1]
      have := hall (j + 1) hj1
      unfold rStep at this
      rw [Bool.and_eq_true] at this
      have h2 := this.2
      have e : j + 1 - 1 = j := by omega
      rw [e, rs_at hj0, rs_at hj1] at h2
      have hxm := hok _ (List.getElem_mem hj0)
      have d3 : freeOf D K zs[j].1 zs[j + 1].1 = rRest B E (toR zs[j].1 zs[j].2) (toR zs[j + 1].1 zs[j + 1].2) - D.walkOf zs[j].1.b zs[j].1.t zs[j + 1].1.b zs[j + 1].1.f := by
        unfold freeOf
        rw [rest_same hk hxm (g := zs[j].2) (g' := zs[j + 1].2), hxm.same]
      rw [d3]
      simp only [toR] at h2 ⊢
      simp at h2
      have h3 := of_decide_eq_true h2
      omega
end

end Go.Proofs.YtllkhaabcfnlpaaDoor

/-
  The reference on one duty.
-/
namespace Go.Proofs.YtllkhaabcfnlpaaDoor
open Go Go.Ab

theorem isDuty23_spec {D : Dy} {b w v : Value} {H : Heap} {xs : List Int} (h : DayAt H b w D) (hT : D.Thin) (hv : IntsAt H v xs) (hlen : xs.length < 2 ^ 31) :
    AFun Tryd.prog 23 [dayV D b w, v] H (fun r B => r = .bool (isDutyB (segsOf D.blocks) xs) ∧ Ge H B) := by
  refine AFun.mk ok23 hm (Nat.le_of_ble_eq_true rfl) ?_
  have hb := h.blocks.one
  have hw := h.walk.one
  have hseg : segsOf D.blocks ≤ 140 := by have := hT.segs D.blocks.length; rwa [List.take_length] at this
  simp [a23, r23, hb, hw]
  refine floop_intro (fun z => z.d = [] ∧ Ge H z.H ∧ H.next < z.H.next ∧ z.t 1 = v ∧ z.t 2 = .pointer (some ⟨H.next, 0, none⟩) ∧ z.H.get H.next = .cells true (dayV D b w).cells.toList 10 ∧ ∃ i : Nat, i ≤ xs.length ∧ z.t 5 = .int .i64 i ∧ ∀ j, j < i → riseAt (segsOf D.blocks) xs j = true) (fun z => xs.length - (intOf (z.t 5)).toNat) ?_ ?_
  · exact ⟨rfl, by simp, by simp, by simp, by simp, by simp [Value.cells], 0, by omega, by simp, fun j hj => by omega⟩
  rintro ⟨t, _, A⟩ ⟨rfl, g, hn, t1, t2, kd, i, hi, t5, hall⟩
  dsimp only at g hn t1 t2 kd t5
  simp [Value.cells] at kd
  simp [t1, t5, hv.lenV]
  refine fcond_intro (fun hc => ?_) (fun hc => ?_)
  case refine_2 =>
    have : i = xs.length := by simp at hc; omega
    subst this
    simp [t1, hv.lenV, g]
    have : riseB (segsOf D.blocks) xs = true := by unfold riseB; rw [List.all_eq_true]; intro j hj; exact hall j (by simpa using hj)
    simp [isDutyB, this]
  have hi' : i < xs.length := by simpa using hc
  have hbound := riseB_bounds hall hi
  have hno : riseAt (segsOf D.blocks) xs i = false → isDutyB (segsOf D.blocks) xs = false := fun hf => by
    have : riseB (segsOf D.blocks) xs = false := by unfold riseB; rw [List.all_eq_false]; exact ⟨i, by simpa using hi', by simp [hf]⟩
    rw [isDutyB, this]; rfl
  have g25 := g.grow 25
  obtain ⟨p, e1, e2⟩ := (hv.ge g25).at hi'
  simp [t1, t2, t5, kd, e1, e2]
  refine fcall_fun (segments_spec (h.ge g25) hT) ?_
  rintro _ A1 ⟨rfl, g1⟩
  have gA : Ge A A1 := (Ge.more A 25).trans g1
  have n1 := g1.next
  simp only at n1
  obtain ⟨p1, e1', e2'⟩ := (hv.ge (g.trans gA)).at hi'
  rw [e1] at e1'; cases e1'
  simp [e2']
  rw [sub_in (by omega) (by omega)]
  simp
  refine fcall_fun (in_spec _ _ _ _) ?_
  rintro _ _ ⟨rfl, rfl⟩
  have kd1 := gA.got hn kd
  have hat : riseAt (segsOf D.blocks) xs i = (decide (lastAt xs i + 1 ≤ xs[i]) && decide (xs[i] ≤ (segsOf D.blocks : Int) - 1)) := by simp [riseAt, hi']
  have hla : 0 < i → lastAt xs i = xs[i - 1]'(by omega) ∧ 0 ≤ xs[i - 1]'(by omega) := fun h0 => by
    have hz : ¬ i = 0 := by omega
    have him : i - 1 < xs.length := by omega
    exact ⟨by simp [lastAt, hz, him], (hbound (i - 1) (by omega)).1⟩
  by_cases hin : 0 ≤ xs[i] ∧ xs[i] ≤ (segsOf D.blocks : Int) - 1
  case neg =>
    have hf : (decide (0 ≤ xs[i]) && decide (xs[i] ≤ (segsOf D.blocks : Int) - 1)) = false := by
      rw [Bool.eq_false_iff]; intro hh; simp at hh; exact hin hh
    have hrf : riseAt (segsOf D.blocks) xs i = false := by
      rw [hat, Bool.eq_false_iff]; intro hh
      simp at hh
      by_cases h0 : 0 < i
      · have := hla h0; exact hin ⟨by omega, hh.2⟩
      · have h00 : i = 0 := by omega
        subst h00
        simp [lastAt] at hh
        exact hin ⟨by omega, hh.2⟩
    simp [hf, hno hrf]
    exact g.trans gA
  have ht : (decide (0 ≤ xs[i]) && decide (xs[i] ≤ (segsOf D.blocks : Int) - 1)) = true := by simp; exact hin
  simp [ht, t5]
  by_cases h0 : 0 < i
  case neg =>
    have h00 : i = 0 := by omega
    have hrt : riseAt (segsOf D.blocks) xs i = true := by
      rw [hat]; subst h00; simp [lastAt]; omega
    simp [ht, h0, t5, add_in (x := i) (y := 1) (by omega) (by omega)]
    refine ⟨⟨g.trans gA, by omega, t1, t2, by simpa [Value.cells] using kd1, i + 1, by omega, by omega, fun j hj => ?_⟩, by omega⟩
    by_cases e : j = i
    · rw [e]; exact hrt
    · exact hall j (by omega)
  have him : i - 1 < xs.length := by omega
  obtain ⟨pm, e3, e4⟩ := (hv.ge (g.trans gA)).at him
  have hc1 : ((i - 1 : Nat) : Int) = (i : Int) - 1 := by omega
  rw [hc1] at e3
  have hl := hla h0
  simp [ht, h0, t1, t5, e1, e2', sub_in (x := (i : Int)) (y := 1) (by omega) (by omega), e3, e4]
  by_cases hle : xs[i] ≤ xs[i - 1]
  · have hrf : riseAt (segsOf D.blocks) xs i = false := by
      rw [hat, Bool.eq_false_iff]; intro hh; simp at hh; omega
    simp [ht, h0, hle, hno hrf]
    exact g.trans gA
  · have hrt : riseAt (segsOf D.blocks) xs i = true := by
      rw [hat]; simp; omega
    simp [ht, h0, hle, t5, add_in (x := i) (y := 1) (by omega) (by omega)]
    refine ⟨⟨g.trans gA, by omega, t1, t2, by simpa [Value.cells] using kd1, i + 1, by omega, by omega, fun j hj => ?_⟩, by omega⟩
    by_cases e : j = i
    · rw [e]; exact hrt
    · exact hall j (by omega)

theorem duty_bounds {D : Dy} {xs : List Int} (hd : isDutyB (segsOf D.blocks) xs = true) : ∀ x ∈ xs, 0 ≤ x ∧ x.toNat < segsOf D.blocks := fun x hx => by
  unfold isDutyB at hd
  rw [Bool.and_eq_true] at hd
  obtain ⟨j, hj, rfl⟩ := List.mem_iff_getElem.1 hx
  have := riseB_bounds (n := segsOf D.blocks) (xs := xs) (k := xs.length) (fun i hi => List.all_eq_true.1 hd.1 i (by simpa using hi)) (Nat.le_refl _) j hj
  omega

theorem legal24_spec {D : Dy} {b w v : Value} {H : Heap} {xs : List Int} (h : DayAt H b w D) (hT : D.Thin) (hV : Valid D) (hv : IntsAt H v xs) (hd : isDutyB (segsOf D.blocks) xs = true) (hlen : xs.length ≤ 15) :
    AFun Tryd.prog 24 [dayV D b w, v] H (fun r B => r = .bool (legalD D xs) ∧ Ge H B) := by
  refine AFun.mk ok24 hm (Nat.le_of_ble_eq_true rfl) ?_
  have hb := h.blocks.one
  have hw := h.walk.one
  have hb0 := duty_bounds hd
  simp [a24, r24, hb, hw]
  have g0 : Ge H (⟨(H.new (.cells true [.int .i64 D.law.piece, .int .i64 D.law.drive, .int .i64 D.law.spread, .int .i64 D.law.brk, .int .i64 D.law.on, .int .i64 D.law.off, .int .i64 D.law.least, .int .i64 D.law.pieces, b, w] 10)).get, H.next + 11⟩ : Heap) := Ge.grow_le (by omega) (Ge.new _ _)
  refine fcall_fun (pieces30_spec (h.ge g0) hT hV (hv.ge g0) hb0 (by omega)) ?_
  rintro vp H1 ⟨hp, g1⟩
  have k0 := g1.got (n := H.next) (by simp) rfl
  simp at k0
  have G1 := g0.trans g1
  have n1 := g1.next
  simp only at n1
  simp [k0]
  refine fcall_fun (lows_spec (h.ge G1) hV) ?_
  rintro vl H2 ⟨hl, g2⟩
  have k2 := g2.got (n := H.next) (by omega) k0
  have G2 := G1.trans g2
  have n2 := g2.next
  simp [k2]
  refine fcall_fun (highs_spec (h.ge G2) hV) ?_
  rintro vh H3 ⟨hh, g3⟩
  have k3 := g3.got (n := H.next) (by omega) k2
  have G3 := G2.trans g3
  simp [k3]
  obtain ⟨zs, hz1, hz2⟩ := same_pieces hd hlen
  obtain ⟨hmlt, hm0⟩ := duty_mask hd
  have hok : ∀ z ∈ zs, PcOk D (maskL xs) z.1 := fun z hz => piecesL_mem hmlt (by rw [hz1]; exact List.mem_map.2 ⟨z, hz, rfl⟩)
  have hz0 : 0 < zs.length := by have := piecesL_pos (D := D) hm0; rw [hz1] at this; simpa using this
  have hz16 : zs.length ≤ 16 := by have := piecesL_length (D := D) (m := maskL xs); rw [hz1] at this; simpa using this
  rw [hz2] at hp
  have hrok : ∀ x ∈ rsOf zs, RpOk D x := fun x hx => by
    obtain ⟨z, hz, rfl⟩ := List.mem_map.1 hx
    exact ⟨(hok z hz).fst, (hok z hz).lst⟩
  refine fcall_fun (obeys_spec ((hp.ge g2).ge g3) (RowsOf.ge hl g3) hh hV (h.ge G3) (lows_ok hV) (highs_ok hV) hrok (by simpa using hz16) (by simpa using hz0)) ?_
  rintro _ H4 ⟨rfl, g4⟩
  simp [G3.trans g4]
  unfold legalD
  rw [hz1]; exact (legal_same kAt_known hV hok hz0).symm

theorem pay25_spec {D : Dy} {b w v : Value} {H : Heap} {xs : List Int} (h : DayAt H b w D) (hT : D.Thin) (hV : Valid D) (hv : IntsAt H v xs) (hd : isDutyB (segsOf D.blocks) xs = true) (hlen : xs.length ≤ 15) :
    AFun Tryd.prog 25 [dayV D b w, v] H (fun r B => r = .int .i64 (payD D xs) ∧ Ge H B) := by
  refine AFun.mk ok25 hm (Nat.le_of_ble_eq_true rfl) ?_
  have hb := h.blocks.one
  have hw := h.walk.one
  have hb0 := duty_bounds hd
  have hlaw := law_bounds hV
  simp [a25, r25, hb, hw]
  have g0 : Ge H (⟨(H.new (.cells true [.int .i64 D.law.piece, .int .i64 D.law.drive, .int .i64 D.law.spread, .int .i64 D.law.brk, .int .i64 D.law.on, .int .i64 D.law.off, .int .i64 D.law.least, .int .i64 D.law.pieces, b, w] 10)).get, H.next + 15⟩ : Heap) := Ge.grow_le (by omega) (Ge.new _ _)
  refine fcall_fun (pieces30_spec (h.ge g0) hT hV (hv.ge g0) hb0 (by omega)) ?_
  rintro vp H1 ⟨hp, g1⟩
  have k0 := g1.got (n := H.next) (by simp) rfl
  simp at k0
  have G1 := g0.trans g1
  have n1 := g1.next
  simp only at n1
  simp [k0]
  refine fcall_fun (lows_spec (h.ge G1) hV) ?_
  rintro vl H2 ⟨hl, g2⟩
  have k2 := g2.got (n := H.next) (by omega) k0
  have G2 := G1.trans g2
  have n2 := g2.next
  simp [k2]
  refine fcall_fun (highs_spec (h.ge G2) hV) ?_
  rintro vh H3 ⟨hh, g3⟩
  have k3 := g3.got (n := H.next) (by omega) k2
  have G3 := G2.trans g3
  simp [k3]
  obtain ⟨zs, hz1, hz2⟩ := same_pieces hd hlen
  obtain ⟨hmlt, hm0⟩ := duty_mask hd
  have hok : ∀ z ∈ zs, PcOk D (maskL xs) z.1 := fun z hz => piecesL_mem hmlt (by rw [hz1]; exact List.mem_map.2 ⟨z, hz, rfl⟩)
  have hz0 : 0 < zs.length := by have := piecesL_pos (D := D) hm0; rw [hz1] at this; simpa using this
  have hz16 : zs.length ≤ 16 := by have := piecesL_length (D := D) (m := maskL xs); rw [hz1] at this; simpa using this
  rw [hz2] at hp
  have hrok : ∀ x ∈ rsOf zs, RpOk D x := fun x hx => by
    obtain ⟨z, hz, rfl⟩ := List.mem_map.1 hx
    exact ⟨(hok z hz).fst, (hok z hz).lst⟩
  refine fcall_fun (spread_spec ((hp.ge g2).ge g3) (RowsOf.ge hl g3) hh hV (h.ge G3) (lows_ok hV) (highs_ok hV) hrok (by simpa using hz16) (by simpa using hz0)) ?_
  rintro _ H4 ⟨rfl, g4⟩
  simp [g4.got (n := H.next) (by have := g3.next; omega) k3]
  rw [aval_max (k := .i64) (m := D.law.least) (n := rSpread D (lowsD D) (highsD D) (rsOf zs)) (by simp) (by simp) (by decide) (by decide)]
  simp [G3.trans g4]
  unfold payD payOf
  rw [hz1, spread_same kAt_known hok hz0]
  omega

end Go.Proofs.YtllkhaabcfnlpaaDoor

/-
  Contracts of the small functions of the laws' package.
-/
namespace Go.Proofs.YtllkhaabcfnlpaaDoor
open Go Go.Ab

theorem map_one_int (xs : List Int) : (xs.map (Value.int .i64)).all one = true := by simp

theorem list_spec {H : Heap} {v : Value} {xs : List Int} (hv : IntsAt H v xs) (hl : xs.length ≤ 2 ^ 20) : AFun Tryd.prog 20 [v] H (fun r B => OwnSl B H.next r (xs.map (.int .i64)) ∧ Ge H B) := by
  refine AFun.mk ok20 hm (Nat.le_of_ble_eq_true rfl) ?_
  have g0 := Ge.new H (.cells true [] 0)
  simp [a20, r20]
  refine ⟨0, [], some H.next, 0, xs.length, xs.map (.int .i64), by simp [baseOf], (hv.ge g0).1.1, map_one_int _, by omega, ?_⟩
  rw [if_neg (by simp)]
  simp
  have hc : xs.length ≤ capN 0 0 xs.length := by unfold capN; split <;> omega
  refine ⟨.inr ⟨H.next + 1, capN 0 0 xs.length, capN 0 0 xs.length, by simp, by omega, by simp [appHeap], by simp [appHeap], by simpa using hc, Nat.le_refl _⟩, ?_⟩
  exact Ge.app (Ge.new _ _) (by omega) (by simp) (by simp)

def shortB (xs : List (List Int)) : Bool := decide (xs.length ≤ 12) && xs.all fun l => decide (l.length ≤ 14)
theorem short_spec {H : Heap} {v : Value} {xs : List (List Int)} (hv : RowsAt H v xs) : AFun Tryd.prog 26 [v] H (fun r B => r = .bool (shortB xs) ∧ Ge H B) := by
  refine AFun.mk ok26 hm (Nat.le_of_ble_eq_true rfl) ?_
  have h62 := hv.lt
  unfold shortB
  simp [a26, r26]
  refine floop_intro (fun z => z.d = [] ∧ z.H = H ∧ z.t 0 = v ∧ ∃ i : Nat, i ≤ xs.length ∧ i ≤ 13 ∧ z.t 3 = .int .i64 i ∧ ∀ l ∈ xs.take i, l.length ≤ 14) (fun z => xs.length - (intOf (z.t 3)).toNat) ?_ ?_
  · exact ⟨rfl, rfl, by simp, 0, by simp, by simp, by simp, by simp⟩
  rintro ⟨t, _, A⟩ ⟨rfl, rfl, t0, i, hi, hi16, t3, hall⟩
  dsimp only at t0 t3 hv
  simp [t0, t3, hv.lenV]
  by_cases h1 : i < xs.length
  · by_cases h2 : (12 : Int) < i
    · have h5 : ¬ xs.length ≤ 12 := by omega
      simp [h1, h2, h5, t3]
    · obtain ⟨p, u, e1, e2, e3⟩ := hv.at h1
      simp [h1, h2, t0, t3, e1, e2, e3.lenV]
      refine fcond_intro (fun hc => ?_) (fun hc => ?_)
      · simp at hc
        simp
        intro _
        exact ⟨xs[i], List.getElem_mem h1, by omega⟩
      · simp at hc
        simp [t3, add_in (x := i) (y := 1) (by omega) (by omega)]
        refine ⟨⟨t0, i + 1, by omega, by omega, by omega, ?_⟩, by omega⟩
        intro l hl
        rw [List.take_succ_eq_append_getElem h1] at hl
        rcases List.mem_append.1 hl with hl | hl
        · exact hall l hl
        · simp at hl; subst hl; omega
  · simp [h1, t0, hv.lenV]
    have : xs.take i = xs := List.take_of_length_le (by omega)
    rw [this] at hall
    have e : (xs.all fun l => decide (l.length ≤ 14)) = true := by simpa using hall
    rw [e]
    simp
    omega

def thinB (D : Dy) : Bool := (D.blocks.all fun l => decide (l.length ≤ 14)) && (decide (D.blocks.length ≤ 10) && (decide (D.walk.length ≤ 8) && shortB D.walk))
theorem thinB_thin {D : Dy} (h : thinB D = true) : D.Thin := by
  simp [thinB, shortB] at h
  exact ⟨h.2.1, h.1, h.2.2.1, h.2.2.2.2⟩
theorem thin_spec {D : Dy} {b w : Value} {H : Heap} (h : DayAt H b w D) : AFun Tryd.prog 15 [dayV D b w] H (fun r B => r = .bool (thinB D) ∧ Ge H B) := by
  refine AFun.mk ok15 hm (Nat.le_of_ble_eq_true rfl) ?_
  have hb := h.blocks.one
  have hw := h.walk.one
  have h62 := h.blocks.lt
  unfold thinB
  simp [a15, r15, hb, hw]
  refine floop_intro (fun z => z.d = [] ∧ Ge H z.H ∧ H.next < z.H.next ∧ z.t 1 = .pointer (some ⟨H.next, 0, none⟩) ∧ z.H.get H.next = .cells true (dayV D b w).cells.toList 10 ∧ ∃ i : Nat, i ≤ D.blocks.length ∧ i ≤ 11 ∧ z.t 3 = .int .i64 i ∧ ∀ l ∈ D.blocks.take i, l.length ≤ 14) (fun z => D.blocks.length - (intOf (z.t 3)).toNat) ?_ ?_
  · exact ⟨rfl, by simp, by simp, by simp, by simp [Value.cells], 0, by simp, by simp, by simp, by simp⟩
  rintro ⟨t, _, A⟩ ⟨rfl, g, hn, t1, kd, i, hi, hi16, t3, hall⟩
  dsimp only at g hn t1 kd t3
  simp [Value.cells] at kd
  simp [t1, kd, t3, h.blocks.lenV]
  by_cases h1 : i < D.blocks.length
  · by_cases h2 : (10 : Int) < i
    · have h5 : ¬ D.blocks.length ≤ 10 := by omega
      simp [h1, h2, h5, t3, g]
    · obtain ⟨p, u, e1, e2, e3⟩ := h.blocks.atAll h1
      have e21 := e2 A g
      simp [h1, h2, t1, kd, t3, e1, e21, e3.lenV]
      refine fcond_intro (fun hc => ?_) (fun hc => ?_)
      · simp at hc
        simp [g]
        intro hall2
        have := hall2 _ (List.getElem_mem h1); omega
      · simp at hc
        simp [t3, add_in (x := i) (y := 1) (by omega) (by omega)]
        refine ⟨⟨g, hn, t1, by simpa [Value.cells] using kd, i + 1, by omega, by omega, by omega, ?_⟩, by omega⟩
        intro l hl
        rw [List.take_succ_eq_append_getElem h1] at hl
        rcases List.mem_append.1 hl with hl | hl
        · exact hall l hl
        · simp at hl; subst hl; omega
  · have : D.blocks.take i = D.blocks := List.take_of_length_le (by omega)
    rw [this] at hall
    have e : (D.blocks.all fun l => decide (l.length ≤ 14)) = true := by simpa using hall
    rw [e]
    simp [h1, t1, kd, h.blocks.lenV, h.walk.lenV]
    by_cases h3 : (D.blocks.length : Int) ≤ 10
    case neg =>
      have h3n : ¬ D.blocks.length ≤ 10 := by omega
      simp [h3, h3n, g]
    have h3n : D.blocks.length ≤ 10 := by omega
    simp [h3, h3n, t1, kd, h.walk.lenV]
    by_cases h4 : (D.walk.length : Int) ≤ 8
    case neg =>
      have h4n : ¬ D.walk.length ≤ 8 := by omega
      simp [h3, h4, h4n, g]
    have h4n : D.walk.length ≤ 8 := by omega
    simp [h3, h4, h4n, t1, kd]
    refine fcall_fun (short_spec (h.walk.ge g)) ?_
    rintro _ B ⟨rfl, gB⟩
    simp [h3, h4, h3n, h4n, g.trans gB]

theorem faultF_spec {D : Dy} {b w : Value} {H : Heap} (h : DayAt H b w D) (hT : D.Thin) : AFun Tryd.prog 22 [dayV D b w] H (fun v B => v = .int .i64 (checkD D) ∧ Ge H B) := by
  refine AFun.mk ok22 hm (Nat.le_of_ble_eq_true rfl) ?_
  have hb := h.blocks.one
  have hw := h.walk.one
  simp [a22, r22, hb, hw]
  refine fcall_fun (fault36_spec (h.ge (by simp)) hT) ?_
  rintro _ B ⟨rfl, g⟩
  simp
  exact Ge.trans (by simp) g

theorem rows28_spec {H : Heap} {v : Value} {xs : List (List Int)} (hv : RowsAt H v xs) (hl : xs.length ≤ 2 ^ 20) (hll : ∀ l ∈ xs, l.length ≤ 2 ^ 20) : AFun Tryd.prog 28 [v] H (fun r B => RowsG 1 iCell B H.next (fun _ => False) r xs ∧ Ge H B) := by
  refine AFun.mk ok28 hm (Nat.le_of_ble_eq_true rfl) ?_
  have h62 := hv.lt
  simp [a28, r28]
  refine floop_intro (fun z => z.d = [] ∧ Ge H z.H ∧ z.t 0 = v ∧ ∃ i : Nat, i ≤ xs.length ∧ z.t 4 = .int .i64 i ∧ RowsG 1 iCell z.H H.next (fun _ => False) (z.t 3) (xs.take i)) (fun z => xs.length - (intOf (z.t 4)).toNat) ?_ ?_
  · exact ⟨rfl, by simp, by simp, 0, by simp, by simp, RowsG.nil (by simp)⟩
  rintro ⟨t, _, A⟩ ⟨rfl, g, t0, i, hi, t4, hR⟩
  dsimp only at g t0 t4 hR
  generalize t3 : t 3 = v3 at hR
  simp [t0, t4, hv.lenV]
  refine fcond_intro (fun hc => ?_) (fun hc => ?_)
  case refine_2 =>
    have h1 : i = xs.length := by simp at hc; omega
    subst h1
    rw [List.take_length] at hR
    simp [t3]
    exact ⟨hR, g⟩
  have h1 : i < xs.length := by simpa using hc
  obtain ⟨p, u, e1, e2, e3⟩ := hv.atGe g h1
  have hxi := hll _ (List.getElem_mem h1)
  simp [t0, t4, e1, e2]
  refine fcall_fun (list_spec (e3.ge g) hxi) ?_
  rintro x B ⟨hx, gB⟩
  have hx1 := hx.one
  simp [t3, hx1, one_cells]
  have gB2 : Ge A (B.new (.cells true [x] 1)) := gB.newOf _
  have hR2 : RowsG 1 iCell (B.new (.cells true [x] 1)) H.next (fun _ => False) v3 (xs.take i) := hR.keep gB2.next (fun n _ hn _ => gB2.get n hn) (fun _ _ hf => hf)
  have gn := g.next
  have gBn := gB.next
  have hox : OwnS (B.new (.cells true [x] 1)) H.next 1 x xs[i].length (xs[i].flatMap iCell) := by
    rw [iCell_flat]
    rcases hx with ⟨rfl, h0⟩ | ⟨n, cap, c, rfl, k1, k2, k3, k4, k5⟩
    · have h00 : xs[i].length = 0 := by have := congrArg List.length h0; simpa using this
      exact .inl ⟨rfl, h00, h0⟩
    · have f1 : n ≠ B.next := by omega
      exact .inr ⟨n, cap, c, by simp, by omega, by simp; omega, by simp [f1, k3], by simp, by simpa using k4, by omega⟩
  refine hR2.push (r := xs[i]) (x := x) (X' := fun _ => False) hox (fun m hm => ⟨fun e => ?_, fun hf => hf⟩) (fun m hf => hf.elim) (slCells_new (rw := true) (c := 1) (by simp)) (by simp; omega) (by simp) (by omega) (by simp; omega) fun u' C k1 k2 k3 k4 => ?_
  · have := (hx.names hm).1
    have := (hR.names e).2
    omega
  have h3 : ∀ m, slName v3 = some m → H.next ≤ m := fun m hm => (hR.names hm).1
  have gC : Ge H C := by
    refine ⟨by omega, fun n hn => ?_⟩
    have e1 : n ≠ B.next := by omega
    rw [k4 n (by omega) (fun e => by have := h3 n e; omega)]
    simp [e1, gB.get n (by omega), g.get n hn]
  simp [t4, add_in (x := i) (y := 1) (by omega) (by omega)]
  refine ⟨⟨gC, t0, i + 1, by omega, by omega, ?_⟩, by omega⟩
  rw [List.take_succ_eq_append_getElem h1]; exact k1

end Go.Proofs.YtllkhaabcfnlpaaDoor

/-
  The contract of the function that lays a day for the program.
-/
namespace Go.Proofs.YtllkhaabcfnlpaaDoor
open Go Go.Ab

theorem day18_spec {D : Dy} {b w : Value} {H : Heap} (h : DayAt H b w D) (hT : D.Thin) : AFun Tryd.prog 18 [dayV D b w] H (fun r B => ∃ b' w', r = dayV D b' w' ∧ DayAt B b' w' D ∧ Ge H B) := by
  refine AFun.mk ok18 hm (Nat.le_of_ble_eq_true rfl) ?_
  have hb := h.blocks.one
  have hw := h.walk.one
  have hfew := hT.few
  simp [a18, r18, hb, hw]
  have gC : Ge H ((⟨((((H.new (.cells true [.int .i64 D.law.piece, .int .i64 D.law.drive, .int .i64 D.law.spread, .int .i64 D.law.brk, .int .i64 D.law.on, .int .i64 D.law.off, .int .i64 D.law.least, .int .i64 D.law.pieces, b, w] 10)).new (.cells true [.int .i64 0, .int .i64 0, .int .i64 0, .int .i64 0, .int .i64 0, .int .i64 0, .int .i64 0, .int .i64 0, .slice none 0 0, .slice none 0 0] 10)).new (.cells true [.int .i64 0, .int .i64 0, .int .i64 0, .int .i64 0, .int .i64 0, .int .i64 0, .int .i64 0, .int .i64 0] 8)).set (H.next + 2) (.cells true [.int .i64 D.law.piece, .int .i64 D.law.drive, .int .i64 D.law.spread, .int .i64 D.law.brk, .int .i64 D.law.on, .int .i64 D.law.off, .int .i64 D.law.least, .int .i64 D.law.pieces] 8)).get, H.next + 26⟩ : Heap).set (H.next + 24) (.cells true [.int .i64 0, .int .i64 0, .int .i64 0, .int .i64 0, .int .i64 0, .int .i64 0, .int .i64 0, .int .i64 0, .slice none 0 0, .slice none 0 0] 10)) :=
    Ge.setNew (Ge.grow_le (by omega) (Ge.setNew (((Ge.new _ _).newOf _).newOf _) (by omega) _)) (by omega) _
  refine fcall_fun (rows28_spec (h.walk.ge gC) (by have := hT.places; omega) (fun l hl => by have := hT.rows l hl; omega)) ?_
  rintro w' B0 ⟨hR0, g0⟩
  have n0 := g0.next
  have c0 := g0.got (n := H.next) (by simp) rfl
  have c1 := g0.got (n := H.next + 1) (by simp) rfl
  have c2 := g0.got (n := H.next + 2) (by simp) rfl
  have c24 := g0.got (n := H.next + 24) (by simp) rfl
  simp at n0 c0 c1 c2 c24
  have hw1 := hR0.one
  have gH0 := gC.trans g0
  clear gC
  simp [c2, c24, hw1, one_cells]
  have hR0' : ∀ B : Heap, B0.next ≤ B.next → (∀ n, H.next + 26 ≤ n → n < B0.next → B.get n = B0.get n) → RowsAt B w' D.walk := fun B h1 h2 =>
    rows_done (hR0.keep h1 (fun n h3 h4 _ => h2 n (by simpa using h3) h4) (fun _ _ hf => hf)) (by have := hT.places; omega) fun r hr => by have := hT.rows r hr; omega
  generalize hA0 : B0.set (H.next + 24) _ = A0
  have nA0 : A0.next = B0.next := by rw [← hA0]; rfl
  have kA0 : ∀ n, n ≠ H.next + 24 → A0.get n = B0.get n := fun n hn => by rw [← hA0, Heap.set_get, if_neg hn]
  have gA0 : Ge H A0 := ⟨by have := gH0.next; omega, fun n hn => by rw [kA0 n (by omega)]; exact gH0.get n hn⟩
  have q0 : A0.get (H.next + 24) = .cells true [.int .i64 D.law.piece, .int .i64 D.law.drive, .int .i64 D.law.spread, .int .i64 D.law.brk, .int .i64 D.law.on, .int .i64 D.law.off, .int .i64 D.law.least, .int .i64 D.law.pieces, .slice none 0 0, w'] 10 := by rw [← hA0]; simp
  clear hA0
  have d0 := (kA0 H.next (by omega)).trans c0
  have d1 := (kA0 (H.next + 1) (by omega)).trans c1
  -- the blocks, one by one
  refine floop_intro (fun z => z.d = [] ∧ A0.next ≤ z.H.next ∧ (∀ n, n < A0.next → n ≠ H.next + 24 → z.H.get n = A0.get n) ∧ z.t 1 = .pointer (some ⟨H.next, 0, none⟩) ∧ z.t 2 = .pointer (some ⟨H.next + 1, 0, none⟩) ∧ z.t 4 = .pointer (some ⟨H.next + 24, 0, none⟩) ∧ ∃ i : Nat, i ≤ D.blocks.length ∧ z.t 5 = .int .i64 i ∧ ∃ v8, z.H.get (H.next + 24) = .cells true [.int .i64 D.law.piece, .int .i64 D.law.drive, .int .i64 D.law.spread, .int .i64 D.law.brk, .int .i64 D.law.on, .int .i64 D.law.off, .int .i64 D.law.least, .int .i64 D.law.pieces, v8, w'] 10 ∧ RowsG 3 Rl.cells z.H A0.next (fun _ => False) v8 (D.blocks.take i)) (fun z => D.blocks.length - (intOf (z.t 5)).toNat) ?_ ?_
  · exact ⟨rfl, Nat.le_refl _, fun _ _ _ => rfl, by simp, by simp, by simp, 0, by omega, by simp, .slice none 0 0, q0, RowsG.nil rfl⟩
  rintro ⟨t, _, A⟩ ⟨rfl, hn, hk, t1, t2, t4, i, hi, t5, v8, kq, hR⟩
  dsimp only at hn hk t1 t2 t4 t5 kq hR
  have gHA : Ge H A := ⟨by have := gA0.next; omega, fun n h1 => by have := gA0.next; rw [hk n (by omega) (by omega)]; exact gA0.get n h1⟩
  have kd := (hk H.next (by omega) (by omega)).trans d0
  simp [t1, kd, t5, h.blocks.lenV]
  refine fcond_intro (fun hc => ?_) (fun hc => ?_)
  case refine_2 =>
    have : i = D.blocks.length := by simp at hc; omega
    subst this
    have kd1 := (hk (H.next + 1) (by omega) (by omega)).trans d1
    have hv8 := hR.one
    rw [List.take_length] at hR
    simp [t2, t4, kq, kd1, hv8, hw1]
    refine ⟨v8, w', ⟨rfl, rfl⟩, ⟨?_, ?_⟩, gHA.setNew (by omega) _⟩
    · have hR2 := hR.keep (B := A.set (H.next + 1) (.cells true [.int .i64 D.law.piece, .int .i64 D.law.drive, .int .i64 D.law.spread, .int .i64 D.law.brk, .int .i64 D.law.on, .int .i64 D.law.off, .int .i64 D.law.least, .int .i64 D.law.pieces, v8, w'] 10)) (X' := fun _ => False) (by simp) (fun n h1 h2 _ => by rw [Heap.set_get, if_neg (by omega)]) (fun _ _ hf => hf)
      exact hR2.rows (R := RelsAt) (by omega) fun u r hr ho => ⟨ho.slr, by have := hT.short r hr; omega⟩
    · exact hR0' _ (by simp; omega) fun n h1 h2 => by rw [Heap.set_get, if_neg (by omega), hk n (by omega) (by omega), kA0 n (by omega)]
  have hi' : i < D.blocks.length := by simpa using hc
  obtain ⟨p, u, e1, e2, e3⟩ := h.blocks.atAll hi'
  have hl := hT.short _ (List.getElem_mem hi')
  simp
  refine floop_intro (fun z => z.d = [] ∧ A0.next ≤ z.H.next ∧ (∀ n, n < A0.next → n ≠ H.next + 24 → z.H.get n = A0.get n) ∧ z.t 1 = .pointer (some ⟨H.next, 0, none⟩) ∧ z.t 2 = .pointer (some ⟨H.next + 1, 0, none⟩) ∧ z.t 4 = .pointer (some ⟨H.next + 24, 0, none⟩) ∧ z.t 5 = .int .i64 i ∧ z.H.get (H.next + 24) = .cells true [.int .i64 D.law.piece, .int .i64 D.law.drive, .int .i64 D.law.spread, .int .i64 D.law.brk, .int .i64 D.law.on, .int .i64 D.law.off, .int .i64 D.law.least, .int .i64 D.law.pieces, v8, w'] 10 ∧ ∃ j : Nat, j ≤ D.blocks[i].length ∧ z.t 7 = .int .i64 j ∧ OwnS z.H A0.next 3 (z.t 6) j ((D.blocks[i].take j).flatMap Rl.cells) ∧ RowsG 3 Rl.cells z.H A0.next (fun m => slName (z.t 6) = some m) v8 (D.blocks.take i)) (fun z => D.blocks[i].length - (intOf (z.t 7)).toNat) ?_ ?_
  · exact ⟨rfl, hn, hk, by simp [t1], by simp [t2], by simp [t4], by simp [t5], kq, 0, by omega, by simp, .inl ⟨by simp, rfl, by simp⟩, hR.keep (Nat.le_refl _) (fun _ _ _ _ => rfl) (fun m _ hm => by simp [slName] at hm)⟩
  have t5o := t5
  clear t1 t2 t4 t5 kq hR hn hk gHA kd hc
  rintro ⟨t, _, A⟩ ⟨rfl, hn, hk, t1, t2, t4, t5, kq, j, hj, t7, o6, hR⟩
  dsimp only at hn hk t1 t2 t4 t5 kq t7 o6 hR
  generalize t6 : t 6 = v6 at o6 hR
  have gHA : Ge H A := ⟨by have := gA0.next; omega, fun n h1 => by have := gA0.next; rw [hk n (by omega) (by omega)]; exact gA0.get n h1⟩
  have kd := (hk H.next (by omega) (by omega)).trans d0
  have e21 := e2 A gHA
  simp [t1, kd, t5, t7, e1, e21, e3.lenV]
  refine fcond_intro (fun hc => ?_) (fun hc => ?_)
  case refine_2 =>
    have : j = D.blocks[i].length := by simp at hc; omega
    subst this
    have hv6 := o6.one
    rw [List.take_length] at o6
    have ne24 : H.next + 24 ≠ A.next := by omega
    simp [t4, t6, kq, hv6, one_cells, ne24]
    have hR1 := hR.keep (B := A.new (.cells true [v6] 1)) (X' := fun m => slName v6 = some m) (by simp) (fun n _ h2 _ => by simp [Nat.ne_of_lt h2]) (fun m _ hm => hm)
    refine hR1.push (r := D.blocks[i]) (x := v6) (X' := fun _ => False) (o6.ge (Ge.new _ _)) (fun m hm => ⟨fun e => hR1.own m e hm, fun hf => hf⟩) (fun m hm => hm.elim) (slCells_new (rw := true) (c := 1) (by simp)) (by rw [List.length_take]; omega) (by simp) (by omega) (by simp; omega) fun u' B k1 k2 k3 k4 => ?_
    have h8 : ∀ m, slName v8 = some m → A0.next ≤ m := fun m hm => (hR.names hm).1
    have kB : ∀ n, n < A0.next → B.get n = A.get n := fun n h1 => by
      rw [k4 n (by omega) (fun e => by have := h8 n e; omega), Heap.new_get, if_neg (by omega)]
    have kBq := (kB (H.next + 24) (by omega)).trans kq
    have hu' := k1.one
    simp [t4, kBq, hu', hw1, one_cells, t5, add_in (x := i) (y := 1) (by omega) (by omega)]
    refine ⟨⟨by omega, fun n h1 h2 => ?_, t1, t2, i + 1, by omega, by omega, ?_⟩, by rw [t5o]; simp; omega⟩
    · simp [h2]; rw [kB n h1]; exact hk n h1 h2
    · rw [List.take_succ_eq_append_getElem hi']
      exact k1.keep (by simp) (fun n h1 _ _ => by rw [Heap.set_get, if_neg (by omega)]) (fun _ _ hf => hf)
  have hj' : j < D.blocks[i].length := by simpa using hc
  obtain ⟨n, o, f1, f2, f3, _, _⟩ := e3.at hj'
  have gn := gHA.next
  have f3A : ldA (A.get n) true 3 o = some D.blocks[i][j].val := by rw [gHA.get n f2]; exact f3
  simp [t1, kd, t5, t7, e1, e21, f1, f3A, t6, Rl.val]
  have g1 : Ge A (((A.new (.cells true [.int .i64 0, .int .i64 0, .int .i64 0] 3)).set A.next (.cells true [.int .i64 D.blocks[i][j].place, .int .i64 D.blocks[i][j].lo, .int .i64 D.blocks[i][j].hi] 3)).new (.cells true [.int .i64 D.blocks[i][j].place, .int .i64 D.blocks[i][j].lo, .int .i64 D.blocks[i][j].hi] 3)) := ((Ge.new _ _).setNew (Nat.le_refl _) _).newOf _
  refine fapp_ownS (lo := A0.next) (xs := D.blocks[i][j].cells) (o6.ge g1) (by simp [slCells, rdL, Rl.cells]) rfl (by simp [Rl.cells]) (by omega) (by omega) (by simp) (by omega) (by simp; omega) fun u6 B k1 k2 k3 k4 => ?_
  have h6n : ∀ m, slName v6 = some m → A0.next ≤ m := fun m hm => (o6.names hm).1
  have kB : ∀ m, m < A.next → slName v6 ≠ some m → B.get m = A.get m := fun m h1 h2 => by
    rw [k4 m (by omega) h2]; exact g1.get m h1
  have kBq := (kB (H.next + 24) (by omega) (fun e => by have := h6n _ e; omega)).trans kq
  simp [t7, add_in (x := j) (y := 1) (by omega) (by omega)]
  refine ⟨⟨by omega, fun m h1 h2 => ?_, t1, t2, t4, t5, kBq, j + 1, by omega, by omega, ?_, ?_⟩, by omega⟩
  · rw [kB m (by omega) (fun e => by have := h6n m e; omega)]; exact hk m h1 h2
  · rw [List.take_succ_eq_append_getElem hj', List.flatMap_append]
    simpa using k1
  · refine hR.keep (by omega) (fun m h1 h2 h3 => kB m h2 h3) fun m hm hx => ?_
    rw [k2] at hx; cases hx; omega

end Go.Proofs.YtllkhaabcfnlpaaDoor

/-
  Truths: what the program and the reference ask of times.
-/
namespace Go.Proofs.YtllkhaabcfnlpaaDoor
open Go Go.Ab

theorem _root_.Go.Ab.IntsAt.atAll {H : Heap} {v : Value} {xs : List Int} (h : IntsAt H v xs) {i : Nat} (hi : i < xs.length) : ∃ p, islV 1 v (.int .i64 i) = some p ∧ ∀ A, Ge H A → ldV A false 1 p = some (.int .i64 xs[i]) := by
  obtain ⟨p, h1, _⟩ := h.at hi
  refine ⟨p, h1, fun A g => ?_⟩
  obtain ⟨q, h2, h3⟩ := (h.ge g).at hi
  rw [h1] at h2; cases h2; exact h3

theorem ints_spec {H : Heap} {v u : Value} {xs ys : List Int} (hv : IntsAt H v xs) (hu : IntsAt H u ys) : AFun Tryd.prog 33 [v, u] H (fun r B => r = .bool (decide (xs = ys)) ∧ Ge H B) := by
  refine AFun.mk ok33 hm (Nat.le_of_ble_eq_true rfl) ?_
  have h62 := hv.2
  simp [a33, r33, hv.lenV, hu.lenV]
  by_cases hl : xs.length = ys.length
  case neg =>
    have : xs ≠ ys := fun e => hl (by rw [e])
    have hl2 : ¬ (xs.length : Int) = ys.length := by omega
    simp [hl, hl2, this]
  have hl2 : (xs.length : Int) = ys.length := by omega
  simp [hl, hl2]
  refine floop_intro (fun z => z.d = [] ∧ Ge H z.H ∧ z.t 0 = v ∧ z.t 1 = u ∧ ∃ i : Nat, i ≤ xs.length ∧ z.t 5 = .int .i64 i ∧ xs.take i = ys.take i) (fun z => xs.length - (intOf (z.t 5)).toNat) ?_ ?_
  · exact ⟨rfl, by simp, by simp, by simp, 0, by simp, by simp, by simp⟩
  rintro ⟨t, _, A⟩ ⟨rfl, g, t0, t1, i, hi, t5, hall⟩
  dsimp only at g t0 t1 t5
  simp [t0, t1, t5, hv.lenV]
  refine fcond_intro (fun hc => ?_) (fun hc => ?_)
  case refine_2 =>
    have h1 : xs.length ≤ i := by simp at hc; omega
    rw [List.take_of_length_le h1, List.take_of_length_le (by omega)] at hall
    simp [hall, g]
  have h1 : i < xs.length := by simp at hc; omega
  have h2 : i < ys.length := by omega
  obtain ⟨p, e1, e2⟩ := hv.atAll h1
  obtain ⟨q, f1, f2⟩ := hu.atAll h2
  have g9 := g.grow 9
  simp [t0, t1, t5, e1, e2 _ g9, f1, f2 _ g9]
  refine fcond_intro (fun hc => ?_) (fun hc => ?_)
  · simp at hc
    have : xs ≠ ys := fun e => hc (by simp [e])
    simp [this, g9]
  · simp at hc
    simp [t5, add_in (x := i) (y := 1) (by omega) (by omega)]
    refine ⟨⟨g9, t0, t1, i + 1, by omega, by omega, ?_⟩, by omega⟩
    rw [List.take_succ_eq_append_getElem h1, List.take_succ_eq_append_getElem h2, hall, hc]

/-- May a relief have such a time? -/
def tOk (r : List Rl) (ts : List Int) (i : Nat) : Bool := (decide ((r[i]?.getD ⟨0, 0, 0⟩).lo ≤ ts[i]?.getD 0) && decide (ts[i]?.getD 0 ≤ (r[i]?.getD ⟨0, 0, 0⟩).hi)) && (decide (i = 0) || decide (ts[i - 1]?.getD 0 ≤ ts[i]?.getD 0))
def truthOf (r : List Rl) (ts : List Int) : Bool := decide (ts.length = r.length) && (List.range r.length).all (tOk r ts)
def truthD (D : Dy) (T : List (List Int)) : Bool := decide (T.length = D.blocks.length) && (List.range D.blocks.length).all fun i => truthOf (D.blocks[i]?.getD []) (T[i]?.getD [])

theorem all_no {n i : Nat} {p : Nat → Bool} (hi : i < n) (h : p i = false) : (List.range n).all p = false := by
  rw [← Bool.not_eq_true, List.all_eq_true]
  intro hall
  have := hall i (by simpa using hi)
  rw [h] at this; cases this
theorem all_yes {n : Nat} {p : Nat → Bool} (h : ∀ k, k < n → p k = true) : (List.range n).all p = true := by
  rw [List.all_eq_true]
  intro k hk
  exact h k (by simpa using hk)

theorem truthOf_spec {H : Heap} {v u : Value} {r : List Rl} {ts : List Int} (hv : RelsAt H v r) (hu : IntsAt H u ts) (h0 : ∀ x ∈ r, 0 ≤ x.lo) : AFun Tryd.prog 92 [v, u] H (fun q B => q = .bool (truthOf r ts) ∧ Ge H B) := by
  refine AFun.mk ok92 hm (Nat.le_of_ble_eq_true rfl) ?_
  have h62 := hv.2
  unfold truthOf
  simp [a92, r92, hv.lenV, hu.lenV]
  by_cases hl : ts.length = r.length
  case neg =>
    have hl2 : ¬ (ts.length : Int) = r.length := by omega
    simp [hl, hl2]
  have hl2 : (ts.length : Int) = r.length := by omega
  simp [hl, hl2, hv.lenV]
  refine floop_intro (fun z => z.d = [] ∧ Ge H z.H ∧ z.t 1 = u ∧ z.t 13 = v ∧ z.t 14 = .int .i64 r.length ∧ ∃ i : Nat, i ≤ r.length ∧ z.t 15 = .int .i64 i ∧ z.t 5 = .int .i64 (if i = 0 then 0 else ts[i - 1]?.getD 0) ∧ ∀ k, k < i → tOk r ts k = true) (fun z => r.length - (intOf (z.t 15)).toNat) ?_ ?_
  · exact ⟨rfl, by simp, by simp, by simp, by simp, 0, by simp, by simp, by simp, fun k hk => by omega⟩
  rintro ⟨t, _, A⟩ ⟨rfl, g, t1, t13, t14, i, hi, t15, t5, hall⟩
  dsimp only at g t1 t13 t14 t15 t5
  simp [t14, t15]
  refine fcond_intro (fun hc => ?_) (fun hc => ?_)
  case refine_2 =>
    have h1 : i = r.length := by simp at hc; omega
    subst h1
    have := all_yes hall
    simp only [List.all_eq_true, List.mem_range] at this
    simp [g]
    exact ⟨hl, this⟩
  have h1 : i < r.length := by simpa using hc
  have h2 : i < ts.length := by omega
  obtain ⟨n, o, e1, ln, e2, _⟩ := (hv.ge g).at h1
  obtain ⟨q, f1, f2⟩ := hu.atAll h2
  have gn : Ge A ((A.new (.cells true [.int .i64 0, .int .i64 0, .int .i64 0] 3)).set A.next (.cells true [.int .i64 r[i].place, .int .i64 r[i].lo, .int .i64 r[i].hi] 3)) := (Ge.new _ _).setNew (Nat.le_refl _) _
  have gn15 : Ge H (⟨((A.new (.cells true [.int .i64 0, .int .i64 0, .int .i64 0] 3)).set A.next (.cells true [.int .i64 r[i].place, .int .i64 r[i].lo, .int .i64 r[i].hi] 3)).get, A.next + 15⟩ : Heap) := Ge.grow_le (by have := g.next; omega) (g.trans gn)
  have f2' := f2 _ gn15
  simp [t1, t13, t15, t5, e1, e2, Rl.val, f1, f2']
  rw [aval_max (k := .i64) (m := if i = 0 then 0 else ts[i - 1]?.getD 0) (n := r[i].lo) (by simp [t5]) (by simp) (by decide) (by decide)]
  simp
  refine fcall_fun (within_spec _ _ _ _) ?_
  rintro _ _ ⟨rfl, rfl⟩
  have hlo := h0 _ (List.getElem_mem h1)
  have hok : (decide (max (if i = 0 then 0 else ts[i - 1]?.getD 0) r[i].lo ≤ ts[i]) && decide (ts[i] ≤ r[i].hi)) = tOk r ts i := by
    unfold tOk
    simp only [h1, h2, List.getElem?_eq_getElem, Option.getD_some]
    rw [Bool.eq_iff_iff]
    simp only [Bool.and_eq_true, Bool.or_eq_true, decide_eq_true_eq]
    by_cases hz : i = 0
    · simp only [hz, if_true, true_or, and_true]
      subst hz
      omega
    · simp only [hz, if_false, false_or]
      omega
  rw [hok]
  cases hb : tOk r ts i
  · have := all_no (n := r.length) h1 hb
    have h3 : ∃ x, x < r.length ∧ tOk r ts x = false := ⟨i, h1, hb⟩
    simp
    exact ⟨fun _ => h3, gn15⟩
  · simp [t1, f1, f2', t15, add_in (x := i) (y := 1) (by omega) (by omega)]
    refine ⟨⟨gn15, t13, t14, i + 1, by omega, by omega, by simp [h2], fun k hk => ?_⟩, by omega⟩
    by_cases hk2 : k = i
    · subst hk2; exact hb
    · exact hall k (by omega)

end Go.Proofs.YtllkhaabcfnlpaaDoor

/-
  What DutyLegal answers.
-/
namespace Go.Proofs.YtllkhaabcfnlpaaDoor
open Go Go.Ab

theorem checkD_cases (D : Dy) : checkD D = 0 ∨ checkD D = 1 ∨ checkD D = 3 := by
  unfold checkD
  split
  · right; right; rfl
  · split
    · left; rfl
    · right; left; rfl

theorem aval_neTr {t : Nat → Value} {H : Heap} {N x y : Nat} {a b : Bool} {d : Option Tmp} {ty U : TypeId} {pos : String} {af : Array Edge} {g : Option (Nat × Bool)} (hx : t x = .bool a) (hy : t y = .bool b) (h1 : x < N) (h2 : y < N) :
    aval Tryd.prog t H (.gen N ⟨d, .binOp .neq 4 (.tmp x) (.tmp y) U, ty, pos, af, g⟩) = some (.bool (!(a == b))) := by
  refine aval_gen ?_ rfl fun w => ?_
  · simp [Op.operands, flatO, hx, hy, h1, h2, flat, flat1]
  · have hg : Tryd.prog.eqGuardType Tryd.prog.depth 4 = false := by kernel_rfl
    simp only [execOp, evO, hx, hy, Sem.run_bind]
    have he := run_equalIn_bool' (P := Tryd.prog) w 9999 4 a b Tryd.underlying4
    simp [eqGuard, binOp, Op.equal, Op.maxDepth, he]

theorem dutyLegal_of {D : Dy} {b w v : Value} {H : Heap} {xs : List Int} (h : DayAt H b w D) (hv : IntsAt H v xs) (hwk : ∀ A, Ge H A → AFun Tryd.prog 16 [] A (fun r B => r = .bool true ∧ Ge A B)) :
    AFun Tryd.prog 3 [dayV D b w, v] H (fun r _ => r = .bool true) := by
  refine AFun.mk ok3 hm (Nat.le_of_ble_eq_true rfl) ?_
  have hb := h.blocks.one
  have hw := h.walk.one
  have h62 := hv.2
  simp [a3, r3, hb, hw]
  refine fcall_fun (thin_spec (h.ge (by simp))) ?_
  rintro _ H1 ⟨rfl, g1⟩
  have G1 : Ge H H1 := Ge.trans (by simp) g1
  have k1 := g1.got (n := H.next) (by simp) rfl
  have n1 := g1.next
  simp at k1 n1
  cases hth : thinB D
  · simp
    refine fcall_fun (hwk _ G1) ?_
    rintro _ _ ⟨rfl, _⟩
    simp
  have hT := thinB_thin hth
  simp [hv.lenV]
  by_cases hl : (14 : Int) < xs.length
  · simp [hl]
    refine fcall_fun (hwk _ G1) ?_
    rintro _ _ ⟨rfl, _⟩
    simp
  have hlen : xs.length ≤ 14 := by omega
  simp [hl, k1]
  -- CheckDay
  refine fcall_fun (day18_spec (h.ge G1) hT) ?_
  rintro _ H2 ⟨b2, w2, rfl, hd2, g2⟩
  have G2 := G1.trans g2
  have k2 := g2.got (n := H.next) (by omega) k1
  have n2 := g2.next
  simp
  refine fcall_fun (checkDay_spec hd2 hT) ?_
  rintro _ H3 ⟨rfl, g3⟩
  have G3 := G2.trans g3
  have k3 := g3.got (n := H.next) (by omega) k2
  have n3 := g3.next
  simp [k3]
  -- Legal
  refine fcall_fun (day18_spec (h.ge G3) hT) ?_
  rintro _ H4 ⟨b4, w4, rfl, hd4, g4⟩
  have G4 := G3.trans g4
  have k4 := g4.got (n := H.next) (by omega) k3
  have n4 := g4.next
  simp
  refine fcall_fun (list_spec (hv.ge G4) (by omega)) ?_
  rintro v5 H5 ⟨o5, g5⟩
  have G5 := G4.trans g5
  have k5 := g5.got (n := H.next) (by omega) k4
  have n5 := g5.next
  simp
  refine fcall_fun (legal_spec (hd4.ge g5) hT (own_ints o5 (by omega)) (by omega)) ?_
  rintro _ H6 ⟨rfl, g6⟩
  have G6 := G5.trans g6
  have k6 := g6.got (n := H.next) (by omega) k5
  have n6 := g6.next
  simp [k6]
  -- Pay
  refine fcall_fun (day18_spec (h.ge G6) hT) ?_
  rintro _ H7 ⟨b7, w7, rfl, hd7, g7⟩
  have G7 := G6.trans g7
  have k7 := g7.got (n := H.next) (by omega) k6
  have n7 := g7.next
  simp
  refine fcall_fun (list_spec (hv.ge G7) (by omega)) ?_
  rintro v8 H8 ⟨o8, g8⟩
  have G8 := G7.trans g8
  have k8 := g8.got (n := H.next) (by omega) k7
  have n8 := g8.next
  simp
  refine fcall_fun (payF_spec (hd7.ge g8) hT (own_ints o8 (by omega)) (by omega)) ?_
  rintro _ H9 ⟨rfl, g9⟩
  have G9 := G8.trans g9
  have k9 := g9.got (n := H.next) (by omega) k8
  have n9 := g9.next
  simp [k9]
  -- fault
  refine fcall_fun (faultF_spec (h.ge G9) hT) ?_
  rintro _ HA ⟨rfl, gA⟩
  have GA := G9.trans gA
  have kA := gA.got (n := H.next) (by omega) k9
  have nA := gA.next
  simp
  by_cases hc : checkD D = 0
  case neg =>
    have he : errD D xs = checkD D := by simp [errD, hc]
    have hp : payE D xs = checkD D := by simp [payE, he, hc]
    simp [hc, he, hp]
    refine fcall_fun (hwk _ GA) ?_
    rintro _ _ ⟨rfl, _⟩
    simp [hc, he, hp]
  have hV := valid_of hc
  simp [hc, kA]
  refine fcall_fun (isDuty23_spec (h.ge GA) hT (hv.ge GA) (by omega)) ?_
  rintro _ HB ⟨rfl, gB⟩
  have GB := GA.trans gB
  have kB := gB.got (n := H.next) (by omega) kA
  have nB := gB.next
  cases hd : isDutyB (segsOf D.blocks) xs
  · have he : errD D xs = 2 := by simp [errD, hc, hd]
    have hp : payE D xs = 2 := by simp [payE, he]
    simp [hc, he, hp]
    refine fcall_fun (hwk _ GB) ?_
    rintro _ _ ⟨rfl, _⟩
    simp [hc, he, hp]
  have he : errD D xs = 0 := by simp [errD, hc, hd]
  simp [hc, he, kB]
  refine fcall_fun (legal24_spec (h.ge GB) hT hV (hv.ge GB) hd (by omega)) ?_
  rintro _ HC ⟨rfl, gC⟩
  have GC := GB.trans gC
  have kC := gC.got (n := H.next) (by omega) kB
  have nC := gC.next
  simp
  rw [aval_neTr (a := legalD D xs) (b := legalD D xs) (by simp [he]) (by simp) (by decide) (by decide)]
  simp
  cases hl : legalD D xs
  · have hp : payE D xs = 10 := by simp [payE, he, hl]
    simp [hp, he, hl]
    refine fcall_fun (hwk _ GC) ?_
    rintro _ _ ⟨rfl, _⟩
    simp
  have hp : payE D xs = 0 := by simp [payE, he, hl]
  simp [hp, he, hl, kC]
  refine fcall_fun (pay25_spec (h.ge GC) hT hV (hv.ge GC) hd (by omega)) ?_
  rintro _ HD ⟨rfl, gD⟩
  have GD := GC.trans gD
  simp [hp, he, hl]
  refine fcall_fun (hwk _ GD) ?_
  rintro _ _ ⟨rfl, _⟩
  simp

end Go.Proofs.YtllkhaabcfnlpaaDoor

/-
  Sets of segments: their lowest ones, their lists.
-/
namespace Go.Proofs.YtllkhaabcfnlpaaDoor
open Go Go.Ab

/-- The lowest of a set. -/
def low (m : Nat) : Nat := ((List.range 10).find? fun i => m.testBit i).getD 0
abbrev bitsL (m : Nat) : List Nat := bitsFrom 10 m 0

theorem brute : (List.range 1024).all (fun m => m == 0 || ((m &&& (2 ^ 64 - m)) == 2 ^ low m && (decide (low m < 10) && (bitsFrom 10 m 0 == low m :: bitsFrom 10 (diffN m (2 ^ low m)) 0 && decide (diffN m (2 ^ low m) < m))))) = true := by decide +kernel
theorem low_facts {m : Nat} (h0 : m ≠ 0) (hm : m < 1024) : (m &&& (2 ^ 64 - m)) = 2 ^ low m ∧ low m < 10 ∧ bitsL m = low m :: bitsL (diffN m (2 ^ low m)) ∧ diffN m (2 ^ low m) < m := by
  have := List.all_eq_true.1 brute m (by simpa using hm)
  simp only [Bool.or_eq_true, beq_iff_eq, h0, false_or, Bool.and_eq_true, decide_eq_true_eq] at this
  exact this
theorem bits_zero : bitsL 0 = [] := by decide +kernel

section
variable {P : Program} {t : Nat → Value} {H : Heap} {N x y : Nat} {k : IntKind} {m n : Int} {d : Option Tmp} {T U ty : TypeId} {pos : String} {af : Array Edge} {g : Option (Nat × Bool)}
theorem aval_neg {m : Nat} (hx : t x = bitsV m) (h1 : x < N) (h0 : m ≠ 0) (hm : m < 2 ^ 64) :
    aval P t H (.gen N ⟨d, .unOp .neg T (.tmp x), ty, pos, af, g⟩) = some (bitsV (2 ^ 64 - m)) := by
  refine aval_gen ?_ rfl fun w => ?_
  · simp [Op.operands, flatO, hx, h1, flat, flat1]
  · have e : IntKind.u64.wrap (-(m : Int)) = ((2 ^ 64 - m : Nat) : Int) := by
      simp [IntKind.wrap, IntKind.bits, IntKind.signed]
      omega
    simp [execOp, evO, hx, Op.unary, Op.intArith, e]
theorem aval_shr {m s : Nat} {z : Int} (hx : t x = bitsV m) (h1 : x < N) (hs : s < 64) (hz : z = (s : Int)) :
    aval P t H (.gen N ⟨d, .binOp .shr T (.tmp x) (.const (.int .u64 z)) U, ty, pos, af, g⟩) = some (bitsV (m / 2 ^ s)) := by
  refine aval_gen ?_ rfl fun w => ?_
  · simp [Op.operands, flatO, hx, h1, flat, flat1]
  · simp [execOp, evO, hx, hz, eqGuard, binOp, Op.shift]
end

theorem wrap_nat (n : Nat) : IntKind.u64.wrap (n : Int) = ((n % 2 ^ 64 : Nat) : Int) := by
  simp [IntKind.wrap, IntKind.bits, IntKind.signed]

theorem mul_bits {a b : Nat} {z : Int} (hz : z = (b : Int)) : binI BinOp.mul (bitsV a) (.int .u64 z) = some (bitsV (a * b % 2 ^ 64)) := by
  have e : binI BinOp.mul (bitsV a) (.int .u64 z) = some (.int .u64 (IntKind.u64.wrap ((a : Int) * z))) := rfl
  rw [e, hz, ← Int.natCast_mul, wrap_nat]

/-- The lowest alone. -/
theorem lowest_spec {m : Nat} (h0 : m ≠ 0) (hm10 : m < 1024) (H : Heap) : AFun Tryd.prog 100 [bitsV m] H (fun r B => r = bitsV (2 ^ low m) ∧ B = H) := by
  refine AFun.mk ok100 hm (Nat.le_of_ble_eq_true rfl) ?_
  obtain ⟨h1, _⟩ := low_facts h0 hm10
  simp [a100, r100]
  rw [aval_neg (m := m) (by simp) (by decide) h0 (by omega)]
  simp
  rw [aval_and (a := m) (b := 2 ^ 64 - m) (by simp) (by simp) (by decide) (by decide) (by omega) (by omega), h1]
  simp

/-- The table of the package math/bits. -/
def tz64 : List Value := [.int .u8 0, .int .u8 1, .int .u8 56, .int .u8 2, .int .u8 57, .int .u8 49, .int .u8 28, .int .u8 3, .int .u8 61, .int .u8 58, .int .u8 42, .int .u8 50, .int .u8 38, .int .u8 29, .int .u8 17, .int .u8 4, .int .u8 62, .int .u8 47, .int .u8 59, .int .u8 36, .int .u8 45, .int .u8 43, .int .u8 51, .int .u8 22, .int .u8 53, .int .u8 39, .int .u8 33, .int .u8 30, .int .u8 24, .int .u8 18, .int .u8 12, .int .u8 5, .int .u8 63, .int .u8 55, .int .u8 48, .int .u8 27, .int .u8 60, .int .u8 41, .int .u8 37, .int .u8 16, .int .u8 46, .int .u8 35, .int .u8 44, .int .u8 21, .int .u8 52, .int .u8 32, .int .u8 23, .int .u8 11, .int .u8 54, .int .u8 26, .int .u8 40, .int .u8 15, .int .u8 34, .int .u8 20, .int .u8 31, .int .u8 10, .int .u8 25, .int .u8 14, .int .u8 19, .int .u8 9, .int .u8 13, .int .u8 8, .int .u8 7, .int .u8 6]
/-- The memory holds the table. -/
structure Gl (H : Heap) : Prop where
  next : 2 ≤ H.next
  tab : ∃ c, H.get 1 = .cells false tz64 c
theorem Gl.ge {H A : Heap} (h : Gl H) (g : Ge H A) : Gl A := by
  obtain ⟨h1, c, h2⟩ := h
  exact ⟨by have := g.next; omega, c, g.got (n := 1) (by omega) h2⟩

theorem tz_index : ∀ i, i < 10 → (2 ^ i * 285870213051353865 % 2 ^ 64 / 2 ^ 58 < 64 ∧ tz64[2 ^ i * 285870213051353865 % 2 ^ 64 / 2 ^ 58]? = some (.int .u8 i)) := by
  intro i hi
  match i, hi with
  | 0, _ => exact ⟨by decide, rfl⟩
  | 1, _ => exact ⟨by decide, rfl⟩
  | 2, _ => exact ⟨by decide, rfl⟩
  | 3, _ => exact ⟨by decide, rfl⟩
  | 4, _ => exact ⟨by decide, rfl⟩
  | 5, _ => exact ⟨by decide, rfl⟩
  | 6, _ => exact ⟨by decide, rfl⟩
  | 7, _ => exact ⟨by decide, rfl⟩
  | 8, _ => exact ⟨by decide, rfl⟩
  | 9, _ => exact ⟨by decide, rfl⟩

theorem wrap_low {l : Nat} (h : l < 10) : IntKind.i64.wrap (l : Int) = (l : Int) := wrap_i64 (by omega) (by omega)
theorem tz_iar {j : Nat} (h : j < 64) : iarV 64 1 (.pointer (some ⟨1, 0, none⟩)) (.int .u64 (j : Int)) = some (.pointer (some ⟨1, 0 + (j : Int).toNat * 1, none⟩)) := iarV_in (by omega) (by omega)
theorem tz_load {H : Heap} {c j : Nat} {v : Value} (hc : H.get 1 = .cells false tz64 c) (k2 : tz64[j]? = some v) : ldA (H.get 1) false 1 j = some v := by
  rw [hc, ldA_one]; exact k2

theorem tz_path {l : Nat} (h : l < 10) : ∃ q j : Nat, binI BinOp.mul (bitsV (2 ^ l)) (.int .u64 285870213051353865) = some (bitsV q) ∧ q / 2 ^ 58 = j ∧ j < 64 ∧ tz64[j]? = some (.int .u8 (l : Int)) := by
  obtain ⟨k1, k2⟩ := tz_index l h
  exact ⟨_, _, mul_bits rfl, rfl, k1, k2⟩

theorem tz64_spec {m : Nat} (h0 : m ≠ 0) (hm10 : m < 1024) {H : Heap} (hG : Gl H) : AFun Tryd.prog 121 [bitsV m] H (fun r B => r = .int .i64 (low m) ∧ B = H) := by
  obtain ⟨h1, h2, _⟩ := low_facts h0 hm10
  obtain ⟨_, c, hc⟩ := hG
  have hn : m < 2 ^ 64 := by omega
  have hn2 : 2 ^ 64 - m < 2 ^ 64 := by omega
  obtain ⟨q, j, hmul, hq, hj, ht⟩ := tz_path h2
  have hwr := wrap_low h2
  have hj := tz_iar hj
  have hld := tz_load hc ht
  generalize low m = l at *
  clear hm10 ht hc h2
  refine AFun.mk ok121 hm (Nat.le_of_ble_eq_true rfl) ?_
  simp [a121, r121, h0]
  rw [aval_neg (m := m) (by simp) (by decide) h0 hn]
  simp
  rw [aval_and (a := m) (b := 2 ^ 64 - m) (by simp) (by simp) (by decide) (by decide) hn hn2, h1]
  simp [hmul]
  rw [aval_shr (m := q) (s := 58) (z := 58) (by simp) (by decide) (by decide) rfl, hq]
  simp [hj, hld, hwr]

theorem tz_spec {m : Nat} (h0 : m ≠ 0) (hm10 : m < 1024) {H : Heap} (hG : Gl H) : AFun Tryd.prog 101 [bitsV m] H (fun r B => r = .int .i64 (low m) ∧ B = H) := by
  refine AFun.mk ok101 hm (Nat.le_of_ble_eq_true rfl) ?_
  simp [a101, r101]
  refine fcall_fun (tz64_spec h0 hm10 hG) ?_
  rintro _ _ ⟨rfl, rfl⟩
  simp

abbrev intL (l : List Nat) : List Value := l.map fun (x : Nat) => Value.int .i64 (x : Int)
theorem setList_spec {m : Nat} (hm10 : m < 1024) {H : Heap} (hG : Gl H) : AFun Tryd.prog 73 [bitsV m] H (fun r B => OwnSl B H.next r (intL (bitsL m)) ∧ Ge H B) := by
  refine AFun.mk ok73 hm (Nat.le_of_ble_eq_true rfl) ?_
  simp [a73, r73]
  refine floop_intro (fun z => z.d = [] ∧ Ge H z.H ∧ ∃ q done, q < 1024 ∧ z.t 4 = bitsV q ∧ done ++ bitsL q = bitsL m ∧ OwnSl z.H H.next (z.t 3) (intL done)) (fun z => (intOf (z.t 4)).toNat) ?_ ?_
  · refine ⟨rfl, by simp, m, [], hm10, by simp, by simp, .inr ⟨H.next, 0, 0, by simp, Nat.le_refl _, by simp, by simp, by simp, by simp⟩⟩
  rintro ⟨t, _, A⟩ ⟨rfl, g, q, done, hq, t4, hdone, o3⟩
  dsimp only at g t4 o3
  generalize t3 : t 3 = v3 at o3
  simp [t4]
  by_cases h0 : q = 0
  · subst h0
    rw [bits_zero, List.append_nil] at hdone
    subst hdone
    simp [t3]
    exact ⟨o3, g⟩
  obtain ⟨_, f2, f3, f4⟩ := low_facts h0 hq
  have hl10 : (bitsL m).length ≤ 10 := by
    have := List.length_filter_le (fun x => m.testBit x) (List.range' 0 10)
    simpa [bitsL, bitsFrom] using this
  have hz : ¬ (q : Int) = 0 := by omega
  simp [h0, t4]
  refine fcall_fun (tz_spec h0 hq (hG.ge g)) ?_
  rintro _ B ⟨rfl, hB⟩
  subst hB
  simp [t3]
  have gn := g.next
  have hlen : done.length ≤ 10 := by rw [← hdone] at hl10; simp at hl10; omega
  refine fapp_own (x := .int .i64 (low q)) (o3.ge (Ge.new _ _)) (slCells_new (rw := true) (c := 1) (by simp)) rfl (by simp; omega) (by omega) (by simp) (by omega) (by simp; omega) fun u3 C k3 k4 k5 k6 => ?_
  have h3n : ∀ m, slName v3 = some m → H.next ≤ m := fun m hm => (o3.names hm).1
  have gC : Ge H C := ⟨by omega, fun n hn => by
    have f3 : n ≠ B.next := by omega
    rw [k6 n (by omega) (fun e => by have := h3n n e; omega)]; simp [f3, g.get n hn]⟩
  simp [t4]
  refine fcall_fun (lowest_spec h0 hq _) ?_
  rintro _ B ⟨rfl, hB⟩
  subst hB
  simp
  rw [aval_diff (a := q) (b := 2 ^ low q) (by simp) (by simp) (by decide) (by decide) (by omega) (Nat.pow_lt_pow_right (by omega) (by omega))]
  simp [t4]
  refine ⟨⟨gC, diffN q (2 ^ low q), by omega, rfl, done ++ [low q], by rw [List.append_assoc, ← hdone, f3]; rfl, ?_⟩, f4⟩
  have : intL (done ++ [low q]) = intL done ++ [.int .i64 (low q)] := by simp
  rw [this]; exact k3

end Go.Proofs.YtllkhaabcfnlpaaDoor

/-
  All duties that pass a test, the legal ones among them, and the segments that are barred.
-/
namespace Go.Proofs.YtllkhaabcfnlpaaDoor
open Go Go.Ab

theorem sub_bits {a : Nat} {z : Int} (hz : z = 1) (h0 : 1 ≤ a) (h : a < 2 ^ 64) : binI BinOp.sub (bitsV a) (.int .u64 z) = some (bitsV (a - 1)) := by
  have e : binI BinOp.sub (bitsV a) (.int .u64 z) = some (.int .u64 (IntKind.u64.wrap ((a : Int) - z))) := rfl
  have e2 : (a : Int) - z = ((a - 1 : Nat) : Int) := by omega
  rw [e, e2, wrap_u64 (by omega)]
theorem add_bits {a : Nat} {z : Int} (hz : z = 1) (h : a + 1 < 2 ^ 64) : binI BinOp.add (bitsV a) (.int .u64 z) = some (bitsV (a + 1)) := by
  have e : binI BinOp.add (bitsV a) (.int .u64 z) = some (.int .u64 (IntKind.u64.wrap ((a : Int) + z))) := rfl
  have e2 : (a : Int) + z = ((a + 1 : Nat) : Int) := by omega
  rw [e, e2, wrap_u64 h]

abbrev segN (D : Dy) : Nat := (segPs D).length
theorem segN_le {D : Dy} (hV : Valid D) : segN D ≤ 10 := by have := hV.segs; rw [← segPs_length] at this; exact this
theorem pow_segN {D : Dy} (hV : Valid D) : 1 ≤ 2 ^ segN D ∧ 2 ^ segN D ≤ 1024 := ⟨Nat.one_le_two_pow, Nat.pow_le_pow_right (n := 2) (by omega) (segN_le hV)⟩

section
variable {D : Dy} {K : List (List (Int × Int))} {b w s k q : Value} {H : Heap}
theorem all_spec (hP : PlanAt H b w s k q D K) (hV : Valid D) : AFun Tryd.prog 98 [planV D b w s k q] H (fun r B => r = bitsV (2 ^ segN D - 1) ∧ Ge H B) := by
  refine AFun.mk ok98 hm (Nat.le_of_ble_eq_true rfl) ?_
  have hb := hP.day.blocks.one
  have hw := hP.day.walk.one
  have hs := hP.segs.one
  have hk := hP.known.one
  have hq : one q = true := SlR.one hP.quest
  have h10 := segN_le hV
  obtain ⟨hp1, hp2⟩ := pow_segN hV
  simp [a98, r98, hb, hw, hs, hk, hq, hP.segs.lenV]
  refine fcall_fun (setOf_spec (segN D) (by omega) _) ?_
  rintro _ _ ⟨rfl, rfl⟩
  simp [sub_bits rfl hp1 (by omega)]

/-- The sets that pass. -/
def passL (p : Nat → Bool) (i : Nat) : List Nat := (List.range' 1 (i - 1)).filter p
theorem passL_step {p : Nat → Bool} {i : Nat} (h : 1 ≤ i) : passL p (i + 1) = if p i then passL p i ++ [i] else passL p i := by
  unfold passL
  obtain ⟨j, rfl⟩ : ∃ j, i = j + 1 := ⟨i - 1, by omega⟩
  simp only [Nat.add_sub_cancel]
  rw [List.range'_concat, List.filter_append]
  rw [show 1 + 1 * j = j + 1 by omega]
  cases hp : p (j + 1) <;> simp [hp]
theorem passL_length {p : Nat → Bool} {i : Nat} : (passL p i).length ≤ i := by
  unfold passL
  have := List.length_filter_le p (List.range' 1 (i - 1))
  simp at this
  omega
theorem passL_mem {p : Nat → Bool} {i d : Nat} : d ∈ passL p i ↔ (1 ≤ d ∧ d < i) ∧ p d = true := by
  unfold passL
  rw [List.mem_filter, List.mem_range']
  constructor
  · rintro ⟨⟨j, h1, rfl⟩, h2⟩; exact ⟨by omega, h2⟩
  · rintro ⟨h1, h2⟩; exact ⟨⟨d - 1, by omega, by omega⟩, h2⟩

theorem dutiesThat_spec {p : Nat → Bool} {pv : Value} (hP : PlanAt H b w s k q D K) (hV : Valid D) (hp : ∀ A m, Ge H A → m ≠ 0 → m < 2 ^ segN D → ACall Tryd.prog pv [bitsV m] A (fun r B => r = .bool (p m) ∧ Ge A B)) :
    AFun Tryd.prog 119 [planV D b w s k q, pv] H (fun r B => OwnSl B H.next r ((passL p (2 ^ segN D)).map bitsV) ∧ Ge H B) := by
  refine AFun.mk ok119 hm (Nat.le_of_ble_eq_true rfl) ?_
  have hb := hP.day.blocks.one
  have hw := hP.day.walk.one
  have hs := hP.segs.one
  have hk := hP.known.one
  have hq : one q = true := SlR.one hP.quest
  obtain ⟨hp1, hp2⟩ := pow_segN hV
  simp [a119, r119, hb, hw, hs, hk, hq]
  refine floop_intro (fun z => z.d = [] ∧ Ge H z.H ∧ H.next < z.H.next ∧ z.t 1 = pv ∧ z.t 2 = .pointer (some ⟨H.next, 0, none⟩) ∧ z.H.get H.next = .cells true (planV D b w s k q).cells.toList 13 ∧ ∃ i : Nat, 1 ≤ i ∧ i ≤ 2 ^ segN D ∧ z.t 6 = bitsV i ∧ OwnSl z.H (H.next + 1) (z.t 5) ((passL p i).map bitsV)) (fun z => 2 ^ segN D - (intOf (z.t 6)).toNat) ?_ ?_
  · exact ⟨rfl, by simp, by simp, by simp, by simp, by simp [Value.cells], 1, by omega, hp1, by simp, .inl ⟨by simp, by simp [passL]⟩⟩
  rintro ⟨t, _, A⟩ ⟨rfl, g, hn, t1, t2, kd, i, hi1, hi, t6, o5⟩
  dsimp only at g hn t1 t2 kd t6 o5
  simp [Value.cells] at kd
  generalize t5 : t 5 = v5 at o5
  simp [t1, t2, t6, kd]
  refine fcall_fun (all_spec (hP.ge g) hV) ?_
  rintro _ A1 ⟨rfl, gA⟩
  have g1 := gA
  have n1 := g1.next
  simp [t6]
  by_cases hc : i ≤ 2 ^ segN D - 1
  case neg =>
    have e : i = 2 ^ segN D := by omega
    subst e
    simp [hc, t5]
    exact ⟨(o5.ge gA).lower (by omega), g.trans gA⟩
  simp [hc, t1, t6]
  refine fcall_intro ((hp A1 i (g.trans gA) (by omega) (by omega)).mono ?_)
  rintro _ A2 ⟨rfl, g2⟩
  have G2 := gA.trans g2
  have n2 := g2.next
  have kd2 := G2.got hn kd
  have hstep := passL_step (p := p) hi1
  have hadd := add_bits (a := i) (z := 1) rfl (by omega)
  cases hpi : p i
  · simp [t6, hadd]
    rw [hpi] at hstep
    simp only [Bool.false_eq_true, if_false] at hstep
    exact ⟨⟨g.trans G2, by omega, t1, t2, by simpa [Value.cells] using kd2, i + 1, by omega, by omega, rfl, by rw [hstep, t5]; exact o5.ge G2⟩, by omega⟩
  · rw [hpi] at hstep
    simp only [if_true] at hstep
    simp [t5, t6]
    have hlen := passL_length (p := p) (i := i)
    refine fapp_own (lo := H.next + 1) (x := bitsV i) ((o5.ge G2).ge (Ge.new _ _)) (slCells_new (rw := true) (c := 1) (by simp)) rfl (by simp; omega) (by omega) (by simp) (by omega) (by simp; omega) fun u3 C k3 k4 k5 k6 => ?_
    have h5n : ∀ m, slName v5 = some m → H.next + 1 ≤ m := fun m hm => (o5.names hm).1
    have gC : Ge H C := ⟨by have := g.next; omega, fun n hn => by
      have f0 := g.next
      have f3 : n ≠ A2.next := by omega
      rw [k6 n (by omega) (fun e => by have := h5n n e; omega)]; simp [f3]
      rw [G2.get n (by omega)]; exact g.get n hn⟩
    have kC : C.get H.next = A2.get H.next := (k6 H.next (by omega) (fun e => by have := h5n _ e; omega)).trans (by rw [Heap.new_get, if_neg (by omega)])
    simp [t6, hadd]
    refine ⟨⟨gC, by omega, t1, t2, by simpa [Value.cells] using kC.trans kd2, i + 1, by omega, by omega, rfl, ?_⟩, by omega⟩
    rw [hstep, List.map_append]
    exact k3

/-- Is a set of segments a legal duty? -/
def legalN (D : Dy) (K : List (List (Int × Int))) (m : Nat) : Bool := legalB D K (piecesL D m)
def legalL (D : Dy) (K : List (List (Int × Int))) : List Nat := passL (legalN D K) (2 ^ segN D)

theorem legalDuties_spec (hP : PlanAt H b w s k q D K) (hV : Valid D) (hK : KOk D K) :
    AFun Tryd.prog 99 [planV D b w s k q] H (fun r B => OwnSl B H.next r ((legalL D K).map bitsV) ∧ Ge H B) := by
  refine AFun.mk ok99 hm (Nat.le_of_ble_eq_true rfl) ?_
  have hb := hP.day.blocks.one
  have hw := hP.day.walk.one
  have hs := hP.segs.one
  have hk := hP.known.one
  have hq : one q = true := SlR.one hP.quest
  simp [a99, r99, hb, hw, hs, hk, hq]
  have G0 : Ge H (H.new (.cells true (planCells D b w s k q) 13)) := Ge.new _ _
  refine fcall_fun (dutiesThat_spec (p := legalN D K) (hP.ge G0) hV fun A m gA h0 hlt => ?_) ?_
  · refine ACall.of_fun ?_
    exact isLegal_spec (hP.ge (G0.trans gA)) hV hK hlt h0
  rintro r B ⟨o, g⟩
  simp
  exact ⟨o.lower (by simp), G0.trans g⟩

/-- The segments that no set of a list has. -/
def barM (n : Nat) (L : List Nat) : Nat := L.foldl diffN (2 ^ n - 1)
theorem bar_lt {L : List Nat} : ∀ {n m : Nat}, m < 2 ^ n → L.foldl diffN m < 2 ^ n := by
  induction L with
  | nil => exact fun h => h
  | cons x L ih => exact fun h => ih (diff_lt h)
theorem bar_bit {L : List Nat} : ∀ {m i : Nat}, (L.foldl diffN m).testBit i = (m.testBit i && !L.any fun d => d.testBit i) := by
  induction L with
  | nil => simp
  | cons x L ih =>
    intro m i
    rw [List.foldl_cons, ih, testBit_diff, List.any_cons]
    cases m.testBit i <;> cases x.testBit i <;> simp
theorem barM_bit {n i : Nat} {L : List Nat} : (barM n L).testBit i = (decide (i < n) && !L.any fun d => d.testBit i) := by
  unfold barM
  rw [bar_bit, Nat.testBit_two_pow_sub_one]

theorem barred_spec (hP : PlanAt H b w s k q D K) (hV : Valid D) (hK : KOk D K) :
    AFun Tryd.prog 72 [planV D b w s k q] H (fun r B => r = bitsV (barM (segN D) (legalL D K)) ∧ Ge H B) := by
  refine AFun.mk ok72 hm (Nat.le_of_ble_eq_true rfl) ?_
  have hb := hP.day.blocks.one
  have hw := hP.day.walk.one
  have hs := hP.segs.one
  have hk := hP.known.one
  have hq : one q = true := SlR.one hP.quest
  obtain ⟨hp1, hp2⟩ := pow_segN hV
  simp [a72, r72, hb, hw, hs, hk, hq]
  have G0 : Ge H (H.new (.cells true (planCells D b w s k q) 13)) := Ge.new _ _
  refine fcall_fun (all_spec (hP.ge G0) hV) ?_
  rintro _ H1 ⟨rfl, g1⟩
  have G1 := G0.trans g1
  have k1 := g1.got (n := H.next) (by simp) rfl
  simp at k1
  have n1 := g1.next
  simp at n1
  simp [k1]
  refine fcall_fun (legalDuties_spec (hP.ge G1) hV hK) ?_
  rintro v9 H2 ⟨o9, g2⟩
  have G2 := G1.trans g2
  have hlen := passL_length (p := legalN D K) (i := 2 ^ segN D)
  have hsl := o9.slr
  have hlenV : lenV v9 = some (.int .i64 (legalL D K).length) := by have := o9.lenV; simpa using this
  generalize hL : legalL D K = L at *
  have hll : L.length ≤ 1024 := by rw [← hL]; exact Nat.le_trans hlen hp2
  simp [hlenV]
  refine floop_intro (fun z => z.d = [] ∧ z.H = H2 ∧ z.t 9 = v9 ∧ z.t 10 = .int .i64 L.length ∧ ∃ i : Nat, i ≤ L.length ∧ z.t 11 = .int .i64 i ∧ z.t 3 = bitsV ((L.take i).foldl diffN (2 ^ segN D - 1))) (fun z => L.length - (intOf (z.t 11)).toNat) ?_ ?_
  · exact ⟨rfl, by simp, by simp, by simp, 0, by omega, by simp, by simp⟩
  rintro ⟨t, _, A⟩ ⟨rfl, rfl, t9, t10, i, hi, t11, t3⟩
  dsimp only at t9 t10 t11 t3
  simp [t10, t11]
  refine fcond_intro (fun hc => ?_) (fun hc => ?_)
  case refine_2 =>
    have : i = L.length := by simp at hc; omega
    subst this
    simp [t3, barM]
    exact G2
  have h1 : i < L.length := by simpa using hc
  obtain ⟨p, e1, e2⟩ := hsl.at1 (k := .i64) (i := i) (by simpa using h1)
  have e3 : (L.map bitsV)[i]? = some (bitsV L[i]) := by simp [h1]
  rw [e3] at e2
  have hm64 : (L.take i).foldl diffN (2 ^ segN D - 1) < 2 ^ 64 := Nat.lt_of_lt_of_le (bar_lt (n := segN D) (by omega)) (by have := Nat.pow_le_pow_right (n := 2) (by omega) (segN_le hV); omega)
  have hd64 : L[i] < 2 ^ 64 := by
    have : L[i] ∈ legalL D K := by rw [hL]; exact List.getElem_mem h1
    have := (passL_mem.1 this).1.2
    omega
  simp [t9, t11, e1, e2, t3]
  rw [aval_diff (a := (L.take i).foldl diffN (2 ^ segN D - 1)) (b := L[i]) (by simp) (by simp) (by decide) (by decide) hm64 hd64]
  simp [t11, add_in (x := i) (y := 1) (by omega) (by omega)]
  refine ⟨⟨t9, t10, i + 1, by omega, by omega, ?_⟩, by omega⟩
  rw [List.take_succ_eq_append_getElem h1, List.foldl_append]
  rfl
end

/-- The answer of Barred. -/
def barE (D : Dy) : Int := if checkD D = 0 then (if barM (segN D) (legalL D (known0 D)) = 0 then 7 else 0) else checkD D
def barL (D : Dy) : List Nat := if barE D = 0 then bitsL (barM (segN D) (legalL D (known0 D))) else []
theorem barredF_spec {D : Dy} {b w : Value} {H : Heap} (h : DayAt H b w D) (hT : D.Thin) (hG : Gl H) :
    AFun Tryd.prog 38 [dayV D b w] H (fun r B => ∃ v, r = .tuple #[v, .int .i64 (barE D)] ∧ OwnSl B H.next v (intL (barL D)) ∧ Ge H B) := by
  refine AFun.mk ok38 hm (Nat.le_of_ble_eq_true rfl) ?_
  have hb := h.blocks.one
  have hw := h.walk.one
  simp [a38, r38, hb, hw]
  refine fcall_fun (checkDay_spec (h.ge (by simp)) hT) ?_
  rintro _ H1 ⟨rfl, g1⟩
  have G1 : Ge H H1 := Ge.trans (by simp) g1
  have k1 := g1.got (n := H.next) (by simp) rfl
  have n1 := g1.next
  simp at k1 n1
  by_cases hc : checkD D = 0
  case neg =>
    have he : barE D = checkD D := by simp [barE, hc]
    have hl : barL D = [] := by simp [barL, he, hc]
    simp [hc, he, hl]
    exact ⟨.inl ⟨rfl, rfl⟩, G1⟩
  have hV := valid_of hc
  simp [hc, k1]
  refine fcall_fun (newPlanned_spec (h.ge G1) hV) ?_
  rintro _ H2 ⟨s, k, q, rfl, hO, g2⟩
  have G2 := G1.trans g2
  have hP : PlanAt H2 b w s k q D (known0 D) := hO.at (h.ge G2)
  simp
  refine fcall_fun (barred_spec hP hV (known0_ok hV)) ?_
  rintro _ H3 ⟨rfl, g3⟩
  have G3 := G2.trans g3
  have hm10 : barM (segN D) (legalL D (known0 D)) < 1024 := Nat.lt_of_lt_of_le (bar_lt (n := segN D) (by have := pow_segN hV; omega)) (pow_segN hV).2
  by_cases h0 : barM (segN D) (legalL D (known0 D)) = 0
  · have he : barE D = 7 := by simp [barE, hc, h0]
    have hl : barL D = [] := by simp [barL, he]
    simp [h0, he, hl]
    exact ⟨.inl ⟨rfl, rfl⟩, G3⟩
  have he : barE D = 0 := by simp [barE, hc, h0]
  have hl : barL D = bitsL (barM (segN D) (legalL D (known0 D))) := by simp [barL, he]
  simp [h0, he, hl]
  refine fcall_fun (setList_spec hm10 (hG.ge G3)) ?_
  rintro v H4 ⟨o4, g4⟩
  simp
  exact ⟨v, ⟨rfl, he.symm⟩, by rw [hl]; exact o4.lower G3.next, G3.trans g4⟩

end Go.Proofs.YtllkhaabcfnlpaaDoor

/-
  The reference's list of all duties.
-/
namespace Go.Proofs.YtllkhaabcfnlpaaDoor
open Go Go.Ab

section
variable {P : Program} {t : Nat → Value} {H : Heap} {N x y : Nat} {d : Option Tmp} {T U ty : TypeId} {pos : String} {af : Array Edge} {g : Option (Nat × Bool)}
theorem wrap_i64n {p : Nat} (h : p < 2 ^ 62) : IntKind.i64.wrap (p : Int) = (p : Int) := wrap_i64 (by omega) (by omega)
theorem wrap_i64p {s : Nat} (hs : s < 62) : IntKind.i64.wrap ((2 ^ s : Nat) : Int) = ((2 ^ s : Nat) : Int) := wrap_i64n (Nat.pow_lt_pow_right (by omega) hs)
theorem aval_shlI {s : Nat} (hx : t x = .int .u64 (s : Int)) (h1 : x < N) (hs : s < 62) :
    aval P t H (.gen N ⟨d, .binOp .shl T (.const (.int .i64 1)) (.tmp x) U, ty, pos, af, g⟩) = some (.int .i64 ((2 ^ s : Nat) : Int)) := by
  refine aval_gen ?_ rfl fun w => ?_
  · simp [Op.operands, flatO, hx, h1, flat, flat1]
  · have e : IntKind.i64.wrap (2 ^ s : Int) = ((2 ^ s : Nat) : Int) := by
      rw [← wrap_i64p hs]; push_cast; rfl
    have e2 : min s IntKind.i64.bits = s := by simp [IntKind.bits]; omega
    simp [execOp, evO, hx, eqGuard, binOp, Op.shift, e2, e]
theorem aval_shrI {m s : Nat} (hx : t x = .int .i64 (m : Int)) (hy : t y = .int .u64 (s : Int)) (h1 : x < N) (h2 : y < N) (hs : s < 62) :
    aval P t H (.gen N ⟨d, .binOp .shr T (.tmp x) (.tmp y) U, ty, pos, af, g⟩) = some (.int .i64 ((m / 2 ^ s : Nat) : Int)) := by
  refine aval_gen ?_ rfl fun w => ?_
  · simp [Op.operands, flatO, hx, hy, h1, h2, flat, flat1]
  · have e2 : min s IntKind.i64.bits = s := by simp [IntKind.bits]; omega
    simp [execOp, evO, hx, hy, eqGuard, binOp, Op.shift, e2]
end

theorem rem_two {q : Nat} : binI BinOp.rem (.int .i64 (q : Int)) (.int .i64 2) = some (.int .i64 ((q % 2 : Nat) : Int)) := by
  have e : binI BinOp.rem (.int .i64 (q : Int)) (.int .i64 2) = some (.int .i64 ((q : Int).tmod 2)) := rfl
  have e2 : ((q : Int).tmod 2) = ((q % 2 : Nat) : Int) := (Int.ofNat_tmod q 2).symm
  rw [e, e2]

/-- Segments as the program's numbers. -/
def bitsI (l : List Nat) : List Int := l.map fun (x : Nat) => (x : Int)
/-- The segments of a set, among so many. -/
def setR (n m : Nat) : List Int := bitsI (bitsFrom n m 0)
theorem bitsUp {m j : Nat} : bitsFrom (j + 1) m 0 = if m.testBit j then bitsFrom j m 0 ++ [j] else bitsFrom j m 0 := by
  unfold bitsFrom
  simp only [Nat.sub_zero]
  rw [List.range'_concat, List.filter_append]
  simp only [Nat.zero_add, Nat.one_mul]
  cases hp : m.testBit j <;> simp [hp]
theorem setR_step {m j : Nat} : setR (j + 1) m = if m.testBit j then setR j m ++ [(j : Int)] else setR j m := by
  unfold setR
  rw [bitsUp]
  cases hp : m.testBit j <;> simp [bitsI]
theorem setR_length {n m : Nat} : (setR n m).length ≤ n := by
  have := List.length_filter_le (fun x => m.testBit x) (List.range' 0 (n - 0))
  simpa [setR, bitsI, bitsFrom] using this
/-- The duties before one, as the reference has them. -/
def dutiesR (n i : Nat) : List (List Int) := (List.range' 1 (i - 1)).map (setR n)
theorem dutiesR_step {n i : Nat} (h : 1 ≤ i) : dutiesR n (i + 1) = dutiesR n i ++ [setR n i] := by
  unfold dutiesR
  obtain ⟨j, rfl⟩ : ∃ j, i = j + 1 := ⟨i - 1, by omega⟩
  simp only [Nat.add_sub_cancel]
  rw [List.range'_concat, List.map_append, show 1 + 1 * j = j + 1 by omega]
  rfl
theorem dutiesR_length {n i : Nat} : (dutiesR n i).length = i - 1 := by simp [dutiesR]

theorem duties_spec {D : Dy} {b w : Value} {H : Heap} (h : DayAt H b w D) (hT : D.Thin) (hV : Valid D) : AFun Tryd.prog 74 [dayV D b w] H (fun r B => RowsAt B r (dutiesR (segN D) (2 ^ segN D)) ∧ Ge H B) := by
  refine AFun.mk ok74 hm (Nat.le_of_ble_eq_true rfl) ?_
  have hb := h.blocks.one
  have hw := h.walk.one
  have h10 := segN_le hV
  obtain ⟨hp1, hp2⟩ := pow_segN hV
  simp [a74, r74, hb, hw]
  refine fcall_fun (segments_spec (h.ge (by simp)) hT) ?_
  rintro _ H1 ⟨rfl, g1⟩
  have G1 : Ge H H1 := Ge.trans (by simp) g1
  have n1 := g1.next
  simp at n1
  have hseg : segsOf D.blocks = segN D := segPs_length.symm
  rw [hseg]
  clear hseg
  generalize segN D = n at *
  have hpow : ((2 ^ n : Nat) : Int) = (2 : Int) ^ n := by push_cast; rfl
  simp
  refine floop_intro (fun z => z.d = [] ∧ Ge H z.H ∧ H.next + 1 ≤ z.H.next ∧ z.t 4 = .int .i64 (n : Int) ∧ ∃ i : Nat, 1 ≤ i ∧ i ≤ 2 ^ n ∧ z.t 5 = .int .i64 (i : Int) ∧ RowsG 1 iCell z.H (H.next + 1) (fun _ => False) (z.t 3) (dutiesR n i)) (fun z => 2 ^ n - (intOf (z.t 5)).toNat) ?_ ?_
  · exact ⟨rfl, G1, by omega, by simp, 1, by omega, hp1, by simp, RowsG.nil (by simp)⟩
  rintro ⟨t, _, A⟩ ⟨rfl, g, hn, t4, i, hi1, hi, t5, hR⟩
  dsimp only at g hn t4 t5 hR
  generalize t3 : t 3 = v3 at hR
  have hw64 : IntKind.u64.wrap (n : Int) = (n : Int) := wrap_u64 (by omega)
  simp [t4, t5, hw64]
  rw [aval_shlI (s := n) (by simp) (by decide) (by omega)]
  simp
  refine fcond_intro (fun hc => ?_) (fun hc => ?_)
  case refine_2 =>
    have : i = 2 ^ n := by simp at hc; omega
    subst this
    simp [t3]
    exact ⟨rows_done hR (by rw [dutiesR_length]; omega) fun r hr => by
      obtain ⟨m, _, rfl⟩ := List.mem_map.1 hr
      have := setR_length (n := n) (m := m); omega, g⟩
  have hi' : i < 2 ^ n := by simp at hc; omega
  simp
  refine floop_intro (fun z => z.d = [] ∧ Ge H z.H ∧ H.next + 1 ≤ z.H.next ∧ z.t 4 = .int .i64 (n : Int) ∧ z.t 5 = .int .i64 (i : Int) ∧ z.t 3 = v3 ∧ ∃ j : Nat, j ≤ n ∧ z.t 7 = .int .i64 (j : Int) ∧ OwnS z.H (H.next + 1) 1 (z.t 6) (setR j i).length ((setR j i).flatMap iCell) ∧ RowsG 1 iCell z.H (H.next + 1) (fun m => slName (z.t 6) = some m) v3 (dutiesR n i)) (fun z => n - (intOf (z.t 7)).toNat) ?_ ?_
  · exact ⟨rfl, g, hn, by simp [t4], by simp [t5], by simp [t3], 0, by omega, by simp, .inl ⟨by simp, rfl, rfl⟩, hR.keep (Nat.le_refl _) (fun _ _ _ _ => rfl) (fun m _ hm => by simp [slName] at hm)⟩
  have t5o := t5
  clear t4 t5 t3 hR g hn hc
  rintro ⟨t, _, A⟩ ⟨rfl, g, hn, t4, t5, t3, j, hj, t7, o6, hR⟩
  dsimp only at g hn t4 t5 t3 t7 o6 hR
  generalize t6 : t 6 = v6 at o6 hR
  simp [t4, t5, t7]
  refine fcond_intro (fun hc => ?_) (fun hc => ?_)
  case refine_2 =>
    have : j = n := by simp at hc; omega
    subst this
    have hv6 := o6.one
    simp [t3, t6, hv6, one_cells]
    have hR1 := hR.keep (B := A.new (.cells true [v6] 1)) (X' := fun m => slName v6 = some m) (by simp) (fun n _ h2 _ => by simp [Nat.ne_of_lt h2]) (fun m _ hm => hm)
    have hlr := setR_length (n := j) (m := i)
    refine hR1.push (r := setR j i) (x := v6) (X' := fun _ => False) (o6.ge (Ge.new _ _)) (fun m hm => ⟨fun e => hR1.own m e hm, fun hf => hf⟩) (fun m hm => hm.elim) (slCells_new (rw := true) (c := 1) (by simp)) (by rw [dutiesR_length]; omega) (by simp) (by omega) (by simp; omega) fun u' B k1 k2 k3 k4 => ?_
    have h3 : ∀ m, slName v3 = some m → H.next + 1 ≤ m := fun m hm => (hR.names hm).1
    have gB : Ge H B := ⟨by have := g.next; omega, fun n hn2 => by
      have f1 : n ≠ A.next := by have := g.next; omega
      rw [k4 n (by have := g.next; omega) (fun e => by have := h3 n e; omega)]; simp [f1, g.get n hn2]⟩
    simp [t5, add_in (x := i) (y := 1) (by omega) (by omega)]
    refine ⟨⟨gB, by omega, t4, i + 1, by omega, by omega, by omega, by rw [dutiesR_step hi1]; exact k1⟩, by rw [t5o]; simp; omega⟩
  have hj' : j < n := by simp at hc; omega
  have hw64 : IntKind.u64.wrap (j : Int) = (j : Int) := wrap_u64 (by omega)
  simp [t5, t7, hw64]
  have hstep := setR_step (m := i) (j := j)
  have hbit : i.testBit j = decide (i / 2 ^ j % 2 = 1) := Nat.testBit_eq_decide_div_mod_eq
  obtain ⟨q, hq⟩ : ∃ q, i / 2 ^ j = q := ⟨_, rfl⟩
  rw [hq] at hbit
  have hmod : q % 2 = 0 ∨ q % 2 = 1 := by omega
  rw [aval_shrI (m := i) (s := j) (by simp) (by simp) (by decide) (by decide) (by omega), hq]
  simp [rem_two]
  rcases hmod with h0 | h1
  · have hb0 : i.testBit j = false := by rw [hbit, h0]; rfl
    have hc0 : ¬ (q : Int) % 2 = 1 := by omega
    simp [hc0, t7, add_in (x := j) (y := 1) (by omega) (by omega)]
    rw [hb0] at hstep
    simp only [Bool.false_eq_true, if_false] at hstep
    refine ⟨⟨g, hn, t4, t5, t3, j + 1, by omega, rfl, by rw [hstep, t6]; exact o6, by rw [t6]; exact hR⟩, by omega⟩
  · have hb1 : i.testBit j = true := by rw [hbit, h1]; rfl
    rw [hb1] at hstep
    simp only [if_true] at hstep
    have hc1 : (q : Int) % 2 = 1 := by omega
    simp [hc1, t6, t7]
    have hlen := setR_length (n := j) (m := i)
    have g2 := Ge.new A (.cells true [.int .i64 (j : Int)] 1)
    refine fapp_ownS (lo := H.next + 1) (xs := [.int .i64 (j : Int)]) (o6.ge g2) (by simp [slCells, rdL]) rfl (by simp) (by omega) (by omega) (by simp) (by omega) (by simp; omega) fun u5 B k1 k2 k3 k4 => ?_
    have hcs : (setR j i).flatMap iCell ++ [.int .i64 (j : Int)] = (setR (j + 1) i).flatMap iCell := by
      rw [hstep, List.flatMap_append]; rfl
    rw [hcs] at k1
    have h6n : ∀ m, slName v6 = some m → H.next + 1 ≤ m := fun m hm => (o6.names hm).1
    have gB : Ge H B := ⟨by have := g.next; omega, fun n hn2 => by
      have f0 := g.next
      have f1 : n ≠ A.next := by omega
      rw [k4 n (by omega) (fun e => by have := h6n n e; omega)]; simp [f1]
      exact g.get n hn2⟩
    simp [t7, add_in (x := j) (y := 1) (by omega) (by omega)]
    refine ⟨⟨gB, by omega, t4, t5, t3, j + 1, by omega, by omega, by rw [hstep] at *; simpa using k1, ?_⟩, by omega⟩
    refine hR.keep (by omega) (fun n h1 h2 h3 => ?_) fun m hm hx => ?_
    · have f1 : n ≠ A.next := by omega
      rw [k4 n (by omega) h3]; simp [f1]
    · rw [k2] at hx; cases hx; omega

end Go.Proofs.YtllkhaabcfnlpaaDoor

/-
  The reference's list of legal duties; what a list has.
-/
namespace Go.Proofs.YtllkhaabcfnlpaaDoor
open Go Go.Ab

theorem has40_spec {H : Heap} {v : Value} {xs : List Int} {x : Int} (hv : IntsAt H v xs) : AFun Tryd.prog 40 [v, .int .i64 x] H (fun r H' => r = .bool (decide (x ∈ xs)) ∧ H' = H) := by
  refine AFun.mk ok40 hm (Nat.le_of_ble_eq_true rfl) ?_
  simp [a40, r40]
  refine floop_intro (fun s => s.d = [] ∧ s.H = H ∧ s.t 0 = v ∧ s.t 1 = .int .i64 x ∧ ∃ i : Nat, i ≤ xs.length ∧ s.t 5 = .int .i64 i ∧ x ∉ xs.take i) (fun s => xs.length - (intOf (s.t 5)).toNat) ?_ ?_
  · exact ⟨rfl, rfl, by simp, by simp, 0, by simp, by simp, by simp⟩
  · rintro ⟨t, _, _⟩ ⟨rfl, rfl, h0, h1, i, hi, h5, hn⟩
    dsimp only at h0 h1 h5 hv
    have h62 := hv.2
    simp [h0, h5, hv.lenV]
    refine fcond_intro (fun hc => ?_) (fun hc => ?_)
    · have hi' : i < xs.length := by simpa using hc
      obtain ⟨p, e1, e2⟩ := hv.at hi'
      simp [h0, h1, h5, e1, e2]
      refine fcond_intro (fun hx => ?_) (fun hx => ?_)
      · have hx' : xs[i] = x := by simpa using hx
        simp
        rw [← hx']; exact List.getElem_mem hi'
      · have hx' : xs[i] ≠ x := by simpa using hx
        simp [h5, add_in (x := i) (y := 1) (by omega) (by omega)]
        refine ⟨⟨h0, h1, i + 1, by omega, by omega, ?_⟩, by omega⟩
        rw [List.take_succ_eq_append_getElem hi']
        simp only [List.mem_append, List.mem_singleton, hn, Ne.symm hx', or_self, not_false_eq_true]
    · have : xs.length ≤ i := by simpa using hc
      simpa [List.take_of_length_le this] using hn

theorem setR_mem {n m : Nat} {x : Int} : x ∈ setR n m ↔ ∃ s : Nat, x = (s : Int) ∧ s < n ∧ m.testBit s = true := by
  unfold setR bitsI
  rw [List.mem_map]
  constructor
  · rintro ⟨s, hs, rfl⟩; exact ⟨s, rfl, bitsFrom_mem.1 hs⟩
  · rintro ⟨s, rfl, hs⟩; exact ⟨s, bitsFrom_mem.2 hs, rfl⟩
theorem setR_has {n m s : Nat} : (s : Int) ∈ setR n m ↔ s < n ∧ m.testBit s = true := by
  rw [setR_mem]
  constructor
  · rintro ⟨s', h, h2⟩
    have : s = s' := by omega
    subst this; exact h2
  · exact fun h => ⟨s, rfl, h⟩
theorem bit_lt {m n i : Nat} (hm : m < 2 ^ n) (hi : m.testBit i = true) : i < n := by
  refine Nat.lt_of_not_le fun hle => ?_
  have : m < 2 ^ i := Nat.lt_of_lt_of_le hm (Nat.pow_le_pow_right (n := 2) (by omega) hle)
  rw [Nat.testBit_lt_two_pow this] at hi
  cases hi
theorem setR_mask {n m : Nat} (h : m < 2 ^ n) : maskL (setR n m) = m := by
  refine Nat.eq_of_testBit_eq fun i => ?_
  rw [maskL_bit, Bool.eq_iff_iff, List.any_eq_true]
  constructor
  · rintro ⟨x, hx, he⟩
    obtain ⟨s, rfl, _, hs⟩ := setR_mem.1 hx
    have : s = i := by simpa using he
    rw [← this]; exact hs
  · intro hi
    exact ⟨(i : Int), setR_has.2 ⟨bit_lt h hi, hi⟩, by simp⟩
theorem rise_duty {n : Nat} {l : List Nat} (h : l.Pairwise (· < ·)) (hb : ∀ x ∈ l, x < n) (h0 : l ≠ []) : isDutyB n (bitsI l) = true := by
  unfold isDutyB riseB
  have hl : (bitsI l).length = l.length := by simp [bitsI]
  rw [Bool.and_eq_true, List.all_eq_true, decide_eq_true_eq]
  refine ⟨fun j hj => ?_, by rw [hl]; exact List.length_pos_iff.2 h0⟩
  rw [List.mem_range, hl] at hj
  have e1 : (bitsI l)[j]?.getD 0 = (l[j] : Int) := by simp [bitsI, hj]
  have hlt := hb l[j] (List.getElem_mem hj)
  unfold riseAt
  rw [e1, Bool.and_eq_true, decide_eq_true_eq, decide_eq_true_eq]
  refine ⟨?_, by omega⟩
  unfold lastAt
  by_cases hj0 : j = 0
  · simp [hj0]
  have hj1 : j - 1 < l.length := by omega
  have e2 : (bitsI l)[j - 1]?.getD 0 = (l[j - 1] : Int) := by simp [bitsI, hj1]
  rw [if_neg hj0, e2]
  have := List.pairwise_iff_getElem.1 h (j - 1) j hj1 hj (by omega)
  omega
theorem setR_duty {n m : Nat} (h0 : m ≠ 0) (h : m < 2 ^ n) : isDutyB n (setR n m) = true := by
  refine rise_duty bitsFrom_rise (fun x hx => (bitsFrom_mem.1 hx).1) fun e => h0 ?_
  refine Nat.eq_of_testBit_eq fun i => ?_
  rw [Nat.zero_testBit]
  cases hi : m.testBit i
  · rfl
  · have := bitsFrom_mem.2 ⟨bit_lt h hi, hi⟩
    rw [e] at this; cases this

/-- The legal duties before one, as the reference has them. -/
def selL (D : Dy) (i : Nat) : List (List Int) := (passL (legalN D (known0 D)) i).map (setR (segN D))
theorem selL_step {D : Dy} {i : Nat} (h : 1 ≤ i) : selL D (i + 1) = if legalN D (known0 D) i then selL D i ++ [setR (segN D) i] else selL D i := by
  unfold selL
  rw [passL_step h]
  cases legalN D (known0 D) i <;> simp
theorem selL_length {D : Dy} {i : Nat} : (selL D i).length ≤ i := by
  have := passL_length (p := legalN D (known0 D)) (i := i)
  simpa [selL] using this

/-- A slice of slices that were there before. -/
theorem own_rows {A B : Heap} {lo : Nat} {v : Value} {vs : List Value} {xs : List (List Int)} (h : OwnSl B lo v vs) (hl : vs.length = xs.length) (h63 : xs.length < 2 ^ 63) (hs : ∀ (i : Nat) (u : Value) (x : List Int), vs[i]? = some u → xs[i]? = some x → IntsAt A u x) (g : Ge A B) : RowsAt B v xs := by
  refine ⟨vs, by rw [← hl]; exact h.slr, h63, fun i hi => ?_⟩
  have hi' : i < vs.length := by omega
  exact ⟨vs[i], List.getElem?_eq_getElem hi', (hs i _ _ (List.getElem?_eq_getElem hi') (List.getElem?_eq_getElem hi)).ge g⟩

theorem legalDutiesR_spec {D : Dy} {b w : Value} {H : Heap} (h : DayAt H b w D) (hT : D.Thin) (hV : Valid D) : AFun Tryd.prog 39 [dayV D b w] H (fun r B => RowsAt B r (selL D (2 ^ segN D)) ∧ Ge H B) := by
  refine AFun.mk ok39 hm (Nat.le_of_ble_eq_true rfl) ?_
  have hb := h.blocks.one
  have hw := h.walk.one
  have h10 := segN_le hV
  obtain ⟨hp1, hp2⟩ := pow_segN hV
  simp [a39, r39, hb, hw]
  refine fcall_fun (duties_spec (h.ge (by simp)) hT hV) ?_
  rintro v4 H1 ⟨hR, g1⟩
  have G1 : Ge H H1 := Ge.trans (by simp) g1
  have n1 := g1.next
  have k1 := g1.got (n := H.next) (by simp) rfl
  simp at n1 k1
  have hlen : (dutiesR (segN D) (2 ^ segN D)).length = 2 ^ segN D - 1 := dutiesR_length
  have hLV := hR.lenV
  rw [hlen] at hLV
  simp
  refine floop_intro (fun z => z.d = [] ∧ Ge H1 z.H ∧ z.t 1 = .pointer (some ⟨H.next, 0, none⟩) ∧ z.t 4 = v4 ∧ ∃ (i : Nat) (vs : List Value), i ≤ 2 ^ segN D - 1 ∧ z.t 5 = .int .i64 (i : Int) ∧ OwnSl z.H H1.next (z.t 3) vs ∧ vs.length = (selL D (i + 1)).length ∧ ∀ (j : Nat) u x, vs[j]? = some u → (selL D (i + 1))[j]? = some x → IntsAt H1 u x) (fun z => 2 ^ segN D - 1 - (intOf (z.t 5)).toNat) ?_ ?_
  · exact ⟨rfl, by simp, by simp, by simp, 0, [], by omega, by simp, .inl ⟨by simp, rfl⟩, by simp [selL, passL], fun j u x h => by simp at h⟩
  rintro ⟨t, _, A⟩ ⟨rfl, g, t1, t4, i, vs, hi, t5, o3, hvl, hvs⟩
  dsimp only at g t1 t4 t5 o3
  generalize t3 : t 3 = v3 at o3
  have hpl := selL_length (D := D) (i := i + 1)
  have hstep := selL_step (D := D) (i := i + 1) (by omega)
  simp [t4, t5, hLV]
  refine fcond_intro (fun hc => ?_) (fun hc => ?_)
  case refine_2 =>
    have : i + 1 = 2 ^ segN D := by simp at hc; omega
    simp [t3]
    rw [this] at hvl hvs
    refine ⟨own_rows o3 hvl ?_ hvs g, G1.trans g⟩
    have := selL_length (D := D) (i := 2 ^ segN D)
    omega
  have hi' : i < 2 ^ segN D - 1 := by simp at hc; omega
  have hid : i < (dutiesR (segN D) (2 ^ segN D)).length := by omega
  have hxi : (dutiesR (segN D) (2 ^ segN D))[i] = setR (segN D) (i + 1) := by simp [dutiesR, Nat.add_comm]
  obtain ⟨p, u, e1, e2, e3⟩ := hR.atAll hid
  rw [hxi] at e3
  have kA := g.got (n := H.next) (by omega) k1
  have nA := g.next
  have g6 : Ge A (⟨A.get, A.next + 6⟩ : Heap) := Ge.grow_le (by omega) (Ge.refl _)
  have e26 := e2 _ (g.trans g6)
  simp [t1, t4, t5, kA, e1, e26]
  have hd := setR_duty (n := segN D) (m := i + 1) (by omega) (by omega)
  have hsl := setR_length (n := segN D) (m := i + 1)
  have hseg : segsOf D.blocks = segN D := segPs_length.symm
  refine fcall_fun (legal24_spec (h.ge (G1.trans (g.trans g6))) hT hV (e3.ge (g.trans g6)) (by rw [hseg]; exact hd) (by omega)) ?_
  rintro _ B ⟨rfl, gB⟩
  have gAB := g6.trans gB
  have hle : legalD D (setR (segN D) (i + 1)) = legalN D (known0 D) (i + 1) := by
    unfold legalD legalN
    rw [setR_mask (by omega)]
  have e2B := e2 _ (g.trans gAB)
  have nB := gB.next
  simp only at nB
  rw [hle]
  cases hpi : legalN D (known0 D) (i + 1)
  · rw [hpi] at hstep
    simp only [Bool.false_eq_true, if_false] at hstep
    simp [t5, e2B, add_in (x := i) (y := 1) (by omega) (by omega)]
    refine ⟨⟨g.trans gAB, t1, t4, i + 1, by omega, by omega, vs, by rw [t3]; exact o3.ge gAB, by rw [hstep]; exact hvl, by rw [hstep]; exact hvs⟩, by omega⟩
  · rw [hpi] at hstep
    simp only [if_true] at hstep
    have hu := IntsAt.one e3
    simp [t3, t4, t5, e1, e2B, hu, one_cells]
    refine fapp_own (lo := H1.next) (x := u) ((o3.ge gAB).ge (Ge.new _ _)) (slCells_new (rw := true) (c := 1) (by simp)) hu (by rw [hvl]; simp; omega) (by omega) (by simp) (by omega) (by simp; omega) fun u3 C k3 k4 k5 k6 => ?_
    have h3n : ∀ m, slName v3 = some m → H1.next ≤ m := fun m hm => (o3.names hm).1
    have gC : Ge H1 C := ⟨by omega, fun n hn => by
      have f3 : n ≠ B.next := by omega
      rw [k6 n (by omega) (fun e => by have := h3n n e; omega)]; simp [f3]
      rw [gAB.get n (by omega)]; exact g.get n hn⟩
    simp [t5, add_in (x := i) (y := 1) (by omega) (by omega)]
    refine ⟨⟨gC, t1, t4, i + 1, by omega, by omega, vs ++ [u], k3, by rw [hstep]; simp; omega, ?_⟩, by omega⟩
    rw [hstep]
    intro j u' x hj hx
    by_cases hjl : j < vs.length
    · rw [List.getElem?_append_left hjl] at hj
      rw [List.getElem?_append_left (by omega)] at hx
      exact hvs j u' x hj hx
    · rw [List.getElem?_append_right (by omega)] at hj
      rw [List.getElem?_append_right (by omega)] at hx
      have : j = vs.length := by
        have := (List.getElem?_eq_some_iff.1 hj).1
        simp at this; omega
      subst this
      rw [hvl] at hx
      simp at hj hx
      subst hj; subst hx
      exact e3

end Go.Proofs.YtllkhaabcfnlpaaDoor

/-
  What DutyBars answers.
-/
namespace Go.Proofs.YtllkhaabcfnlpaaDoor
open Go Go.Ab

/-- The segments that no legal duty has, before one. -/
def freeB (D : Dy) (s : Nat) : Bool := (legalL D (known0 D)).any fun d => d.testBit s
def barR (D : Dy) (i : Nat) : List Nat := (List.range i).filter fun s => !freeB D s
theorem barR_step {D : Dy} {i : Nat} : barR D (i + 1) = if freeB D i then barR D i else barR D i ++ [i] := by
  unfold barR
  rw [List.range_succ, List.filter_append]
  cases hf : freeB D i <;> simp [hf]
theorem barR_length {D : Dy} {i : Nat} : (barR D i).length ≤ i := by
  have := List.length_filter_le (fun s => !freeB D s) (List.range i)
  simpa [barR] using this
theorem bar_same {D : Dy} (hV : Valid D) : bitsL (barM (segN D) (legalL D (known0 D))) = barR D (segN D) := by
  have h10 := segN_le hV
  refine rise_ext bitsFrom_rise ?_ fun x => ?_
  · exact List.Pairwise.filter _ List.pairwise_lt_range
  · rw [bitsFrom_mem, barM_bit]
    simp only [barR, List.mem_filter, List.mem_range, freeB, Bool.and_eq_true, decide_eq_true_eq]
    exact ⟨fun k => ⟨k.2.1, k.2.2⟩, fun k => ⟨by omega, k.1, k.2⟩⟩

/-- The members that have a segment, before one. -/
theorem sel_has {D : Dy} {s : Nat} (hs : s < segN D) : ((selL D (2 ^ segN D)).any fun l => decide ((s : Int) ∈ l)) = freeB D s := by
  unfold selL freeB legalL
  rw [List.any_map]
  congr 1
  funext d
  simp only [Function.comp, setR_has, hs, true_and]
  cases d.testBit s <;> rfl

theorem dutyBars_of {D : Dy} {b w : Value} {H : Heap} (h : DayAt H b w D) (hG : Gl H) (hwk : ∀ A, Ge H A → AFun Tryd.prog 16 [] A (fun r B => r = .bool true ∧ Ge A B)) :
    AFun Tryd.prog 5 [dayV D b w] H (fun r _ => r = .bool true) := by
  refine AFun.mk ok5 hm (Nat.le_of_ble_eq_true rfl) ?_
  have hb := h.blocks.one
  have hw := h.walk.one
  simp [a5, r5, hb, hw]
  refine fcall_fun (thin_spec (h.ge (by simp))) ?_
  rintro _ H1 ⟨rfl, g1⟩
  have G1 : Ge H H1 := Ge.trans (by simp) g1
  have k1 := g1.got (n := H.next) (by simp) rfl
  have n1 := g1.next
  simp at k1 n1
  cases hth : thinB D
  · simp
    refine fcall_fun (hwk _ G1) ?_
    rintro _ _ ⟨rfl, _⟩
    simp
  have hT := thinB_thin hth
  simp [k1]
  refine fcall_fun (fault36_spec (h.ge G1) hT) ?_
  rintro _ H2 ⟨rfl, g2⟩
  have G2 := G1.trans g2
  have k2 := g2.got (n := H.next) (by omega) k1
  have n2 := g2.next
  by_cases hc : checkD D = 0
  case neg =>
    simp [hc, k2]
    refine fcall_fun (day18_spec (h.ge G2) hT) ?_
    rintro _ H3 ⟨b3, w3, rfl, hd3, g3⟩
    have G3 := G2.trans g3
    have k3 := g3.got (n := H.next) (by omega) k2
    have n3 := g3.next
    simp
    refine fcall_fun (barredF_spec hd3 hT (hG.ge G3)) ?_
    rintro _ H4 ⟨v4, rfl, o4, g4⟩
    have G4 := G3.trans g4
    have k4 := g4.got (n := H.next) (by omega) k3
    have n4 := g4.next
    have he : barE D = checkD D := by simp [barE, hc]
    have hl : barL D = [] := by simp [barL, he, hc]
    rw [hl] at o4
    have hlv : lenV v4 = some (.int .i64 0) := by simpa using o4.lenV
    simp [k4]
    refine fcall_fun (faultF_spec (h.ge G4) hT) ?_
    rintro _ H5 ⟨rfl, g5⟩
    have G5 := G4.trans g5
    simp [hc, he, hlv]
    refine fcall_fun (hwk _ G5) ?_
    rintro _ _ ⟨rfl, _⟩
    simp [hc, he, hlv]
  have hV := valid_of hc
  simp [hc, k2]
  refine fcall_fun (segments_spec (h.ge G2) hT) ?_
  rintro _ H3 ⟨rfl, g3⟩
  have G3 := G2.trans g3
  have k3 := g3.got (n := H.next) (by omega) k2
  have n3 := g3.next
  have hseg : segsOf D.blocks = segN D := segPs_length.symm
  rw [hseg]
  by_cases h6 : (6 : Int) < segN D
  · simp [hc, h6]
    refine fcall_fun (hwk _ G3) ?_
    rintro _ _ ⟨rfl, _⟩
    simp
  have h6' : segN D ≤ 6 := by omega
  simp [hc, h6, k3]
  refine fcall_fun (day18_spec (h.ge G3) hT) ?_
  rintro _ H4 ⟨b4, w4, rfl, hd4, g4⟩
  have G4 := G3.trans g4
  have k4 := g4.got (n := H.next) (by omega) k3
  have n4 := g4.next
  simp
  refine fcall_fun (barredF_spec hd4 hT (hG.ge G4)) ?_
  rintro _ H5 ⟨v5, rfl, o5, g5⟩
  have G5 := G4.trans g5
  have k5 := g5.got (n := H.next) (by omega) k4
  have n5 := g5.next
  simp [k5]
  refine fcall_fun (faultF_spec (h.ge G5) hT) ?_
  rintro _ H6 ⟨rfl, g6⟩
  have G6 := G5.trans g6
  have k6 := g6.got (n := H.next) (by omega) k5
  have n6 := g6.next
  simp [hc, k6]
  refine fcall_fun (legalDutiesR_spec (h.ge G6) hT hV) ?_
  rintro v7 H7 ⟨hR, g7⟩
  have G7 := G6.trans g7
  have G57 := g6.trans g7
  have k7 := g7.got (n := H.next) (by omega) k6
  have n7 := g7.next
  have hRl := hR.lenV
  have hR62 := selL_length (D := D) (i := 2 ^ segN D)
  obtain ⟨hp1, hp2⟩ := pow_segN hV
  generalize hS : selL D (2 ^ segN D) = S at *
  simp
  refine floop_intro (fun z => z.d = [] ∧ Ge H7 z.H ∧ z.t 1 = .pointer (some ⟨H.next, 0, none⟩) ∧ z.t 3 = v5 ∧ z.t 4 = .int .i64 (barE D) ∧ z.t 6 = v7 ∧ ∃ i : Nat, i ≤ segN D ∧ z.t 8 = .int .i64 (i : Int) ∧ OwnSl z.H H7.next (z.t 7) (intL (barR D i))) (fun z => segN D - (intOf (z.t 8)).toNat) ?_ ?_
  · exact ⟨rfl, by simp, by simp, by simp, by simp, by simp, 0, by omega, by simp, .inl ⟨by simp, by simp [barR]⟩⟩
  rintro ⟨t, _, A⟩ ⟨rfl, g, t1, t3, t4, t6, i, hi, t8, o7⟩
  dsimp only at g t1 t3 t4 t6 t8 o7
  generalize t7 : t 7 = v at o7
  have kA := g.got (n := H.next) (by omega) k7
  have nA := g.next
  simp [t1, t8, kA]
  refine fcall_fun (segments_spec (h.ge (G7.trans g)) hT) ?_
  rintro _ A1 ⟨rfl, gA⟩
  have GA := g.trans gA
  have kA1 := gA.got (n := H.next) (by omega) kA
  have nA1 := gA.next
  rw [hseg]
  simp [t8]
  by_cases hin : i < segN D
  case neg =>
    have : i = segN D := by omega
    subst this
    have o7A := o7.ge gA
    have hlv := o7A.lenV
    have hbl := barR_length (D := D) (i := segN D)
    have hsame := bar_same hV
    simp [hin, t7, hlv]
    by_cases h0 : barM (segN D) (legalL D (known0 D)) = 0
    · have he : barE D = 7 := by simp [barE, hc, h0]
      have hl : barL D = [] := by simp [barL, he]
      have hb0 : barR D (segN D) = [] := by rw [← hsame, h0]; exact bits_zero
      rw [hl] at o5
      have hlv5 : lenV v5 = some (.int .i64 0) := by simpa using o5.lenV
      simp [hin, hb0, t3, t4, he, hlv5]
      refine fcall_fun (hwk _ (G7.trans GA)) ?_
      rintro _ _ ⟨rfl, _⟩
      simp [he]
    · have he : barE D = 0 := by simp [barE, hc, h0]
      have hl : barL D = barR D (segN D) := by simp [barL, he, hsame]
      have hb0 : barR D (segN D) ≠ [] := fun e => by
        have hlt : barM (segN D) (legalL D (known0 D)) < 1024 := Nat.lt_of_lt_of_le (bar_lt (n := segN D) (by omega)) hp2
        obtain ⟨_, _, f3, _⟩ := low_facts h0 hlt
        rw [hsame, e] at f3; cases f3
      rw [hl] at o5
      have hint : intL (barR D (segN D)) = (bitsI (barR D (segN D))).map (Value.int .i64) := by simp [bitsI]
      have hbl2 : (bitsI (barR D (segN D))).length ≤ 10 := by simp [bitsI]; omega
      have i5 : IntsAt A1 v5 (bitsI (barR D (segN D))) := IntsAt.ge (own_ints (hint ▸ o5) (by omega)) (G57.trans GA)
      have i7 : IntsAt A1 v (bitsI (barR D (segN D))) := own_ints (hint ▸ o7A) (by omega)
      simp [hin, hb0, t3, t4, he, t7]
      refine fcall_fun (ints_spec i5 i7) ?_
      rintro _ A2 ⟨rfl, gA2⟩
      simp [he]
      refine fcall_fun (hwk _ (G7.trans (GA.trans gA2))) ?_
      rintro _ _ ⟨rfl, _⟩
      simp [he]
  have hfree := sel_has hin
  rw [hS] at hfree
  simp [hin]
  refine floop_intro (fun z => z.d = [] ∧ Ge A1 z.H ∧ z.t 1 = .pointer (some ⟨H.next, 0, none⟩) ∧ z.t 3 = v5 ∧ z.t 4 = .int .i64 (barE D) ∧ z.t 6 = v7 ∧ z.t 7 = v ∧ z.t 8 = .int .i64 (i : Int) ∧ ∃ j : Nat, j ≤ S.length ∧ z.t 10 = .int .i64 (j : Int) ∧ z.t 9 = .bool ((S.take j).any fun l => decide ((i : Int) ∈ l))) (fun z => S.length - (intOf (z.t 10)).toNat) ?_ ?_
  · exact ⟨rfl, by simp, by simp [t1], by simp [t3], by simp [t4], by simp [t6], by simp [t7], by simp [t8], 0, by omega, by simp, by simp⟩
  have t8o := t8
  clear t1 t3 t4 t6 t7 t8
  rintro ⟨t, _, B⟩ ⟨rfl, gB, t1, t3, t4, t6, t7, t8, j, hj, t10, t9⟩
  dsimp only at gB t1 t3 t4 t6 t7 t8 t10 t9
  have nB := gB.next
  simp [t6, t10, hRl]
  by_cases hjn : j < S.length
  case neg =>
    have : j = S.length := by omega
    subst this
    rw [List.take_length, hfree] at t9
    simp [hjn, t9]
    have hstep := barR_step (D := D) (i := i)
    have o7B := (o7.ge gA).ge gB
    cases hf : freeB D i
    · rw [hf] at hstep
      simp only [Bool.false_eq_true, if_false] at hstep
      simp [t7, t8]
      have hbl := barR_length (D := D) (i := i)
      refine fapp_own (lo := H7.next) (x := .int .i64 (i : Int)) (o7B.ge (Ge.new _ _)) (slCells_new (rw := true) (c := 1) (by simp)) rfl (by simp; omega) (by omega) (by simp) (by omega) (by simp; omega) fun u3 C k3 k4 k5 k6 => ?_
      have h3n : ∀ m, slName v = some m → H7.next ≤ m := fun m hm => (o7.names hm).1
      have gC : Ge H7 C := ⟨by omega, fun n hn => by
        have f3 : n ≠ B.next := by omega
        rw [k6 n (by omega) (fun e => by have := h3n n e; omega)]; simp [f3]
        rw [gB.get n (by omega), GA.get n (by omega)]⟩
      simp [t8, add_in (x := i) (y := 1) (by omega) (by omega)]
      refine ⟨⟨gC, t1, t3, t4, t6, i + 1, by omega, by omega, ?_⟩, by rw [t8o]; simp; omega⟩
      rw [hstep]
      simpa using k3
    · rw [hf] at hstep
      simp only [if_true] at hstep
      simp [t7, t8, add_in (x := i) (y := 1) (by omega) (by omega)]
      exact ⟨⟨GA.trans gB, t1, t3, t4, t6, i + 1, by omega, by omega, by rw [hstep]; exact o7B⟩, by rw [t8o]; simp; omega⟩
  obtain ⟨p, u, e1, e2, e3⟩ := hR.atAll hjn
  have e2B := e2 B (GA.trans gB)
  have htake : (S.take (j + 1)).any (fun l => decide ((i : Int) ∈ l)) = ((S.take j).any (fun l => decide ((i : Int) ∈ l)) || decide ((i : Int) ∈ S[j])) := by
    rw [List.take_succ_eq_append_getElem hjn, List.any_append]; simp
  cases hf : (S.take j).any fun l => decide ((i : Int) ∈ l)
  · rw [hf] at t9 htake
    simp [hjn, t9, t6, t8, t10, e1, e2B]
    refine fcall_fun (has40_spec (e3.ge (GA.trans gB))) ?_
    rintro _ B1 ⟨rfl, hB1⟩
    subst hB1
    simp [t9, t10, add_in (x := j) (y := 1) (by omega) (by omega)]
    refine ⟨⟨gB, t1, t3, t4, t6, t7, t8, j + 1, by omega, by omega, ?_⟩, by omega⟩
    rw [htake]; simp
  · rw [hf] at t9 htake
    simp [hjn, t9, t10, add_in (x := j) (y := 1) (by omega) (by omega)]
    refine ⟨⟨gB, t1, t3, t4, t6, t7, t8, j + 1, by omega, by omega, ?_⟩, by omega⟩
    obtain ⟨x, hx, hd⟩ := List.any_eq_true.1 hf
    exact ⟨x, by rw [List.take_succ_eq_append_getElem hjn]; exact List.mem_append_left _ hx, of_decide_eq_true hd⟩

end Go.Proofs.YtllkhaabcfnlpaaDoor
