/-
  Joined texts of a calculus of abstract memory, of the program's code in it, and of contracts.
-/
import Derived.Test.YtfijnkhiojejfaaJ6
import Derived.Test.YtfijnkhiojejfaaJ10
import Derived.KernelRfl
import Derived.Test.YtfijnkhiojejfaaChecked
namespace Go.Proofs.Ytfijnkhiojejfaa
open Go Go.Ab

def oldL (Y : Yd) (ls : List Int) (l : Int) : List Int := (busesL Y).filter fun x => decide (laneF ls x = l)
def numF (old : List Int) (x : Int) : Int := (old.idxOf x : Nat)
def aloneY (Y : Yd) (old : List Int) : Yd := { room := [8], broken := Y.broken, buses := old.map (bAt Y) }
def renL (old : List Int) (xs : List Int) : List Int := (xs.filter fun x => decide (x ∈ old)).map (numF old)

section
variable {Y : Yd} {ls : List Int} {l : Int}
theorem oldL_mem {x : Int} : x ∈ oldL Y ls l ↔ isBusB Y x = true ∧ laneF ls x = l := by
  unfold oldL; rw [List.mem_filter, busesL_mem, decide_eq_true_eq]
theorem oldL_lt (Y : Yd) (ls : List Int) (l : Int) : (oldL Y ls l).Pairwise fun a b => a < b := by
  have : (busesL Y).Pairwise fun a b => a < b := by
    unfold busesL
    rw [List.pairwise_map]
    exact List.Pairwise.imp (fun h => by omega) (List.pairwise_lt_range (n := Y.buses.length))
  exact this.sublist List.filter_sublist
theorem oldL_nodup (Y : Yd) (ls : List Int) (l : Int) : (oldL Y ls l).Nodup := by
  rw [List.nodup_iff_pairwise_ne]; exact List.Pairwise.imp (fun h e => by omega) (oldL_lt Y ls l)
theorem oldL_len (Y : Yd) (ls : List Int) (l : Int) : (oldL Y ls l).length ≤ Y.buses.length := by
  refine Nat.le_trans (List.length_filter_le _ _) ?_
  simp [busesL]
end

theorem numF_at {old : List Int} (hn : old.Nodup) {k : Nat} (hk : k < old.length) : numF old old[k] = k := by
  unfold numF
  have h1 : old.idxOf old[k] < old.length := List.idxOf_lt_length_of_mem (List.getElem_mem hk)
  have h2 : old[old.idxOf old[k]] = old[k] := List.getElem_idxOf h1
  rw [nodup_inj hn h1 hk h2]
theorem numF_mono {old : List Int} (hlt : old.Pairwise fun a b => a < b) {x y : Int} (hx : x ∈ old) (hy : y ∈ old) : numF old x < numF old y ↔ x < y := by
  have hn : old.Nodup := by rw [List.nodup_iff_pairwise_ne]; exact List.Pairwise.imp (fun h e => by omega) hlt
  obtain ⟨i, hi, rfl⟩ := List.getElem_of_mem hx
  obtain ⟨j, hj, rfl⟩ := List.getElem_of_mem hy
  rw [numF_at hn hi, numF_at hn hj]
  have h := List.pairwise_iff_getElem.1 hlt
  rcases Nat.lt_trichotomy i j with e | e | e
  · have := h i j hi hj e; omega
  · subst e; omega
  · have := h j i hj hi e; omega
theorem numF_inj {old : List Int} (hn : old.Nodup) {x y : Int} (hx : x ∈ old) (hy : y ∈ old) (e : numF old x = numF old y) : x = y := by
  obtain ⟨i, hi, rfl⟩ := List.getElem_of_mem hx
  obtain ⟨j, hj, rfl⟩ := List.getElem_of_mem hy
  rw [numF_at hn hi, numF_at hn hj] at e
  have : i = j := by omega
  subst this; rfl

section
variable {Y : Yd} {old : List Int}
theorem alone_bus {k : Int} : isBusB (aloneY Y old) k = true ↔ 0 ≤ k ∧ k < old.length := by
  simp [isBusB, inB, aloneY]; omega
theorem alone_at (hn : old.Nodup) {x : Int} (hx : x ∈ old) : bAt (aloneY Y old) (numF old x) = bAt Y x := by
  obtain ⟨i, hi, rfl⟩ := List.getElem_of_mem hx
  rw [numF_at hn hi]
  simp [bAt, aloneY, hi]
theorem alone_num {x : Int} (hx : x ∈ old) : isBusB (aloneY Y old) (numF old x) = true := by
  rw [alone_bus]
  have := List.idxOf_lt_length_of_mem hx
  unfold numF; omega
theorem alone_of {k : Int} (hn : old.Nodup) (hk : isBusB (aloneY Y old) k = true) : ∃ x ∈ old, numF old x = k := by
  obtain ⟨h0, h1⟩ := alone_bus.1 hk
  have hi : k.toNat < old.length := by omega
  exact ⟨old[k.toNat], List.getElem_mem hi, by rw [numF_at hn hi]; omega⟩
end
theorem alone_check {Y : Yd} {old : List Int} (hn : old.Nodup) (hb : ∀ x ∈ old, isBusB Y x = true) (hl : old.length ≤ Y.buses.length) (h : checkY Y = 0) : checkY (aloneY Y old) = 0 := by
  obtain ⟨h1, h2, _, _, _, hd, hbr1, hbr2⟩ := okY_facts h
  have h3 : okY Y = true := by
    unfold checkY at h
    rw [if_neg (by omega)] at h
    cases e : okY Y
    · rw [e] at h; simp at h
    · rfl
  unfold checkY
  rw [if_neg (by simp [aloneY]; omega), if_pos]
  simp only [okY, Bool.and_eq_true, decide_eq_true_eq, List.all_eq_true] at h3 ⊢
  obtain ⟨a, b, c, d, e⟩ := h3
  refine ⟨by simp [aloneY], by simp [aloneY, inB], fun x hx => ?_, ?_, e⟩
  · simp only [aloneY] at hx
    obtain ⟨y, hy, rfl⟩ := List.mem_map.1 hx
    obtain ⟨y0, y1, y2⟩ := isBus_at (hb y hy)
    exact c _ (y2 y1 ▸ List.getElem_mem y1)
  · simp only [distB, decide_eq_true_eq]
    unfold turnsOf aloneY
    rw [List.map_map, List.nodup_iff_pairwise_ne, List.pairwise_map]
    refine List.Pairwise.imp_of_mem (fun {x y} hx hy hxy => ?_) (List.nodup_iff_pairwise_ne.1 hn)
    exact fun e2 => hxy (turn_inj hd (hb x hx) (hb y hy) e2)

theorem renL_mem {old : List Int} (hn : old.Nodup) {xs : List Int} {x : Int} (hx : x ∈ old) : numF old x ∈ renL old xs ↔ x ∈ xs := by
  unfold renL
  rw [List.mem_map]
  constructor
  · rintro ⟨y, hy, e⟩
    obtain ⟨h1, h2⟩ := List.mem_filter.1 hy
    rw [numF_inj hn (by simpa using h2) hx e] at h1; exact h1
  · intro h; exact ⟨x, List.mem_filter.2 ⟨h, by simpa using hx⟩, rfl⟩
theorem renL_bus {Y : Yd} {old xs : List Int} {k : Int} (h : k ∈ renL old xs) : isBusB (aloneY Y old) k = true := by
  unfold renL at h
  obtain ⟨y, hy, rfl⟩ := List.mem_map.1 h
  exact alone_num (by simpa using (List.mem_filter.1 hy).2)
theorem renL_nodup {old xs : List Int} (hn : old.Nodup) (hx : xs.Nodup) : (renL old xs).Nodup := by
  unfold renL
  rw [List.nodup_iff_pairwise_ne, List.pairwise_map]
  refine List.Pairwise.imp_of_mem (fun {x y} hx' hy' hxy e => ?_) (List.nodup_iff_pairwise_ne.1 (hx.sublist (List.filter_sublist (p := fun x => decide (x ∈ old)))))
  exact hxy (numF_inj hn (by simpa using (List.mem_filter.1 hx').2) (by simpa using (List.mem_filter.1 hy').2) e)

theorem alone_poss {Y : Yd} {old : List Int} (hn : old.Nodup) (hb : ∀ x ∈ old, isBusB Y x = true) {os : List Int} (h : possB Y os = true) : possB (aloneY Y old) (renL old os) = true := by
  obtain ⟨p1, p2, p3⟩ := possB_in h
  simp only [possB, distB, Bool.and_eq_true, decide_eq_true_eq, List.all_eq_true] at h ⊢
  obtain ⟨_, _, _, h4⟩ := h
  have hnd := renL_nodup hn p3
  have hbl : (aloneY Y old).buses.length = old.length := by simp [aloneY]
  refine ⟨?_, fun x hx => renL_bus hx, hnd, ?_⟩
  · have hbn : (busesL (aloneY Y old)).Nodup := by
      unfold busesL
      rw [List.nodup_iff_pairwise_ne, List.pairwise_map]
      exact List.Pairwise.imp (fun h e => by omega) (List.pairwise_lt_range (n := (aloneY Y old).buses.length))
    have l1 := List.Nodup.length_le_of_subset hnd (l₂ := busesL (aloneY Y old)) fun x hx => busesL_mem.2 (renL_bus hx)
    have l2 := List.Nodup.length_le_of_subset hbn (l₂ := renL old os) fun k hk => by
      obtain ⟨x, hx, rfl⟩ := alone_of hn (busesL_mem.1 hk)
      exact (renL_mem hn hx).2 (order_all p1 p2 p3 (hb x hx))
    have l3 : (busesL (aloneY Y old)).length = (aloneY Y old).buses.length := by simp [busesL]
    omega
  · unfold renL
    rw [List.pairwise_map]
    refine List.Pairwise.imp_of_mem (fun {x y} hx hy hxy => ?_) (h4.sublist (List.filter_sublist (p := fun x => decide (x ∈ old))))
    have hx' : x ∈ old := by simpa using (List.mem_filter.1 hx).2
    have hy' : y ∈ old := by simpa using (List.mem_filter.1 hy).2
    unfold mayB at hxy ⊢
    rw [alone_at hn hx', alone_at hn hy']; exact hxy
theorem alone_broken {Y : Yd} {old : List Int} (hlt : old.Pairwise fun a b => a < b) {bs : List Int} (h : brokenB Y bs = true) : brokenB (aloneY Y old) (renL old bs) = true := by
  simp only [brokenB, risB, Bool.and_eq_true, decide_eq_true_eq, List.all_eq_true] at h ⊢
  obtain ⟨a, b, c⟩ := h
  have h1 : (renL old bs).length ≤ bs.length := by unfold renL; rw [List.length_map]; exact List.length_filter_le _ _
  refine ⟨?_, fun x hx => renL_bus hx, ?_⟩
  · show ((renL old bs).length : Int) ≤ Y.broken
    omega
  · unfold renL
    rw [List.pairwise_map]
    refine List.Pairwise.imp_of_mem (fun {x y} hx hy hxy => ?_) (c.sublist (List.filter_sublist (p := fun x => decide (x ∈ old))))
    exact (numF_mono hlt (by simpa using (List.mem_filter.1 hx).2) (by simpa using (List.mem_filter.1 hy).2)).2 hxy
theorem alone_lanes {Y : Yd} {old : List Int} (h8 : old.length ≤ 8) : lanesB (aloneY Y old) (List.replicate old.length 0) = true := by
  simp only [lanesB, Bool.and_eq_true, decide_eq_true_eq, List.all_eq_true]
  refine ⟨by simp [aloneY], fun x hx => ?_, fun l hl => ?_⟩
  · have := List.eq_of_mem_replicate hx
    subst this; simp [isLaneB, inB, aloneY]
  · have hl0 : l = 0 := by simpa [aloneY] using hl
    subst hl0
    simp [aloneY, List.count_replicate]; omega

theorem alone_go {Y : Yd} {old : List Int} (hn : old.Nodup) (hb : ∀ x ∈ old, isBusB Y x = true) (hd : (turnsOf Y).Nodup) (hd' : (turnsOf (aloneY Y old)).Nodup) (bs : List Int) : goL (aloneY Y old) (inF (renL old bs)) = renL old (goL Y (inF bs)) := by
  refine sorted_uniq (f := turnF (aloneY Y old)) (goL_strict hd' _) ?_ fun k => ?_
  · unfold renL
    rw [List.pairwise_map]
    refine List.Pairwise.imp_of_mem (fun {x y} hx hy hxy => ?_) ((goL_strict hd (inF bs)).sublist (List.filter_sublist (p := fun x => decide (x ∈ old))))
    have hx' : x ∈ old := by simpa using (List.mem_filter.1 hx).2
    have hy' : y ∈ old := by simpa using (List.mem_filter.1 hy).2
    unfold turnF at hxy ⊢
    rw [alone_at hn hx', alone_at hn hy']; exact hxy
  · rw [goL_mem]
    have key : ∀ x ∈ old, inF (renL old bs) (numF old x).toNat = inF bs x.toNat := fun x hx => by
      obtain ⟨x0, _, _⟩ := isBus_at (hb x hx)
      have n0 : 0 ≤ numF old x := by unfold numF; omega
      unfold inF
      rw [show (((numF old x).toNat : Nat) : Int) = numF old x by omega, show ((x.toNat : Nat) : Int) = x by omega, Bool.eq_iff_iff, decide_eq_true_eq, decide_eq_true_eq]
      exact renL_mem hn hx
    constructor
    · rintro ⟨h1, h2⟩
      obtain ⟨x, hx, rfl⟩ := alone_of hn h1
      rw [renL_mem hn hx, goL_mem]
      rw [key x hx] at h2
      exact ⟨hb x hx, h2⟩
    · intro h
      have h1 := renL_bus (Y := Y) h
      obtain ⟨x, hx, rfl⟩ := alone_of hn h1
      rw [renL_mem hn hx, goL_mem] at h
      rw [key x hx]
      exact ⟨h1, h.2⟩

theorem renL_cons {old : List Int} {o : Int} {r : List Int} : renL old (o :: r) = if o ∈ old then numF old o :: renL old r else renL old r := by
  unfold renL
  by_cases h : o ∈ old
  · rw [if_pos h, List.filter_cons_of_pos (by simpa using h)]; rfl
  · rw [if_neg h, List.filter_cons_of_neg (by simpa using h)]
theorem scan_ren {old : List Int} (hn : old.Nodup) {p p' : Int → Bool} {x : Int} (hx : x ∈ old) : ∀ T : List Int, (∀ o ∈ T, o ∈ old → p' (numF old o) = p o) → (∀ o ∈ T, o ∉ old → p o = false) → scanF p' (numF old x) (renL old T) = scanF p x T
  | [], _, _ => rfl
  | o :: r, h1, h2 => by
    have ih := scan_ren hn hx r (fun y hy => h1 y (by simp [hy])) fun y hy => h2 y (by simp [hy])
    rw [renL_cons]
    by_cases ho : o ∈ old
    · rw [if_pos ho, scanF, scanF, h1 o (by simp) ho, ih]
      by_cases e : o = x
      · rw [if_pos e, if_pos (by rw [e])]
      · rw [if_neg e, if_neg fun e2 => e (numF_inj hn ho hx e2)]
    · have e : o ≠ x := fun e => ho (e ▸ hx)
      rw [if_neg ho, ih, scanF, if_neg e, h2 o (by simp) ho]; rfl
theorem tw_ren {old : List Int} (hn : old.Nodup) {x o : Int} (hx : x ∈ old) (ho : o ∈ old) : ∀ os : List Int, numF old x ∈ ((renL old os).takeWhile fun y => decide (y ≠ numF old o)) ↔ x ∈ (os.takeWhile fun y => decide (y ≠ o))
  | [] => by simp [renL]
  | y :: r => by
    have ih := tw_ren hn hx ho r
    rw [renL_cons]
    by_cases hy : y ∈ old
    · rw [if_pos hy, List.takeWhile_cons, List.takeWhile_cons]
      by_cases e : y = o
      · rw [if_neg (by simp [e]), if_neg (by simp [e])]; simp
      · rw [if_pos (by simpa using fun e2 => e (numF_inj hn hy ho e2)), if_pos (by simpa using e), List.mem_cons, List.mem_cons, ih]
        constructor
        · rintro (h | h)
          · exact .inl (numF_inj hn hx hy h)
          · exact .inr h
        · rintro (h | h)
          · exact .inl (by rw [h])
          · exact .inr h
    · have e : y ≠ o := fun e => hy (e ▸ ho)
      have e2 : x ≠ y := fun e => hy (e ▸ hx)
      rw [if_neg hy, ih, List.takeWhile_cons, if_pos (by simpa using e), List.mem_cons]
      simp [e2]

theorem alone_shunts {Y : Yd} {ls os bs : List Int} {l : Int} (hok : checkY Y = 0) (hl : lanesB Y ls = true) (ho : possB Y os = true) {x : Int} (hx : x ∈ oldL Y ls l) :
    numF (oldL Y ls l) x ∈ shuntsL (aloneY Y (oldL Y ls l)) (standsOf (List.replicate (oldL Y ls l).length 0) (renL (oldL Y ls l) os)) (inF (renL (oldL Y ls l) bs)) ↔ x ∈ shuntsL Y (standsOf ls os) (inF bs) := by
  have hn := oldL_nodup Y ls l
  have hb : ∀ y ∈ oldL Y ls l, isBusB Y y = true := fun y hy => (oldL_mem.1 hy).1
  have hol := oldL_len Y ls l
  obtain ⟨_, h8, _, _, _, hd, _⟩ := okY_facts hok
  obtain ⟨_, _, _, _, _, hd', _⟩ := okY_facts (alone_check hn hb hol hok)
  obtain ⟨p1, p2, p3⟩ := possB_in ho
  obtain ⟨q1, q2, q3⟩ := possB_in (alone_poss hn hb ho)
  rw [← shunts_same (lanesB_len (alone_lanes (by omega))) q1 q2 q3, ← shunts_same (lanesB_len hl) p1 p2 p3]
  unfold thoseL
  rw [List.mem_filter, List.mem_filter, busesL_mem, busesL_mem]
  simp only [alone_num hx, hb x hx, true_and]
  unfold shuntR
  rw [decide_eq_true_eq, decide_eq_true_eq, morn_mem, morn_mem, alone_go hn hb hd hd']
  simp only [List.not_mem_nil, not_false_eq_true, true_and]
  rw [scan_ren hn hx]
  · intro o _ ho'
    have hz : ∀ k, laneF (List.replicate (oldL Y ls l).length 0) k = 0 := fun k => by
      unfold laneF
      rw [List.getElem?_replicate]
      split <;> rfl
    rw [Bool.eq_iff_iff, decide_eq_true_eq, decide_eq_true_eq, hz, hz, tw_ren hn hx ho', (oldL_mem.1 hx).2, (oldL_mem.1 ho').2]
    exact and_congr ⟨fun _ => rfl, fun _ => rfl⟩ Iff.rfl
  · intro o ho' hno
    rw [decide_eq_false_iff_not]
    rintro ⟨e, _⟩
    exact hno (oldL_mem.2 ⟨(goL_mem.1 ho').1, by rw [← e]; exact (oldL_mem.1 hx).2⟩)

theorem shuntsL_lt (Y : Yd) (s : Nat → Int × Int) (d : Nat → Bool) : (shuntsL Y s d).Pairwise fun a b => a < b := by
  have : (busesL Y).Pairwise fun a b => a < b := by
    unfold busesL
    rw [List.pairwise_map]
    exact List.Pairwise.imp (fun h => by omega) (List.pairwise_lt_range (n := Y.buses.length))
  exact this.sublist List.filter_sublist
theorem alone_list {Y : Yd} {ls os bs : List Int} {l : Int} (hok : checkY Y = 0) (hl : lanesB Y ls = true) (ho : possB Y os = true) :
    shuntsL (aloneY Y (oldL Y ls l)) (standsOf (List.replicate (oldL Y ls l).length 0) (renL (oldL Y ls l) os)) (inF (renL (oldL Y ls l) bs)) = renL (oldL Y ls l) (shuntsL Y (standsOf ls os) (inF bs)) := by
  have hn := oldL_nodup Y ls l
  refine sorted_uniq (f := fun x => x) (shuntsL_lt _ _ _) ?_ fun k => ?_
  · unfold renL
    rw [List.pairwise_map]
    refine List.Pairwise.imp_of_mem (fun {x y} hx hy hxy => ?_) ((shuntsL_lt Y _ _).sublist (List.filter_sublist (p := fun x => decide (x ∈ oldL Y ls l))))
    exact (numF_mono (oldL_lt Y ls l) (by simpa using (List.mem_filter.1 hx).2) (by simpa using (List.mem_filter.1 hy).2)).2 hxy
  · constructor
    · intro h
      have hk : isBusB (aloneY Y (oldL Y ls l)) k = true := busesL_mem.1 (List.mem_filter.1 h).1
      obtain ⟨x, hx, rfl⟩ := alone_of hn hk
      exact (renL_mem hn hx).2 ((alone_shunts hok hl ho hx).1 h)
    · intro h
      obtain ⟨x, hx, rfl⟩ := alone_of hn (renL_bus (Y := Y) h)
      exact (alone_shunts hok hl ho hx).2 ((renL_mem hn hx).1 h)

def belowL (ls : List Int) (l : Nat) (xs : List Int) : List Int := xs.filter fun x => decide (laneF ls x < (l : Int))
theorem below_step {Y : Yd} {ls : List Int} {l : Nat} : ∀ {xs : List Int}, (∀ x ∈ xs, isBusB Y x = true) → (belowL ls (l + 1) xs).length = (belowL ls l xs).length + (renL (oldL Y ls (l : Int)) xs).length
  | [], _ => rfl
  | x :: r, h => by
    have ih := below_step (ls := ls) (l := l) (xs := r) fun y hy => h y (by simp [hy])
    have hx := h x (by simp)
    rw [renL_cons]
    unfold belowL at ih ⊢
    by_cases h1 : laneF ls x < (l : Int)
    · have h2 : x ∉ oldL Y ls (l : Int) := fun e => by have := (oldL_mem.1 e).2; omega
      rw [List.filter_cons_of_pos (by simp; omega), List.filter_cons_of_pos (by simpa using h1), if_neg h2, List.length_cons, List.length_cons, ih]; omega
    · by_cases h3 : laneF ls x = (l : Int)
      · rw [List.filter_cons_of_pos (by simp; omega), List.filter_cons_of_neg (by simpa using h1), if_pos (oldL_mem.2 ⟨hx, h3⟩), List.length_cons, List.length_cons, ih]; omega
      · have h2 : x ∉ oldL Y ls (l : Int) := fun e => h3 (oldL_mem.1 e).2
        rw [List.filter_cons_of_neg (by simp; omega), List.filter_cons_of_neg (by simpa using h1), if_neg h2, ih]

def oldP (ls : List Int) (l : Int) (i : Nat) : List Int := ((List.range i).map fun k : Nat => (k : Int)).filter fun x => decide (laneF ls x = l)
theorem oldP_all {Y : Yd} {ls : List Int} {l : Int} : oldP ls l Y.buses.length = oldL Y ls l := rfl
theorem oldP_step {ls : List Int} {l : Int} (i : Nat) : oldP ls l (i + 1) = oldP ls l i ++ if laneF ls (i : Int) = l then [(i : Int)] else [] := by
  unfold oldP
  rw [filter_range]
  by_cases h : laneF ls (i : Int) = l <;> simp [h]
theorem oldP_len {ls : List Int} {l : Int} (i : Nat) : (oldP ls l i).length ≤ i := by
  unfold oldP
  refine Nat.le_trans (List.length_filter_le _ _) ?_
  simp
theorem oldP_at {ls : List Int} {l : Int} {k : Nat} (hk : laneF ls (k : Int) = l) : ∀ n, k < n → (oldP ls l n)[(oldP ls l k).length]? = some (k : Int)
  | 0, h => by omega
  | n + 1, h => by
    rw [oldP_step]
    by_cases e : k = n
    · subst e
      rw [if_pos hk, List.getElem?_append_right (Nat.le_refl _)]; simp
    · have ih := oldP_at hk n (by omega)
      obtain ⟨h1, _⟩ := List.getElem?_eq_some_iff.1 ih
      rw [List.getElem?_append_left h1]; exact ih
theorem num_old {Y : Yd} {ls : List Int} {l : Int} {k : Nat} (hk : laneF ls (k : Int) = l) (hn : k < Y.buses.length) : numF (oldL Y ls l) (k : Int) = ((oldP ls l k).length : Int) := by
  have h := oldP_at hk _ hn
  rw [oldP_all] at h
  obtain ⟨h1, h2⟩ := List.getElem?_eq_some_iff.1 h
  have := numF_at (oldL_nodup Y ls l) h1
  rw [h2] at this; exact this
def numV (n : Nat) (f : Nat → Int) : List Value := (List.range n).map fun k => .int .i64 (f k)
theorem numV_len (n : Nat) (f : Nat → Int) : (numV n f).length = n := by simp [numV]
theorem numV_at {n : Nat} {f : Nat → Int} {k : Nat} (hk : k < n) : (numV n f)[k]? = some (.int .i64 (f k)) := by
  unfold numV; rw [List.getElem?_map, List.getElem?_range hk]; rfl
theorem numV_put {n : Nat} {f : Nat → Int} {k : Nat} {v : Int} : (numV n f).set k (.int .i64 v) = numV n (updF f k v) := by
  refine List.ext_getElem? fun j => ?_
  unfold numV
  rw [List.getElem?_set, List.getElem?_map, List.getElem?_map]
  by_cases hj : j < n
  · rw [List.getElem?_range hj]
    by_cases e : k = j
    · subst e; simp [hj, updF]
    · have e' : ¬ j = k := fun x => e x.symm
      simp [e, e', updF]
  · have : (List.range n)[j]? = none := List.getElem?_eq_none (by simp; omega)
    rw [this]
    by_cases e : k = j
    · subst e; simp [hj]
    · simp [e]
theorem numV_zero (n : Nat) : zrep n [Value.int .i64 0] = numV n fun _ => 0 := by
  rw [zrep_int]
  unfold numV
  rw [List.map_const', List.length_range]

end Go.Proofs.Ytfijnkhiojejfaa


namespace Go.Proofs.Ytfijnkhiojejfaa
open Go Go.Ab

noncomputable def eo : EqO := fun _ _ _ => none
theorem eoOk : EqOk Try.prog eo := fun _ _ _ _ h => by cases h
theorem mixed : Try.prog.follows .mixedOrders = true := by kernel_rfl

end Go.Proofs.Ytfijnkhiojejfaa

