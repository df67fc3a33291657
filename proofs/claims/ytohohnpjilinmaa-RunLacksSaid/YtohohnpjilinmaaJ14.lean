/-
  Joined texts of a calculus of abstract memory, and of contracts of the program's functions.
-/
import Derived.Test.YtohohnpjilinmaaJ13
/-
  The first of the shortest lists without which a fleet is enough is the same, however lists are tried.
-/
namespace Go.Proofs.Ytohohnpjilinmaa

def lexL : List Int → List Int → Bool
  | x :: xs, y :: ys => if x = y then lexL xs ys else decide (x < y)
  | _, _ => false
/-- Shorter, or as long and before. -/
def lessL (a b : List Int) : Bool := decide (a.length < b.length) || (decide (a.length = b.length) && lexL a b)

theorem lexL_irr : ∀ a : List Int, lexL a a = false
  | [] => rfl
  | x :: a => by simp [lexL, lexL_irr a]
theorem lexL_tot : ∀ {a b : List Int}, a.length = b.length → a ≠ b → lexL a b = true ∨ lexL b a = true
  | [], [], _, h => absurd rfl h
  | x :: a, y :: b, hl, h => by
    by_cases e : x = y
    · subst e
      have := lexL_tot (a := a) (b := b) (by simpa using hl) (fun e => h (by rw [e]))
      simpa [lexL] using this
    · have e' : ¬ y = x := fun h => e h.symm
      simp [lexL, e, e']
      omega
  | [], _ :: _, hl, _ => by simp at hl
  | _ :: _, [], hl, _ => by simp at hl
theorem lexL_asymm : ∀ {a b : List Int}, lexL a b = true → lexL b a = false
  | x :: a, y :: b, h => by
    by_cases e : x = y
    · subst e
      simp only [lexL, if_true] at h ⊢
      exact lexL_asymm h
    · have e' : ¬ y = x := fun h => e h.symm
      simp [lexL, e, e'] at h ⊢
      omega
  | [], _, h => by simp [lexL] at h
  | _ :: _, [], h => by simp [lexL] at h
theorem lexL_trans : ∀ {a b c : List Int}, lexL a b = true → lexL b c = true → lexL a c = true
  | x :: a, y :: b, z :: c, h, k => by
    by_cases e : x = y
    · subst e
      simp only [lexL, if_true] at h
      by_cases e2 : x = z
      · subst e2
        simp only [lexL, if_true] at k ⊢
        exact lexL_trans h k
      · simpa [lexL, e2] using k
    · simp only [lexL, e, if_false, decide_eq_true_eq] at h
      by_cases e2 : y = z
      · subst e2
        simp [lexL, e, h]
      · simp only [lexL, e2, if_false, decide_eq_true_eq] at k
        have : ¬ x = z := by omega
        simp [lexL, this]
        omega
  | [], _, _, h, _ => by simp [lexL] at h
  | _ :: _, [], _, h, _ => by simp [lexL] at h
  | _ :: _, _ :: _, [], _, k => by simp [lexL] at k

theorem lessL_irr (a : List Int) : lessL a a = false := by simp [lessL, lexL_irr]
theorem lessL_tot {a b : List Int} (h : a ≠ b) : lessL a b = true ∨ lessL b a = true := by
  by_cases e : a.length = b.length
  · rcases lexL_tot e h with k | k
    · left; simp [lessL, e, k]
    · right; simp [lessL, e, k]
  · simp only [lessL, e, decide_false, Bool.false_and, Bool.or_false, decide_eq_true_eq, fun h : b.length = a.length => e h.symm]
    have e' : ¬ b.length = a.length := fun h => e h.symm
    simp only [e', decide_false, Bool.false_and, Bool.or_false, decide_eq_true_eq]
    omega
theorem lessL_iff {a b : List Int} : lessL a b = true ↔ a.length < b.length ∨ (a.length = b.length ∧ lexL a b = true) := by
  simp [lessL]
theorem lessL_trans {a b c : List Int} (h : lessL a b = true) (k : lessL b c = true) : lessL a c = true := by
  rw [lessL_iff] at h k ⊢
  rcases h with h | ⟨h1, h2⟩ <;> rcases k with k | ⟨k1, k2⟩
  · left; omega
  · left; omega
  · left; omega
  · right; exact ⟨by omega, lexL_trans h2 k2⟩
theorem lessL_asymm {a b : List Int} (h : lessL a b = true) : lessL b a = false := by
  cases k : lessL b a
  · rfl
  · have := lessL_trans h k
    rw [lessL_irr] at this; cases this

theorem lexL_pre : ∀ (p a b : List Int), lexL (p ++ a) (p ++ b) = lexL a b
  | [], _, _ => rfl
  | x :: p, a, b => by simp [lexL, lexL_pre p]

theorem ext_form {n : Nat} : ∀ (r from_ : Nat) (pre : List Int), ∀ l ∈ ext n r from_ pre, ∃ s, l = pre ++ s ∧ s.length = r
  | 0, from_, pre, l, hl => by
    simp only [ext, List.mem_singleton] at hl
    exact ⟨[], by simp [hl], rfl⟩
  | r + 1, from_, pre, l, hl => by
    simp only [ext, List.mem_flatMap, List.mem_range'_1] at hl
    obtain ⟨t, _, hl⟩ := hl
    obtain ⟨s, rfl, hs⟩ := ext_form r (t + 1) _ l hl
    exact ⟨(t : Int) :: s, by simp, by simp [hs]⟩
theorem ext_lex {n : Nat} : ∀ (r from_ : Nat) (pre : List Int), (ext n r from_ pre).Pairwise fun a b => lexL a b = true
  | 0, from_, pre => by simp [ext]
  | r + 1, from_, pre => by
    simp only [ext]
    rw [List.pairwise_flatMap]
    refine ⟨fun t _ => ext_lex r (t + 1) _, ?_⟩
    refine (List.pairwise_lt_range' (s := from_) (n := n - from_)).imp ?_
    intro t1 t2 ht x hx y hy
    obtain ⟨a, rfl, _⟩ := ext_form r (t1 + 1) _ x hx
    obtain ⟨b, rfl, _⟩ := ext_form r (t2 + 1) _ y hy
    rw [List.append_assoc, List.append_assoc, lexL_pre]
    have hne : ¬ (t1 : Int) = (t2 : Int) := by omega
    simp [lexL, hne]
    omega
theorem lists_less {n k : Nat} : (listsTo n k).Pairwise fun a b => lessL a b = true := by
  unfold listsTo
  rw [List.pairwise_flatMap]
  refine ⟨fun L _ => ?_, ?_⟩
  · refine List.Pairwise.imp_of_mem ?_ (ext_lex L 0 [])
    intro a b ha hb h
    obtain ⟨s, rfl, hs⟩ := ext_form L 0 [] a ha
    obtain ⟨u, rfl, hu⟩ := ext_form L 0 [] b hb
    rw [lessL_iff]
    exact .inr ⟨by simp [hs, hu], h⟩
  · refine List.pairwise_lt_range.imp ?_
    intro L1 L2 hL x hx y hy
    obtain ⟨s, rfl, hs⟩ := ext_form L1 0 [] x hx
    obtain ⟨u, rfl, hu⟩ := ext_form L2 0 [] y hy
    rw [lessL_iff]
    left
    simp [hs, hu]; omega

theorem find_first {α : Type} {R : α → α → Prop} {p : α → Bool} : ∀ {l : List α} {x y : α}, l.Pairwise R → l.find? p = some x → y ∈ l → p y = true → y = x ∨ R x y
  | a :: l, x, y, h, hf, hy, hp => by
    rw [List.pairwise_cons] at h
    by_cases ha : p a = true
    · simp only [List.find?_cons_of_pos ha, Option.some.injEq] at hf
      subst hf
      rcases List.mem_cons.1 hy with rfl | hy
      · exact .inl rfl
      · exact .inr (h.1 y hy)
    · rw [List.find?_cons_of_neg ha] at hf
      rcases List.mem_cons.1 hy with rfl | hy
      · exact absurd hp ha
      · exact find_first h.2 hf hy hp
  | [], _, _, _, hf, _, _ => by simp at hf

/-- Lists that rise, with the same members, are the same. -/
theorem rise_ext : ∀ {a b : List Int}, a.Pairwise (· < ·) → b.Pairwise (· < ·) → (∀ x, x ∈ a ↔ x ∈ b) → a = b
  | [], [], _, _, _ => rfl
  | [], y :: b, _, _, h => by have := (h y).2 List.mem_cons_self; simp at this
  | x :: a, [], _, _, h => by have := (h x).1 List.mem_cons_self; simp at this
  | x :: a, y :: b, ha, hb, h => by
    rw [List.pairwise_cons] at ha hb
    have e : x = y := by
      have h1 := (h x).1 List.mem_cons_self
      have h2 := (h y).2 List.mem_cons_self
      rcases List.mem_cons.1 h1 with e | h1
      · exact e
      · rcases List.mem_cons.1 h2 with e | h2
        · exact e.symm
        · have := ha.1 y h2
          have := hb.1 x h1
          omega
    subst e
    congr 1
    refine rise_ext ha.2 hb.2 fun z => ?_
    constructor
    · intro hz
      rcases List.mem_cons.1 ((h z).1 (List.mem_cons_of_mem _ hz)) with rfl | hz'
      · have := ha.1 z hz; omega
      · exact hz'
    · intro hz
      rcases List.mem_cons.1 ((h z).2 (List.mem_cons_of_mem _ hz)) with rfl | hz'
      · have := hb.1 z hz; omega
      · exact hz'

/-- The list of a set of bits. -/
def bitsL (n s : Nat) : List Int := numsOf n fun i => s.testBit i
theorem bits_of (f : Nat → Bool) : ∀ n, ∃ s, s < 2 ^ n ∧ ∀ i, i < n → s.testBit i = f i
  | 0 => ⟨0, by simp, fun i hi => by omega⟩
  | n + 1 => by
    obtain ⟨s, h1, h2⟩ := bits_of f n
    have hn : s.testBit n = false := Nat.testBit_lt_two_pow h1
    cases hf : f n with
    | false =>
      refine ⟨s, by rw [Nat.pow_succ]; omega, fun i hi => ?_⟩
      by_cases e : i = n
      · subst e; rw [hn, hf]
      · exact h2 i (by omega)
    | true =>
      refine ⟨2 ^ n + s, by rw [Nat.pow_succ]; omega, fun i hi => ?_⟩
      by_cases e : i = n
      · subst e; rw [Nat.testBit_two_pow_add_eq, hn, hf]; rfl
      · rw [Nat.testBit_two_pow_add_gt (by omega)]
        exact h2 i (by omega)
theorem bits_all {T : Tab} (hfew : T.trips.length ≤ 12) {w : List Int} (hw : risL T w = true) : ∃ s, s < 2 ^ T.trips.length ∧ bitsL T.trips.length s = w := by
  obtain ⟨w1, w2⟩ := risL_ok hfew hw
  obtain ⟨s, h1, h2⟩ := bits_of (fun i => decide ((i : Int) ∈ w)) T.trips.length
  refine ⟨s, h1, rise_ext numsOf_rise w1 fun x => ?_⟩
  unfold bitsL
  rw [numsOf_mem]
  constructor
  · rintro ⟨k, hk, hb, rfl⟩
    rw [h2 k hk] at hb
    exact of_decide_eq_true hb
  · intro hx
    have hx2 := w2 x hx
    simp only [Tab.num, Bool.and_eq_true, decide_eq_true_eq] at hx2
    refine ⟨x.toNat, by omega, ?_, by omega⟩
    rw [h2 _ (by omega)]
    have : ((x.toNat : Nat) : Int) = x := by omega
    rw [this]
    exact decide_eq_true hx
theorem bits_rise {T : Tab} {s : Nat} : risL T (bitsL T.trips.length s) = true := by
  refine rises_of numsOf_rise fun x hx => ?_
  obtain ⟨k, h1, _, rfl⟩ := numsOf_mem.1 hx
  omega

def fullL (T : Tab) : List Int := (List.range T.trips.length).map Int.ofNat
theorem full_eq {T : Tab} : fullL T = allL T (-1) [] := by
  unfold fullL allL numsOf
  rw [List.filter_eq_self.2 (fun x _ => by simp [okAll])]
theorem full_rise {T : Tab} : risL T (fullL T) = true := by
  have e : fullL T = numsOf T.trips.length (fun _ => true) := by unfold fullL numsOf; rw [List.filter_eq_self.2 (fun _ _ => rfl)]
  rw [e]
  refine rises_of numsOf_rise fun x hx => ?_
  obtain ⟨k, h1, _, rfl⟩ := numsOf_mem.1 hx
  omega
theorem full_fits {T : Tab} (hT : Valid T) {fleet : List Int} (hf : fleet.length = 3) (h0 : ∀ x ∈ fleet, 0 ≤ x) : fits3 T fleet (fullL T) := by
  have hfew := hT.few
  intro k hk
  have hz : cntN T.trips.length (okAll T k (fullL T)) = 0 := by
    have : ∀ i, i < T.trips.length → okAll T k (fullL T) i = false := fun i hi => by
      have : (i : Int) ∈ fullL T := List.mem_map.2 ⟨i, List.mem_range.2 hi, rfl⟩
      simp only [okAll, this, decide_true, Bool.not_true, Bool.and_false]
    rw [cntN_congr this]
    simp [cntN]
  have hlk : ∀ i, i < T.trips.length → ((List.range 12).map (okAll T k (fullL T)))[i]?.getD false = okAll T k (fullL T) i := fun i hi => by
    have hi12 : i < 12 := by omega
    simp only [List.getElem?_map, List.getElem?_range hi12, Option.map_some, Option.getD_some]
  have hc := only_cut hT hlk
  have hz2 : fewK T (fullL T) k = 0 := by
    show (cutL (onlyT T (numsOf T.trips.length (okAll T k (fullL T))))).length = 0
    omega
  have hk3 : k < fleet.length := by omega
  have := h0 _ (List.getElem_mem hk3)
  rw [hz2]
  simp only [List.getElem?_eq_getElem hk3, Option.getD_some]
  omega

theorem leftL_before {T : Tab} (hT : Valid T) {fleet w : List Int} (hf : fleet.length = 3) (hw : risL T w = true) (hg : fits3 T fleet w) : lessL w (leftL T fleet) = false := by
  have hfew := hT.few
  obtain ⟨w1, w2⟩ := risL_ok hfew hw
  have hwb : ∀ x ∈ w, 0 ≤ x ∧ x < 12 := fun x hx => by have := num_lt hfew (w2 x hx); omega
  have hwn : ∀ x ∈ w, ((0 : Nat) : Int) ≤ x ∧ x < (T.trips.length : Int) := fun x hx => by
    have := w2 x hx
    simp only [Tab.num, Bool.and_eq_true, decide_eq_true_eq] at this
    omega
  have hgl := (goodL_iff hT hf hwb).2 hg
  have hlen := risL_length hfew hw
  have hmem : w.length < T.trips.length → w ∈ listsTo T.trips.length T.trips.length := fun hlt => by
    simp only [listsTo, List.mem_flatMap, List.mem_range]
    exact ⟨w.length, hlt, by simpa using ext_all (n := T.trips.length) w 0 [] w1 hwn⟩
  unfold leftL
  cases hfd : (listsTo T.trips.length T.trips.length).find? (goodL T fleet) with
  | some l =>
    simp only [Option.getD_some]
    by_cases hlt : w.length < T.trips.length
    · rcases find_first lists_less hfd (hmem hlt) hgl with rfl | h
      · exact lessL_irr w
      · exact lessL_asymm h
    · have hm := List.mem_of_find?_eq_some hfd
      simp only [listsTo, List.mem_flatMap, List.mem_range] at hm
      obtain ⟨L, hL, hl⟩ := hm
      obtain ⟨s, rfl, hs⟩ := ext_form L 0 [] l hl
      refine lessL_asymm (lessL_iff.2 (.inl ?_))
      simp [hs]; omega
  | none =>
    simp only [Option.getD_none]
    by_cases hlt : w.length < T.trips.length
    · have := List.find?_eq_none.1 hfd w (hmem hlt)
      exact absurd hgl this
    · cases hb : lessL w ((List.range T.trips.length).map Int.ofNat)
      · rfl
      · rw [lessL_iff] at hb
        simp only [List.length_map, List.length_range] at hb
        have hl : w.length = T.trips.length := by omega
        have e : w = (List.range T.trips.length).map Int.ofNat := by
          obtain ⟨q1, q2⟩ := risL_ok hfew (full_rise (T := T))
          refine rise_ext w1 q1 fun x => ⟨fun hx => ?_, fun hx => ?_⟩
          · have := hwn x hx
            exact List.mem_map.2 ⟨x.toNat, List.mem_range.2 (by omega), by simp; omega⟩
          · -- as many as there are
            obtain ⟨k, hk, rfl⟩ := List.mem_map.1 hx
            rw [List.mem_range] at hk
            have hc := numsOf_length (n := T.trips.length) (f := fun (i : Nat) => decide ((i : Int) ∈ w))
            have he : numsOf T.trips.length (fun i => decide ((i : Int) ∈ w)) = w := rise_ext numsOf_rise w1 fun y => by
              rw [numsOf_mem]
              constructor
              · rintro ⟨j, _, hj, rfl⟩; exact of_decide_eq_true hj
              · intro hy
                have := hwn y hy
                exact ⟨y.toNat, by omega, decide_eq_true (by rwa [Int.toNat_of_nonneg (by omega)]), by omega⟩
            rw [he, hl] at hc
            have hall : ∀ i, i < T.trips.length → decide ((i : Int) ∈ w) = true := by
              intro i hi
              cases hd : decide ((i : Int) ∈ w)
              · exfalso
                have : cntN T.trips.length (fun (i : Nat) => decide ((i : Int) ∈ w)) < T.trips.length := by
                  unfold cntN
                  have h1 : ((List.range T.trips.length).filter fun (i : Nat) => decide ((i : Int) ∈ w)).length < (List.range T.trips.length).length := by
                    refine List.length_filter_lt_length_iff_exists.2 ⟨i, List.mem_range.2 hi, by simp [hd]⟩
                  simpa using h1
                omega
              · rfl
            exact of_decide_eq_true (hall k hk)
        rcases hb with hb | ⟨_, hb⟩
        · omega
        · rw [← e, lexL_irr] at hb; cases hb

/-- What holds while lists are tried. -/
def Tried (T : Tab) (fleet : List Int) (S : Nat) (b : List Int) : Prop := risL T b = true ∧ fits3 T fleet b ∧ ∀ s, s < S → fits3 T fleet (bitsL T.trips.length s) → lessL (bitsL T.trips.length s) b = false
theorem Tried.start {T : Tab} (hT : Valid T) {fleet : List Int} (hf : fleet.length = 3) (h0 : ∀ x ∈ fleet, 0 ≤ x) : Tried T fleet 0 (fullL T) := ⟨full_rise, full_fits hT hf h0, fun s hs => by omega⟩
theorem Tried.take {T : Tab} {fleet b : List Int} {S : Nat} (h : Tried T fleet S b) (h1 : lessL (bitsL T.trips.length S) b = true) (h2 : fits3 T fleet (bitsL T.trips.length S)) : Tried T fleet (S + 1) (bitsL T.trips.length S) := by
  refine ⟨bits_rise, h2, fun s hs hg => ?_⟩
  by_cases e : s = S
  · subst e; exact lessL_irr _
  · cases k : lessL (bitsL T.trips.length s) (bitsL T.trips.length S)
    · rfl
    · have := lessL_trans k h1
      rw [h.2.2 s (by omega) hg] at this; cases this
theorem Tried.leave {T : Tab} {fleet b : List Int} {S : Nat} (h : Tried T fleet S b) (h1 : lessL (bitsL T.trips.length S) b = false ∨ ¬ fits3 T fleet (bitsL T.trips.length S)) : Tried T fleet (S + 1) b := by
  refine ⟨h.1, h.2.1, fun s hs hg => ?_⟩
  by_cases e : s = S
  · subst e
    rcases h1 with h1 | h1
    · exact h1
    · exact absurd hg h1
  · exact h.2.2 s (by omega) hg
theorem Tried.done {T : Tab} (hT : Valid T) {fleet b : List Int} (hf : fleet.length = 3) (h0 : ∀ x ∈ fleet, 0 ≤ x) (h : Tried T fleet (2 ^ T.trips.length) b) : b = leftL T fleet := by
  obtain ⟨s, h1, h2⟩ := bits_all hT.few (leftL_rises (T := T) (fleet := fleet))
  have hg := leftL_good hT hf h0
  have k1 := h.2.2 s h1 (by rw [h2]; exact hg)
  rw [h2] at k1
  have k2 := leftL_before hT hf h.1 h.2.1
  by_cases e : b = leftL T fleet
  · exact e
  · rcases lessL_tot e with k | k
    · rw [k2] at k; cases k
    · rw [k1] at k; cases k

end Go.Proofs.Ytohohnpjilinmaa

/-
  Contracts of the reference's Lacks and of what it calls.
-/
namespace Go.Proofs.Ytohohnpjilinmaa
open Go Go.Ab

theorem isFleet_spec {H : Heap} {fl : Value} {fleet : List Int} (hf : IntsAt H fl fleet) : AFun Try.prog 40 [fl] H (fun r B => r = .bool (fleetOk fleet) ∧ Ge H B) := by
  refine AFun.mk ok40 hm (Nat.le_of_ble_eq_true rfl) ?_
  simp [a40, r40, hf.lenV]
  by_cases hl : fleet.length = 3
  · obtain ⟨x, y, z, rfl⟩ : ∃ x y z, fleet = [x, y, z] := by
      match fleet, hl with
      | [x, y, z], _ => exact ⟨x, y, z, rfl⟩
    obtain ⟨p0, i0, l0⟩ := hf.at (i := 0) (by simp)
    obtain ⟨p1, i1, l1⟩ := hf.at (i := 1) (by simp)
    obtain ⟨p2, i2, l2⟩ := hf.at (i := 2) (by simp)
    simp at i0 i1 i2 l0 l1 l2
    simp [i0, l0]
    refine fcall_fun (in_spec x 0 12 H) ?_
    rintro _ _ ⟨rfl, rfl⟩
    by_cases h0 : 0 ≤ x ∧ x ≤ 12
    · simp [h0.1, h0.2, i1, l1]
      refine fcall_fun (in_spec y 0 12 _) ?_
      rintro _ _ ⟨rfl, rfl⟩
      by_cases h1 : 0 ≤ y ∧ y ≤ 12
      · simp [h1.1, h1.2, i2, l2]
        refine fcall_fun (in_spec z 0 12 _) ?_
        rintro _ _ ⟨rfl, rfl⟩
        simp [fleetOk, h0.1, h0.2, h1.1, h1.2]
      · have e : (decide (0 ≤ y) && decide (y ≤ 12)) = false := by
          cases hq : decide (0 ≤ y) && decide (y ≤ 12)
          · rfl
          · simp at hq; exact absurd hq h1
        simp [e, fleetOk, h0.1, h0.2]
    · have e : (decide (0 ≤ x) && decide (x ≤ 12)) = false := by
        cases hq : decide (0 ≤ x) && decide (x ≤ 12)
        · rfl
        · simp at hq; exact absurd hq h0
      simp [e, fleetOk]
  · have hl' : ¬ (fleet.length : Int) = 3 := by omega
    simp [hl', fleetOk, hl]

theorem lexL_take {a b : List Int} : ∀ {i : Nat}, (hi : i < a.length) → (hj : i < b.length) → a.take i = b.take i → a[i] ≠ b[i] → lexL a b = decide (a[i] < b[i]) := by
  induction a generalizing b with
  | nil => intro i hi; simp at hi
  | cons x a ih =>
    intro i hi hj ht hne
    cases b with
    | nil => simp at hj
    | cons y b =>
      cases i with
      | zero =>
        simp only [List.getElem_cons_zero] at hne ⊢
        simp [lexL, hne]
      | succ i =>
        simp only [List.take_succ_cons, List.cons.injEq] at ht
        obtain ⟨rfl, ht⟩ := ht
        simp only [List.getElem_cons_succ] at hne ⊢
        simp only [lexL, if_true]
        exact ih _ _ ht hne

theorem less_spec {H : Heap} {av bv : Value} {a b : List Int} (ha : IntsAt H av a) (hb : IntsAt H bv b) : AFun Try.prog 68 [av, bv] H (fun r B => r = .bool (lessL a b) ∧ Ge H B) := by
  refine AFun.mk ok68 hm (Nat.le_of_ble_eq_true rfl) ?_
  have h62 := ha.2
  have h63 := hb.2
  simp [a68, r68]
  refine floop_intro (fun z => z.d = [] ∧ Ge H z.H ∧ z.t 0 = av ∧ z.t 1 = bv ∧ ∃ i : Nat, i ≤ a.length ∧ z.t 5 = .int .i64 i ∧ (a.length = b.length → a.take i = b.take i) ∧ (a.length ≠ b.length → i = 0)) (fun z => a.length - (intOf (z.t 5)).toNat) ?_ ?_
  · exact ⟨rfl, Ge.refl _, by simp, by simp, 0, by simp, by simp, by simp, by simp⟩
  rintro ⟨t, _, A⟩ ⟨rfl, gA, t0, t1, i, hi, t5, htk, hz⟩
  dsimp only at gA t0 t1 t5
  simp [t0, t1, t5, ha.lenV, hb.lenV]
  by_cases hc : i < a.length
  · by_cases hl : a.length = b.length
    · have hl' : (a.length : Int) = b.length := by omega
      have hj : i < b.length := by omega
      obtain ⟨p, p1, p2⟩ := (ha.ge gA).at hc
      obtain ⟨q, q1, q2⟩ := (hb.ge gA).at hj
      have p2' : ldV { get := A.get, next := A.next + 9 } false 1 p = some (.int .i64 a[i]) := by
        obtain ⟨p', e1, e2⟩ := (ha.ge (gA.grow 9)).at hc
        rw [p1] at e1; cases e1; exact e2
      have q2' : ldV { get := A.get, next := A.next + 9 } false 1 q = some (.int .i64 b[i]) := by
        obtain ⟨p', e1, e2⟩ := (hb.ge (gA.grow 9)).at hj
        rw [q1] at e1; cases e1; exact e2
      simp [hc, hl', t0, t1, t5, ha.lenV, hb.lenV, p1, q1, p2', q2']
      refine fcond_intro (fun hne => ?_) (fun hne => ?_)
      · have hne' : a[i] ≠ b[i] := by simpa using hne
        have p3 : ldV { get := A.get, next := A.next + 19 } false 1 p = some (.int .i64 a[i]) := by
          obtain ⟨p', e1, e2⟩ := (ha.ge (gA.grow 19)).at hc
          rw [p1] at e1; cases e1; exact e2
        have q3 : ldV { get := A.get, next := A.next + 19 } false 1 q = some (.int .i64 b[i]) := by
          obtain ⟨p', e1, e2⟩ := (hb.ge (gA.grow 19)).at hj
          rw [q1] at e1; cases e1; exact e2
        simp [t0, t1, t5, p1, q1, p3, q3]
        refine ⟨?_, gA.grow 19⟩
        have := lexL_take hc hj (htk hl) hne'
        simp [lessL, hl, this]
      · have hne' : a[i] = b[i] := by simpa using hne
        simp [t5, add_in (x := i) (y := 1) (by omega) (by omega)]
        refine ⟨⟨gA.grow 9, t0, t1, i + 1, by omega, by omega, fun _ => ?_, fun h => absurd hl h⟩, by omega⟩
        rw [List.take_succ_eq_append_getElem hc, List.take_succ_eq_append_getElem hj, htk hl, hne']
    · have hl' : ¬ (a.length : Int) = b.length := by omega
      simp [hc, hl', t0, t1, ha.lenV, hb.lenV]
      refine ⟨?_, gA⟩
      simp [lessL, hl]
  · have hia : i = a.length := by omega
    simp [hc, t0, t1, ha.lenV, hb.lenV]
    refine ⟨?_, gA⟩
    by_cases hl : a.length = b.length
    · have e : a = b := by
        have := htk hl
        rw [hia, List.take_length, hl, List.take_length] at this
        exact this
      subst e
      simp [lessL, lexL_irr]
    · simp [lessL, hl]

def fitsB (T : Tab) (fleet w : List Int) (m : Nat) : Bool := (List.range m).all fun k => decide ((fewK T w k : Int) ≤ fleet[k]?.getD 0)
theorem fitsB_iff {T : Tab} {fleet w : List Int} : fitsB T fleet w 3 = true ↔ fits3 T fleet w := by
  simp [fitsB, fits3]

theorem refEnough_spec {H : Heap} {e s fl wv : Value} {T : Tab} {fleet w : List Int} (h : TabAt H e s T) (hT : Valid T) (hf : IntsAt H fl fleet) (hlen : fleet.length = 3) (hw : IntsAt H wv w) : AFun Try.prog 69 [tabV T e s, fl, wv] H (fun r B => r = .bool (fitsB T fleet w 3) ∧ Ge H B) := by
  refine AFun.mk ok69 hm (Nat.le_of_ble_eq_true rfl) ?_
  have hfew := hT.few
  simp [a69, r69]
  refine floop_intro (fun z => z.d = [] ∧ Ge H z.H ∧ H.next + 1 ≤ z.H.next ∧ z.t 1 = fl ∧ z.t 2 = wv ∧ z.t 3 = .pointer (some ⟨H.next, 0, none⟩) ∧ z.H.get H.next = .cells true [.int .i64 T.places, .int .i64 T.layover, e, s] 4 ∧
    ∃ k : Nat, k ≤ 3 ∧ z.t 7 = .int .i64 k ∧ fitsB T fleet w k = true) (fun z => 3 - (intOf (z.t 7)).toNat) ?_ ?_
  · exact ⟨rfl, Ge.new _ _, by simp, by simp, by simp, by simp, by simp, 0, by simp, by simp, rfl⟩
  rintro ⟨t, _, A⟩ ⟨rfl, gA, hn, t1, t2, t3, b0, k, hk, t7, hok⟩
  dsimp only at gA hn t1 t2 t3 b0 t7
  simp [t7]
  refine fcond_intro (fun hc => ?_) (fun hc => ?_)
  · have hk' : k < 3 := by simp at hc; omega
    have hkf : k < fleet.length := by omega
    obtain ⟨p, p1, p2⟩ := (hf.ge (gA.grow 11)).at hkf
    simp [t1, t2, t3, t7, b0, p1, p2]
    refine fcall_fun (all_spec (h.ge (gA.grow 11)) (by omega) (hw.ge (gA.grow 11))) ?_
    rintro v1 H1 ⟨hO, g1⟩
    have n1 := g1.next
    simp at n1
    have G1 := (Ge.more A 11).trans g1
    have c1 := G1.got (by omega) b0
    have l1 : ldV H1 false 1 p = some (.int .i64 fleet[k]) := by
      obtain ⟨p', e1, e2⟩ := (hf.ge (gA.trans G1)).at hkf
      rw [p1] at e1; cases e1; exact e2
    have hal : (allL T k w).length ≤ 12 := Nat.le_trans numsOf_bound hfew
    have hi1 : IntsAt H1 v1 (allL T k w) := ⟨by simpa using hO.slr, by omega⟩
    have hnum : ∀ x ∈ allL T k w, T.num x = true := fun x hx => by
      have := allL_ok x hx
      simp [Tab.num]; omega
    simp [c1, l1, p1, t3]
    refine fcall_fun (buses_spec (h.ge (gA.trans G1)) hT hi1 hnum hal) ?_
    rintro _ H2 ⟨rfl, g2⟩
    have G2 := G1.trans g2
    have n2 := g2.next
    have c2 := G2.got (by omega) b0
    have l2 : ldV H2 false 1 p = some (.int .i64 fleet[k]) := by
      obtain ⟨p', e1, e2⟩ := (hf.ge (gA.trans G2)).at hkf
      rw [p1] at e1; cases e1; exact e2
    rw [buses_eq hT]
    have hfk : ((cutL (onlyT T (allL T k w))).length : Int) = fewK T w k := rfl
    have hsucc : fitsB T fleet w (k + 1) = (fitsB T fleet w k && decide ((fewK T w k : Int) ≤ fleet[k])) := by
      simp [fitsB, List.range_succ, hkf]
    simp [c2, l2, p1, hfk]
    refine fcond_intro (fun hgt => ?_) (fun hgt => ?_)
    · have hgt' : ¬ (fewK T w k : Int) ≤ fleet[k] := by simp at hgt; omega
      simp
      refine ⟨?_, gA.trans G2⟩
      have hfalse : ∀ m, k + 1 ≤ m → fitsB T fleet w m = false := fun m hm => by
        cases hq : fitsB T fleet w m
        · rfl
        · simp only [fitsB, List.all_eq_true, List.mem_range, decide_eq_true_eq] at hq
          have := hq k (by omega)
          simp [hkf] at this
          exact absurd this hgt'
      exact hfalse 3 (by omega)
    · have hle : (fewK T w k : Int) ≤ fleet[k] := by simp at hgt; omega
      simp [t7, add_in (x := k) (y := 1) (by omega) (by omega)]
      exact ⟨⟨gA.trans G2, by omega, t1, t2, t3, c2, k + 1, by omega, by omega, by rw [hsucc, hok]; simp [hle]⟩, by omega⟩
  · have : k = 3 := by simp at hc; omega
    subst this
    simp [hok]
    exact gA

end Go.Proofs.Ytohohnpjilinmaa

/-
  What the reference leaves out, and what RunLacks answers.
-/
namespace Go.Proofs.Ytohohnpjilinmaa
open Go Go.Ab

theorem aval_shl1 {t : Nat → Value} {H : Heap} {N y : Nat} {n : Nat} {d : Option Tmp} {ty U : TypeId} {pos : String} {af : Array Edge} {g : Option (Nat × Bool)} (hy : t y = .int .u64 n) (h2 : y < N) (hn : n ≤ 12) :
    aval Try.prog t H (.gen N ⟨d, .binOp .shl 3 (.const (.int .i64 1)) (.tmp y) U, ty, pos, af, g⟩) = some (.int .i64 ((2 ^ n : Nat) : Int)) := by
  refine aval_gen ?_ rfl fun w => ?_
  · simp [Op.operands, flatO, hy, h2, flat, flat1]
  · have h1 : ¬ ((n : Int) < 0) := by omega
    have h3 : min n IntKind.i64.bits = n := Nat.min_eq_left (by show n ≤ 64; omega)
    have hp : (2 : Nat) ^ n ≤ 2 ^ 12 := Nat.pow_le_pow_right (by omega) hn
    have key : ∀ m : Nat, m ≤ 2 ^ 12 → IntKind.i64.wrap (m : Int) = m := fun m hm => wrap_i64 (by omega) (by omega)
    have hw := key _ hp
    have hw' : IntKind.i64.wrap (2 ^ n) = ((2 ^ n : Nat) : Int) := by rw [← hw]; simp
    simp [execOp, evO, hy, eqGuard, binOp, Op.shift, h1, h3, hw']

theorem aval_shrN {t : Nat → Value} {H : Heap} {N x y : Nat} {n s : Nat} {d : Option Tmp} {ty U : TypeId} {pos : String} {af : Array Edge} {g : Option (Nat × Bool)} (hx : t x = .int .i64 s) (hy : t y = .int .u64 n) (h1 : x < N) (h2 : y < N) (hn : n ≤ 12) :
    aval Try.prog t H (.gen N ⟨d, .binOp .shr 3 (.tmp x) (.tmp y) U, ty, pos, af, g⟩) = some (.int .i64 ((s / 2 ^ n : Nat) : Int)) := by
  refine aval_gen ?_ rfl fun w => ?_
  · simp [Op.operands, flatO, hx, hy, h1, h2, flat, flat1]
  · have q1 : ¬ ((n : Int) < 0) := by omega
    have q3 : min n IntKind.i64.bits = n := Nat.min_eq_left (by show n ≤ 64; omega)
    have q4 : Int.fdiv (s : Int) (2 ^ n) = ((s / 2 ^ n : Nat) : Int) := by
      rw [Int.fdiv_eq_ediv_of_nonneg _ (by exact Int.pow_nonneg (by omega))]
      simp
    simp [execOp, evO, hx, hy, eqGuard, binOp, Op.shift, q1, q3, q4]

theorem bits_at {s i : Nat} : (decide ((((s / 2 ^ i : Nat) : Int)).tmod 2 = 1)) = s.testBit i := by
  rw [Nat.testBit_eq_decide_div_mod_eq, decide_eq_decide]
  generalize s / 2 ^ i = q
  rw [Int.tmod_eq_emod_of_nonneg (by omega)]
  omega

set_option maxHeartbeats 1000000 in
theorem refLacks_spec {H : Heap} {e s fl : Value} {T : Tab} {fleet : List Int} (h : TabAt H e s T) (hT : Valid T) (hf : IntsAt H fl fleet) (hlen : fleet.length = 3) (h0 : ∀ x ∈ fleet, 0 ≤ x) : AFun Try.prog 41 [tabV T e s, fl] H (fun r B => IntsAt B r (leftL T fleet) ∧ Ge H B) := by
  refine AFun.mk ok41 hm (Nat.le_of_ble_eq_true rfl) ?_
  have hfew := hT.few
  have g0 : Ge H (H.new (.cells true [.int .i64 T.places, .int .i64 T.layover, e, s] 4)) := Ge.new _ _
  simp [a41, r41]
  refine fcall_fun (all_spec (kind := -1) (w := []) (h.ge g0) (by omega) ⟨⟨by simp [slCells], fun a n c e => by cases e⟩, by simp⟩) ?_
  rintro v1 H1 ⟨hO, g1⟩
  have G1 := g0.trans g1
  have n1 := g1.next
  simp at n1
  have b1 := g1.got (n := H.next) (by simp) rfl
  simp at b1
  have hfl12 : (fullL T).length ≤ 12 := by simp [fullL]; omega
  have hi1 : IntsAt H1 v1 (fullL T) := by
    rw [← full_eq] at hO
    exact ⟨by simpa using hO.slr, by omega⟩
  have hp12 : (2 : Nat) ^ T.trips.length ≤ 2 ^ 12 := Nat.pow_le_pow_right (by omega) hfew
  have hwu : IntKind.u64.wrap (T.trips.length : Int) = (T.trips.length : Int) := by
    have e1 : (2 ^ IntKind.u64.bits : Int) = 18446744073709551616 := rfl
    have e3 : IntKind.u64.signed = false := rfl
    simp only [IntKind.wrap, e1, e3, Bool.false_and, Bool.false_eq_true, if_false]
    omega
  simp
  refine floop_intro (fun z => z.d = [] ∧ Ge H z.H ∧ H.next + 1 ≤ z.H.next ∧ z.t 1 = fl ∧ z.t 2 = .pointer (some ⟨H.next, 0, none⟩) ∧ z.H.get H.next = .cells true [.int .i64 T.places, .int .i64 T.layover, e, s] 4 ∧
    ∃ (S : Nat) (b : List Int), S ≤ 2 ^ T.trips.length ∧ z.t 6 = .int .i64 S ∧ Tried T fleet S b ∧ IntsAt z.H (z.t 5) b) (fun z => 2 ^ T.trips.length - (intOf (z.t 6)).toNat) ?_ ?_
  · exact ⟨rfl, G1, by omega, by simp, by simp, b1, 0, fullL T, Nat.zero_le _, by simp, Tried.start hT hlen h0, by simpa using hi1⟩
  rintro ⟨t, _, A⟩ ⟨rfl, gA, hn, t1, t2, bA, S, b, hS, t6, hTr, hb⟩
  dsimp only at gA hn t1 t2 bA t6 hb
  simp [t2, t6, bA, h.trips.lenV, hwu]
  rw [aval_shl1 (n := T.trips.length) (by simp) (by decide) hfew]
  simp
  refine fcond_intro (fun hc => ?_) (fun hc => ?_)
  · have hS' : S < 2 ^ T.trips.length := by simp at hc; exact_mod_cast hc
    simp
    refine floop_intro (fun z => z.d = [] ∧ Ge A z.H ∧ z.t 1 = fl ∧ z.t 2 = .pointer (some ⟨H.next, 0, none⟩) ∧ z.t 5 = t 5 ∧ z.t 6 = .int .i64 S ∧
      ∃ i : Nat, i ≤ T.trips.length ∧ z.t 8 = .int .i64 i ∧ OwnSl z.H A.next (z.t 7) ((numsOf i fun i => S.testBit i).map (.int .i64))) (fun z => T.trips.length - (intOf (z.t 8)).toNat) ?_ ?_
    · exact ⟨rfl, Ge.refl _, by simp [t1], by simp [t2], by simp, by simp [t6], 0, by simp, by simp, .inl ⟨by simp, by simp [numsOf]⟩⟩
    rintro ⟨u, _, C⟩ ⟨rfl, gC, u1, u2, u5, u6, i, hi, u8, hO⟩
    dsimp only at gC u1 u2 u5 u6 u8 hO
    have nC := gC.next
    have bC := gC.got (by omega) bA
    simp [u2, u8, bC, h.trips.lenV]
    refine fcond_intro (fun hci => ?_) (fun hci => ?_)
    · have hi' : i < T.trips.length := by simp at hci; omega
      have hwi : IntKind.u64.wrap (i : Int) = (i : Int) := by
        have e1 : (2 ^ IntKind.u64.bits : Int) = 18446744073709551616 := rfl
        have e3 : IntKind.u64.signed = false := rfl
        simp only [IntKind.wrap, e1, e3, Bool.false_and, Bool.false_eq_true, if_false]
        omega
      simp [u6, u8, hwi]
      rw [aval_shrN (s := S) (n := i) (by simp) (by simp) (by decide) (by decide) (by omega)]
      simp only [oval_some]
      have hs : numsOf (i + 1) (fun i => S.testBit i) = if S.testBit i then numsOf i (fun i => S.testBit i) ++ [(i : Int)] else numsOf i (fun i => S.testBit i) := numsOf_succ
      have hbt := bits_at (s := S) (i := i)
      simp [binI_rem]
      have hbt' : decide ((((S / 2 ^ i : Nat) : Int)).tmod 2 = 1) = S.testBit i := hbt
      simp at hbt'
      cases hbit : S.testBit i
      · rw [hbit] at hs hbt'
        simp at hbt' hs
        simp [hbt', u8, add_in (x := i) (y := 1) (by omega) (by omega)]
        exact ⟨⟨gC, u1, u2, u5, u6, i + 1, by omega, by omega, by rw [hs]; exact hO⟩, by omega⟩
      · rw [hbit] at hs hbt'
        simp at hbt' hs
        simp [hbt', u8]
        have gN : Ge C (C.new (.cells true [.int .i64 i] 1)) := Ge.new _ _
        have hll := numsOf_bound (n := i) (f := fun i => S.testBit i)
        refine fapp_own (lo := A.next) (hO.ge gN) (slCells_new (x := .int .i64 i) (rw := true) (c := 1) (by simp)) rfl (by simp; omega) (by omega) (Nat.le_refl _) (by omega) (by simp; omega) fun u' D k1 k2 k3 k4 => ?_
        have hD : ∀ q, q < A.next → D.get q = C.get q := fun q hq => by
          rw [k4 q (by simp; omega) (fun e => by have := (hO.names e).1; omega), gN.get q (by omega)]
        simp [u8, add_in (x := i) (y := 1) (by omega) (by omega)]
        exact ⟨⟨⟨by omega, fun q hq => by rw [hD q (by omega), gC.get q hq]⟩, u1, u2, u5, u6, i + 1, by omega, by omega, by rw [hs]; simpa using k1⟩, by omega⟩
    · have hin : i = T.trips.length := by simp at hci; omega
      subst hin
      have hlb := numsOf_bound (n := T.trips.length) (f := fun i => S.testBit i)
      have hl7 : IntsAt C (u 7) (bitsL T.trips.length S) := ⟨by simpa [bitsL] using hO.slr, by simp [bitsL]; omega⟩
      simp [u5, u6]
      refine fcall_fun (less_spec hl7 (hb.ge gC)) ?_
      rintro _ D ⟨rfl, gD⟩
      have nD := gD.next
      have bD := gD.got (by omega) bC
      have gAD := gC.trans gD
      have mv : IntKind.i64.wrap 0 = 0 := rfl
      cases hls : lessL (bitsL T.trips.length S) b
      · simp [u5, u6, add_in (x := S) (y := 1) (by omega) (by omega)]
        exact ⟨⟨gA.trans gAD, by omega, u1, u2, bD, S + 1, by omega, by omega, b, hTr.leave (.inl hls), hb.ge gAD⟩, by simp only [t6, intOf_int, Int.toNat_natCast]; omega⟩
      · simp [u1, u2, bD]
        refine fcall_fun (refEnough_spec (h.ge (gA.trans gAD)) hT (hf.ge (gA.trans gAD)) hlen (hl7.ge gD)) ?_
        rintro _ E ⟨rfl, gE⟩
        have nE := gE.next
        have bE := gE.got (by omega) bD
        have gAE := gAD.trans gE
        cases hfi : fitsB T fleet (bitsL T.trips.length S) 3
        · have hnf : ¬ fits3 T fleet (bitsL T.trips.length S) := fun hq => by rw [fitsB_iff.2 hq] at hfi; cases hfi
          simp [u5, u6, add_in (x := S) (y := 1) (by omega) (by omega)]
          exact ⟨⟨gA.trans gAE, by omega, u1, u2, bE, S + 1, by omega, by omega, b, hTr.leave (.inr hnf), hb.ge gAE⟩, by simp only [t6, intOf_int, Int.toNat_natCast]; omega⟩
        · have hyf := fitsB_iff.1 hfi
          simp [u6, add_in (x := S) (y := 1) (by omega) (by omega)]
          exact ⟨⟨gA.trans gAE, by omega, u1, u2, bE, S + 1, by omega, by omega, _, hTr.take hls hyf, hl7.ge (gD.trans gE)⟩, by simp only [t6, intOf_int, Int.toNat_natCast]; omega⟩
  · have hSn : S = 2 ^ T.trips.length := by
      have h2 : 2 ^ T.trips.length ≤ S := by simp at hc; exact_mod_cast hc
      omega
    subst hSn
    have hd := hTr.done hT hlen h0
    simp
    rw [← hd]
    exact ⟨hb, gA⟩

end Go.Proofs.Ytohohnpjilinmaa

/-
  What RunLacks answers.
-/
namespace Go.Proofs.Ytohohnpjilinmaa
open Go Go.Ab

theorem runLacks_of {e s fv : Value} {T : Tab} {fleet : List Int} {H : Heap} (h : TabAt H e s T) (hf : IntsAt H fv fleet) : AFun Try.prog 7 [tabV T e s, fv] H (fun v B => v = .bool true ∧ Ge H B) := by
  refine AFun.mk ok7 hm (Nat.le_of_ble_eq_true rfl) ?_
  have g0 : Ge H (H.new (.cells true [.int .i64 T.places, .int .i64 T.layover, e, s] 4)) := Ge.new _ _
  simp [a7, r7]
  refine fcall_fun (few_spec (h.ge g0)) ?_
  rintro _ H1 ⟨rfl, g1⟩
  have G1 := g0.trans g1
  have n1 := g1.next
  simp at n1
  have b1 := g1.got (n := H.next) (by simp) rfl
  simp at b1
  cases hrd : fewT T
  · simp
    refine fcall_fun (awake_spec _) ?_
    rintro _ B ⟨rfl, gB⟩
    simp
    exact G1.trans gB
  simp only [fewT, Bool.and_eq_true] at hrd
  obtain ⟨hth, hfw⟩ := hrd
  by_cases hl : 5 < (fleet.length : Int)
  · simp [hf.lenV, hl]
    refine fcall_fun (awake_spec _) ?_
    rintro _ B ⟨rfl, gB⟩
    simp
    exact G1.trans gB
  simp [hf.lenV, hl, b1]
  refine fcall_fun (table_spec (h.ge G1) hth) ?_
  rintro _ H2 ⟨⟨e2, s2, rfl, t2⟩, g2⟩
  have G2 := G1.trans g2
  have n2 := g2.next
  simp
  refine fcall_fun (list_spec (hf.ge G2) (by omega)) ?_
  rintro r3 H3 ⟨hr3, g3⟩
  have G3 := G2.trans g3
  have n3 := g3.next
  have hi3 : IntsAt H3 r3 fleet := ⟨by simpa using hr3.slr, by omega⟩
  simp
  refine fcall_fun (lacks_spec (t2.ge g3) hi3) ?_
  rintro r4 H4 ⟨g4, hbad, hrange, hgood⟩
  have G4 := G3.trans g4
  have n4 := g4.next
  have b4 := g4.got (by omega) (g3.got (by omega) (g2.got (by omega) b1))
  -- what came back
  have hr4 : ∃ lv ev, r4 = .tuple #[lv, .int .i64 ev] ∧ ((checkT T ≠ 0 ∧ lv = .slice none 0 0 ∧ ev = checkT T) ∨ (checkT T = 0 ∧ fleetOk fleet = false ∧ lv = .slice none 0 0 ∧ ev = 2) ∨ (checkT T = 0 ∧ fleetOk fleet = true ∧ ev = 0 ∧ IntsAt H4 lv (leftL T fleet))) := by
    by_cases hc : checkT T = 0
    · cases hfo : fleetOk fleet
      · exact ⟨_, _, hrange hc hfo, .inr (.inl ⟨hc, rfl, rfl, rfl⟩)⟩
      · obtain ⟨v, h1, h2⟩ := hgood hc hfo
        exact ⟨v, 0, h1, .inr (.inr ⟨hc, rfl, rfl, h2⟩)⟩
    · exact ⟨_, _, hbad hc, .inl ⟨hc, rfl, rfl⟩⟩
  obtain ⟨lv, ev, rfl, hcase⟩ := hr4
  simp [b4]
  refine fcall_fun (faultOf_spec (h.ge G4)) ?_
  rintro _ H5 ⟨rfl, g5⟩
  have G5 := G4.trans g5
  have n5 := g5.next
  have b5 := g5.got (by omega) b4
  rcases hcase with ⟨hc, rfl, rfl⟩ | ⟨hc, hfo, rfl, rfl⟩ | ⟨hc, hfo, rfl, hlv⟩
  · simp [hc]
    refine fcall_fun (awake_spec _) ?_
    rintro _ B ⟨rfl, gB⟩
    simp
    exact G5.trans gB
  · simp [hc]
    refine fcall_fun (isFleet_spec (hf.ge G5)) ?_
    rintro _ H6 ⟨rfl, g6⟩
    simp [hfo]
    refine fcall_fun (awake_spec _) ?_
    rintro _ B ⟨rfl, gB⟩
    simp
    exact (G5.trans g6).trans gB
  · have hT := checkT_zero.1 hc
    simp [hc]
    refine fcall_fun (isFleet_spec (hf.ge G5)) ?_
    rintro _ H6 ⟨rfl, g6⟩
    have G6 := G5.trans g6
    have n6 := g6.next
    have b6 := g6.got (by omega) b5
    have hfo2 := hfo
    simp only [fleetOk, Bool.and_eq_true, decide_eq_true_eq, List.all_eq_true] at hfo2
    simp [hfo, b6]
    refine fcall_fun (refLacks_spec (h.ge G6) hT (hf.ge G6) hfo2.1 (fun x hx => (hfo2.2 x hx).1)) ?_
    rintro rv H7 ⟨hrv, g7⟩
    have G7 := G6.trans g7
    simp
    refine fcall_fun (ints_spec (hlv.ge ((g5.trans g6).trans g7)) hrv) ?_
    rintro _ H8 ⟨rfl, g8⟩
    have G8 := G7.trans g8
    simp
    refine fcall_fun (awake_spec _) ?_
    rintro _ B ⟨rfl, gB⟩
    simp
    exact G8.trans gB

end Go.Proofs.Ytohohnpjilinmaa
