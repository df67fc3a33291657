/-
  Joined texts of a calculus of abstract memory, and of contracts of the program's functions.
-/
import Derived.Test.YtohohnpjilinmaaJ12
/-
  The kinds of a timetable: as many may be led as in each alone.
-/
namespace Go.Proofs.Ytohohnpjilinmaa

theorem cnt_or {n : Nat} {f g : Nat → Bool} : cntN n (fun x => f x || g x) ≤ cntN n f + cntN n g := by
  rw [cntN_split (f := fun x => f x || g x) f]
  refine Nat.add_le_add (cntN_mono fun k _ hk => ?_) (cntN_mono fun k _ hk => ?_)
  · simp at hk; exact hk.2
  · simp at hk; simpa [hk.2] using hk.1

/-- Which trips are of a kind, as a choice. -/
def maskK (T : Tab) (k : Int) : List Bool := (List.range 12).map fun i => decide (i < T.trips.length) && decide (kindN T i = k)
theorem maskK_at {T : Tab} {k : Int} {i : Nat} (hi : i < 12) : (maskK T k)[i]?.getD false = (decide (i < T.trips.length) && decide (kindN T i = k)) := by simp [maskK, hi]

theorem may_kind2 {T : Tab} {i j : Nat} (hi : i < T.trips.length) (hj : j < T.trips.length) (h : T.mayN i j = true) : kindN T i = kindN T j := by
  rw [Tab.mayN_eq hi hj] at h
  simp only [Tab.may, Bool.and_eq_true, Bool.not_eq_true', Bool.or_eq_false_iff, Bool.not_eq_false'] at h
  have := of_decide_eq_true h.1.2
  simpa [kindN, hi, hj] using this

theorem kindN_three {T : Tab} (hT : Valid T) {i : Nat} (hi : i < T.trips.length) : kindN T i = 0 ∨ kindN T i = 1 ∨ kindN T i = 2 := by
  have := hT.trip (List.getElem_mem hi)
  simp only [kindN, hi, List.getElem?_eq_getElem, Option.getD_some]
  omega

theorem kinds_most {T : Tab} (hT : Valid T) : T.mostL (maskK T 0) + T.mostL (maskK T 1) + T.mostL (maskK T 2) = T.most := by
  have hfew := hT.few
  have hlk : ∀ (k : Int) (i : Nat), i < T.trips.length → (maskK T k)[i]?.getD false = decide (kindN T i = k) := fun k i hi => by
    rw [maskK_at (by omega)]; simp [hi]
  apply Nat.le_antisymm
  · obtain ⟨a, b, hc, hs⟩ := mostL_cov hfew (upTo T.trips.length)
    have hk : ∀ k : Int, T.mostL (maskK T k) ≤ cntN T.trips.length (fun x => a x && decide (kindN T x = k)) + cntN T.trips.length (fun x => b x && decide (kindN T x = k)) := fun k => by
      refine mostL_le hfew fun i j hi hj he => ?_
      simp only [Tab.mayL, hlk k i hi, hlk k j hj, Bool.and_eq_true, decide_eq_true_eq] at he
      have := hc i j hi hj (by rw [mayL_upTo hfew hi hj]; exact he.2)
      simpa [he.1.1, he.1.2] using this
    have hsum : ∀ f : Nat → Bool, cntN T.trips.length (fun x => f x && decide (kindN T x = 0)) + cntN T.trips.length (fun x => f x && decide (kindN T x = 1)) + cntN T.trips.length (fun x => f x && decide (kindN T x = 2)) ≤ cntN T.trips.length f := fun f => by
      have h1 := cntN_split (n := T.trips.length) (f := f) (fun x => decide (kindN T x = 0))
      have h2 := cntN_split (n := T.trips.length) (f := fun x => f x && !decide (kindN T x = 0)) (fun x => decide (kindN T x = 1))
      have h3 : cntN T.trips.length (fun x => f x && decide (kindN T x = 1)) ≤ cntN T.trips.length (fun x => (f x && !decide (kindN T x = 0)) && decide (kindN T x = 1)) := cntN_mono fun x _ hx => by
        simp at hx; simp [hx]
      have h4 : cntN T.trips.length (fun x => f x && decide (kindN T x = 2)) ≤ cntN T.trips.length (fun x => (f x && !decide (kindN T x = 0)) && !decide (kindN T x = 1)) := cntN_mono fun x _ hx => by
        simp at hx; simp [hx]
      omega
    have h0 := hk 0
    have h1 := hk 1
    have h2 := hk 2
    have ha := hsum a
    have hb := hsum b
    rw [most_all]
    have hm : T.mostL (upTo T.trips.length) = cntN T.trips.length a + cntN T.trips.length b := Nat.le_antisymm (mostL_le hfew hc) hs
    omega
  · obtain ⟨a0, b0, c0, s0⟩ := mostL_cov hfew (maskK T 0)
    obtain ⟨a1, b1, c1, s1⟩ := mostL_cov hfew (maskK T 1)
    obtain ⟨a2, b2, c2, s2⟩ := mostL_cov hfew (maskK T 2)
    rw [most_all]
    have h := mostL_le hfew (looked := upTo T.trips.length) (a := fun x => (a0 x || a1 x) || a2 x) (b := fun x => (b0 x || b1 x) || b2 x) (fun i j hi hj he => by
      rw [mayL_upTo hfew hi hj] at he
      have hk := may_kind2 hi hj he
      have hin : ∀ k : Int, kindN T i = k → T.mayL (maskK T k) i j = true := fun k h => by
        simp only [Tab.mayL, hlk k i hi, hlk k j hj, ← hk, h, he, decide_true, Bool.and_self]
      rcases kindN_three hT hi with h | h | h
      · rcases c0 i j hi hj (hin _ h) with q | q <;> simp [q]
      · rcases c1 i j hi hj (hin _ h) with q | q <;> simp [q]
      · rcases c2 i j hi hj (hin _ h) with q | q <;> simp [q])
    have q1 := cnt_or (n := T.trips.length) (f := fun x => a0 x || a1 x) (g := a2)
    have q2 := cnt_or (n := T.trips.length) (f := a0) (g := a1)
    have q3 := cnt_or (n := T.trips.length) (f := fun x => b0 x || b1 x) (g := b2)
    have q4 := cnt_or (n := T.trips.length) (f := b0) (g := b1)
    omega

theorem kinds_count {T : Tab} (hT : Valid T) : cntN T.trips.length (okAll T 0 []) + cntN T.trips.length (okAll T 1 []) + cntN T.trips.length (okAll T 2 []) = T.trips.length := by
  have hf : ∀ k : Int, 0 ≤ k → cntN T.trips.length (okAll T k []) = cntN T.trips.length (fun x => decide (kindN T x = k)) := fun k hk => cntN_congr fun x _ => by
    have hk' : ¬ k < 0 := by omega
    simp [okAll, hk']
  rw [hf 0 (by omega), hf 1 (by omega), hf 2 (by omega)]
  have h0 : cntN T.trips.length (fun _ => true) = T.trips.length := by
    unfold cntN; rw [List.filter_eq_self.2 (fun _ _ => rfl)]; simp
  have h1 := cntN_split (n := T.trips.length) (f := fun _ => true) (fun x => decide (kindN T x = 0))
  have h2 := cntN_split (n := T.trips.length) (f := fun x => true && !decide (kindN T x = 0)) (fun x => decide (kindN T x = 1))
  have h3 : cntN T.trips.length (fun x => true && decide (kindN T x = 0)) = cntN T.trips.length (fun x => decide (kindN T x = 0)) := cntN_congr fun x _ => by simp
  have h4 : cntN T.trips.length (fun x => (true && !decide (kindN T x = 0)) && decide (kindN T x = 1)) = cntN T.trips.length (fun x => decide (kindN T x = 1)) := cntN_congr fun x _ => by
    by_cases e : kindN T x = 1 <;> simp [e]
  have h5 : cntN T.trips.length (fun x => (true && !decide (kindN T x = 0)) && !decide (kindN T x = 1)) = cntN T.trips.length (fun x => decide (kindN T x = 2)) := cntN_congr fun x hx => by
    rcases kindN_three hT hx with e | e | e <;> simp [e]
  omega

/-- The fewest buses are the sum of those of the kinds. -/
theorem kinds_cut {T : Tab} (hT : Valid T) : fewK T [] 0 + fewK T [] 1 + fewK T [] 2 = (cutL T).length := by
  have hk : ∀ k : Nat, fewK T [] k + T.mostL (maskK T k) = cntN T.trips.length (okAll T k []) := fun k =>
    only_cut hT fun i hi => by
      rw [maskK_at (by have := hT.few; omega)]
      have hk' : ¬ (k : Int) < 0 := by omega
      simp [okAll, hi, hk']
  have h0 := hk 0
  have h1 := hk 1
  have h2 := hk 2
  have h3 := kinds_most hT
  have h4 := kinds_count hT
  have h5 := cutL_size hT
  simp only [Int.cast_ofNat_Int] at h0 h1 h2
  have e1 : ((1 : Nat) : Int) = 1 := rfl
  have e2 : ((2 : Nat) : Int) = 2 := rfl
  omega

end Go.Proofs.Ytohohnpjilinmaa

/-
  The fewest blocks by trying: the mathematics of the reference's search.
-/
namespace Go.Proofs.Ytohohnpjilinmaa

def fewStep (T : Tab) (x : Int) (tk : List Bool) (F : List Bool → Nat) (best : Nat) (k : Int) : Nat :=
  if !(tk[k.toNat]?.getD false) && T.mayN x.toNat k.toNat then min best (F (tk.set k.toNat true)) else best

def fewR (T : Tab) (l : List Int) : List Int → List Bool → Nat
  | [], _ => 0
  | x :: rest, tk => l.foldl (fewStep T x tk (fewR T l rest)) (1 + fewR T l rest tk)

theorem step_le {T : Tab} {x k : Int} {tk : List Bool} {F : List Bool → Nat} {b : Nat} : fewStep T x tk F b k ≤ b := by
  unfold fewStep; split
  · exact Nat.min_le_left _ _
  · exact Nat.le_refl _
theorem fold_le {T : Tab} {x : Int} {tk : List Bool} {F : List Bool → Nat} : ∀ {l : List Int} {b : Nat}, l.foldl (fewStep T x tk F) b ≤ b
  | [], _ => Nat.le_refl _
  | _k :: l, _b => Nat.le_trans (fold_le (l := l)) step_le
theorem fold_le_at {T : Tab} {x k : Int} {tk : List Bool} {F : List Bool → Nat} (h1 : tk[k.toNat]?.getD false = false) (h2 : T.mayN x.toNat k.toNat = true) : ∀ {l : List Int} {b : Nat}, k ∈ l → l.foldl (fewStep T x tk F) b ≤ F (tk.set k.toNat true)
  | [], _, h => by cases h
  | y :: l, b, h => by
    rcases List.mem_cons.1 h with rfl | h
    · refine Nat.le_trans (fold_le (l := l)) ?_
      unfold fewStep
      simp only [h1, h2, Bool.not_false, Bool.and_self, if_true]
      exact Nat.min_le_right _ _
    · have := fold_le_at (F := F) h1 h2 (l := l) (b := fewStep T x tk F b y) h
      exact this
theorem fold_is {T : Tab} {x : Int} {tk : List Bool} {F : List Bool → Nat} : ∀ {l : List Int} {b : Nat}, l.foldl (fewStep T x tk F) b = b ∨ ∃ k ∈ l, tk[k.toNat]?.getD false = false ∧ T.mayN x.toNat k.toNat = true ∧ l.foldl (fewStep T x tk F) b = F (tk.set k.toNat true)
  | [], b => .inl rfl
  | y :: l, b => by
    simp only [List.foldl_cons]
    rcases fold_is (l := l) (b := fewStep T x tk F b y) (T := T) (x := x) (tk := tk) (F := F) with h | ⟨k, h1, h2, h3, h4⟩
    · rw [h]
      unfold fewStep
      split
      · rename_i hc
        simp only [Bool.and_eq_true, Bool.not_eq_true'] at hc
        rcases Nat.le_total b (F (tk.set y.toNat true)) with hm | hm
        · exact .inl (Nat.min_eq_left hm)
        · exact .inr ⟨y, List.mem_cons_self, hc.1, hc.2, Nat.min_eq_right hm⟩
      · exact .inl rfl
    · exact .inr ⟨k, List.mem_cons_of_mem _ h1, h2, h3, h4⟩

theorem fewR_le {T : Tab} {l : List Int} : ∀ (rest : List Int) (tk : List Bool), fewR T l rest tk ≤ rest.length
  | [], _ => Nat.le_refl _
  | x :: rest, tk => by
    have h1 := fold_le (T := T) (x := x) (tk := tk) (F := fewR T l rest) (l := l) (b := 1 + fewR T l rest tk)
    have h2 := fewR_le (T := T) rest tk (l := l)
    simp only [fewR, List.length_cons]
    omega

/-- Who is followed by whom. -/
structure Src (T : Tab) (l rest : List Int) (tk : List Bool) (q : Int → Option Int) : Prop where
  to : ∀ x ∈ rest, ∀ k, q x = some k → k ∈ l ∧ tk[k.toNat]?.getD false = false ∧ T.mayN x.toNat k.toNat = true
  inj : ∀ x ∈ rest, ∀ y ∈ rest, ∀ k, q x = some k → q y = some k → x = y

variable {T : Tab} {l : List Int}

theorem fewR_low (hl : ∀ x ∈ l, 0 ≤ x) {q : Int → Option Int} : ∀ (rest : List Int) (tk : List Bool), rest.Nodup → Src T l rest tk q → fewR T l rest tk + rest.countP (fun x => (q x).isSome) ≤ rest.length
  | [], _, _, _ => by simp [fewR]
  | x :: rest, tk, hn, h => by
    rw [List.nodup_cons] at hn
    rw [List.countP_cons]
    cases hq : q x with
    | none =>
      have ih := fewR_low hl rest tk hn.2 ⟨fun y hy => h.to y (List.mem_cons_of_mem _ hy), fun y hy z hz => h.inj y (List.mem_cons_of_mem _ hy) z (List.mem_cons_of_mem _ hz)⟩
      have h1 := fold_le (T := T) (x := x) (tk := tk) (F := fewR T l rest) (l := l) (b := 1 + fewR T l rest tk)
      simp only [fewR, List.length_cons, Option.isSome_none, Bool.false_eq_true, if_false]
      omega
    | some k =>
      obtain ⟨k1, k2, k3⟩ := h.to x List.mem_cons_self k hq
      have ih := fewR_low hl rest (tk.set k.toNat true) hn.2 ⟨fun y hy k' hk' => by
        obtain ⟨j1, j2, j3⟩ := h.to y (List.mem_cons_of_mem _ hy) k' hk'
        refine ⟨j1, ?_, j3⟩
        have hne : k'.toNat ≠ k.toNat := fun e => by
          have e2 : k' = k := by have := hl _ j1; have := hl _ k1; omega
          subst e2
          have := h.inj x List.mem_cons_self y (List.mem_cons_of_mem _ hy) k' hq hk'
          subst this
          exact hn.1 hy
        rw [List.getElem?_set_ne (Ne.symm hne)]; exact j2, fun y hy z hz => h.inj y (List.mem_cons_of_mem _ hy) z (List.mem_cons_of_mem _ hz)⟩
      have h1 := fold_le_at (T := T) (x := x) (tk := tk) (F := fewR T l rest) (b := 1 + fewR T l rest tk) k2 k3 k1
      simp only [fewR, List.length_cons, Option.isSome_some, if_true]
      omega

theorem fewR_is (hl : ∀ x ∈ l, 0 ≤ x) : ∀ (rest : List Int) (tk : List Bool), rest.Nodup → (∀ x ∈ l, x.toNat < tk.length) → ∃ q, Src T l rest tk q ∧ fewR T l rest tk + rest.countP (fun x => (q x).isSome) = rest.length
  | [], _, _, _ => ⟨fun _ => none, ⟨fun x hx => (by cases hx), fun x hx => (by cases hx)⟩, by simp [fewR]⟩
  | x :: rest, tk, hn, hlen => by
    rw [List.nodup_cons] at hn
    rcases fold_is (T := T) (x := x) (tk := tk) (F := fewR T l rest) (l := l) (b := 1 + fewR T l rest tk) with h | ⟨k, h1, h2, h3, h4⟩
    · obtain ⟨q, hq, hs⟩ := fewR_is hl rest tk hn.2 hlen
      have hne : ∀ y ∈ rest, y ≠ x := fun y hy e => hn.1 (e ▸ hy)
      have hc : rest.countP (fun y => ((if y = x then none else q y : Option Int)).isSome) = rest.countP (fun y => (q y).isSome) := List.countP_congr fun y hy => by simp [hne y hy]
      refine ⟨fun y => if y = x then none else q y, ⟨fun y hy k hk => ?_, fun y hy z hz k hky hkz => ?_⟩, ?_⟩
      · split at hk
        · cases hk
        · rename_i e
          exact hq.to y ((List.mem_cons.1 hy).resolve_left e) k hk
      · split at hky
        · cases hky
        · split at hkz
          · cases hkz
          · rename_i e1 e2
            exact hq.inj y ((List.mem_cons.1 hy).resolve_left e1) z ((List.mem_cons.1 hz).resolve_left e2) k hky hkz
      · rw [List.countP_cons, hc]
        simp only [fewR, h, List.length_cons, if_true, Option.isSome_none, Bool.false_eq_true, if_false]
        omega
    · obtain ⟨q, hq, hs⟩ := fewR_is hl rest (tk.set k.toNat true) hn.2 (fun y hy => by rw [List.length_set]; exact hlen y hy)
      have hne : ∀ y ∈ rest, y ≠ x := fun y hy e => hn.1 (e ▸ hy)
      have hc : rest.countP (fun y => ((if y = x then some k else q y : Option Int)).isSome) = rest.countP (fun y => (q y).isSome) := List.countP_congr fun y hy => by simp [hne y hy]
      have hnk : ∀ y ∈ rest, q y ≠ some k := fun y hy e => by
        have := (hq.to y hy k e).2.1
        rw [List.getElem?_set_self (hlen k h1)] at this
        cases this
      refine ⟨fun y => if y = x then some k else q y, ⟨fun y hy k' hk => ?_, fun y hy z hz k' hky hkz => ?_⟩, ?_⟩
      · split at hk
        · rename_i e; subst e; cases hk; exact ⟨h1, h2, h3⟩
        · rename_i e
          obtain ⟨j1, j2, j3⟩ := hq.to y ((List.mem_cons.1 hy).resolve_left e) k' hk
          refine ⟨j1, ?_, j3⟩
          by_cases e2 : k'.toNat = k.toNat
          · rw [e2]; exact h2
          · rwa [List.getElem?_set_ne (Ne.symm e2)] at j2
      · split at hky
        · split at hkz
          · rename_i e1 e2; rw [e1, e2]
          · rename_i e1 e2
            cases hky
            exact absurd hkz (hnk z ((List.mem_cons.1 hz).resolve_left e2))
        · split at hkz
          · rename_i e1 e2
            cases hkz
            exact absurd hky (hnk y ((List.mem_cons.1 hy).resolve_left e1))
          · rename_i e1 e2
            exact hq.inj y ((List.mem_cons.1 hy).resolve_left e1) z ((List.mem_cons.1 hz).resolve_left e2) k' hky hkz
      · rw [List.countP_cons, hc]
        simp only [fewR, h4, List.length_cons, if_true, Option.isSome_some]
        omega

end Go.Proofs.Ytohohnpjilinmaa

/-
  The reference's search finds the fewest.
-/
namespace Go.Proofs.Ytohohnpjilinmaa

theorem numsOf_nodup {n : Nat} {f : Nat → Bool} : (numsOf n f).Nodup := numsOf_rise.imp fun hab => by omega

theorem countP_nums {n : Nat} {f : Nat → Bool} {g : Int → Bool} : (numsOf n f).countP g = cntN n (fun x => f x && g (x : Int)) := by
  induction n with
  | zero => simp [numsOf, cntN]
  | succ n ih =>
    rw [numsOf_succ, cntN_succ, ← ih]
    cases hf : f n
    · simp
    · simp [List.countP_append, List.countP_cons]

theorem fewR_most {T : Tab} (hT : Valid T) {f : Nat → Bool} {looked tk : List Bool} (hlk : ∀ i, i < T.trips.length → looked[i]?.getD false = f i) (htk : tk = List.replicate T.trips.length false) :
    fewR T (numsOf T.trips.length f) (numsOf T.trips.length f) tk + T.mostL looked = cntN T.trips.length f := by
  have hfew := hT.few
  have hl0 : ∀ x ∈ numsOf T.trips.length f, 0 ≤ x := fun x hx => by
    obtain ⟨k, _, _, rfl⟩ := numsOf_mem.1 hx; omega
  have htf : ∀ i : Nat, tk[i]?.getD false = false := fun i => by
    rw [htk, List.getElem?_replicate]; split <;> rfl
  have hlen : ∀ x ∈ numsOf T.trips.length f, x.toNat < tk.length := fun x hx => by
    obtain ⟨k, h1, _, rfl⟩ := numsOf_mem.1 hx
    rw [htk, List.length_replicate]; simpa using h1
  rw [← numsOf_length]
  apply Nat.le_antisymm
  · -- as many are followed as are led
    have hM := joinL_mat (looked := looked) (followers_ok hfew) T.trips.length (Nat.le_refl _)
    have hmost : T.mostL looked = ledSize T.trips.length (joinL T.followers looked T.trips.length) := rfl
    generalize joinL T.followers looked T.trips.length = led at hM hmost
    have hpm := hM.pm
    have hq : Src T (numsOf T.trips.length f) (numsOf T.trips.length f) tk (fun x => if (turnL led)[x.toNat]?.getD (-1) = -1 then none else some ((turnL led)[x.toNat]?.getD (-1))) := by
      refine ⟨fun x hx k hk => ?_, fun x hx y hy k hkx hky => ?_⟩
      · split at hk
        · cases hk
        · rename_i hne
          have hkk := Option.some.inj hk
          obtain ⟨i, h1, h2, rfl⟩ := numsOf_mem.1 hx
          obtain ⟨k0, k1⟩ := turn_led hT hM (by omega) hkk (by rw [← hkk]; exact hne)
          have hp := ledP_of (i := i) k1
          have hkn : k.toNat < T.trips.length := by
            have hok := turn_ok hT hM
            have hl := (left_next hT hok (x := (i : Int)) (by omega) (by simpa using h1)).2
            rw [hkk] at hl
            exact (hl.resolve_left (by rw [← hkk]; exact hne)).2
          obtain ⟨_, h4⟩ := hpm.edge _ _ hkn hp
          simp only [Tab.mayL, Bool.and_eq_true] at h4
          refine ⟨numsOf_mem.2 ⟨k.toNat, hkn, ?_, by omega⟩, htf _, by simpa using h4.2⟩
          rw [← hlk _ hkn]; exact h4.1.2
      · split at hkx
        · cases hkx
        · split at hky
          · cases hky
          · rename_i e1 e2
            have q1 := Option.some.inj hkx
            have q2 := Option.some.inj hky
            obtain ⟨_, k1⟩ := turn_led hT hM (hl0 x hx) q1 (by rw [← q1]; exact e1)
            obtain ⟨_, k2⟩ := turn_led hT hM (hl0 y hy) q2 (by rw [← q2]; exact e2)
            rw [k1] at k2
            exact Option.some.inj k2
    have h := fewR_low hl0 _ _ numsOf_nodup hq
    rw [countP_nums] at h
    have hc : T.mostL looked ≤ cntN T.trips.length (fun x => f x && ((fun x : Int => if (turnL led)[x.toNat]?.getD (-1) = -1 then none else some ((turnL led)[x.toNat]?.getD (-1))) (x : Int)).isSome) := by
      rw [hmost]
      refine cntN_inj (fun j => (led[j]?.getD 0).toNat) (fun j hj he => ?_) (fun j k hj hk hej hek he => ?_)
      · obtain ⟨i, hi⟩ := Option.isSome_iff_exists.1 he
        obtain ⟨h1, h2⟩ := hpm.edge j i hj hi
        have hs := ledP_some hi
        have hn := led_turn hT hM (y := (i : Int)) (x := (j : Int)) (by omega) (by omega) (by simpa using hs)
        simp only [Tab.mayL, Bool.and_eq_true] at h2
        simp at hn
        rw [hs]
        refine ⟨by simpa using h1, ?_⟩
        have hfi : f i = true := by rw [← hlk _ h1]; exact h2.1.1
        simp [hfi, hn]
      · obtain ⟨i, hi⟩ := Option.isSome_iff_exists.1 hej
        obtain ⟨i', hi'⟩ := Option.isSome_iff_exists.1 hek
        have hs := ledP_some hi
        have hs' := ledP_some hi'
        rw [hs, hs'] at he
        simp at he
        subst he
        exact hpm.inj j k i hj hk hi hi'
    dsimp only at hc
    omega
  · -- no more are followed than a cover has
    obtain ⟨q, hq, hs⟩ := fewR_is (T := T) hl0 _ tk numsOf_nodup hlen
    obtain ⟨a, b, hc, hab⟩ := mostL_cov hfew looked
    rw [countP_nums] at hs
    have h1 := cntN_split (n := T.trips.length) (f := fun x => f x && (q (x : Int)).isSome) a
    have h2 : cntN T.trips.length (fun x => (f x && (q (x : Int)).isSome) && a x) ≤ cntN T.trips.length a := cntN_mono fun x _ hx => by simp at hx; exact hx.2
    have h3 : cntN T.trips.length (fun x => (f x && (q (x : Int)).isSome) && !a x) ≤ cntN T.trips.length b := by
      refine cntN_inj (fun x => ((q (x : Int)).getD 0).toNat) (fun x hx he => ?_) (fun x y hx hy hex hey he => ?_)
      · simp only [Bool.and_eq_true, Bool.not_eq_true'] at he
        obtain ⟨k, hk⟩ := Option.isSome_iff_exists.1 he.1.2
        obtain ⟨m1, _, m3⟩ := hq.to x (numsOf_mem.2 ⟨x, hx, he.1.1, rfl⟩) k hk
        obtain ⟨k', k1, k2, rfl⟩ := numsOf_mem.1 m1
        rw [hk]
        simp at m3
        have := hc x k' hx k1 (by simp only [Tab.mayL, hlk _ hx, hlk _ k1, he.1.1, k2, m3, Bool.and_self])
        refine ⟨by simpa using k1, ?_⟩
        have := this.resolve_left (by rw [he.2]; simp)
        simpa using this
      · simp only [Bool.and_eq_true, Bool.not_eq_true'] at hex hey
        obtain ⟨k, hk⟩ := Option.isSome_iff_exists.1 hex.1.2
        obtain ⟨m, hm⟩ := Option.isSome_iff_exists.1 hey.1.2
        have u1 := numsOf_mem.2 ⟨x, hx, hex.1.1, rfl⟩
        have u2 := numsOf_mem.2 ⟨y, hy, hey.1.1, rfl⟩
        have g1 := hl0 _ (hq.to x u1 k hk).1
        have g2 := hl0 _ (hq.to y u2 m hm).1
        rw [hk, hm] at he
        simp at he
        have e : k = m := by omega
        subst e
        have := hq.inj x u1 y u2 k hk hm
        omega
    omega

end Go.Proofs.Ytohohnpjilinmaa

/-
  The contract of the reference's search for the fewest.
-/
namespace Go.Proofs.Ytohohnpjilinmaa
open Go Go.Ab

theorem wr_one {cs : List Value} {i : Nat} {v : Value} (h : i < cs.length) : wrL cs i [v] = cs.set i v := by
  rw [List.set_eq_take_append_cons_drop, if_pos h]; rfl

theorem refFewest_spec {H0 : Heap} {e s lv : Value} {T : Tab} {l : List Int} (h : TabAt H0 e s T) (hT : Valid T) (hl : IntsAt H0 lv l) (hnum : ∀ x ∈ l, T.num x = true) (hlen : l.length ≤ 12) :
    ∀ (d from_ : Nat) (tk : List Bool) (H : Heap) (tn cap c : Nat), from_ + d = l.length → Ge H0 H → H0.next ≤ tn → tn < H.next → H.get tn = .cells true (tk.map .bool) c → tk.length = T.trips.length →
      AFun Try.prog 58 [tabV T e s, lv, .int .i64 from_, .slice (some ⟨tn, 0, none⟩) T.trips.length cap] H (fun r B => r = .int .i64 (fewR T l (l.drop from_) tk) ∧ Ge H B) := by
  intro d
  have hfew := hT.few
  have hbnd := fewR_le (T := T) (l := l)
  induction d with
  | zero =>
    intro from_ tk H tn cap c hfd g htn htn2 htk htl
    have hff : from_ = l.length := by omega
    subst hff
    refine AFun.mk ok58 hm (Nat.le_of_ble_eq_true rfl) ?_
    simp [a58, r58, hl.lenV]
    simp [fewR]
  | succ d ih =>
    intro from_ tk H tn cap c hfd g htn htn2 htk htl
    have hf : from_ < l.length := by omega
    refine AFun.mk ok58 hm (Nat.le_of_ble_eq_true rfl) ?_
    have hne : ¬ (from_ : Int) = l.length := by omega
    have q0 : H.next ≠ tn := by omega
    have g0 : Ge H (H.new (.cells true [.int .i64 T.places, .int .i64 T.layover, e, s] 4)) := Ge.new _ _
    simp [a58, r58, hl.lenV, hne, add_in (x := from_) (y := 1) (by omega) (by omega)]
    have ih1 := ih (from_ + 1) tk _ tn cap c (by omega) (g.trans g0) htn (by simp; omega) (by simp [Ne.symm q0, htk]) htl
    simp at ih1
    refine fcall_fun ih1 ?_
    rintro _ B ⟨rfl, gB⟩
    have G1 := g0.trans gB
    have n1 := G1.next
    have nB := gB.next
    simp at nB
    have bB := gB.got (n := H.next) (by simp) rfl
    simp at bB
    have kB := G1.got htn2 htk
    have hb1 := hbnd (l.drop (from_ + 1)) tk
    have hdl : (l.drop (from_ + 1)).length = l.length - (from_ + 1) := by simp
    have hdrop : l.drop from_ = l[from_] :: l.drop (from_ + 1) := List.drop_eq_getElem_cons hf
    simp [add_in (x := 1) (y := fewR T l (l.drop (from_ + 1)) tk) (by omega) (by omega)]
    refine floop_intro (fun z => z.d = [] ∧ Ge H z.H ∧ H.next + 1 ≤ z.H.next ∧ z.t 1 = lv ∧ z.t 2 = .int .i64 from_ ∧ z.t 3 = .slice (some ⟨tn, 0, none⟩) T.trips.length cap ∧ z.t 4 = .pointer (some ⟨H.next, 0, none⟩) ∧ z.H.get H.next = .cells true [.int .i64 T.places, .int .i64 T.layover, e, s] 4 ∧
      ∃ m : Nat, m ≤ l.length ∧ z.t 10 = .int .i64 m ∧ z.t 9 = .int .i64 ((l.take m).foldl (fewStep T l[from_] tk (fewR T l (l.drop (from_ + 1)))) (1 + fewR T l (l.drop (from_ + 1)) tk) : Nat)) (fun z => l.length - (intOf (z.t 10)).toNat) ?_ ?_
    · exact ⟨rfl, G1, by omega, by simp, by simp, by simp, by simp, bB, 0, by simp, by simp, by simp⟩
    rintro ⟨t, _, A⟩ ⟨rfl, gA, hn, t1, t2, t3, t4, b0, m, hm', t10, t9⟩
    dsimp only at gA hn t1 t2 t3 t4 b0 t10 t9
    simp [t1, t10, hl.lenV]
    refine fcond_intro (fun hc => ?_) (fun hc => ?_)
    · have hmm : m < l.length := by simpa using hc
      have kA := gA.got htn2 htk
      have hnx := hnum _ (List.getElem_mem hmm)
      have hnf := hnum _ (List.getElem_mem hf)
      obtain ⟨x0, x1, x2⟩ := num_lt hfew hnx
      obtain ⟨q, e1, e2⟩ := (hl.ge (g.trans gA)).at hmm
      obtain ⟨q', e3, e4⟩ := (hl.ge ((g.trans gA).grow 14)).at hf
      have hI : islV 1 (.slice (some ⟨tn, 0, none⟩) T.trips.length cap) (.int .i64 l[m]) = some (.pointer (some ⟨tn, l[m].toNat, none⟩)) := by
        rw [islV_in (by omega) (by omega)]; simp
      have hnext : (l.take (m + 1)).foldl (fewStep T l[from_] tk (fewR T l (l.drop (from_ + 1)))) (1 + fewR T l (l.drop (from_ + 1)) tk) = fewStep T l[from_] tk (fewR T l (l.drop (from_ + 1))) ((l.take m).foldl (fewStep T l[from_] tk (fewR T l (l.drop (from_ + 1)))) (1 + fewR T l (l.drop (from_ + 1)) tk)) l[m] := by
        rw [List.take_succ_eq_append_getElem hmm, List.foldl_append]; rfl
      have hble : (l.take m).foldl (fewStep T l[from_] tk (fewR T l (l.drop (from_ + 1)))) (1 + fewR T l (l.drop (from_ + 1)) tk) ≤ 1 + fewR T l (l.drop (from_ + 1)) tk := fold_le
      generalize (l.take m).foldl (fewStep T l[from_] tk (fewR T l (l.drop (from_ + 1)))) (1 + fewR T l (l.drop (from_ + 1)) tk) = best at t9 hnext hble
      have hlt : l[m].toNat < tk.length := by omega
      have hat : tk[l[m].toNat]?.getD false = tk[l[m].toNat] := by simp [hlt]
      have hset : (tk.set l[m].toNat true).set l[m].toNat tk[l[m].toNat] = tk := by rw [List.set_set, List.set_getElem_self]
      have hst : fewStep T l[from_] tk (fewR T l (l.drop (from_ + 1))) best l[m] = if (!tk[l[m].toNat] && T.mayN l[from_].toNat l[m].toNat) = true then min best (fewR T l (l.drop (from_ + 1)) (tk.set l[m].toNat true)) else best := by
        simp only [fewStep, hat]
      rw [hst] at hnext
      clear hst
      have hnext2 : ∃ b2, (l.take (m + 1)).foldl (fewStep T l[from_] tk (fewR T l (l.drop (from_ + 1)))) (1 + fewR T l (l.drop (from_ + 1)) tk) = b2 := ⟨_, rfl⟩
      obtain ⟨b2, hb2⟩ := hnext2
      rw [hb2] at hnext
      simp [t1, t3, t10, e1, e2, hI, kA, hlt]
      generalize hv : tk[l[m].toNat] = v at hnext hset
      cases v
      case true =>
        simp at hnext
        simp [t10, add_in (x := m) (y := 1) (by omega) (by omega)]
        exact ⟨⟨gA.grow 14, by omega, t1, t2, t3, t4, b0, m + 1, by omega, by omega, by rw [hb2, hnext]; exact t9⟩, by omega⟩
      simp [t1, t2, t4, b0, e3, e4]
      refine fcall_fun (refMay_specI (h.ge ((g.trans gA).grow 14)) hT hnf hnx) ?_
      rintro _ C ⟨rfl, gC⟩
      have GC := (Ge.more A 14).trans gC
      have nC := gC.next
      simp at nC
      have gHC := gA.trans GC
      have c0 := GC.got (by omega) b0
      have kC := GC.got (by omega) kA
      have qt : H.next ≠ tn := q0
      cases hmay : T.mayN l[from_].toNat l[m].toNat
      · simp [hmay] at hnext
        simp [t10, add_in (x := m) (y := 1) (by omega) (by omega)]
        exact ⟨⟨gHC, by omega, t1, t2, t3, t4, c0, m + 1, by omega, by omega, by rw [hb2, hnext]; exact t9⟩, by omega⟩
      simp [hmay] at hnext
      have hwr1 : wrL (tk.map Value.bool) l[m].toNat [.bool true] = (tk.set l[m].toNat true).map .bool := by
        rw [wr_one (by simpa using hlt), List.map_set]
      have ih2 := ih (from_ + 1) (tk.set l[m].toNat true) (C.set tn (.cells true ((tk.set l[m].toNat true).map .bool) c)) tn cap c (by omega) (Ge.setNew (g.trans gHC) htn _) htn (by simp; omega) (by simp) (by simpa using htl)
      have hlt' : l[m].toNat + 1 ≤ tk.length := hlt
      simp [t1, t2, t3, t4, t9, hI, kC, c0, qt, hwr1, hlt', add_in (x := from_) (y := 1) (by omega) (by omega)]
      simp at ih2
      refine fcall_fun ih2 ?_
      rintro _ D ⟨rfl, gD⟩
      have nD := gD.next
      simp at nD
      have d0 := gD.got (n := H.next) (by simp; omega) (by simp [qt]; exact c0)
      have dt : D.get tn = .cells true ((tk.set l[m].toNat true).map .bool) c := gD.got (n := tn) (by simp; omega) (by simp)
      have hwr2 : wrL ((tk.set l[m].toNat true).map Value.bool) l[m].toNat [.bool false] = tk.map .bool := by
        rw [wr_one (by simpa using hlt), ← List.map_set, hset]
      simp
      rw [aval_min (k := .i64) (m := (best : Int)) (n := (fewR T l (l.drop (from_ + 1)) (tk.set l[m].toNat true) : Int)) (by simp) (by simp) (by decide) (by decide)]
      have hlt2 : l[m].toNat + 1 ≤ ((tk.set l[m].toNat true).map Value.bool).length := by simp; omega
      have hmin : min (best : Int) (fewR T l (l.drop (from_ + 1)) (tk.set l[m].toNat true) : Int) = (b2 : Int) := by rw [hnext]; omega
      rw [hmin]
      have hcs : ∃ cs, cs = (tk.set l[m].toNat true).map Value.bool := ⟨_, rfl⟩
      obtain ⟨cs, hcs⟩ := hcs
      rw [← hcs] at dt hwr2 hlt2
      simp [t3, t10, hI, dt, hlt2, hwr2, add_in (x := m) (y := 1) (by omega) (by omega)]
      refine ⟨⟨⟨by simp; omega, fun q hq => ?_⟩, by omega, t1, t2, t4, by rw [if_neg qt]; exact d0, m + 1, by omega, by omega, by rw [hb2]⟩, by omega⟩
      by_cases eq : q = tn
      · subst eq; simp [htk]
      · have nC := gHC.next
        simp [eq]
        rw [gD.get q (by simp; omega)]
        simp [eq]
        exact gHC.get q hq
    · have hmm : m = l.length := by simp at hc; omega
      subst hmm
      rw [List.take_length] at t9
      simp [t9]
      rw [hdrop]
      exact ⟨rfl, gA⟩

theorem buses_spec {H : Heap} {e s lv : Value} {T : Tab} {l : List Int} (h : TabAt H e s T) (hT : Valid T) (hl : IntsAt H lv l) (hnum : ∀ x ∈ l, T.num x = true) (hlen : l.length ≤ 12) : AFun Try.prog 30 [tabV T e s, lv] H (fun r B => r = .int .i64 (fewR T l l (List.replicate T.trips.length false)) ∧ Ge H B) := by
  refine AFun.mk ok30 hm (Nat.le_of_ble_eq_true rfl) ?_
  have hfew := hT.few
  have hmk : ∀ n, mksV n 1 1 [.bool false] (.int .i64 T.trips.length) (.int .i64 T.trips.length) = some _ := fun n => mksV_at (by omega) (by omega)
  have hz : zrep T.trips.length [Value.bool false] = (List.replicate T.trips.length false).map .bool := by
    have : ∀ n, zrep n [Value.bool false] = (List.replicate n false).map .bool := by
      intro n; induction n with
      | zero => rfl
      | succ n ih => rw [zrep_succ, ih]; rfl
    exact this _
  simp [a30, r30, h.trips.lenV, hmk]
  have hg : Ge H (({ get := (H.new (.cells true [.int .i64 T.places, .int .i64 T.layover, e, s] 4)).get, next := H.next + 9 } : Heap).set (H.next + 6) (.cells true (zrep T.trips.length [Value.bool false]) T.trips.length)) :=
    Ge.setNew (Ge.grow_le (by omega) (Ge.new _ _)) (by omega) _
  have hf := refFewest_spec h hT hl hnum hlen l.length 0 (List.replicate T.trips.length false) _ (H.next + 6) T.trips.length T.trips.length (by omega) hg (by omega) (by simp) (by rw [hz]; simp) (by simp)
  simp at hf
  refine fcall_fun hf ?_
  rintro _ B ⟨rfl, gB⟩
  simp
  exact hg.trans gB

/-- The fewest for some trips, by the reference's search, are the fewest. -/
theorem buses_eq {T : Tab} (hT : Valid T) (kind : Int) (w : List Int) : fewR T (allL T kind w) (allL T kind w) (List.replicate T.trips.length false) = (cutL (onlyT T (allL T kind w))).length := by
  have hlk : ∀ i, i < T.trips.length → ((List.range 12).map (okAll T kind w))[i]?.getD false = okAll T kind w i := fun i hi => by
    have := hT.few
    simp [(by omega : i < 12)]
  have h1 := fewR_most hT hlk rfl
  have h2 := only_cut hT hlk
  unfold allL
  omega

theorem buses_all {T : Tab} (hT : Valid T) : fewR T (allL T (-1) []) (allL T (-1) []) (List.replicate T.trips.length false) = (cutL T).length := by
  have hok : ∀ i, okAll T (-1) [] i = true := fun i => by simp [okAll]
  have h1 := fewR_most hT (f := okAll T (-1) []) (looked := upTo T.trips.length) (fun i hi => by rw [hok]; have := hT.few; simp [upTo, hi, (by omega : i < 12)]) rfl
  have h2 := cutL_size hT
  rw [most_all] at h2
  have h3 : cntN T.trips.length (okAll T (-1) []) = T.trips.length := by
    unfold cntN; rw [List.filter_eq_self.2 (fun x _ => hok x)]; simp
  unfold allL
  omega

end Go.Proofs.Ytohohnpjilinmaa

/-
  Truths that are compared, and contracts of Few and RunCuts.
-/
namespace Go.Proofs.Ytohohnpjilinmaa
open Go Go.Ab

theorem aval_eqB {t : Nat → Value} {H : Heap} {N x y : Nat} {a b : Bool} {d : Option Tmp} {ty U : TypeId} {pos : String} {af : Array Edge} {g : Option (Nat × Bool)} (hx : t x = .bool a) (hy : t y = .bool b) (h1 : x < N) (h2 : y < N) :
    aval Try.prog t H (.gen N ⟨d, .binOp .eql 4 (.tmp x) (.tmp y) U, ty, pos, af, g⟩) = some (.bool (a == b)) := by
  refine aval_gen ?_ rfl fun w => ?_
  · simp [Op.operands, flatO, hx, hy, h1, h2, flat, flat1]
  · have hg : Try.prog.eqGuardType Try.prog.depth 4 = false := by kernel_rfl
    simp only [execOp, evO, hx, hy, Sem.run_bind]
    have he := run_equalIn_bool' (P := Try.prog) w 9999 4 a b Try.underlying4
    simp [eqGuard, binOp, Op.equal, Op.maxDepth, he]

theorem aval_neB {t : Nat → Value} {H : Heap} {N x y : Nat} {a b : Bool} {d : Option Tmp} {ty U : TypeId} {pos : String} {af : Array Edge} {g : Option (Nat × Bool)} (hx : t x = .bool a) (hy : t y = .bool b) (h1 : x < N) (h2 : y < N) :
    aval Try.prog t H (.gen N ⟨d, .binOp .neq 4 (.tmp x) (.tmp y) U, ty, pos, af, g⟩) = some (.bool (!(a == b))) := by
  refine aval_gen ?_ rfl fun w => ?_
  · simp [Op.operands, flatO, hx, hy, h1, h2, flat, flat1]
  · have hg : Try.prog.eqGuardType Try.prog.depth 4 = false := by kernel_rfl
    simp only [execOp, evO, hx, hy, Sem.run_bind]
    have he := run_equalIn_bool' (P := Try.prog) w 9999 4 a b Try.underlying4
    simp [eqGuard, binOp, Op.equal, Op.maxDepth, he]

def fewT (T : Tab) : Bool := thin T && (decide (checkT T ≠ 0) || decide (T.trips.length ≤ 7))

theorem few_spec {e s : Value} {T : Tab} {H : Heap} (h : TabAt H e s T) : AFun Try.prog 24 [tabV T e s] H (fun r B => r = .bool (fewT T) ∧ Ge H B) := by
  refine AFun.mk ok24 hm (Nat.le_of_ble_eq_true rfl) ?_
  simp [a24, r24]
  refine fcall_fun (thin_spec (h.ge (Ge.new _ _))) ?_
  rintro _ B ⟨rfl, g⟩
  have G : Ge H B := Ge.trans (Ge.new _ _) g
  have b1 := g.got (n := H.next) (by simp) rfl
  simp at b1
  unfold fewT
  cases thin T
  · simp [G]
  · simp [b1]
    refine fcall_fun (fault_spec (h.ge G)) ?_
    rintro _ C ⟨rfl, gC⟩
    have c1 := gC.got (by have := g.next; simp at this; omega) b1
    by_cases hc : checkT T = 0
    · simp [hc, c1, h.trips.lenV]
      exact ⟨by omega, G.trans gC⟩
    · simp [hc]
      exact G.trans gC

end Go.Proofs.Ytohohnpjilinmaa

/-
  What RunCuts answers.
-/
namespace Go.Proofs.Ytohohnpjilinmaa
open Go Go.Ab

theorem runCuts_of {e s bv : Value} {T : Tab} {blocks : List (List Int)} {H : Heap} (h : TabAt H e s T) (hb : RowsAt H bv blocks) : AFun Try.prog 4 [tabV T e s, bv] H (fun v B => v = .bool true ∧ Ge H B) := by
  refine AFun.mk ok4 hm (Nat.le_of_ble_eq_true rfl) ?_
  have g0 : Ge H (H.new (.cells true [.int .i64 T.places, .int .i64 T.layover, e, s] 4)) := Ge.new _ _
  simp [a4, r4]
  refine fcall_fun (few_spec (h.ge g0)) ?_
  rintro _ H1 ⟨rfl, g1⟩
  have G1 := g0.trans g1
  have n1 := g1.next
  simp at n1
  have b1 := g1.got (n := H.next) (by simp) rfl
  simp at b1
  cases hrd : fewT T
  · simp
    refine fcall_fun (awake_spec _) ?_
    rintro _ B ⟨rfl, gB⟩
    simp
    exact G1.trans gB
  simp only [fewT, Bool.and_eq_true] at hrd
  obtain ⟨hth, hfw⟩ := hrd
  simp
  refine fcall_fun (short_spec (hb.ge G1)) ?_
  rintro _ H2 ⟨rfl, g2⟩
  have G2 := G1.trans g2
  have n2 := g2.next
  have b2 := g2.got (by omega) b1
  have hse : (decide (blocks.length ≤ 15) && blocks.all fun l => decide (l.length ≤ 15)) = shortL blocks := rfl
  rw [hse]
  cases hsh : shortL blocks
  · simp
    refine fcall_fun (awake_spec _) ?_
    rintro _ B ⟨rfl, gB⟩
    simp
    exact G2.trans gB
  obtain ⟨s1, s2⟩ := shortL_at hsh
  simp [b2]
  refine fcall_fun (table_spec (h.ge G2) hth) ?_
  rintro _ H3 ⟨⟨e3, s3, rfl, t3⟩, g3⟩
  have G3 := G2.trans g3
  have n3 := g3.next
  simp
  refine fcall_fun (cut_spec t3) ?_
  rintro r4 H4 ⟨g4, hbad, hcut⟩
  have G4 := G3.trans g4
  have n4 := g4.next
  have b4 := g4.got (by omega) (g3.got (by omega) b2)
  have hr4 : ∃ cv ev, r4 = .tuple #[cv, .int .i64 ev] ∧ ev = checkT T ∧ (checkT T ≠ 0 → cv = .slice none 0 0) ∧ (checkT T = 0 → RowsAt H4 cv (cutL T)) := by
    by_cases hc : checkT T = 0
    · obtain ⟨f, h1, h2⟩ := hcut hc
      exact ⟨f, 0, h1, hc.symm, fun h => absurd hc h, fun _ => h2⟩
    · exact ⟨_, _, hbad hc, rfl, fun _ => rfl, fun h => absurd h hc⟩
  obtain ⟨cv, ev, rfl, hev, hcn, hcv⟩ := hr4
  simp [b4]
  refine fcall_fun (table_spec (h.ge G4) hth) ?_
  rintro _ H5 ⟨⟨e5, s5, rfl, t5⟩, g5⟩
  have G5 := G4.trans g5
  have n5 := g5.next
  simp
  refine fcall_fun (rows_spec (hb.ge G5) (by omega) (fun l hl => by have := s2 l hl; omega)) ?_
  rintro r6 H6 ⟨hr6, g6⟩
  have G6 := G5.trans g6
  have n6 := g6.next
  simp
  refine fcall_fun (proveCut_spec (t5.ge g6) (hr6.rows (by omega))) ?_
  rintro _ H7 ⟨rfl, g7⟩
  have G7 := G6.trans g7
  have n7 := g7.next
  have b7 := g7.got (by omega) (g6.got (by omega) (g5.got (by omega) b4))
  simp [b7]
  refine fcall_fun (faultOf_spec (h.ge G7)) ?_
  rintro _ H8 ⟨rfl, g8⟩
  have G8 := G7.trans g8
  have n8 := g8.next
  have b8 := g8.got (by omega) b7
  subst hev
  by_cases hc : checkT T = 0
  case neg =>
    have := hcn hc
    subst this
    simp [hc]
    refine fcall_fun (awake_spec _) ?_
    rintro _ B ⟨rfl, gB⟩
    simp
    exact G8.trans gB
  have hT := checkT_zero.1 hc
  have hfew := hT.few
  have hcv := hcv hc
  have hgood := cutL_good hT
  have g48 := ((g5.trans g6).trans g7).trans g8
  simp [hc, b8]
  refine fcall_fun (refIsCutting_spec (h.ge (G8.grow 27)) hT (hcv.ge (g48.grow 27))) ?_
  rintro _ H9 ⟨rfl, g9⟩
  have G9 := (G8.grow 27).trans g9
  have b9 := g9.got (n := H.next) (by simp; omega) b8
  have n9 := g9.next
  simp at n9
  simp [hgood, hcv.lenV, b9]
  refine fcall_fun (all_spec (kind := -1) (w := []) (h.ge G9) (by omega) ⟨⟨by simp [slCells], fun a n c e => by cases e⟩, by simp⟩) ?_
  rintro v10 H10 ⟨hO, g10⟩
  have G10 := G9.trans g10
  have n10 := g10.next
  have b10 := g10.got (by omega) b9
  have hlen : (allL T (-1) []).length ≤ 12 := Nat.le_trans numsOf_bound hfew
  have hi10 : IntsAt H10 v10 (allL T (-1) []) := ⟨by simpa using hO.slr, by omega⟩
  simp [b10]
  have hnum : ∀ x ∈ allL T (-1) [], T.num x = true := fun x hx => by
    have := allL_ok x hx
    simp [Tab.num]; omega
  refine fcall_fun (buses_spec (h.ge G10) hT hi10 hnum hlen) ?_
  rintro _ H11 ⟨rfl, g11⟩
  have G11 := G10.trans g11
  have n11 := g11.next
  have b11 := g11.got (by omega) b10
  rw [buses_all hT]
  simp [b11]
  refine fcall_fun (refIsCutting_spec (h.ge G11) hT (hb.ge G11)) ?_
  rintro _ H12 ⟨rfl, g12⟩
  have G12 := G11.trans g12
  simp
  rw [aval_eqB (a := isCutL T blocks) (b := isCutL T blocks) (by simp [hc]) (by simp) (by decide) (by decide)]
  simp
  refine fcall_fun (awake_spec _) ?_
  rintro _ B ⟨rfl, gB⟩
  simp
  exact G12.trans gB

end Go.Proofs.Ytohohnpjilinmaa

/-
  Contracts of the reference's checks of a list that rises and of a cover.
-/
namespace Go.Proofs.Ytohohnpjilinmaa
open Go Go.Ab

theorem risAt_eq {T : Tab} {xs : List Int} {i : Nat} (hi : i < xs.length) : risAt T xs i = (T.num xs[i] && !(decide (0 < i) && decide (xs[i] ≤ xs[i - 1]?.getD 0))) := by
  simp only [risAt, prevOf, hi, List.getElem?_eq_getElem, Option.getD_some]
  by_cases e : i = 0
  · subst e
    simp only [Tab.num, if_true]
    by_cases h0 : (0 : Int) ≤ xs[0]
    · have : (-1 : Int) < xs[0] := by omega
      simp [h0, this]
    · simp only [h0, decide_false, Bool.false_and, Bool.and_false]
  · have h0 : 0 < i := by omega
    simp only [if_neg e, h0, decide_true, Bool.true_and]
    by_cases hl : xs[i - 1]?.getD 0 < xs[i]
    · have : ¬ xs[i] ≤ xs[i - 1]?.getD 0 := by omega
      simp [hl, this]
    · have : xs[i] ≤ xs[i - 1]?.getD 0 := by omega
      simp [hl, this]

theorem refRising_spec {e s v : Value} {T : Tab} {xs : List Int} {H : Heap} (h : TabAt H e s T) (hv : IntsAt H v xs) : AFun Try.prog 46 [tabV T e s, v] H (fun r B => r = .bool (risL T xs) ∧ Ge H B) := by
  refine AFun.mk ok46 hm (Nat.le_of_ble_eq_true rfl) ?_
  have h63 := hv.2
  have t63 := h.trips.2
  simp [a46, r46]
  refine floop_intro (fun z => z.d = [] ∧ Ge H z.H ∧ H.next < z.H.next ∧ z.t 1 = v ∧ z.t 2 = .pointer (some ⟨H.next, 0, none⟩) ∧ z.H.get H.next = .cells true [.int .i64 T.places, .int .i64 T.layover, e, s] 4 ∧ ∃ i : Nat, i ≤ xs.length ∧ z.t 5 = .int .i64 i ∧ ∀ k, k < i → risAt T xs k = true) (fun z => xs.length - (intOf (z.t 5)).toNat) ?_ ?_
  · exact ⟨rfl, by simp, by simp, by simp, by simp, by simp, 0, by simp, by simp, fun k hk => by omega⟩
  rintro ⟨t, _, A⟩ ⟨rfl, g, hn, t1, t2, b0, i, hi, t5, hall⟩
  dsimp only at g hn t1 t2 b0 t5
  simp [t1, t5, hv.lenV]
  refine fcond_intro (fun hc => ?_) (fun hc => ?_)
  · have hi' : i < xs.length := by simpa using hc
    obtain ⟨q, e1, e2⟩ := (hv.ge (g.grow 26)).at hi'
    have hra := risAt_eq (T := T) hi'
    simp [t1, t2, t5, b0, e1, e2, h.trips.lenV, sub_in (x := T.trips.length) (y := 1) (by omega) (by omega)]
    refine fcall_fun (in_spec _ _ _ _) ?_
    rintro _ _ ⟨rfl, rfl⟩
    have hnm : T.num xs[i] = (decide (0 ≤ xs[i]) && decide (xs[i] ≤ T.trips.length - 1)) := rfl
    rw [← hnm]
    cases hx : T.num xs[i]
    · simp
      rw [hx] at hra
      exact ⟨all_range_false hi' (by simpa using hra), g.grow 26⟩
    rw [hx] at hra
    by_cases h0 : i = 0
    · subst h0
      simp [t5, add_in (x := 0) (y := 1) (by omega) (by omega)]
      simp at hra
      exact ⟨⟨g.grow 26, by omega, t1, t2, b0, 1, by omega, by omega, fun k hk => by obtain rfl : k = 0 := by omega
                                                                                     exact hra⟩, by omega⟩
    · have h0' : 0 < i := by omega
      obtain ⟨q2, e3, e4⟩ := (hv.ge (g.grow 26)).at (i := i - 1) (by omega)
      have hc1 : ((i - 1 : Nat) : Int) = (i : Int) - 1 := by omega
      rw [hc1] at e3
      have hg : xs[i - 1]?.getD 0 = xs[i - 1] := by simp [(by omega : i - 1 < xs.length)]
      rw [hg] at hra
      simp [t1, t5, h0', e1, e2, e3, e4, sub_in (x := i) (y := 1) (by omega) (by omega)]
      simp [h0'] at hra
      refine fcond_intro (fun hle => ?_) (fun hle => ?_)
      · have hle' : xs[i] ≤ xs[i - 1] := by simpa using hle
        simp
        rw [decide_eq_true hle'] at hra
        exact ⟨all_range_false hi' (by simpa using hra), g.grow 26⟩
      · have hle' : ¬ xs[i] ≤ xs[i - 1] := by simpa using hle
        simp [t5, add_in (x := i) (y := 1) (by omega) (by omega)]
        rw [decide_eq_false hle'] at hra
        simp at hra
        exact ⟨⟨g.grow 26, by omega, t1, t2, b0, i + 1, by omega, by omega, lt_succ_all hall hra⟩, by omega⟩
  · have hi' : i = xs.length := by simp at hc; omega
    subst hi'
    have : risL T xs = true := by simpa [risL] using hall
    simp [this, g]

end Go.Proofs.Ytohohnpjilinmaa

/-
  The contract of the reference's check of a cover.
-/
namespace Go.Proofs.Ytohohnpjilinmaa
open Go Go.Ab

theorem pairOk_eq {T : Tab} (hfew : T.trips.length ≤ 12) {a b : List Int} (ha : risL T a = true) (hb : risL T b = true) {i j : Nat} (hi : i < T.trips.length) (hj : j < T.trips.length) : pairOk T a b i j = !((T.mayN i j && !decide ((i : Int) ∈ a)) && !decide ((j : Int) ∈ b)) := by
  have hbd : ∀ xs : List Int, risL T xs = true → ∀ x ∈ xs, 0 ≤ x ∧ x < 12 := fun xs hr x hx => by
    have := num_lt hfew ((risL_ok hfew hr).2 x hx); omega
  simp only [pairOk, pickL_at (hbd a ha) (Nat.lt_of_lt_of_le hi hfew), pickL_at (hbd b hb) (Nat.lt_of_lt_of_le hj hfew)]
  cases T.mayN i j <;> cases decide ((i : Int) ∈ a) <;> cases decide ((j : Int) ∈ b) <;> rfl

theorem refIsCover_spec {e s va vb : Value} {T : Tab} {a b : List Int} {H : Heap} (h : TabAt H e s T) (hT : Valid T) (ha : IntsAt H va a) (hb : IntsAt H vb b) : AFun Try.prog 35 [tabV T e s, va, vb] H (fun r B => r = .bool (isCovL T a b) ∧ Ge H B) := by
  refine AFun.mk ok35 hm (Nat.le_of_ble_eq_true rfl) ?_
  have hfew := hT.few
  have g0 : Ge H (H.new (.cells true [.int .i64 T.places, .int .i64 T.layover, e, s] 4)) := Ge.new _ _
  simp [a35, r35]
  refine fcall_fun (refRising_spec (h.ge g0) (ha.ge g0)) ?_
  rintro _ H1 ⟨rfl, g1⟩
  have G1 := g0.trans g1
  have n1 := g1.next
  simp at n1
  have b1 := g1.got (n := H.next) (by simp) rfl
  simp at b1
  cases hra : risL T a
  · simp [isCovL, hra, G1]
  simp [b1]
  refine fcall_fun (refRising_spec (h.ge G1) (hb.ge G1)) ?_
  rintro _ H2 ⟨rfl, g2⟩
  have G2 := G1.trans g2
  have n2 := g2.next
  have b2 := g2.got (by omega) b1
  cases hrb : risL T b
  · simp [isCovL, hra, hrb, G2]
  have hcv : isCovL T a b = allPairs T a b := by simp [isCovL, hra, hrb]
  rw [hcv]
  simp
  refine floop_intro (fun z => z.d = [] ∧ Ge H z.H ∧ H.next < z.H.next ∧ z.t 1 = va ∧ z.t 2 = vb ∧ z.t 3 = .pointer (some ⟨H.next, 0, none⟩) ∧ z.H.get H.next = .cells true [.int .i64 T.places, .int .i64 T.layover, e, s] 4 ∧ ∃ i : Nat, i ≤ T.trips.length ∧ z.t 7 = .int .i64 i ∧ ∀ i' j', i' < T.trips.length → j' < T.trips.length → i' < i → pairOk T a b i' j' = true) (fun z => T.trips.length - (intOf (z.t 7)).toNat) ?_ ?_
  · exact ⟨rfl, G2, by simp; omega, by simp, by simp, by simp, b2, 0, by simp, by simp, fun _ _ _ _ h => by omega⟩
  rintro ⟨t, _, A⟩ ⟨rfl, g, hn, t1, t2, t3, b0, i, hi, t7, hall⟩
  dsimp only at g hn t1 t2 t3 b0 t7
  simp [t3, t7, b0, h.trips.lenV]
  refine fcond_intro (fun hc => ?_) (fun hc => ?_)
  · have hi' : i < T.trips.length := by simpa using hc
    simp
    refine floop_intro (fun z => z.d = [] ∧ Ge H z.H ∧ H.next < z.H.next ∧ z.t 1 = va ∧ z.t 2 = vb ∧ z.t 3 = .pointer (some ⟨H.next, 0, none⟩) ∧ z.t 7 = .int .i64 i ∧ z.H.get H.next = .cells true [.int .i64 T.places, .int .i64 T.layover, e, s] 4 ∧ ∃ j : Nat, j ≤ T.trips.length ∧ z.t 8 = .int .i64 j ∧ ∀ j', j' < j → pairOk T a b i j' = true) (fun z => T.trips.length - (intOf (z.t 8)).toNat) ?_ ?_
    · exact ⟨rfl, g, hn, by simp [t1], by simp [t2], by simp [t3], by simp [t7], b0, 0, by simp, by simp, fun _ h => by omega⟩
    rintro ⟨u, _, C⟩ ⟨rfl, gC, hnC, u1, u2, u3, u7, c0, j, hj, u8, hrow⟩
    dsimp only at gC hnC u1 u2 u3 u7 c0 u8
    simp [u3, u8, c0, h.trips.lenV]
    refine fcond_intro (fun hc => ?_) (fun hc => ?_)
    · have hj' : j < T.trips.length := by simpa using hc
      have hpo := pairOk_eq hfew hra hrb hi' hj'
      simp [u3, u7, u8, c0]
      have hmay := refMay_spec (h.ge gC) hT hi' hj'
      rw [refMay_eq hT hi' hj'] at hmay
      refine fcall_fun hmay ?_
      rintro _ D ⟨rfl, gD⟩
      have d0 := gD.got (by omega) c0
      have hnD := gD.next
      cases hm' : T.mayN i j
      · rw [hm'] at hpo
        simp at hpo
        simp [u8, add_in (x := j) (y := 1) (by omega) (by omega)]
        exact ⟨⟨gC.trans gD, by omega, u1, u2, u3, u7, d0, j + 1, by omega, by omega, lt_succ_all hrow hpo⟩, by omega⟩
      rw [hm'] at hpo
      simp [u1, u7]
      refine fcall_fun (has_spec (ha.ge (gC.trans gD))) ?_
      rintro _ _ ⟨rfl, rfl⟩
      generalize decide ((i : Int) ∈ a) = ba at hpo
      cases ba
      case true =>
        simp at hpo
        simp [u8, add_in (x := j) (y := 1) (by omega) (by omega)]
        exact ⟨⟨gC.trans gD, by omega, u1, u2, u3, u7, d0, j + 1, by omega, by omega, lt_succ_all hrow hpo⟩, by omega⟩
      simp [u2, u8]
      refine fcall_fun (has_spec (hb.ge (gC.trans gD))) ?_
      rintro _ _ ⟨rfl, rfl⟩
      generalize decide ((j : Int) ∈ b) = bb at hpo
      cases bb
      case true =>
        simp at hpo
        simp [u8, add_in (x := j) (y := 1) (by omega) (by omega)]
        exact ⟨⟨gC.trans gD, by omega, u1, u2, u3, u7, d0, j + 1, by omega, by omega, lt_succ_all hrow hpo⟩, by omega⟩
      simp at hpo
      simp
      exact ⟨allPairs_bad hi' hj' hpo, gC.trans gD⟩
    · have hj' : j = T.trips.length := by simp at hc; omega
      subst hj'
      simp [u7, add_in (x := i) (y := 1) (by omega) (by omega)]
      refine ⟨⟨gC, hnC, u1, u2, u3, c0, i + 1, by omega, by omega, fun i' j' h1 h2 h3 => ?_⟩, by first | omega | (simp [t7]; omega)⟩
      by_cases e : i' = i
      · subst e; exact hrow j' h2
      · exact hall i' j' h1 h2 (by omega)
  · have hi' : i = T.trips.length := by simp at hc; omega
    subst hi'
    have : allPairs T a b = true := by
      simp only [allPairs, List.all_eq_true, List.mem_range]
      exact fun i' h1 j' h2 => hall i' j' h1 h2 h1
    simp [this, g]

end Go.Proofs.Ytohohnpjilinmaa

/-
  What RunCovers answers.
-/
namespace Go.Proofs.Ytohohnpjilinmaa
open Go Go.Ab

theorem runCovers_of {e s av cv : Value} {T : Tab} {xs ys : List Int} {buses : Int} {H : Heap} (h : TabAt H e s T) (ha : IntsAt H av xs) (hy : IntsAt H cv ys) (_ : buses = buses) : AFun Try.prog 5 [tabV T e s, av, cv, .int .i64 buses] H (fun v B => v = .bool true ∧ Ge H B) := by
  refine AFun.mk ok5 hm (Nat.le_of_ble_eq_true rfl) ?_
  have g0 : Ge H (H.new (.cells true [.int .i64 T.places, .int .i64 T.layover, e, s] 4)) := Ge.new _ _
  simp [a5, r5]
  refine fcall_fun (few_spec (h.ge g0)) ?_
  rintro _ H1 ⟨rfl, g1⟩
  have G1 := g0.trans g1
  have n1 := g1.next
  simp at n1
  have b1 := g1.got (n := H.next) (by simp) rfl
  simp at b1
  cases hrd : fewT T
  · simp
    refine fcall_fun (awake_spec _) ?_
    rintro _ B ⟨rfl, gB⟩
    simp
    exact G1.trans gB
  simp only [fewT, Bool.and_eq_true] at hrd
  obtain ⟨hth, hfw⟩ := hrd
  simp [ha.lenV]
  by_cases hx : 15 < (xs.length : Int)
  · simp [hx]
    refine fcall_fun (awake_spec _) ?_
    rintro _ B ⟨rfl, gB⟩
    simp
    exact G1.trans gB
  by_cases hz : 15 < (ys.length : Int)
  · simp [hx, hz, hy.lenV]
    refine fcall_fun (awake_spec _) ?_
    rintro _ B ⟨rfl, gB⟩
    simp
    exact G1.trans gB
  simp [hx, hz, b1, hy.lenV]
  refine fcall_fun (table_spec (h.ge G1) hth) ?_
  rintro _ H3 ⟨⟨e3, s3, rfl, t3⟩, g3⟩
  have G3 := G1.trans g3
  have n3 := g3.next
  simp
  refine fcall_fun (coverAll_spec t3) ?_
  rintro r4 H4 ⟨g4, hbad, hcov⟩
  have G4 := G3.trans g4
  have n4 := g4.next
  have b4 := g4.got (by omega) (g3.got (by omega) b1)
  have hr4 : ∃ va vb ev, r4 = .tuple #[va, vb, .int .i64 ev] ∧ ev = checkT T ∧ (checkT T ≠ 0 → va = .slice none 0 0 ∧ vb = .slice none 0 0) ∧ (checkT T = 0 → ∃ a b, IntsAt H4 va a ∧ IntsAt H4 vb b ∧ isCovL T a b = true ∧ a.length + b.length = T.most) := by
    by_cases hc : checkT T = 0
    · obtain ⟨va, vb, a, b, h1, h2, h3, h4, h5⟩ := hcov hc
      exact ⟨va, vb, 0, h1, hc.symm, fun h => absurd hc h, fun _ => ⟨a, b, h2, h3, h4, h5⟩⟩
    · exact ⟨_, _, _, hbad hc, rfl, fun _ => ⟨rfl, rfl⟩, fun h => absurd h hc⟩
  obtain ⟨va, vb, ev, rfl, hev, hcn, hcv⟩ := hr4
  simp [b4]
  refine fcall_fun (table_spec (h.ge G4) hth) ?_
  rintro _ H5 ⟨⟨e5, s5, rfl, t5⟩, g5⟩
  have G5 := G4.trans g5
  have n5 := g5.next
  simp
  refine fcall_fun (list_spec (ha.ge G5) (by omega)) ?_
  rintro r6 H6 ⟨hr6, g6⟩
  have G6 := G5.trans g6
  have n6 := g6.next
  simp
  refine fcall_fun (list_spec (hy.ge G6) (by omega)) ?_
  rintro r7 H7 ⟨hr7, g7⟩
  have G7 := G6.trans g7
  have n7 := g7.next
  have i6 : IntsAt H7 r6 xs := ⟨by simpa using (hr6.ge g7).slr, by omega⟩
  have i7 : IntsAt H7 r7 ys := ⟨by simpa using hr7.slr, by omega⟩
  simp
  refine fcall_fun (proveCover_spec ((t5.ge g6).ge g7) i6 i7) ?_
  rintro _ H8 ⟨rfl, g8⟩
  have G8 := G7.trans g8
  have n8 := g8.next
  have b8 := g8.got (by omega) (g7.got (by omega) (g6.got (by omega) (g5.got (by omega) b4)))
  simp [b8]
  refine fcall_fun (faultOf_spec (h.ge G8)) ?_
  rintro _ H9 ⟨rfl, g9⟩
  have G9 := G8.trans g9
  have n9 := g9.next
  have b9 := g9.got (by omega) b8
  subst hev
  by_cases hc : checkT T = 0
  case neg =>
    obtain ⟨rfl, rfl⟩ := hcn hc
    have hpr : proves T xs ys buses = false := by simp [proves, hc]
    simp [hc, hpr, add_in (x := 0) (y := 0) (by omega) (by omega)]
    refine fcall_fun (awake_spec _) ?_
    rintro _ B ⟨rfl, gB⟩
    simp
    exact G9.trans gB
  have hT := checkT_zero.1 hc
  have hfew := hT.few
  obtain ⟨a, b, hva, hvb, hok, hab⟩ := hcv hc
  obtain ⟨l1, l2⟩ := isCovL_len hfew hok
  have g49 := (((g5.trans g6).trans g7).trans g8).trans g9
  simp [hc, b9]
  refine fcall_fun (refIsCover_spec (h.ge G9) hT (ha.ge G9) (hy.ge G9)) ?_
  rintro _ H10 ⟨rfl, g10⟩
  have G10 := G9.trans g10
  have n10 := g10.next
  have b10 := g10.got (by omega) b9
  have hpr : proves T xs ys buses = (isCovL T xs ys && decide (buses ≤ (T.trips.length : Int) - xs.length - ys.length)) := by simp [proves, hc]
  have hlen : (allL T (-1) []).length ≤ 12 := Nat.le_trans numsOf_bound hfew
  have hnum : ∀ x ∈ allL T (-1) [], T.num x = true := fun x hx => by
    have := allL_ok x hx
    simp [Tab.num]; omega
  have hsz := cutL_size hT
  have heq : (T.trips.length : Int) - a.length - b.length = (cutL T).length := by omega
  have g410 := g49.trans g10
  cases hcx : isCovL T xs ys
  all_goals
    rw [hcx] at hpr
    simp [b10, ha.lenV, hy.lenV, h.trips.lenV, sub_in (x := T.trips.length) (y := xs.length) (by omega) (by omega), sub_in (x := (T.trips.length : Int) - xs.length) (y := ys.length) (by omega) (by omega)]
  case' pos.false => rw [aval_neB (a := proves T xs ys buses) (b := false) (by simp) (by simp) (by decide) (by decide), hpr]
  case' pos.true => rw [aval_neB (a := proves T xs ys buses) (b := decide (buses ≤ (T.trips.length : Int) - xs.length - ys.length)) (by simp) (by simp) (by decide) (by decide), hpr]
  all_goals
    simp [hc, b10]
    refine fcall_fun (refIsCover_spec (h.ge (G10.grow 28)) hT (hva.ge (g410.grow 28)) (hvb.ge (g410.grow 28))) ?_
    rintro _ H11 ⟨rfl, g11⟩
    have G11 := (G10.grow 28).trans g11
    have b11 := g11.got (n := H.next) (by simp; omega) b10
    have n11 := g11.next
    simp at n11
    simp [hok, b11, hva.lenV, hvb.lenV, h.trips.lenV, sub_in (x := T.trips.length) (y := a.length) (by omega) (by omega), sub_in (x := (T.trips.length : Int) - a.length) (y := b.length) (by omega) (by omega)]
    refine fcall_fun (all_spec (kind := -1) (w := []) (h.ge G11) (by omega) ⟨⟨by simp [slCells], fun a n c e => by cases e⟩, by simp⟩) ?_
    rintro v12 H12 ⟨hO, g12⟩
    have G12 := G11.trans g12
    have n12 := g12.next
    have b12 := g12.got (by omega) b11
    have hi12 : IntsAt H12 v12 (allL T (-1) []) := ⟨by simpa using hO.slr, by omega⟩
    simp [b12]
    refine fcall_fun (buses_spec (h.ge G12) hT hi12 hnum hlen) ?_
    rintro _ H13 ⟨rfl, g13⟩
    have G13 := G12.trans g13
    have n13 := g13.next
    have b13 := g13.got (by omega) b12
    rw [buses_all hT]
    simp [b13, heq]
    refine fcall_fun (awake_spec _) ?_
    rintro _ B ⟨rfl, gB⟩
    simp
    exact G13.trans gB

end Go.Proofs.Ytohohnpjilinmaa

/-
  A timetable with a trip more.
-/
namespace Go.Proofs.Ytohohnpjilinmaa

def moreT (T : Tab) (z : Tr) : Tab := { T with trips := T.trips ++ [z] }
theorem moreT_len {T : Tab} {z : Tr} : (moreT T z).trips.length = T.trips.length + 1 := by simp [moreT]
theorem moreT_may {T : Tab} {z : Tr} {i j : Nat} (hi : i < T.trips.length) (hj : j < T.trips.length) : (moreT T z).mayN i j = T.mayN i j := by
  simp only [Tab.mayN, moreT, List.getElem?_append_left hi, List.getElem?_append_left hj]
  rfl

theorem more_most {T : Tab} {z : Tr} (hfew : (moreT T z).trips.length ≤ 12) : T.most ≤ (moreT T z).most := by
  have hn := moreT_len (T := T) (z := z)
  obtain ⟨a, b, hc, hs⟩ := mostL_cov hfew (upTo (moreT T z).trips.length)
  have h := pm_most (T := T) (by omega) (a := a) (b := b) fun i j hi hj he => hc i j (by omega) (by omega) (by rw [mayL_upTo hfew (by omega) (by omega), moreT_may hi hj]; exact he)
  rw [most_all (moreT T z)]
  rw [hn, cntN_succ, cntN_succ] at hs
  rw [hn]
  omega

theorem more_most_last {T : Tab} {z : Tr} (hfew : (moreT T z).trips.length ≤ 12) (h : (∀ i, i < T.trips.length + 1 → (moreT T z).mayN i T.trips.length = false) ∨ (∀ j, j < T.trips.length + 1 → (moreT T z).mayN T.trips.length j = false)) : (moreT T z).most ≤ T.most + 1 := by
  have hn := moreT_len (T := T) (z := z)
  have hfT : T.trips.length ≤ 12 := by omega
  obtain ⟨a, b, hc, hs⟩ := mostL_cov hfT (upTo T.trips.length)
  rw [← most_all] at hs
  have hcT : ∀ i j, i < T.trips.length → j < T.trips.length → (moreT T z).mayN i j = true → a i = true ∨ b j = true := fun i j hi hj he => hc i j hi hj (by rw [mayL_upTo hfT hi hj, ← moreT_may (z := z) hi hj]; exact he)
  rcases h with h | h
  · have := pm_most hfew (a := fun i => if i < T.trips.length then a i else true) (b := fun i => if i < T.trips.length then b i else false) fun i j hi hj he => by
      rw [hn] at hi hj
      by_cases e : j = T.trips.length
      · subst e; rw [h i hi] at he; cases he
      · have hj' : j < T.trips.length := by omega
        by_cases e2 : i = T.trips.length
        · left; simp [e2]
        · have hi' : i < T.trips.length := by omega
          simpa [hi', hj'] using hcT i j hi' hj' he
    rw [hn, cntN_succ, cntN_succ] at this
    have e1 : cntN T.trips.length (fun i => if i < T.trips.length then a i else true) = cntN T.trips.length a := cntN_congr fun k hk => by simp [hk]
    have e2 : cntN T.trips.length (fun i => if i < T.trips.length then b i else false) = cntN T.trips.length b := cntN_congr fun k hk => by simp [hk]
    rw [e1, e2] at this
    simp at this
    omega
  · have := pm_most hfew (a := fun i => if i < T.trips.length then a i else false) (b := fun i => if i < T.trips.length then b i else true) fun i j hi hj he => by
      rw [hn] at hi hj
      by_cases e : i = T.trips.length
      · subst e; rw [h j hj] at he; cases he
      · have hi' : i < T.trips.length := by omega
        by_cases e2 : j = T.trips.length
        · right; simp [e2]
        · have hj' : j < T.trips.length := by omega
          simpa [hi', hj'] using hcT i j hi' hj' he
    rw [hn, cntN_succ, cntN_succ] at this
    have e1 : cntN T.trips.length (fun i => if i < T.trips.length then a i else false) = cntN T.trips.length a := cntN_congr fun k hk => by simp [hk]
    have e2 : cntN T.trips.length (fun i => if i < T.trips.length then b i else true) = cntN T.trips.length b := cntN_congr fun k hk => by simp [hk]
    rw [e1, e2] at this
    simp at this
    omega

end Go.Proofs.Ytohohnpjilinmaa

/-
  What RunMore answers.
-/
namespace Go.Proofs.Ytohohnpjilinmaa
open Go Go.Ab

def noneIs (n : Int) (row : List Int) : Bool := row.all fun x => !decide (x = n)
def firstTo (F : List (List Int)) (n : Int) (i : Nat) : Bool := (F.take i).all (noneIs n)
theorem noneIs_next {n : Int} {row : List Int} {k : Nat} (hk : k < row.length) : noneIs n (row.take (k + 1)) = (noneIs n (row.take k) && !decide (row[k] = n)) := by
  rw [noneIs, List.take_succ_eq_append_getElem hk, List.all_append]; simp [noneIs]
theorem firstTo_next {F : List (List Int)} {n : Int} {i : Nat} (hi : i < F.length) : firstTo F n (i + 1) = (firstTo F n i && noneIs n F[i]) := by
  rw [firstTo, List.take_succ_eq_append_getElem hi, List.all_append]; simp [firstTo]
theorem firstTo_may {X : Tab} {n : Nat} (hn : n < X.trips.length) (h : firstTo X.followers n X.followers.length = true) : ∀ i, i < X.trips.length → X.mayN i n = false := by
  intro i hi
  cases hm : X.mayN i n
  · rfl
  · exfalso
    have h1 := mem_followers hi hn hm
    have hl : X.followers.length = X.trips.length := by simp [Tab.followers]
    have hg : X.followers[i]?.getD [] = X.followers[i]'(by omega) := by simp [hl, hi]
    rw [hg] at h1
    simp only [firstTo, List.take_length, List.all_eq_true] at h
    have h2 := h _ (List.getElem_mem (by omega : i < X.followers.length))
    simp only [noneIs, List.all_eq_true] at h2
    have := h2 _ h1
    simp at this
theorem last_may {X : Tab} {n : Nat} (hn : n < X.trips.length) (h : X.followers[n]?.getD [] = []) : ∀ j, j < X.trips.length → X.mayN n j = false := by
  intro j hj
  cases hm : X.mayN n j
  · rfl
  · have h1 := mem_followers hn hj hm
    rw [h] at h1
    cases h1

theorem runMore_of {e s : Value} {T : Tab} {z : Tr} {H : Heap} (h : TabAt H e s T) (hlen : T.trips.length ≤ 2 ^ 20) : AFun Try.prog 12 [tabV T e s, z.val] H (fun v B => v = .bool true ∧ Ge H B) := by
  refine AFun.mk ok12 hm (Nat.le_of_ble_eq_true rfl) ?_
  have he := h.empty.one
  have hs := h.trips.one
  simp [a12, r12, Tr.val, he, hs]
  refine fapp_clone (m := H.next + 3) (xs := T.trips) (by simp) (h.trips.ge ?_) hlen (by omega) fun cap B1 hcap hB2 hBn hBk => ?_
  · refine Ge.setNew (Ge.setNew (Ge.grow_le (by omega) (Ge.setNew (((Ge.new _ _).newOf _).newOf _) (by omega) _)) (by omega) _) (by omega) _
  have k0 : B1.get H.next = .cells true [.int .i64 T.places, .int .i64 T.layover, e, s] 4 := by
    rw [hBk _ (by omega) (by omega)]; simp
  have k2 : B1.get (H.next + 2) = .cells true [.int .i64 T.places, .int .i64 T.layover, e, s] 4 := by
    rw [hBk _ (by omega) (by omega)]; simp
  have k8 : B1.get (H.next + 8) = .cells true z.cells 6 := by
    rw [hBk _ (by omega) (by omega)]; simp [Tr.cells]
  have klow : ∀ q, q < H.next → B1.get q = H.get q := fun q hq => by
    have r0 : q ≠ H.next := by omega
    have r1 : ∀ k, q ≠ H.next + k := fun k => by omega
    rw [hBk _ (by omega) (by omega)]
    simp [r0, r1]
  have hO : OwnS B1 (H.next + 4) 6 (.slice (some ⟨H.next + 6, 0, none⟩) T.trips.length cap) T.trips.length (T.trips.flatMap Tr.cells) :=
    .inr ⟨H.next + 6, cap, cap * 6, rfl, by omega, by omega, hB2, (trips_cells _).symm, hcap, Nat.le_refl _⟩
  have k1 : B1.get (H.next + 1) = .cells true z.cells 6 := by
    rw [hBk _ (by omega) (by omega)]; simp [Tr.cells]
  simp [k1, Tr.cells]
  refine fapp_ownS' (lo := H.next + 4) (len := T.trips.length) (xs := z.cells) hO ?_ rfl rfl hlen (by omega) (by omega) (by omega) fun u B2 j1 j2 j3 j4 => ?_
  · simp [slCells, rdL, k8, Tr.cells]
  have hu := j1.one
  have ou := one_cells hu
  have hk : ∀ q, q < H.next + 4 → B2.get q = B1.get q := fun q hq => by
    rw [j4 q (by omega) (fun e => by have := (hO.names e).1; omega)]
  have m0 := (hk H.next (by omega)).trans k0
  have m2 := (hk (H.next + 2) (by omega)).trans k2
  have oe := one_cells he
  have hA : ∃ A, A = B2.set (H.next + 2) (.cells true [.int .i64 T.places, .int .i64 T.layover, e, u] 4) := ⟨_, rfl⟩
  obtain ⟨A, hA⟩ := hA
  have gA : Ge H A := by
    rw [hA]
    exact Ge.setNew ⟨by omega, fun q hq => by rw [hk q (by omega), klow q hq]⟩ (by omega) _
  have nA : A.next = H.next + 12 := by rw [hA]; simp [j3, hBn]
  have a0 : A.get H.next = .cells true [.int .i64 T.places, .int .i64 T.layover, e, s] 4 := by rw [hA]; simp [m0]
  have a2 : A.get (H.next + 2) = .cells true [.int .i64 T.places, .int .i64 T.layover, e, u] 4 := by rw [hA]; simp
  have tX : TabAt A e u (moreT T z) := by
    refine ⟨h.empty.ge gA, ⟨?_, by simp [moreT]; omega⟩⟩
    have hj := (j1.keep (B := A) (by rw [hA]; simp) fun q hq => by
      have := (j1.names hq).1
      have e1 : q ≠ H.next + 2 := by omega
      rw [hA]; simp [e1]).slr
    simpa [moreT] using hj
  have hvX : tabV (moreT T z) e u = tabV T e u := rfl
  simp [m2, hu, ou, m0]
  rw [← hA]
  refine fcall_fun (readyS_spec (h.ge gA)) ?_
  rintro _ H1 ⟨rfl, g1⟩
  have G1 := gA.trans g1
  have n1 := g1.next
  have b1 := g1.got (by omega) a0
  have x1 := g1.got (by omega) a2
  cases hrd : readyT T
  · simp
    refine fcall_fun (awake_spec _) ?_
    rintro _ B ⟨rfl, gB⟩
    simp
    exact G1.trans gB
  have hrd2 : thin T = true ∧ checkT T = 0 := by simpa [readyT] using hrd
  obtain ⟨hth, hc⟩ := hrd2
  have hT := checkT_zero.1 hc
  have hrx := readyS_spec (tX.ge g1)
  rw [hvX] at hrx
  simp [x1]
  refine fcall_fun hrx ?_
  rintro _ H2 ⟨rfl, g2⟩
  have G2 := G1.trans g2
  have n2 := g2.next
  have b2 := g2.got (by omega) b1
  have x2 := g2.got (by omega) x1
  cases hrdX : readyT (moreT T z)
  · simp
    refine fcall_fun (awake_spec _) ?_
    rintro _ B ⟨rfl, gB⟩
    simp
    exact G2.trans gB
  have hrd3 : thin (moreT T z) = true ∧ checkT (moreT T z) = 0 := by simpa [readyT] using hrdX
  obtain ⟨hthX, hcX⟩ := hrd3
  have hTX := checkT_zero.1 hcX
  have tabX : ∀ B : Heap, Ge A B → AFun Try.prog 19 [.agg #[.int .i64 T.places, .int .i64 T.layover, e, u]] B (fun r B' => (∃ e' s', r = tabV (moreT T z) e' s' ∧ TabAt B' e' s' (moreT T z)) ∧ Ge B B') := fun B gB => by
    have := table_spec (tX.ge gB) hthX
    rwa [hvX] at this
  have hnX := moreT_len (T := T) (z := z)
  have hfX := hTX.few
  have q1 := more_most hfX
  have q2 := more_most_last (T := T) (z := z) hfX
  have z1 := cutL_size hT
  have z2 := cutL_size hTX
  generalize moreT T z = X at tX hvX tabX hnX hfX q1 q2 z2 hTX hcX hthX
  simp [b2]
  refine fcall_fun (table_spec (h.ge G2) hth) ?_
  rintro _ H3 ⟨⟨e3, s3, rfl, u3⟩, g3⟩
  have G3 := G2.trans g3
  simp
  refine fcall_fun (cut_spec u3) ?_
  rintro _ H4 ⟨g4, _, hcut⟩
  obtain ⟨cv, rfl, hcv⟩ := hcut hc
  have G4 := G3.trans g4
  have gA4 := ((g1.trans g2).trans g3).trans g4
  have x4 := gA4.got (by omega) a2
  simp [x4]
  refine fcall_fun (tabX _ gA4) ?_
  rintro _ H5 ⟨⟨e5, s5, rfl, u5⟩, g5⟩
  simp
  refine fcall_fun (cut_spec u5) ?_
  rintro _ H6 ⟨g6, _, hcut⟩
  obtain ⟨dv, rfl, hdv⟩ := hcut hcX
  have gA6 := (gA4.trans g5).trans g6
  have x6 := gA6.got (by omega) a2
  simp [x6]
  refine fcall_fun (tabX _ gA6) ?_
  rintro _ H7 ⟨⟨e7, s7, rfl, u7⟩, g7⟩
  simp
  refine fcall_fun (follows_spec u7) ?_
  rintro _ H8 ⟨g8, _, hfl⟩
  obtain ⟨fv, rfl, hfv⟩ := hfl hcX
  have gA8 := (gA6.trans g7).trans g8
  have x8 := gA8.got (by omega) a2
  have b8 := gA8.got (by omega) a0
  have n8 := gA8.next
  have l1 : X.followers.length = X.trips.length := by simp [Tab.followers]
  have w1 : ((cutL X).length : Int) ≤ (cutL T).length + 1 := by omega
  have w1' : ¬ ((cutL T).length : Int) + 1 < (cutL X).length := by omega
  simp [x8, hfv.lenV, hcv.lenV, hdv.lenV, tX.trips.lenV, l1, add_in (x := (cutL T).length) (y := 1) (by omega) (by omega), w1']
  have n63 : T.trips.length < 2 ^ 63 := by omega
  have tb8 : H.next ≠ H8.next := by omega
  refine floop_intro (fun z => z.d = [] ∧ Ge H8 z.H ∧ z.t 2 = .pointer (some ⟨H.next, 0, none⟩) ∧ z.t 6 = cv ∧ z.t 8 = dv ∧ z.t 10 = fv ∧ ∃ i : Nat, i ≤ X.trips.length ∧ z.t 13 = .int .i64 i ∧ z.t 12 = .bool (firstTo X.followers T.trips.length i)) (fun z => X.trips.length - (intOf (z.t 13)).toNat) ?_ ?_
  · exact ⟨rfl, by simp, by simp, by simp, by simp, by simp, 0, by simp, by simp, by simp [firstTo]⟩
  rintro ⟨t, _, C⟩ ⟨rfl, gC, t2, t6, t8, t10, i, hi, t13, t12⟩
  dsimp only at gC t2 t6 t8 t10 t13 t12
  simp [t10, t13, hfv.lenV, l1]
  refine fcond_intro (fun hci => ?_) (fun hci => ?_)
  · have hi' : i < X.trips.length := by simpa using hci
    have hil : i < X.followers.length := by omega
    have hfn := firstTo_next (F := X.followers) (n := T.trips.length) hil
    simp
    refine floop_intro (fun z => z.d = [] ∧ Ge H8 z.H ∧ z.t 2 = .pointer (some ⟨H.next, 0, none⟩) ∧ z.t 6 = cv ∧ z.t 8 = dv ∧ z.t 10 = fv ∧ z.t 13 = .int .i64 i ∧ ∃ k : Nat, k ≤ X.followers[i].length ∧ z.t 14 = .int .i64 k ∧ z.t 12 = .bool (firstTo X.followers T.trips.length i && noneIs T.trips.length (X.followers[i].take k))) (fun z => X.followers[i].length - (intOf (z.t 14)).toNat) ?_ ?_
    · exact ⟨rfl, gC, by simp [t2], by simp [t6], by simp [t8], by simp [t10], by simp [t13], 0, by simp, by simp, by simp [t12, noneIs]⟩
    rintro ⟨w, _, D⟩ ⟨rfl, gD, w2, w6, w8, w10, w13, k, hk, w14, w12⟩
    dsimp only at gD w2 w6 w8 w10 w13 w14 w12
    obtain ⟨p1, u1, e1, e2, e3⟩ := hfv.atGe gD (i := i) (by omega)
    simp [w10, w13, w14, e1, e2, e3.lenV]
    refine fcond_intro (fun hck => ?_) (fun hck => ?_)
    · have hk' : k < X.followers[i].length := by simpa using hck
      have hnn := noneIs_next (n := T.trips.length) hk'
      obtain ⟨p2, u2, e4, e5, e6⟩ := hfv.atGe (gD.grow 15) (i := i) (by omega)
      obtain ⟨q, e7, e8⟩ := (e6.ge (gD.grow 15)).at hk'
      have bD := gD.got (by omega) b8
      have k63 := e6.2
      have hbv : ∃ bv, (firstTo X.followers T.trips.length i && noneIs T.trips.length (X.followers[i].take k)) = bv := ⟨_, rfl⟩
      obtain ⟨bv, hbv⟩ := hbv
      rw [hbv] at w12
      have hnx : (firstTo X.followers T.trips.length i && noneIs T.trips.length (X.followers[i].take (k + 1))) = (bv && !decide (X.followers[i][k] = (T.trips.length : Int))) := by
        rw [hnn, ← Bool.and_assoc, hbv]
      cases bv
      · simp [w2, w10, w13, w14, w12, add_in (x := k) (y := 1) (by omega) (by omega)]
        simp only [Bool.false_and, Bool.and_eq_false_imp] at hnx
        exact ⟨⟨gD.grow 15, w6, w8, k + 1, by omega, by omega, hnx⟩, by omega⟩
      · simp [w2, w10, w13, w14, w12, bD, e4, e5, e7, e8, h.trips.lenV, add_in (x := k) (y := 1) (by omega) (by omega)]
        have hnx2 : decide (X.followers[i][k] = (T.trips.length : Int)) = (!firstTo X.followers T.trips.length i || !noneIs T.trips.length (X.followers[i].take (k + 1))) := by
          rw [← Bool.not_and, hnx]; simp
        exact ⟨⟨gD.grow 15, w6, w8, k + 1, by omega, by omega, hnx2⟩, by omega⟩
    · have hk' : k = X.followers[i].length := by simp at hck; omega
      subst hk'
      rw [List.take_length, ← hfn] at w12
      simp [w13, add_in (x := i) (y := 1) (by omega) (by omega)]
      exact ⟨⟨gD, w2, w6, w8, w10, i + 1, by omega, by omega, w12⟩, by first | omega | (simp [t13]; omega)⟩
  · have hi' : i = X.trips.length := by simp at hci; omega
    subst hi'
    obtain ⟨p1, u1, e1, e2, e3⟩ := hfv.atGe gC (i := T.trips.length) (by omega)
    have bC := gC.got (by omega) b8
    have hCA : Ge H C := gA.trans (gA8.trans gC)
    by_cases hle : (cutL T).length ≤ (cutL X).length
    · simp [t2, t6, t8, t10, bC, h.trips.lenV, e1, e2, e3.lenV, hcv.lenV, hdv.lenV, hle]
      refine fcall_fun (awake_spec _) ?_
      rintro _ B ⟨rfl, gB⟩
      simp
      exact hCA.trans gB
    have hmb : ¬ X.most ≤ T.most + 1 := by omega
    have hf1 : firstTo X.followers T.trips.length X.trips.length = false := by
      cases hf : firstTo X.followers T.trips.length X.trips.length
      · rfl
      · exact absurd (q2 (.inl fun i hi => firstTo_may (by omega) (by rw [l1]; exact hf) i (by omega))) hmb
    have hil : T.trips.length < X.followers.length := by omega
    have hf2 : ¬ X.followers[T.trips.length] = [] := fun hf => absurd (q2 (.inr fun j hj => last_may (by omega) (by simp [hil, hf]) j (by omega))) hmb
    have hf3 : ¬ ((X.followers[T.trips.length]).length : Int) = 0 := by
      have := List.length_pos_iff.2 hf2
      omega
    rw [hf1] at t12
    simp [t2, t6, t8, t10, t12, bC, h.trips.lenV, e1, e2, e3.lenV, hcv.lenV, hdv.lenV, hle, hf2]
    refine fcall_fun (awake_spec _) ?_
    rintro _ B ⟨rfl, gB⟩
    simp
    exact hCA.trans gB

end Go.Proofs.Ytohohnpjilinmaa

/-
  The chapter's timetable: what the statement of the names asks of it.
-/
namespace Go.Proofs.Ytohohnpjilinmaa
open Go Go.Ab

/-- The boxes of the chapter's timetable. -/
theorem day_boxes {H : Heap} : AFun Try.prog 42 [] H (fun r B => r = tabV dayT (.slice (some ⟨H.next + 3, 0, none⟩) 2 2) (.slice (some ⟨H.next + 4, 0, none⟩) 5 5) ∧ Ge H B ∧ B.next = H.next + 5 ∧ B.get (H.next + 1) = .cells true [.int .i64 0, .int .i64 20] 2 ∧ B.get (H.next + 2) = .cells true [.int .i64 30, .int .i64 0] 2 ∧ B.get (H.next + 3) = .cells true [.slice (some ⟨H.next + 1, 0, none⟩) 2 2, .slice (some ⟨H.next + 2, 0, none⟩) 2 2] 2 ∧ B.get (H.next + 4) = .cells true (dayT.trips.flatMap Tr.cells) 30) := by
  refine AFun.mk ok42 hm (Nat.le_of_ble_eq_true rfl) ?_
  simp [a42, r42]
  refine ⟨⟨rfl, rfl⟩, ?_, ?_⟩
  · refine Ge.setNew (((((Ge.new _ _).newOf _).newOf _).newOf _).newOf _) (by omega) _
  · simp [dayT, Tr.cells]

theorem day_most : dayT.most = 2 := by decide
theorem day_fits : fitsL dayT [40, 20, 40, 30, 10] = true := by decide
theorem day_fits2 : fitsL dayT [40, 20, 40, 30] = false := by decide
theorem day_fits3 : fitsL dayT [40, 31, 40, 30, 10] = false := by decide
theorem day_waits : [[0, 1, 3], [2], [4]].map (waitsL dayT [40, 20, 40, 30, 10]) = [[20, 10], [], []] := by decide
theorem day_bad : isCutL dayT [[0, 3], [1], [2]] = false := by decide
theorem day_bad2 : isCutL dayT [[0, 1, 3], [2]] = false := by decide
theorem day_bad3 : isCutL dayT [[0, 1, 3], [2], [4], []] = false := by decide
theorem day_left1 : leftL dayT [1, 1, 0] = [2] := by decide
theorem day_left2 : leftL dayT [2, 0, 0] = [4] := by decide
theorem day_left3 : leftL dayT [2, 1, 0] = [] := by decide
theorem day_pr1 : proves dayT [0, 1] [] 3 = true := by decide
theorem day_pr2 : proves dayT [0] [] 3 = false := by decide
theorem own_lit {A : Heap} {lo n c : Nat} {cs : List Value} (h : A.get n = .cells true cs c) (h1 : lo ≤ n) (h2 : n < A.next) (h3 : cs.length ≤ c) : OwnSl A lo (.slice (some ⟨n, 0, none⟩) cs.length cs.length) cs :=
  .inr ⟨n, cs.length, c, rfl, h1, h2, h, Nat.le_refl _, h3⟩
theorem ints_lit {A : Heap} {n c k : Nat} (xs : List Int) (hk : k = xs.length) (h : A.get n = .cells true (xs.map (.int .i64)) c) (h2 : n < A.next) (h3 : k ≤ c) (h4 : k < 2 ^ 63) : IntsAt A (.slice (some ⟨n, 0, none⟩) k k) xs := by
  subst hk
  have := own_lit h (Nat.zero_le _) h2 (by simpa using h3)
  exact ⟨by simpa using this.slr, h4⟩
theorem rows_lit {A : Heap} {lo m c k : Nat} {vs : List Value} (rows : List (List Int)) (hk : k = rows.length) (h : A.get m = .cells true vs c) (hl : vs.length = rows.length) (h1 : lo ≤ m) (h2 : m < A.next) (h3 : k ≤ c) (h5 : ∀ r ∈ rows, r.length < 2 ^ 63)
    (h4 : ∀ k (hk : k < rows.length), ∃ n c, vs[k]? = some (.slice (some ⟨n, 0, none⟩) rows[k].length rows[k].length) ∧ A.get n = .cells true (rows[k].map (.int .i64)) c ∧ lo ≤ n ∧ n < A.next ∧ rows[k].length ≤ c ∧ n ≠ m) : RowsO A lo (.slice (some ⟨m, 0, none⟩) k k) rows where
  ex := by
    subst hk
    refine ⟨vs, ?_, hl, fun k hk => ?_⟩
    · have := own_lit h h1 h2 (by omega)
      rw [hl] at this
      exact this
    · obtain ⟨n, c', k1, k2, k3, k4, k5, k6⟩ := h4 k hk
      refine ⟨_, k1, ?_, fun q hq => ?_⟩
      · have := own_lit k2 k3 k4 (by simpa using k5)
        simpa using this
      · simp [slName] at hq ⊢
        omega
  short := h5

def oddT : Tab := { dayT with trips := [⟨0, 1, 100, 0, 60, 0⟩, ⟨1, 0, 165, 20, 30, 0⟩, ⟨0, 1, 165, 40, 60, 0⟩, ⟨0, 1, 200, 30, 30, 0⟩, ⟨1, 0, 240, 10, 20, 1⟩] }
def loopT : Tab := { dayT with empty := [[0, 20], [30, 1]] }
def manyT : Tab := { dayT with trips := List.replicate 13 noTr }
def emptyT : Tab := ⟨0, 0, [], []⟩
theorem odd_check : checkT oddT = 1 := by decide
theorem loop_check : checkT loopT = 1 := by decide
theorem many_check : checkT manyT = 3 := by decide
theorem empty_check : checkT emptyT = 1 := by decide
theorem odd_wr : wrL (dayT.trips.flatMap Tr.cells) 3 [.int .i64 0] = oddT.trips.flatMap Tr.cells := rfl
theorem day_len : 4 ≤ (dayT.trips.flatMap Tr.cells).length := by decide

def noneT : Tab := { places := 1, layover := 0, empty := [[0]], trips := [] }
theorem none_check : checkT noneT = 0 := by decide
theorem none_cut : cutL noneT = [] := by decide
theorem none_cutting : isCutL noneT [] = true := by decide
theorem none_pr : proves noneT [] [] 0 = true := by decide

end Go.Proofs.Ytohohnpjilinmaa

/-
  What leftOut leaves out: enough without it, and as few as can be.
-/
namespace Go.Proofs.Ytohohnpjilinmaa

theorem unled_most {T : Tab} (hfew : T.trips.length ≤ 12) {looked : List Bool} (hl : ∀ i, T.trips.length ≤ i → i < 12 → looked[i]?.getD false = false) : unled looked (joinL T.followers looked T.trips.length) 12 + T.mostL looked = cntN T.trips.length (fun i => looked[i]?.getD false) := by
  have hM := joinL_mat (looked := looked) (followers_ok hfew) T.trips.length (Nat.le_refl _)
  have hmost : T.mostL looked = ledSize T.trips.length (joinL T.followers looked T.trips.length) := rfl
  generalize joinL T.followers looked T.trips.length = led at hM hmost
  have h1 : unled looked led 12 = cntN T.trips.length (fun k => looked[k]?.getD false && decide (led[k]?.getD 0 = -1)) := by
    show cntN 12 (fun k => looked[k]?.getD false && decide (led[k]?.getD 0 = -1)) = _
    exact cntN_more hfew fun k h1 h2 => by simp [hl k h1 h2]
  rw [cntN_split (f := fun i => looked[i]?.getD false) (fun k => decide (led[k]?.getD 0 = -1)), h1, hmost]
  congr 1
  unfold ledSize pmSize
  refine cntN_congr fun j hj => ?_
  have hjl : j < led.length := by have := hM.ok.1; omega
  have hn := hM.ok.2 _ (List.getElem_mem hjl)
  have e1 : led[j]?.getD 0 = led[j] := by simp [hjl]
  have e2 : led[j]?.getD (-1) = led[j] := by simp [hjl]
  unfold ledP
  rw [e1, e2]
  by_cases h0 : 0 ≤ led[j]
  · have hne : ¬ led[j] = -1 := by omega
    have hlk := hM.lookR j (by rw [e2]; exact hne)
    simp [h0, hne, hlk]
  · have he : led[j] = -1 := by omega
    simp [he]

theorem kind_few {T : Tab} (hT : Valid T) {l : List Int} (hl : ∀ x ∈ l, 0 ≤ x ∧ x < 12) (k : Nat) : fewestL T (kindTo T k (pickL l) T.trips.length) = (fewK T l k : Int) := by
  have hfew := hT.few
  have hlk : ∀ i, i < T.trips.length → (kindTo T k (pickL l) T.trips.length)[i]?.getD false = okAll T k l i := fun i hi => by
    have hi12 : i < 12 := by omega
    have hk0 : ¬ (k : Int) < 0 := by omega
    simp only [kindTo, List.getElem?_map, List.getElem?_range hi12, Option.map_some, Option.getD_some, hi, decide_true, Bool.true_and, List.getElem?_eq_getElem, okAll, hk0, decide_false, Bool.false_or, kindN, pickL_at hl hi12]
  have hout : ∀ i, T.trips.length ≤ i → i < 12 → (kindTo T k (pickL l) T.trips.length)[i]?.getD false = false := fun i h1 h2 => by
    have : ¬ i < T.trips.length := by omega
    simp [kindTo, h2, this]
  have h1 := unled_most hfew hout
  have h2 := only_cut hT hlk
  have h3 : cntN T.trips.length (fun i => (kindTo T k (pickL l) T.trips.length)[i]?.getD false) = cntN T.trips.length (okAll T k l) := cntN_congr hlk
  have h4 : fewK T l k = (cutL (onlyT T (numsOf T.trips.length (okAll T k l)))).length := rfl
  unfold fewestL
  omega

def fits3 (T : Tab) (fleet : List Int) (l : List Int) : Prop := ∀ k, k < 3 → (fewK T l k : Int) ≤ fleet[k]?.getD 0

theorem goodL_iff {T : Tab} (hT : Valid T) {fleet l : List Int} (hf : fleet.length = 3) (hl : ∀ x ∈ l, 0 ≤ x ∧ x < 12) : goodL T fleet l = true ↔ fits3 T fleet l := by
  simp only [goodL, enoughTo, hf, List.all_eq_true, List.mem_range, decide_eq_true_eq, fits3]
  constructor
  · intro h k hk
    have := h k hk
    rwa [kind_few hT hl k] at this
  · intro h k hk
    rw [kind_few hT hl k]
    exact h k hk

/-- The lists that are tried rise, and all that rise are tried. -/
theorem ext_sound {n : Nat} : ∀ (r from_ : Nat) (pre : List Int), pre.Pairwise (· < ·) → (∀ x ∈ pre, 0 ≤ x ∧ x < (from_ : Int) ∧ x < (n : Int)) → ∀ l ∈ ext n r from_ pre, l.Pairwise (· < ·) ∧ ∀ x ∈ l, 0 ≤ x ∧ x < (n : Int)
  | 0, from_, pre, h1, h2, l, hl => by
    simp only [ext, List.mem_singleton] at hl
    subst hl
    exact ⟨h1, fun x hx => ⟨(h2 x hx).1, (h2 x hx).2.2⟩⟩
  | r + 1, from_, pre, h1, h2, l, hl => by
    simp only [ext, List.mem_flatMap, List.mem_range'_1] at hl
    obtain ⟨t, ⟨t1, t2⟩, hl⟩ := hl
    refine ext_sound r (t + 1) (pre ++ [(t : Int)]) ?_ ?_ l hl
    · rw [List.pairwise_append]
      refine ⟨h1, by simp, fun x hx y hy => ?_⟩
      simp only [List.mem_singleton] at hy
      have := h2 x hx
      omega
    · intro x hx
      rcases List.mem_append.1 hx with hx | hx
      · have := h2 x hx; omega
      · simp only [List.mem_singleton] at hx; omega

theorem ext_all {n : Nat} : ∀ (s : List Int) (from_ : Nat) (pre : List Int), s.Pairwise (· < ·) → (∀ x ∈ s, (from_ : Int) ≤ x ∧ x < (n : Int)) → pre ++ s ∈ ext n s.length from_ pre
  | [], from_, pre, _, _ => by simp [ext]
  | x :: s, from_, pre, h1, h2 => by
    rw [List.pairwise_cons] at h1
    have hx := h2 x List.mem_cons_self
    simp only [List.length_cons, ext, List.mem_flatMap, List.mem_range'_1]
    refine ⟨x.toNat, ⟨by omega, by omega⟩, ?_⟩
    have e : ((x.toNat : Nat) : Int) = x := by omega
    have := ext_all (n := n) s (x.toNat + 1) (pre ++ [x]) h1.2 fun y hy => by
      have := h1.1 y hy
      have := h2 y (List.mem_cons_of_mem _ hy)
      omega
    rw [e]
    simpa using this

theorem rises_of {T : Tab} {l : List Int} (h1 : l.Pairwise (· < ·)) (h2 : ∀ x ∈ l, 0 ≤ x ∧ x < (T.trips.length : Int)) : risL T l = true :=
  risL_of h1 fun x hx => by have := h2 x hx; simp [Tab.num]; omega

theorem leftL_rises {T : Tab} {fleet : List Int} : risL T (leftL T fleet) = true := by
  unfold leftL
  cases hf : (listsTo T.trips.length T.trips.length).find? (goodL T fleet) with
  | none =>
    simp only [Option.getD_none]
    have e : (List.range T.trips.length).map Int.ofNat = numsOf T.trips.length (fun _ => true) := by unfold numsOf; rw [List.filter_eq_self.2 (fun _ _ => rfl)]
    rw [e]
    refine rises_of numsOf_rise fun x hx => ?_
    obtain ⟨k, h1, _, rfl⟩ := numsOf_mem.1 hx
    omega
  | some l =>
    simp only [Option.getD_some]
    have hm := List.mem_of_find?_eq_some hf
    simp only [listsTo, List.mem_flatMap, List.mem_range] at hm
    obtain ⟨L, _, hl⟩ := hm
    obtain ⟨h1, h2⟩ := ext_sound L 0 [] (by simp) (by simp) l hl
    exact rises_of h1 h2

theorem leftL_good {T : Tab} (hT : Valid T) {fleet : List Int} (hf : fleet.length = 3) (h0 : ∀ x ∈ fleet, 0 ≤ x) : fits3 T fleet (leftL T fleet) := by
  have hfew := hT.few
  have hb : ∀ x ∈ leftL T fleet, 0 ≤ x ∧ x < 12 := fun x hx => by
    have := num_lt hfew ((risL_ok hfew (leftL_rises (T := T) (fleet := fleet))).2 x hx); omega
  cases hfd : (listsTo T.trips.length T.trips.length).find? (goodL T fleet) with
  | some l =>
    have e : leftL T fleet = l := by unfold leftL; rw [hfd]; rfl
    have hg := List.find?_some hfd
    rw [e] at hb ⊢
    exact (goodL_iff hT hf hb).1 hg
  | none =>
    have e : leftL T fleet = (List.range T.trips.length).map Int.ofNat := by unfold leftL; rw [hfd]; rfl
    rw [e]
    intro k hk
    have hz : cntN T.trips.length (okAll T k ((List.range T.trips.length).map Int.ofNat)) = 0 := by
      have : ∀ i, i < T.trips.length → okAll T k ((List.range T.trips.length).map Int.ofNat) i = false := fun i hi => by
        have : (i : Int) ∈ (List.range T.trips.length).map Int.ofNat := List.mem_map.2 ⟨i, List.mem_range.2 hi, rfl⟩
        simp only [okAll, this, decide_true, Bool.not_true, Bool.and_false]
      rw [cntN_congr this]
      simp [cntN]
    have hlk : ∀ i, i < T.trips.length → ((List.range 12).map (okAll T k ((List.range T.trips.length).map Int.ofNat)))[i]?.getD false = okAll T k ((List.range T.trips.length).map Int.ofNat) i := fun i hi => by
      have hi12 : i < 12 := by omega
      simp only [List.getElem?_map, List.getElem?_range hi12, Option.map_some, Option.getD_some]
    have hc := only_cut hT hlk
    have hz2 : fewK T ((List.range T.trips.length).map Int.ofNat) k = 0 := by
      show (cutL (onlyT T (numsOf T.trips.length (okAll T k ((List.range T.trips.length).map Int.ofNat))))).length = 0
      omega
    have hk3 : k < fleet.length := by omega
    have := h0 _ (List.getElem_mem hk3)
    rw [hz2]
    simp only [List.getElem?_eq_getElem hk3, Option.getD_some]
    omega

theorem leftL_least {T : Tab} (hT : Valid T) {fleet w : List Int} (hf : fleet.length = 3) (hw : risL T w = true) (hg : fits3 T fleet w) : (leftL T fleet).length ≤ w.length := by
  have hfew := hT.few
  obtain ⟨w1, w2⟩ := risL_ok hfew hw
  have hwn : ∀ x ∈ w, 0 ≤ x ∧ x < (T.trips.length : Int) := fun x hx => by
    have := num_lt hfew (w2 x hx); omega
  have hlw := risL_length hfew hw
  by_cases e : w.length = T.trips.length
  · have := risL_length hfew (leftL_rises (T := T) (fleet := fleet)); omega
  · have hgood : goodL T fleet w = true := (goodL_iff hT hf fun x hx => by have := hwn x hx; omega).2 hg
    have hmem : w ∈ listsTo T.trips.length (w.length + 1) := by
      simp only [listsTo, List.mem_flatMap, List.mem_range]
      exact ⟨w.length, by omega, by simpa using ext_all w 0 [] w1 hwn⟩
    have hsplit : ∃ more, listsTo T.trips.length T.trips.length = listsTo T.trips.length (w.length + 1) ++ more := by
      refine ⟨(List.range' (w.length + 1) (T.trips.length - (w.length + 1))).flatMap fun L => ext T.trips.length L 0 [], ?_⟩
      simp only [listsTo, ← List.flatMap_append]
      congr 1
      rw [List.range_eq_range', List.range_eq_range']
      have e1 : T.trips.length = (w.length + 1) + (T.trips.length - (w.length + 1)) := by omega
      conv => lhs; rw [e1, ← List.range'_append_1]
      simp
    obtain ⟨more, hm⟩ := hsplit
    have hsome : ((listsTo T.trips.length (w.length + 1)).find? (goodL T fleet)).isSome := by
      rw [List.find?_isSome]; exact ⟨w, hmem, hgood⟩
    obtain ⟨l, hl⟩ := Option.isSome_iff_exists.1 hsome
    have hleft : leftL T fleet = l := by
      unfold leftL; rw [hm, List.find?_append, hl]; rfl
    rw [hleft]
    have hlm := List.mem_of_find?_eq_some hl
    simp only [listsTo, List.mem_flatMap, List.mem_range] at hlm
    obtain ⟨L, h1, h2⟩ := hlm
    have := ext_length L 0 [] l h2
    simp at this
    omega

end Go.Proofs.Ytohohnpjilinmaa

/-
  What RunLeft answers.
-/
namespace Go.Proofs.Ytohohnpjilinmaa
open Go Go.Ab

theorem aval_minC {t : Nat → Value} {H : Heap} {N y : Nat} {k : IntKind} {m n : Int} {d : Option Tmp} {T U ty : TypeId} {pos : String} {af : Array Edge} {g : Option (Nat × Bool)} (hy : t y = .int k n) (h2 : y < N) :
    aval Try.prog t H (.gen N ⟨d, .call ⟨.builtin .min, #[.const (.int k m), .tmp y], #[T, U]⟩, ty, pos, af, g⟩) = some (.int k (min m n)) := by
  refine aval_gen ?_ rfl fun w => ?_
  · simp [Op.operands, Call.operands, flatO, hy, h2, flat, flat1]
  · simp [execOp, resolve, invoke, builtin, Builtin.min_, Builtin.min2, evO, hy]
    split <;> omega

set_option maxHeartbeats 4000000 in
theorem runLeft_of {e s wv : Value} {T : Tab} {x y z kd : Int} {w : List Int} {H : Heap} (h : TabAt H e s T) (hf : (0 ≤ x ∧ x < 256) ∧ (0 ≤ y ∧ y < 256) ∧ (0 ≤ z ∧ z < 256)) (hk : 0 ≤ kd ∧ kd < 256) (hw : IntsAt H wv w) :
    AFun Try.prog 13 [tabV T e s, .agg #[.int .u8 x, .int .u8 y, .int .u8 z], .int .u8 kd, wv] H (fun v B => v = .bool true ∧ Ge H B) := by
  refine AFun.mk ok13 hm (Nat.le_of_ble_eq_true rfl) ?_
  have g0 : Ge H ((H.new (.cells true [.int .i64 T.places, .int .i64 T.layover, e, s] 4)).new (.cells true [.int .u8 x, .int .u8 y, .int .u8 z] 3)) := (Ge.new _ _).newOf _
  simp [a13, r13]
  refine fcall_fun (readyS_spec (h.ge g0)) ?_
  rintro _ H1 ⟨rfl, g1⟩
  have G1 := g0.trans g1
  have n1 := g1.next
  simp at n1
  have b1 := g1.got (n := H.next) (by simp) rfl
  have f1 := g1.got (n := H.next + 1) (by simp) rfl
  simp at b1 f1
  cases hrd : readyT T
  · simp
    refine fcall_fun (awake_spec _) ?_
    rintro _ B ⟨rfl, gB⟩
    simp
    exact G1.trans gB
  have hrd2 : thin T = true ∧ checkT T = 0 := by simpa [readyT] using hrd
  obtain ⟨hth, hc⟩ := hrd2
  have hT := checkT_zero.1 hc
  have hfew := hT.few
  by_cases hl : 15 < (w.length : Int)
  · simp [hw.lenV, hl]
    refine fcall_fun (awake_spec _) ?_
    rintro _ B ⟨rfl, gB⟩
    simp
    exact G1.trans gB
  have hI : ∀ (q : Nat) (i : Nat), i < 3 → iarV 3 1 (.pointer (some ⟨q, 0, none⟩)) (.int .i64 i) = some (.pointer (some ⟨q, i, none⟩)) := fun q i hi => by
    rw [iarV_in (by omega) (by omega)]; simp
  have hI0 := fun q => hI q 0 (by omega)
  have hI1 := fun q => hI q 1 (by omega)
  have hI2 := fun q => hI q 2 (by omega)
  simp at hI0 hI1 hI2
  have wx := wrap_i64 (n := x) (by omega) (by omega)
  have wy := wrap_i64 (n := y) (by omega) (by omega)
  have wz := wrap_i64 (n := z) (by omega) (by omega)
  have wk := wrap_i64 (n := kd) (by omega) (by omega)
  have mx : x.tmod 13 = x % 13 := Int.tmod_eq_emod_of_nonneg hf.1.1
  have my : y.tmod 13 = y % 13 := Int.tmod_eq_emod_of_nonneg hf.2.1.1
  have mz : z.tmod 13 = z % 13 := Int.tmod_eq_emod_of_nonneg hf.2.2.1
  have mk : kd.tmod 3 = kd % 3 := Int.tmod_eq_emod_of_nonneg hk.1
  simp [hw.lenV, hl, hI0, hI1, hI2, f1, wx, wy, wz, binI_rem, mx, my, mz]
  have ha : 0 ≤ x % 13 ∧ x % 13 ≤ 12 := by omega
  have hb : 0 ≤ y % 13 ∧ y % 13 ≤ 12 := by omega
  have hcc : 0 ≤ z % 13 ∧ z % 13 ≤ 12 := by omega
  have hkk : 0 ≤ kd % 3 ∧ kd % 3 < 3 := by omega
  generalize x % 13 = a at ha
  generalize y % 13 = b at hb
  generalize z % 13 = c at hcc
  generalize kd % 3 = k3 at hkk mk
  have hA0 : ∃ A0, A0 = H1.new (.cells true [.int .i64 a, .int .i64 b, .int .i64 c] 3) := ⟨_, rfl⟩
  obtain ⟨A0, hA0⟩ := hA0
  rw [← hA0]
  have nA0 : A0.next = H1.next + 1 := by rw [hA0]; rfl
  have gA0 : Ge H1 A0 := by rw [hA0]; exact Ge.new _ _
  have kA0 : A0.get H1.next = .cells true [.int .i64 a, .int .i64 b, .int .i64 c] 3 := by rw [hA0]; simp
  have bA0 := gA0.got (by omega) b1
  have hF := ints_lit (A := A0) (c := 3) (k := 3) [a, b, c] rfl (by simpa using kA0) (by omega) (by omega) (by omega)
  have hFok : fleetOk [a, b, c] = true := by simp [fleetOk]; omega
  refine fcall_fun (list_spec hF (by simp)) ?_
  rintro r H2 ⟨hr, g2⟩
  have G2 := (G1.trans gA0).trans g2
  have n2 := g2.next
  have b2 := g2.got (by omega) bA0
  have kF2 := g2.got (by omega) kA0
  rcases hr with ⟨rfl, hnil⟩ | ⟨q, cap, cc, rfl, q1, q2, q3, q4, q5⟩
  · simp at hnil
  simp at q3 q4
  have hX : islV 1 (.slice (some ⟨q, 0, none⟩) 3 cap) (.int .i64 k3) = some (.pointer (some ⟨q, k3.toNat, none⟩)) := by
    rw [islV_in (by omega) (by omega)]; simp
  have hk3 : k3.toNat < 3 := by omega
  obtain ⟨v3, hv3, hv3b⟩ : ∃ v3 : Int, [Value.int .i64 a, .int .i64 b, .int .i64 c][k3.toNat]? = some (.int .i64 v3) ∧ ([a, b, c] : List Int)[k3.toNat]? = some v3 := by
    rcases (by omega : k3.toNat = 0 ∨ k3.toNat = 1 ∨ k3.toNat = 2) with e | e | e <;> rw [e] <;> exact ⟨_, rfl, rfl⟩
  have hv3c : 0 ≤ v3 ∧ v3 ≤ 12 := by
    rcases (by omega : k3.toNat = 0 ∨ k3.toNat = 1 ∨ k3.toNat = 2) with e | e | e <;> rw [e] at hv3b <;> simp at hv3b <;> omega
  simp [wk, mk, binI_rem, hX, q3, hv3, add_in (x := v3) (y := 1) (by omega) (by omega)]
  rw [aval_minC (k := .i64) (m := 12) (n := v3 + 1) (by simp) (by decide)]
  have hM : wrL [Value.int .i64 a, Value.int .i64 b, Value.int .i64 c] k3.toNat [.int .i64 (min 12 (v3 + 1))] = (([a, b, c] : List Int).set k3.toNat (min 12 (v3 + 1))).map (.int .i64) := by
    rw [wr_one (by simpa using hk3), List.map_set]; rfl
  have hMl : (([a, b, c] : List Int).set k3.toNat (min 12 (v3 + 1))).length = 3 := by simp
  have hMok : fleetOk (([a, b, c] : List Int).set k3.toNat (min 12 (v3 + 1))) = true := by
    rcases (by omega : k3.toNat = 0 ∨ k3.toNat = 1 ∨ k3.toNat = 2) with e | e | e <;> rw [e] <;> simp [fleetOk] <;> omega
  have hMore : ∀ l, fits3 T [a, b, c] l → fits3 T (([a, b, c] : List Int).set k3.toNat (min 12 (v3 + 1))) l := by
    intro l hl k hk
    have h1 := hl k hk
    rcases (by omega : k3.toNat = 0 ∨ k3.toNat = 1 ∨ k3.toNat = 2) with e | e | e <;> rw [e] at hv3b ⊢ <;> simp at hv3b <;> rcases (by omega : k = 0 ∨ k = 1 ∨ k = 2) with rfl | rfl | rfl <;> simp at h1 ⊢ <;> omega
  generalize ([a, b, c] : List Int).set k3.toNat (min 12 (v3 + 1)) = M at hM hMl hMok hMore
  have hk3' : k3.toNat + 1 ≤ 3 := hk3
  have qn : H.next ≠ q := by omega
  have qf : H1.next ≠ q := by omega
  have hA1 : ∃ A1, A1 = H2.set q (.cells true (M.map (.int .i64)) cc) := ⟨_, rfl⟩
  obtain ⟨A1, hA1⟩ := hA1
  have GA : Ge H A1 := by rw [hA1]; exact Ge.setNew G2 (by have := (G1.trans gA0).next; omega) _
  have nA1 : A1.next = H2.next := by rw [hA1]; rfl
  have aT : A1.get H.next = .cells true [.int .i64 T.places, .int .i64 T.layover, e, s] 4 := by rw [hA1]; simp [qn, b2]
  have aF : A1.get H1.next = .cells true [.int .i64 a, .int .i64 b, .int .i64 c] 3 := by rw [hA1]; simp [qf, kF2]
  have aM : A1.get q = .cells true (M.map (.int .i64)) cc := by rw [hA1]; simp
  have hFA : IntsAt A1 (.slice (some ⟨H1.next, 0, none⟩) 3 3) [a, b, c] := ints_lit (c := 3) (k := 3) [a, b, c] rfl (by simpa using aF) (by omega) (by omega) (by omega)
  have hMA : IntsAt A1 (.slice (some ⟨q, 0, none⟩) 3 cap) M := by
    have : OwnSl A1 0 (.slice (some ⟨q, 0, none⟩) 3 cap) (M.map (.int .i64)) := .inr ⟨q, cap, cc, by simp [hMl], by omega, by omega, aM, by simp [hMl]; omega, q5⟩
    exact ⟨by rw [hMl]; simpa [hMl] using this.slr, by omega⟩
  simp [hX, q3, hM, hk3', qn, b2]
  rw [← hA1]
  clear hA1
  refine fcall_fun (table_spec (h.ge GA) hth) ?_
  rintro _ K1 ⟨⟨e1, s1, rfl, u1⟩, k1⟩
  simp
  refine fcall_fun (list_spec (hFA.ge k1) (by simp)) ?_
  rintro r2 K2 ⟨hr2, k2⟩
  simp
  refine fcall_fun (lacks_spec (fleet := [a, b, c]) (u1.ge k2) ⟨by simpa using hr2.slr, by simp⟩) ?_
  rintro _ K3 ⟨k3', _, _, hlk⟩
  obtain ⟨lv, rfl, hlv⟩ := hlk hc hFok
  clear hlk
  have y3 := (k1.trans k2).trans k3'
  have t3 := y3.got (by omega) aT
  simp [t3]
  refine fcall_fun (table_spec (h.ge (GA.trans y3)) hth) ?_
  rintro _ K4 ⟨⟨e4, s4, rfl, u4⟩, k4⟩
  have y4 := y3.trans k4
  simp
  refine fcall_fun (lacks_spec (fleet := M) u4 (hMA.ge y4)) ?_
  rintro _ K5 ⟨k5, _, _, hlk⟩
  obtain ⟨mv, rfl, hmv⟩ := hlk hc hMok
  clear hlk
  have y5 := y4.trans k5
  have t5 := y5.got (by omega) aT
  simp [t5]
  refine fcall_fun (fewestS_spec (w := []) (h.ge (GA.trans y5)) hT hth ⟨⟨by simp [slCells], fun a n c e => by cases e⟩, by simp⟩) ?_
  rintro _ K6 ⟨rfl, k6⟩
  have y6 := y5.trans k6
  have t6 := y6.got (by omega) aT
  have v6 := y6.next
  have tq : H.next ≠ K6.next := by omega
  simp [t6, tq]
  have hL1 := leftL_rises (T := T) (fleet := [a, b, c])
  have hL2 : fits3 T [a, b, c] (leftL T [a, b, c]) := leftL_good hT rfl (by simp; omega)
  have hML : (leftL T M).length ≤ (leftL T [a, b, c]).length := leftL_least hT hMl hL1 (hMore _ hL2)
  have hmin : ∀ u, risL T u = true → fits3 T [a, b, c] u → (leftL T [a, b, c]).length ≤ u.length := fun u hu hg => leftL_least hT rfl hu hg
  have hfit : ∀ u, fits3 T [a, b, c] u ↔ ((fewK T u 0 : Int) ≤ a ∧ (fewK T u 1 : Int) ≤ b ∧ (fewK T u 2 : Int) ≤ c) := fun u => by
    constructor
    · intro hu; exact ⟨by simpa using hu 0 (by omega), by simpa using hu 1 (by omega), by simpa using hu 2 (by omega)⟩
    · rintro ⟨h0, h1, h2⟩ k hk
      rcases (by omega : k = 0 ∨ k = 1 ∨ k = 2) with rfl | rfl | rfl
      · simpa using h0
      · simpa using h1
      · simpa using h2
  have hemp : ((fewK T [] 0 : Int) ≤ a ∧ (fewK T [] 1 : Int) ≤ b ∧ (fewK T [] 2 : Int) ≤ c) ↔ leftL T [a, b, c] = [] := by
    rw [← hfit]
    constructor
    · intro hg
      have := hmin [] rfl hg
      exact List.length_eq_zero_iff.1 (by simpa using this)
    · intro he; rw [he] at hL2; exact hL2
  generalize leftL T [a, b, c] = L at hL1 hL2 hML hmin hemp hlv
  generalize leftL T M = Mx at hML hmv
  have hA6 : ∃ A6, A6 = (K6.new (.cells true [.int .i64 0, .int .i64 0, .int .i64 0] 3)).set K6.next (.cells true [.int .i64 (fewK T [] 0), .int .i64 (fewK T [] 1), .int .i64 (fewK T [] 2)] 3) := ⟨_, rfl⟩
  obtain ⟨A6, hA6⟩ := hA6
  rw [← hA6]
  have g6 : Ge K6 A6 := by rw [hA6]; exact Ge.setNew (Ge.new _ _) (Nat.le_refl _) _
  have b6 : A6.get K6.next = .cells true [.int .i64 (fewK T [] 0), .int .i64 (fewK T [] 1), .int .i64 (fewK T [] 2)] 3 := by rw [hA6]; simp
  have n6 : A6.next = K6.next + 1 := by rw [hA6]; rfl
  clear hA6
  have y6' := y6.trans g6
  have lv3 : IntsAt A6 lv L := hlv.ge (((k4.trans k5).trans k6).trans g6)
  have mv5 : IntsAt A6 mv Mx := hmv.ge (k6.trans g6)
  refine fcall_fun (refRising_spec (h.ge (GA.trans y6')) lv3) ?_
  rintro _ K7 ⟨rfl, k7⟩
  have y7 := y6'.trans k7
  have v7 := y7.next
  have n7 := k7.next
  have b7 := k7.got (by omega) b6
  have f7 := y7.got (by omega) aF
  have t7 := y7.got (by omega) aT
  have hML' : ¬ (L.length : Int) < Mx.length := by omega
  have hS : ∀ (i : Nat), i < 3 → islV 1 (.slice (some ⟨H1.next, 0, none⟩) 3 3) (.int .i64 i) = some (.pointer (some ⟨H1.next, i, none⟩)) := fun i hi => by
    rw [islV_in (by omega) (by omega)]; simp
  have hS0 := hS 0 (by omega)
  have hS1 := hS 1 (by omega)
  have hS2 := hS 2 (by omega)
  simp at hS0 hS1 hS2
  have split : ((fewK T [] 0 : Int) ≤ a ∧ (fewK T [] 1 : Int) ≤ b ∧ (fewK T [] 2 : Int) ≤ c ∧ decide (L = []) = true) ∨ ((fewK T [] 0 : Int) ≤ a ∧ (fewK T [] 1 : Int) ≤ b ∧ ¬ (fewK T [] 2 : Int) ≤ c ∧ decide (L = []) = false) ∨ ((fewK T [] 0 : Int) ≤ a ∧ ¬ (fewK T [] 1 : Int) ≤ b ∧ decide (L = []) = false) ∨ (¬ (fewK T [] 0 : Int) ≤ a ∧ decide (L = []) = false) := by
    by_cases p0 : (fewK T [] 0 : Int) ≤ a <;> by_cases p1 : (fewK T [] 1 : Int) ≤ b <;> by_cases p2 : (fewK T [] 2 : Int) ≤ c <;> simp [p0, p1, p2] at hemp ⊢ <;> simp [hemp]
  have hlz : decide ((L.length : Int) = 0) = decide (L = []) := by
    rw [decide_eq_decide]
    constructor
    · intro hz; exact List.length_eq_zero_iff.1 (by omega)
    · intro hz; rw [hz]; rfl
  rcases split with ⟨p0, p1, p2, hE⟩ | ⟨p0, p1, p2, hE⟩ | ⟨p0, p1, hE⟩ | ⟨p0, hE⟩
  all_goals
    first
    | simp [hL1, lv3.lenV, mv5.lenV, hML', hI0, hI1, hI2, hS0, hS1, hS2, b7, f7, p0, p1, p2]
    | simp [hL1, lv3.lenV, mv5.lenV, hML', hI0, hI1, hI2, hS0, hS1, hS2, b7, f7, p0, p1]
    | simp [hL1, lv3.lenV, mv5.lenV, hML', hI0, hI1, hI2, hS0, hS1, hS2, b7, f7, p0]
  all_goals
    rw [aval_neB (a := decide (L = [])) (b := decide (L = [])) (by simp [hE]) (by simp [hE, hlz]) (by decide) (by decide)]
    have o1 := IntsAt.one lv3
    have o2 := IntsAt.one hw
    have oo1 := one_cells o1
    have oo2 := one_cells o2
    simp [o1, o2, oo1, oo2]
  all_goals
    refine floop_intro (fun zz => zz.d = [] ∧ Ge K7 zz.H ∧ K7.next + 24 ≤ zz.H.next ∧ zz.t 3 = wv ∧ zz.t 4 = .pointer (some ⟨H.next, 0, none⟩) ∧ zz.t 9 = .slice (some ⟨H1.next, 0, none⟩) 3 3 ∧ zz.t 11 = lv ∧ zz.t 18 = .pointer (some ⟨K7.next + 23, 0, none⟩) ∧ zz.H.get (K7.next + 23) = .cells true [lv, wv] 2 ∧ ∃ i : Nat, i ≤ 2 ∧ zz.t 19 = .int .i64 i) (fun zz => 2 - (intOf (zz.t 19)).toNat) ?_ ?_
    · exact ⟨rfl, Ge.setNew ((Ge.more K7 23).newOf _) (by omega) _, by simp, by simp, by simp, by simp, by simp, by simp, by simp, 0, by simp, by simp⟩
    rintro ⟨t, _, C⟩ ⟨rfl, gC, nC, c3, c4, c9, c11, c18, cb, i, hi, c19⟩
    dsimp only at gC nC c3 c4 c9 c11 c18 cb c19
    simp [c19]
    have tC := gC.got (by omega) t7
    have fC := gC.got (by omega) f7
    have yC := y7.trans gC
    have GC := GA.trans yC
    have vC := yC.next
    refine fcond_intro (fun hci => ?_) (fun hci => ?_)
    · have hi' : i < 2 := by simp at hci; omega
      obtain ⟨u, us, x1, x2, x3, x4⟩ : ∃ u us, [lv, wv][i]? = some u ∧ IntsAt C u us ∧ (i = 0 → us = L) ∧ (i = 1 → us = w) := by
        match i, hi' with
        | 0, _ => exact ⟨lv, L, rfl, lv3.ge (k7.trans gC), fun _ => rfl, fun h => (by cases h)⟩
        | 1, _ => exact ⟨wv, w, rfl, hw.ge GC, fun h => (by cases h), fun _ => rfl⟩
      have hII : iarV 2 1 (.pointer (some ⟨K7.next + 23, 0, none⟩)) (.int .i64 i) = some (.pointer (some ⟨K7.next + 23, i, none⟩)) := by
        rw [iarV_in (by omega) (by omega)]; simp
      simp [c4, c18, c19, tC, hII, cb, x1]
      refine fcall_fun (refRising_spec (h.ge (GC.grow 6)) (x2.ge (Ge.more C 6))) ?_
      rintro _ D ⟨rfl, gD⟩
      have gCD : Ge C D := (Ge.more C 6).trans gD
      have nD := gD.next
      simp at nD
      have tD := gCD.got (by omega) tC
      have cbD := gCD.got (by omega) cb
      cases hru : risL T us
      · simp [c19, add_in (x := i) (y := 1) (by omega) (by omega)]
        exact ⟨⟨gC.trans gCD, by omega, c3, c4, c9, c11, c18, cbD, i + 1, by omega, by omega⟩, by omega⟩
      simp [c4, c18, c19, tD, hII, cbD, x1]
      have gS : Ge D (({ get := D.get, next := D.next + 11 } : Heap).set (D.next + 8) (.cells true [.int .i64 0, .int .i64 0, .int .i64 0] 3)) := Ge.setNew (Ge.more D 11) (by omega) _
      refine fcall_fun (fewestS_spec (w := us) (h.ge ((GC.trans gCD).trans gS)) hT hth (x2.ge (gCD.trans gS))) ?_
      rintro _ E ⟨rfl, gE⟩
      have gDE := gS.trans gE
      have gCE := gCD.trans gDE
      have nE := gE.next
      simp at nE
      have eb : E.get (D.next + 8) = .cells true [.int .i64 0, .int .i64 0, .int .i64 0] 3 := gE.got (n := D.next + 8) (by first | (simp; done) | (simp; omega)) (by simp)
      have tE := gCE.got (by omega) tC
      have fE := gCE.got (by omega) fC
      have cbE := gCE.got (by omega) cb
      have e15 : ¬ K7.next + 15 = D.next := by omega
      have gfin : ∀ o, Ge K7 (E.set (D.next + 8) o) := fun o => Ge.setNew (gC.trans gCE) (by omega) _
      have fne : H1.next ≠ D.next + 8 := by omega
      have split2 : ((fewK T us 0 : Int) ≤ a ∧ (fewK T us 1 : Int) ≤ b ∧ (fewK T us 2 : Int) ≤ c) ∨ ((fewK T us 0 : Int) ≤ a ∧ (fewK T us 1 : Int) ≤ b ∧ ¬ (fewK T us 2 : Int) ≤ c) ∨ ((fewK T us 0 : Int) ≤ a ∧ ¬ (fewK T us 1 : Int) ≤ b) ∨ (¬ (fewK T us 0 : Int) ≤ a) := by omega
      have hfu := hfit us
      have lvl := lv3.lenV
      have wl := hw.lenV
      have hn0 : ¬ ((fewK T us 0 : Int) ≤ a ∧ (fewK T us 1 : Int) ≤ b ∧ (fewK T us 2 : Int) ≤ c) → i = 1 := fun hn => by
        by_cases e0 : i = 0
        · have := x3 e0
          subst this
          exact absurd (hfu.1 hL2) hn
        · omega
      rcases split2 with ⟨p3, p4, p5⟩ | ⟨p3, p4, p5⟩ | ⟨p3, p4⟩ | p3
      · have hle : i = 1 → ¬ (w.length : Int) < L.length := fun e1 => by
          have := x4 e1
          subst this
          have := hmin us hru (hfu.2 ⟨p3, p4, p5⟩)
          omega
        rcases (by omega : i = 0 ∨ i = 1) with e0 | e0
        · subst e0
          simp [c3, c4, c9, c11, c18, c19, eb, fE, fne, hI0, hI1, hI2, hS0, hS1, hS2, p3, p4, p5, lvl, wl, e15, cbE, add_in (x := 0) (y := 1) (by omega) (by omega)]
          exact ⟨(gfin _).grow 23, by omega, 1, by omega, by omega⟩
        · subst e0
          have := hle rfl
          simp [c3, c4, c9, c11, c18, c19, eb, fE, fne, hI0, hI1, hI2, hS0, hS1, hS2, p3, p4, p5, lvl, wl, this, e15, cbE, add_in (x := 1) (y := 1) (by omega) (by omega)]
          exact ⟨(gfin _).grow 23, by omega, 2, by omega, by omega⟩
      · have e0 := hn0 fun hh => p5 hh.2.2
        subst e0
        simp [c3, c4, c9, c11, c18, c19, eb, fE, fne, hI0, hI1, hI2, hS0, hS1, hS2, p3, p4, p5, e15, cbE, add_in (x := 1) (y := 1) (by omega) (by omega)]
        exact ⟨(gfin _).grow 23, by omega, 2, by omega, by omega⟩
      · have e0 := hn0 fun hh => p4 hh.2.1
        subst e0
        simp [c3, c4, c9, c11, c18, c19, eb, fE, fne, hI0, hI1, hS0, hS1, p3, p4, e15, cbE, add_in (x := 1) (y := 1) (by omega) (by omega)]
        exact ⟨(gfin _).grow 23, by omega, 2, by omega, by omega⟩
      · have e0 := hn0 fun hh => p3 hh.1
        subst e0
        simp [c3, c4, c9, c11, c18, c19, eb, fE, fne, hI0, hS0, p3, e15, cbE, add_in (x := 1) (y := 1) (by omega) (by omega)]
        exact ⟨(gfin _).grow 23, by omega, 2, by omega, by omega⟩
    · simp
      refine fcall_fun (awake_spec _) ?_
      rintro _ B ⟨rfl, gB⟩
      simp
      exact GC.trans gB

end Go.Proofs.Ytohohnpjilinmaa
