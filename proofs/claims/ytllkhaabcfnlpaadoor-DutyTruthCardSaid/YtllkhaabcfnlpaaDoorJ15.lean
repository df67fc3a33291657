/-
  Joined texts of a calculus of abstract memory, of the program's code in it, and of contracts.
-/
import Derived.Test.YtllkhaabcfnlpaaDoorJ12
import Derived.Test.YtllkhaabcfnlpaaDoorJ13
import Derived.Test.YtllkhaabcfnlpaaDoorJ14
namespace Go.Proofs.YtllkhaabcfnlpaaDoor
open Go Go.Ab

theorem kAt_tab {D : Dy} {g : Nat → Nat → Int} {b n : Nat} (hs : D.has b n) : kAt (knownT (tabF D g)) b n = (g b n, g b n) := by
  rw [kAt_truth, tAt_tab hs]

theorem truth_in {D : Dy} {T : List (List Int)} (h : truthD D T = true) {b n : Nat} (hs : D.has b n) : (D.rel b n).lo ≤ tAt T b n ∧ tAt T b n ≤ (D.rel b n).hi := by
  obtain ⟨r, hr, hn⟩ := hs
  obtain ⟨hb, hrr⟩ := List.getElem?_eq_some_iff.1 hr
  have hbT : b < T.length := by rw [truth_len h]; exact hb
  have h1 := truth_row h hb hbT
  rw [hrr] at h1
  obtain ⟨h2, h3⟩ := truthOf_at h1
  have h4 := h3 n hn (by omega)
  have hrel : D.rel b n = r[n] := by simp [Dy.rel, hr, hn]
  have ht : tAt T b n = T[b][n] := by simp [tAt, hbT, (by omega : n < T[b].length)]
  rw [hrel, ht]; exact h4

section
variable {D : Dy} {m : Nat} {ps : List Pc}
theorem last_truth (hok : ∀ p ∈ ps, PcOk D m p) {T : List (List Int)} (hT : truthD D T = true) {p : Pc} (hp : p ∈ ps) : lastOf (knownT T) p ≤ lastOf (known0 D) p := by
  have o := hok p hp
  unfold lastOf
  rw [o.same, kAt_truth, kAt_truth, kAt0 o.fst, kAt0 o.lst]
  have := truth_in hT o.fst
  have := truth_in hT o.lst
  simp only; omega
theorem sumT_le {l : List Pc} {f g : Pc → Int} (h : ∀ p ∈ l, f p ≤ g p) : (l.map f).sum ≤ (l.map g).sum := by
  induction l with
  | nil => simp
  | cons p l ih =>
    have h1 := h p (List.mem_cons_self ..)
    have h2 := ih fun q hq => h q (List.mem_cons_of_mem _ hq)
    simp only [List.map_cons, List.sum_cons]; omega

theorem spread_truth (hok : ∀ p ∈ ps, PcOk D m p) (h0 : 0 < ps.length) {T : List (List Int)} (hT : truthD D T = true) : spreadOf D (knownT T) ps ≤ spreadOf D (known0 D) ps := by
  have oa := hok _ (List.getElem_mem (show ps.length - 1 < ps.length by omega))
  have ob := hok _ (List.getElem_mem h0)
  unfold spreadOf
  rw [List.getElem?_eq_getElem (by omega), List.getElem?_eq_getElem h0, Option.getD_some, Option.getD_some, oa.same, kAt_truth, kAt_truth, kAt0 ob.fst, kAt0 oa.lst]
  have := truth_in hT ob.fst
  have := truth_in hT oa.lst
  simp only; omega

theorem legal_truth (hV : Valid D) (hok : ∀ p ∈ ps, PcOk D m p) (h0 : 0 < ps.length) {T : List (List Int)} (hT : truthD D T = true) (h : legalB D (known0 D) ps = true) : legalB D (knownT T) ps = true := by
  obtain ⟨l1, l2, l3, l4, l5⟩ := (legalB_iff hV).1 h
  refine (legalB_iff hV).2 ⟨l1, fun p hp => Int.le_trans (last_truth hok hT hp) (l2 p hp), Int.le_trans (sumT_le fun p hp => last_truth hok hT hp) l3, fun j hj => ?_, Int.le_trans (spread_truth hok h0 hT) l5⟩
  refine Int.le_trans (l4 j hj) ?_
  have oa := hok _ (List.getElem_mem (show j < ps.length by omega))
  have ob := hok _ (List.getElem_mem hj)
  rw [List.getElem?_eq_getElem (by omega), List.getElem?_eq_getElem hj, Option.getD_some, Option.getD_some]
  unfold freeOf restOf
  rw [oa.same, kAt_truth, kAt_truth, kAt0 ob.fst, kAt0 oa.lst]
  have := truth_in hT ob.fst
  have := truth_in hT oa.lst
  simp only; omega

theorem free_pressed (hV : Valid D) (hok : ∀ p ∈ ps, PcOk D m p) (h : ∀ b a r, D.blocks[b]? = some r → a < r.length → legalB D (knownT (tabF D (prG D b a r.length))) ps = true) : ∀ j, j + 1 < ps.length → D.law.brk ≤ freeOf D (known0 D) (ps[j]?.getD fz) (ps[j + 1]?.getD fz) := fun j hj => by
  have oa := hok _ (List.getElem_mem (show j < ps.length by omega))
  have ob := hok _ (List.getElem_mem hj)
  obtain ⟨r, hr, hrt⟩ := oa.lst
  have hl := ((legalB_iff hV).1 (h _ _ r hr hrt)).free j hj
  have hlaw := law_bounds hV
  rw [List.getElem?_eq_getElem (by omega), List.getElem?_eq_getElem hj, Option.getD_some, Option.getD_some] at hl ⊢
  have hw := (walkOf_bound hV oa.lst ob.fst).1
  unfold freeOf restOf at hl ⊢
  rw [oa.same] at hl ⊢
  rw [kAt_tab ob.fst, kAt_tab oa.lst] at hl
  rw [kAt0 ob.fst, kAt0 oa.lst]
  simp only at hl ⊢
  have hx : prG D ps[j].b ps[j].t r.length ps[j].b ps[j].t = (D.rel ps[j].b ps[j].t).hi := by
    unfold prG
    rw [if_pos (show ps[j].b = ps[j].b ∧ ps[j].t < r.length from ⟨rfl, hrt⟩), if_pos (Nat.le_refl _)]
  rw [hx] at hl
  by_cases e : ps[j + 1].b = ps[j].b
  · obtain ⟨r', hr', hrf⟩ := ob.fst
    rw [e, hr] at hr'; cases hr'
    have hy : prG D ps[j].b ps[j].t r.length ps[j + 1].b ps[j + 1].f = if ps[j + 1].f ≤ ps[j].t then (D.rel ps[j + 1].b ps[j + 1].f).hi else max (D.rel ps[j + 1].b ps[j + 1].f).lo (D.rel ps[j + 1].b ps[j].t).hi := by
      unfold prG
      rw [if_pos (show ps[j + 1].b = ps[j].b ∧ ps[j + 1].f < r.length from ⟨e, hrf⟩)]
    rw [hy] at hl
    by_cases e2 : ps[j + 1].f ≤ ps[j].t
    · rw [if_pos e2] at hl
      have := (blk_le hV oa.lst e2).2
      rw [← e] at this
      rw [← e] at hl hw
      omega
    · rw [if_neg e2] at hl
      rw [← e] at hl hw ⊢
      omega
  · have hy : prG D ps[j].b ps[j].t r.length ps[j + 1].b ps[j + 1].f = (D.rel ps[j + 1].b ps[j + 1].f).lo := by
      unfold prG
      rw [if_neg fun q => e q.1]
    rw [hy] at hl
    exact hl

theorem chain_free (hV : Valid D) (hok : ∀ p ∈ ps, PcOk D m p) (hf : ∀ j, j + 1 < ps.length → D.law.brk ≤ freeOf D (known0 D) (ps[j]?.getD fz) (ps[j + 1]?.getD fz)) : ∀ i, (hi : i < ps.length) → ∀ k, (hk : k < i) → (D.rel (ps[k]'(by omega)).b (ps[k]'(by omega)).t).hi < (D.rel ps[i].b ps[i].f).lo := by
  have hlaw := law_bounds hV
  have hstep : ∀ i (hi : i + 1 < ps.length), (D.rel (ps[i]'(by omega)).b (ps[i]'(by omega)).t).hi < (D.rel ps[i + 1].b ps[i + 1].f).lo := fun i hi => by
    have hf := hf i hi
    have oa := hok _ (List.getElem_mem (show i < ps.length by omega))
    have ob := hok _ (List.getElem_mem hi)
    rw [List.getElem?_eq_getElem (by omega), List.getElem?_eq_getElem hi, Option.getD_some, Option.getD_some] at hf
    unfold freeOf restOf at hf
    rw [oa.same, kAt0 ob.fst, kAt0 oa.lst] at hf
    simp only at hf
    have hw := (walkOf_bound hV oa.lst ob.fst).1
    omega
  intro i
  induction i with
  | zero => intro hi k hk; omega
  | succ i ih =>
    intro hi k hk
    by_cases e : k = i
    · subst e; exact hstep k hi
    · have h1 := ih (by omega) k (by omega)
      have h2 := hstep i hi
      have o := hok _ (List.getElem_mem (show i < ps.length by omega))
      have h3 := blk_le hV o.lst (Nat.le_of_lt o.lt)
      have h4 := rel_ok hV o.lst
      omega

theorem runM_le {f : Nat → Int} {j : Nat} {z : Int} (h : ∀ i, i ≤ j → f i ≤ z) : runM f j ≤ z := by
  induction j with
  | zero => exact h 0 (Nat.le_refl _)
  | succ j ih =>
    have h1 := h (j + 1) (Nat.le_refl _)
    have h2 := ih fun i hi => h i (by omega)
    simp only [runM]; omega
theorem le_runM {f : Nat → Int} : ∀ {j i : Nat}, i ≤ j → f i ≤ runM f j
  | 0, i, h => by
    have : i = 0 := by omega
    subst this; exact Int.le_refl _
  | j + 1, i, h => by
    simp only [runM]
    by_cases e : i = j + 1
    · subst e; omega
    · have := le_runM (f := f) (show i ≤ j by omega); omega

theorem wG_in (hV : Valid D) {S : Nat → Nat → Bool} {c j : Nat} (h : D.has c j) : (D.rel c j).lo ≤ wG D S c j ∧ wG D S c j ≤ (D.rel c j).hi := by
  have := rel_ok hV h
  unfold wG
  split <;> omega

theorem worst_truth (hV : Valid D) {S : Nat → Nat → Bool} {g : Nat → Nat → Int} (hg : ∀ c j, D.has c j → g c j = runM (wG D S c) j) : truthD D (tabF D g) = true := by
  refine truth_tab fun c j h => ?_
  rw [hg c j h]
  refine ⟨Int.le_trans (wG_in hV h).1 (le_runM (Nat.le_refl _)), runM_le fun i hi => Int.le_trans (wG_in hV (has_le h hi)).2 (blk_le hV h hi).2, fun hp => ?_⟩
  rw [hg c (j - 1) (has_le h (by omega))]
  obtain ⟨k, rfl⟩ : ∃ k, j = k + 1 := ⟨j - 1, by omega⟩
  simp only [Nat.add_sub_cancel, runM]
  omega

theorem worst_ends (hV : Valid D) (hok : ∀ p ∈ ps, PcOk D m p) (hch : ∀ i, (hi : i < ps.length) → ∀ k, (hk : k < i) → (D.rel (ps[k]'(by omega)).b (ps[k]'(by omega)).t).hi < (D.rel ps[i].b ps[i].f).lo) {S : Nat → Nat → Bool} {g : Nat → Nat → Int}
    (hS : ∀ c j, S c j = true ↔ ∃ p ∈ ps, p.b = c ∧ p.f < j ∧ j ≤ p.t) (hg : ∀ c j, D.has c j → g c j = runM (wG D S c) j) {p : Pc} (hp : p ∈ ps) : g p.b p.f = (D.rel p.b p.f).lo ∧ g p.b p.t = (D.rel p.b p.t).hi := by
  have o := hok p hp
  rw [hg _ _ o.fst, hg _ _ o.lst]
  constructor
  · refine Int.le_antisymm (runM_le fun j hj => ?_) (Int.le_trans (wG_in hV o.fst).1 (le_runM (Nat.le_refl _)))
    have hm := blk_le hV o.fst hj
    by_cases e : S p.b j = true
    · obtain ⟨q, hq, q1, q2, q3⟩ := (hS _ _).1 e
      have oq := hok q hq
      obtain ⟨x, hx, rfl⟩ := List.mem_iff_getElem.1 hp
      obtain ⟨y, hy, rfl⟩ := List.mem_iff_getElem.1 hq
      have hjq := blk_le hV oq.lst q3
      rw [q1] at hjq
      unfold wG
      rw [if_pos e]
      by_cases l1 : y < x
      · have := hch x hx y l1
        rw [q1] at this
        omega
      · by_cases l2 : x < y
        · have h1 := hch y hy x l2
          have h2 := blk_le hV o.fst (show ps[y].f ≤ ps[x].f by omega)
          have h3 := rel_ok hV o.fst
          have h4 := blk_le hV o.lst (Nat.le_of_lt o.lt)
          rw [q1] at h1
          omega
        · have : x = y := by omega
          subst this
          omega
    · unfold wG
      rw [if_neg e]
      exact hm.1
  · have hSt : S p.b p.t = true := (hS _ _).2 ⟨p, hp, rfl, o.lt, Nat.le_refl _⟩
    refine Int.le_antisymm (runM_le fun i hi => Int.le_trans (wG_in hV (has_le o.lst hi)).2 (blk_le hV o.lst hi).2) ?_
    have := le_runM (f := wG D S p.b) (Nat.le_refl p.t)
    have hw : wG D S p.b p.t = (D.rel p.b p.t).hi := by unfold wG; rw [if_pos hSt]
    omega

theorem legal_of_tries (hV : Valid D) (hok : ∀ p ∈ ps, PcOk D m p) (h0 : 0 < ps.length) {S : Nat → Nat → Bool} {g : Nat → Nat → Int}
    (hS : ∀ c j, S c j = true ↔ ∃ p ∈ ps, p.b = c ∧ p.f < j ∧ j ≤ p.t) (hg : ∀ c j, D.has c j → g c j = runM (wG D S c) j) (hw : legalB D (knownT (tabF D g)) ps = true)
    (h : ∀ b a r, D.blocks[b]? = some r → a < r.length → legalB D (knownT (tabF D (prG D b a r.length))) ps = true) : legalB D (known0 D) ps = true := by
  have hf := free_pressed hV hok h
  have hch := chain_free hV hok hf
  obtain ⟨l1, l2, l3, _, l5⟩ := (legalB_iff hV).1 hw
  have hlast : ∀ p ∈ ps, lastOf (knownT (tabF D g)) p = lastOf (known0 D) p := fun p hp => by
    have o := hok p hp
    have := worst_ends hV hok hch hS hg hp
    unfold lastOf
    rw [o.same, kAt_tab o.fst, kAt_tab o.lst, kAt0 o.fst, kAt0 o.lst, this.1, this.2]
  refine (legalB_iff hV).2 ⟨l1, fun p hp => by rw [← hlast p hp]; exact l2 p hp, ?_, hf, ?_⟩
  · rw [← List.map_congr_left hlast]; exact l3
  · have oa := hok _ (List.getElem_mem (show ps.length - 1 < ps.length by omega))
    have ob := hok _ (List.getElem_mem h0)
    have ea := worst_ends hV hok hch hS hg (List.getElem_mem (show ps.length - 1 < ps.length by omega))
    have eb := worst_ends hV hok hch hS hg (List.getElem_mem h0)
    unfold spreadOf at l5 ⊢
    rw [List.getElem?_eq_getElem (by omega), List.getElem?_eq_getElem h0, Option.getD_some, Option.getD_some, oa.same] at l5 ⊢
    rw [kAt_tab ob.fst, kAt_tab oa.lst, ea.2, eb.1] at l5
    rw [kAt0 ob.fst, kAt0 oa.lst]
    exact l5
end

end Go.Proofs.YtllkhaabcfnlpaaDoor


namespace Go.Proofs.YtllkhaabcfnlpaaDoor
open Go Go.Ab

theorem fapp_ownK {A : Heap} {lo k : Nat} {v y : Value} {cs new : List Value} {bytes n nx : Nat} {R : Value → Heap → Prop} (h : OwnSl A lo v cs) (hy : slCells A 1 y = some (k, new)) (hk : 0 < k) (hnl : new.length = k) (hx : new.all Go.Ab.one = true) (hlen : cs.length + k ≤ 2 ^ 20) (hb : bytes ≤ 48)
    (hlo : lo ≤ n) (hnx : n < nx)
    (K : ∀ u B, OwnSl B lo u (cs ++ new) → slName u = some n → B.next = nx → (∀ m, m ≠ n → slName v ≠ some m → B.get m = A.get m) → R u B) : @fapp (baseOf A 1 v) (slCells A 1 y) 1 bytes A n nx ⟨R⟩ := by
  have hsz : (4 * (cs.length + k) + 4096) * bytes ≤ 2 ^ 48 := by
    have : (4 * (cs.length + k) + 4096) * bytes ≤ (4 * (2 ^ 20 + 1) + 4096) * 48 := Nat.mul_le_mul (by omega) hb
    omega
  rcases h with ⟨rfl, rfl⟩ | ⟨m, cap, c, rfl, h2, h3, h4, h5, h6⟩
  · refine fapp_intro (len := 0) (cs := []) (old := none) (cap := 0) rfl hy hk hx hsz ?_
    intro cap' hcap
    refine K _ _ (.inr ⟨n, cap', cap', ?_, by omega, ?_, ?_, ?_, Nat.le_refl _⟩) rfl rfl ?_
    · simp [hnl]
    · simpa [appHeap] using hnx
    · simp [appHeap]
    · simp [hnl]; omega
    · intro m hm _; simp [appHeap, hm]
  · refine fapp_intro (len := cs.length) (cs := cs) (old := some m) (cap := cap) ?_ hy hk hx hsz ?_
    · simp [baseOf, h4, h5, h6]
    intro cap' hcap
    refine K _ _ (.inr ⟨n, cap', cap', ?_, by omega, ?_, ?_, ?_, Nat.le_refl _⟩) rfl rfl ?_
    · simp [hnl]
    · simpa [appHeap] using hnx
    · simp [appHeap]
    · simp [hnl]; omega
    · intro p hp hq
      have : p ≠ m := fun e => hq (by rw [e]; rfl)
      simp [appHeap, hp, this]

theorem RowsX.keepX {A B : Heap} {lo : Nat} {v : Value} {rs : List (List Int)} {vs : List Value} (X : Nat → Prop) (h : RowsX A lo v rs vs) (hX : ∀ m, X m → slName v ≠ some m ∧ ∀ (j : Nat) (w : Value), vs[j]? = some w → slName w ≠ some m) (hn : A.next ≤ B.next) (hk : ∀ n, lo ≤ n → n < A.next → ¬ X n → B.get n = A.get n) : RowsX B lo v rs vs := by
  refine ⟨h.own.keep hn fun n hs => hk n (h.own.names hs).1 (h.own.names hs).2 fun hx => (hX n hx).1 hs, h.len, fun k hk2 => ?_, h.apart⟩
  obtain ⟨u, h1, h2, h3⟩ := h.row k hk2
  exact ⟨u, h1, h2.keep hn fun n hs => hk n (h2.names hs).1 (h2.names hs).2 fun hx => (hX n hx).2 k u h1 hs, h3⟩

def TabAt (A : Heap) (lo : Nat) (X : Nat → Prop) (u : Value) (T : List (List Int)) : Prop := ∃ vs, RowsX A lo u T vs ∧ ∀ m, X m → slName u ≠ some m ∧ ∀ (j : Nat) (w : Value), vs[j]? = some w → slName w ≠ some m
theorem TabAt.keep {A B : Heap} {lo : Nat} {X Y : Nat → Prop} {u : Value} {T : List (List Int)} (h : TabAt A lo X u T) (hn : A.next ≤ B.next) (hk : ∀ n, lo ≤ n → n < A.next → ¬ X n → B.get n = A.get n) (hY : ∀ m, Y m → m < A.next → X m) : TabAt B lo Y u T := by
  obtain ⟨vs, h1, h2⟩ := h
  refine ⟨vs, h1.keepX X h2 hn hk, fun m hm => ⟨fun e => ?_, fun j w hj e => ?_⟩⟩
  · exact (h2 m (hY m hm (h1.own.names e).2)).1 e
  · exact (h2 m (hY m hm (h1.names hj e).2)).2 j w hj e
theorem TabAt.new {A : Heap} {lo lo' : Nat} {X : Nat → Prop} {u : Value} {T : List (List Int)} {vs : List Value} (h : RowsX A lo u T vs) (hl : lo' ≤ lo) (hX : ∀ m, X m → m < lo) : TabAt A lo' X u T :=
  ⟨vs, h.lower hl, fun m hm => ⟨fun e => by have := hX m hm; have := (h.own.names e).1; omega, fun j w hj e => by have := hX m hm; have := (h.names hj e).1; omega⟩⟩

def Tries (A : Heap) (lo : Nat) (v : Value) (Ts : List (List (List Int))) : Prop := ∃ us : List Value, OwnSl A lo v us ∧ us.length = Ts.length ∧ ∀ k (h : k < Ts.length), ∃ u, us[k]? = some u ∧ TabAt A lo (fun m => slName v = some m) u Ts[k]
theorem Tries.ge {A B : Heap} {lo : Nat} {v : Value} {Ts : List (List (List Int))} (h : Tries A lo v Ts) (g : Ge A B) : Tries B lo v Ts := by
  obtain ⟨us, h1, h2, h3⟩ := h
  refine ⟨us, h1.ge g, h2, fun k hk => ?_⟩
  obtain ⟨u, h4, h5⟩ := h3 k hk
  exact ⟨u, h4, h5.keep g.next (fun n _ hn _ => g.get n hn) fun m hm _ => hm⟩
theorem Tries.names {A : Heap} {lo : Nat} {v : Value} {Ts : List (List (List Int))} (h : Tries A lo v Ts) {m : Nat} (hm : slName v = some m) : lo ≤ m ∧ m < A.next := let ⟨_, h1, _⟩ := h; h1.names hm
theorem Tries.one {A : Heap} {lo : Nat} {v : Value} {Ts : List (List (List Int))} (h : Tries A lo v Ts) : Go.Ab.one v = true := let ⟨_, h1, _⟩ := h; h1.one
theorem Tries.lenV {A : Heap} {lo : Nat} {v : Value} {Ts : List (List (List Int))} (h : Tries A lo v Ts) : Go.Ab.lenV v = some (.int .i64 Ts.length) := let ⟨_, h1, h2, _⟩ := h; by rw [← h2]; exact h1.lenV
theorem TabAt.rows {A : Heap} {lo : Nat} {X : Nat → Prop} {u : Value} {T : List (List Int)} (h : TabAt A lo X u T) (hl : T.length ≤ 20) (hll : ∀ r ∈ T, r.length ≤ 20) : RowsAt A u T := let ⟨_, h1, _⟩ := h; h1.rows (by omega) fun r hr => by have := hll r hr; omega
theorem TabAt.one {A : Heap} {lo : Nat} {X : Nat → Prop} {u : Value} {T : List (List Int)} (h : TabAt A lo X u T) : Go.Ab.one u = true := let ⟨_, h1, _⟩ := h; h1.own.one
theorem Tries.at {A : Heap} {lo : Nat} {v : Value} {Ts : List (List (List Int))} (h : Tries A lo v Ts) {k : Nat} (hk : k < Ts.length) : ∃ p u, islV 1 v (.int .i64 k) = some p ∧ ldV A false 1 p = some u ∧ TabAt A lo (fun m => slName v = some m) u Ts[k] := by
  obtain ⟨us, h1, h2, h3⟩ := h
  obtain ⟨u, h4, h5⟩ := h3 k hk
  obtain ⟨p, e1, e2⟩ := h1.slr.at1 (k := .i64) (i := k) (by omega)
  rw [h4] at e2
  exact ⟨p, u, e1, e2, h5⟩

theorem Tries.atAll {A : Heap} {lo : Nat} {v : Value} {Ts : List (List (List Int))} (h : Tries A lo v Ts) {k : Nat} (hk : k < Ts.length) : ∃ p u, islV 1 v (.int .i64 k) = some p ∧ (∀ B, Ge A B → ldV B false 1 p = some u) ∧ ∀ B, Ge A B → TabAt B lo (fun m => slName v = some m) u Ts[k] := by
  obtain ⟨us, h1, h2, h3⟩ := h
  obtain ⟨u, h4, h5⟩ := h3 k hk
  obtain ⟨p, e1, e2⟩ := h1.slr.at1 (k := .i64) (i := k) (by omega)
  refine ⟨p, u, e1, fun B g => ?_, fun B g => h5.keep g.next (fun n _ hn _ => g.get n hn) fun m hm _ => hm⟩
  obtain ⟨p', e3, e4⟩ := (h1.ge g).slr.at1 (k := .i64) (i := k) (by omega)
  rw [e1] at e3; cases e3
  rw [e4]; exact h4

theorem Tries.push2 {A0 A : Heap} {lo n nx : Nat} {v y u1 u2 : Value} {Ts : List (List (List Int))} {T1 T2 : List (List Int)} {R : Value → Heap → Prop} (h : Tries A0 lo v Ts) (hAn : A0.next ≤ A.next) (hk : ∀ m, m < A0.next → A.get m = A0.get m)
    (h1 : TabAt A lo (fun m => slName v = some m ∨ m = n) u1 T1) (h2 : TabAt A lo (fun m => slName v = some m ∨ m = n) u2 T2)
    (hy : slCells A 1 y = some (2, [u1, u2])) (hlen : Ts.length ≤ 2 ^ 19) (hn : A0.next ≤ n) (hnA : A.next ≤ nx) (hnx : n < nx) (hlo : lo ≤ A0.next)
    (K : ∀ u B, Tries B lo u (Ts ++ [T1, T2]) → B.next = nx → (∀ m, m < lo → B.get m = A.get m) → R u B) : @fapp (baseOf A 1 v) (slCells A 1 y) 1 24 A n nx ⟨R⟩ := by
  obtain ⟨us, o1, o2, o3⟩ := h
  have o1A : OwnSl A lo v us := o1.keep hAn fun m hm => hk m (o1.names hm).2
  refine fapp_ownK o1A hy (by omega) rfl (by simp [h1.one, h2.one]) (by omega) (by omega) (by omega) hnx fun u B k1 k2 k3 k4 => ?_
  have kp : ∀ w T, TabAt A lo (fun m => slName v = some m ∨ m = n) w T → TabAt B lo (fun m => slName u = some m) w T := fun w T hw =>
    hw.keep (by omega) (fun m _ hm hx => k4 m (fun e => hx (.inr e)) fun e => hx (.inl e)) fun m hm hlt => by rw [k2] at hm; cases hm; exact .inr rfl
  refine K u B ⟨us ++ [u1, u2], k1, by simp [o2], fun k hk2 => ?_⟩ k3 fun m hm => k4 m (by omega) fun e => by have := (o1.names e).1; omega
  by_cases e : k < Ts.length
  · obtain ⟨w, p1, p2⟩ := o3 k e
    refine ⟨w, by rw [List.getElem?_append_left (by omega)]; exact p1, ?_⟩
    rw [List.getElem_append_left e]
    exact kp _ _ (p2.keep hAn (fun m _ hm _ => hk m hm) fun m hm hlt => hm.elim id fun e => by omega)
  · by_cases e2 : k = Ts.length
    · subst e2
      refine ⟨u1, by rw [List.getElem?_append_right (by omega), o2]; simp, ?_⟩
      rw [List.getElem_append_right (by omega)]
      simp only [Nat.sub_self, List.getElem_cons_zero]
      exact kp _ _ h1
    · have : k = Ts.length + 1 := by simp at hk2; omega
      subst this
      refine ⟨u2, by rw [List.getElem?_append_right (by omega), o2]; simp, ?_⟩
      rw [List.getElem_append_right (by omega)]
      have hs : Ts.length + 1 - Ts.length = 1 := by omega
      simp only [hs, List.getElem_cons_succ, List.getElem_cons_zero]
      exact kp _ _ h2

theorem truth_lens {D : Dy} (hV : Valid D) {T : List (List Int)} (h : truthD D T = true) : T.length ≤ 20 ∧ ∀ r ∈ T, r.length ≤ 20 := by
  have h1 := truth_len h
  have h2 := hV.few
  refine ⟨by omega, fun r hr => ?_⟩
  obtain ⟨k, hk, rfl⟩ := List.mem_iff_getElem.1 hr
  have hk2 : k < D.blocks.length := by omega
  have := (truthOf_at (truth_row h hk2 hk)).1
  have := hV.blen (List.getElem_mem hk2)
  omega

theorem highs_tab {D : Dy} : highsD D = tabF D fun b i => (D.rel b i).hi := by
  refine List.ext_getElem (by simp [highsD]) fun b h1 h2 => ?_
  have hb : b < D.blocks.length := by simpa using h2
  simp only [highsD, tabF, List.getElem_map, List.getElem_range, List.getElem?_eq_getElem hb, Option.getD_some]
  refine List.ext_getElem (by simp) fun i h3 h4 => ?_
  have hi : i < D.blocks[b].length := by simpa using h4
  simp [rowF, Dy.rel, hb, hi]
theorem lows_truth {D : Dy} (hV : Valid D) : truthD D (lowsD D) = true := by
  rw [lows_tab]
  refine truth_tab fun b j h => ?_
  have := rel_ok hV h
  exact ⟨by omega, by omega, fun _ => (blk_le hV h (by omega)).1⟩
theorem highs_truth {D : Dy} (hV : Valid D) : truthD D (highsD D) = true := by
  rw [highs_tab]
  refine truth_tab fun b j h => ?_
  have := rel_ok hV h
  exact ⟨by omega, by omega, fun _ => (blk_le hV h (by omega)).2⟩

end Go.Proofs.YtllkhaabcfnlpaaDoor


namespace Go.Proofs.YtllkhaabcfnlpaaDoor
open Go Go.Ab

theorem highsX_spec {D : Dy} {b w : Value} {H : Heap} (h : DayAt H b w D) (hV : Valid D) : AFun Tryd.prog 65 [dayV D b w] H (fun r B => (∃ vs, RowsX B (H.next + 1) r (highsD D) vs) ∧ Ge H B) := by
  refine AFun.mk ok65 hm (Nat.le_of_ble_eq_true rfl) ?_
  have hb := h.blocks.one
  have hw := h.walk.one
  have hfew := hV.few
  simp [a65, r65, hb, hw]
  refine floop_intro (fun z => z.d = [] ∧ Ge H z.H ∧ H.next < z.H.next ∧ z.t 1 = .pointer (some ⟨H.next, 0, none⟩) ∧ z.H.get H.next = .cells true (dayV D b w).cells.toList 10 ∧ ∃ i : Nat, i ≤ D.blocks.length ∧ z.t 4 = .int .i64 i ∧ ∃ vs, RowsX z.H (H.next + 1) (z.t 3) ((highsD D).take i) vs) (fun z => D.blocks.length - (intOf (z.t 4)).toNat) ?_ ?_
  · exact ⟨rfl, by simp, by simp, by simp, by simp [Value.cells], 0, by omega, by simp, [], ⟨.inl ⟨by simp, rfl⟩, by simp, fun k hk => by simp at hk, fun i j u u' m _ h => by simp at h⟩⟩
  rintro ⟨t, _, A⟩ ⟨rfl, g, hn, t1, kd, i, hi, t4, vs, hR⟩
  dsimp only at g hn t1 kd t4 hR
  simp [Value.cells] at kd
  generalize t3 : t 3 = v3 at hR
  simp [t1, kd, t4, h.blocks.lenV]
  refine fcond_intro (fun hc => ?_) (fun hc => ?_)
  case refine_2 =>
    have : i = D.blocks.length := by simp at hc; omega
    subst this
    have hfull : (highsD D).take D.blocks.length = highsD D := by rw [List.take_of_length_le]; simp [highsD]
    rw [hfull] at hR
    simp [t3]
    exact ⟨⟨vs, hR⟩, g⟩
  have hi' : i < D.blocks.length := by simpa using hc
  obtain ⟨p, u, e1, e2, e3⟩ := h.blocks.atAll hi'
  have hl := hV.blen (List.getElem_mem hi')
  simp
  refine floop_intro (fun z => z.d = [] ∧ Ge A z.H ∧ z.t 1 = .pointer (some ⟨H.next, 0, none⟩) ∧ z.t 4 = .int .i64 i ∧ z.t 3 = v3 ∧ ∃ j : Nat, j ≤ D.blocks[i].length ∧ z.t 6 = .int .i64 j ∧ OwnSl z.H A.next (z.t 5) (((D.blocks[i].take j).map Rl.hi).map (.int .i64))) (fun z => D.blocks[i].length - (intOf (z.t 6)).toNat) ?_ ?_
  · exact ⟨rfl, by simp, by simp [t1], by simp [t4], by simp [t3], 0, by omega, by simp, .inl ⟨by simp, rfl⟩⟩
  have t4o := t4
  clear t1 t4 t3 hc
  rintro ⟨t, _, C⟩ ⟨rfl, gC, t1, t4, t3, j, hj, t6, o5⟩
  dsimp only at gC t1 t4 t3 t6 o5
  generalize t5 : t 5 = v5 at o5
  have kdC := gC.got hn kd
  have gn := gC.next
  have gHC := g.trans gC
  have e21 := e2 C gHC
  simp [t1, kdC, t4, t6, e1, e21, e3.lenV]
  refine fcond_intro (fun hc => ?_) (fun hc => ?_)
  case refine_2 =>
    have : j = D.blocks[i].length := by simp at hc; omega
    subst this
    rw [List.take_length] at o5
    have hv5 := o5.one
    simp [t3, t5, hv5, one_cells]
    have gN := Ge.new C (.cells true [v5] 1)
    refine ((hR.ge gC).ge gN).push (r := D.blocks[i].map Rl.hi) (x := v5) ((o5.ge gN).lower (by omega)) (fun m hm => ?_) (slCells_new (rw := true) (c := 1) (by simp)) ?_ (by simp) (by omega) (by simp; omega) fun u' B k1 k2 k3 k4 => ?_
    · have := (o5.names hm).1
      exact ⟨fun e => by have := (hR.own.names e).2; omega, fun k w hk e => by have := (hR.names hk e).2; omega⟩
    · rw [List.length_take]; simp [highsD]; omega
    have h3 : ∀ m, slName v3 = some m → H.next + 1 ≤ m := fun m hm => (hR.own.names hm).1
    have gB : Ge H B := ⟨by have := g.next; omega, fun n hn2 => by
      have f1 : n ≠ C.next := by have := g.next; omega
      rw [k4 n (by have := g.next; omega) (fun e => by have := h3 n e; omega)]; simp [f1, gHC.get n hn2]⟩
    have kB : B.get H.next = C.get H.next := (k4 H.next (by omega) (fun e => by have := h3 _ e; omega)).trans (by rw [Heap.new_get, if_neg (by omega)])
    simp [t4, add_in (x := i) (y := 1) (by omega) (by omega)]
    refine ⟨⟨gB, by omega, t1, by simpa [Value.cells] using kB.trans kdC, i + 1, by omega, by omega, vs ++ [v5], ?_⟩, by rw [t4o]; simp; omega⟩
    have hrows : (highsD D).take i ++ [D.blocks[i].map Rl.hi] = (highsD D).take (i + 1) := by
      rw [List.take_succ_eq_append_getElem (by simp [highsD]; exact hi')]
      simp [highsD]
    rw [← hrows]; exact k1
  have hj' : j < D.blocks[i].length := by simpa using hc
  have hhas : D.has i j := ⟨_, List.getElem?_eq_getElem hi', hj'⟩
  have hrel : D.rel i j = D.blocks[i][j] := by simp [Dy.rel, hi', hj']
  obtain ⟨n, o, f1, f2, _, f3, _⟩ := (e3.ge gHC).at hj'
  have c2 := f3 2 (by omega)
  simp [Rl.cells] at c2
  simp [t1, kdC, t4, t6, t5, e1, e21, f1, c2]
  obtain ⟨A1, hA1⟩ : ∃ A1, A1 = C := ⟨C, rfl⟩
  have g1 : Ge C A1 := by rw [hA1]; exact Ge.refl _
  rw [← hA1]
  have g2 := Ge.new A1 (.cells true [.int .i64 D.blocks[i][j].hi] 1)
  have n1 := g1.next
  refine fapp_own (lo := A.next) (x := .int .i64 D.blocks[i][j].hi) ((o5.ge g1).ge g2) (slCells_new (rw := true) (c := 1) (by simp)) rfl (by simp; omega) (by omega) (by simp) (by omega) (by simp; omega) fun u5 B k1 k2 k3 k4 => ?_
  have hcs : ((D.blocks[i].take j).map Rl.hi).map (Value.int .i64) ++ [.int .i64 D.blocks[i][j].hi] = ((D.blocks[i].take (j + 1)).map Rl.hi).map (.int .i64) := by
    rw [List.take_succ_eq_append_getElem hj', List.map_append, List.map_append]; rfl
  rw [hcs] at k1
  have h5n : ∀ m, slName v5 = some m → A.next ≤ m := fun m hm => (o5.names hm).1
  have gB : Ge A B := ⟨by omega, fun n hn2 => by
    have f1 : n ≠ A1.next := by omega
    rw [k4 n (by omega) (fun e => by have := h5n n e; omega)]; simp [f1]
    rw [g1.get n (by omega)]; exact gC.get n hn2⟩
  simp [t6, add_in (x := j) (y := 1) (by omega) (by omega)]
  exact ⟨⟨gB, t1, t4, t3, j + 1, by omega, by omega, by simpa using k1⟩, by omega⟩

set_option maxHeartbeats 8000000 in
theorem broken_spec {D : Dy} {b w v1 : Value} {H : Heap} {xs : List Int} (h : DayAt H b w D) (hT : D.Thin) (hck : checkD D = 0) (hxv : IntsAt H v1 xs) (hd : isDutyB (segsOf D.blocks) xs = true) (hlen : xs.length ≤ 15) (hno : legalD D xs = false) :
    AFun Tryd.prog 50 [dayV D b w, v1] H (fun r B => r = .bool true ∧ Ge H B) := by
  refine AFun.mk ok50 hm (Nat.le_of_ble_eq_true rfl) ?_
  have hV := valid_of hck
  have hb := h.blocks.one
  have hw := h.walk.one
  have hfew := hV.few
  have hb0 := duty_bounds hd
  obtain ⟨zs, hz1, hz2⟩ := same_pieces hd hlen
  obtain ⟨hmlt, hm0⟩ := duty_mask hd
  have hok : ∀ z ∈ zs, PcOk D (maskL xs) z.1 := fun z hz => piecesL_mem hmlt (by rw [hz1]; exact List.mem_map.2 ⟨z, hz, rfl⟩)
  have hz16 : zs.length ≤ 16 := by have := piecesL_length (D := D) (m := maskL xs); rw [hz1] at this; simpa using this
  have hrok : ∀ x ∈ rsOf zs, RpOk D x := fun x hx => by
    obtain ⟨z, hz, rfl⟩ := List.mem_map.1 hx
    exact ⟨(hok z hz).fst, (hok z hz).lst⟩
  simp [a50, r50, hb, hw]
  have g0 : Ge H (⟨(H.new (.cells true [.int .i64 D.law.piece, .int .i64 D.law.drive, .int .i64 D.law.spread, .int .i64 D.law.brk, .int .i64 D.law.on, .int .i64 D.law.off, .int .i64 D.law.least, .int .i64 D.law.pieces, b, w] 10)).get, H.next + 10⟩ : Heap) := Ge.grow_le (by omega) (Ge.new _ _)
  refine fcall_fun (lowsX_spec (h.ge g0) hV) ?_
  rintro u1 H1 ⟨⟨vs1, hR1⟩, g1⟩
  have k1 := g1.got (n := H.next) (by simp) rfl
  have n1 := g1.next
  simp at k1 n1 hR1
  have G1 := g0.trans g1
  simp [k1]
  refine fcall_fun (highsX_spec (h.ge G1) hV) ?_
  rintro u2 H2 ⟨⟨vs2, hR2⟩, g2⟩
  have k2 := g2.got (n := H.next) (by omega) k1
  have n2 := g2.next
  have G2 := G1.trans g2
  simp [k2]
  refine fcall_fun (worst_spec (ps := rsOf zs) (h.ge G2) hT hV (hxv.ge G2) hb0 (by omega) hz2 hrok (by simpa using hz16)) ?_
  rintro u3 H3 ⟨⟨S, gw, vs3, hR3, hS, hgw⟩, g3⟩
  have k3 := g3.got (n := H.next) (by omega) k2
  have n3 := g3.next
  have G3 := G2.trans g3
  have o1 := hR1.own.one
  have o2 := hR2.own.one
  have o3 := hR3.own.one
  simp [o1, o2, o3, one_cells]
  have hT1 := lows_truth hV
  have hT2 := highs_truth hV
  have hT3 := worst_truth hV hgw
  have gB : Ge H (H3.set (H.next + 8) (.cells true [u1, u2, u3] 3)) := Ge.setNew G3 (by omega) _
  have kB : (H3.set (H.next + 8) (.cells true [u1, u2, u3] 3)).get H.next = .cells true [.int .i64 D.law.piece, .int .i64 D.law.drive, .int .i64 D.law.spread, .int .i64 D.law.brk, .int .i64 D.law.on, .int .i64 D.law.off, .int .i64 D.law.least, .int .i64 D.law.pieces, b, w] 10 := by
    rw [Heap.set_get, if_neg (by omega)]; exact k3
  have tries0 : Tries (H3.set (H.next + 8) (.cells true [u1, u2, u3] 3)) (H.next + 1) (.slice (some ⟨H.next + 8, 0, none⟩) 3 3) [lowsD D, highsD D, tabF D gw] := by
    have mk : ∀ {A : Heap} {lo : Nat} {u : Value} {T : List (List Int)} {vs : List Value}, RowsX A lo u T vs → H.next + 10 ≤ lo → Ge A H3 → TabAt (H3.set (H.next + 8) (.cells true [u1, u2, u3] 3)) (H.next + 1) (fun m => slName (.slice (some ⟨H.next + 8, 0, none⟩) 3 3) = some m) u T := fun {A lo u T vs} hR hl gA => by
      refine TabAt.new (vs := vs) (lo := lo) (hR.keep (by have := gA.next; simpa using this) fun n h1 h2 => ?_) (by omega) fun m hm => ?_
      · rw [Heap.set_get, if_neg (by omega)]; exact gA.get n h2
      · simp [slName] at hm; omega
    refine ⟨[u1, u2, u3], .inr ⟨H.next + 8, 3, 3, by simp, by omega, by simp; omega, by simp, by simp, by omega⟩, rfl, fun k hk => ?_⟩
    match k, hk with
    | 0, _ => exact ⟨u1, rfl, mk hR1 (by omega) (g2.trans g3)⟩
    | 1, _ => exact ⟨u2, rfl, mk hR2 (by omega) g3⟩
    | 2, _ => exact ⟨u3, rfl, mk hR3 (by omega) (Ge.refl _)⟩
  clear hR1 hR2 hR3 k1 k2 k3
  refine floop_intro (fun z => z.d = [] ∧ Ge H z.H ∧ H.next < z.H.next ∧ z.t 1 = v1 ∧ z.t 2 = .pointer (some ⟨H.next, 0, none⟩) ∧ z.H.get H.next = .cells true (dayV D b w).cells.toList 10 ∧ ∃ x : Nat, x ≤ D.blocks.length ∧ z.t 6 = .int .i64 x ∧ ∃ Ts : List (List (List Int)), Tries z.H (H.next + 1) (z.t 5) Ts ∧ Ts.length ≤ 3 + 22 * x ∧ (∀ T ∈ Ts, truthD D T = true) ∧ tabF D gw ∈ Ts ∧ ∀ c r, c < x → D.blocks[c]? = some r → ∀ a, a < r.length → tabF D (prG D c a r.length) ∈ Ts) (fun z => D.blocks.length - (intOf (z.t 6)).toNat) ?_ ?_
  · refine ⟨rfl, gB, by simp; omega, by simp, by simp, by simpa [Value.cells] using kB, 0, by omega, by simp, _, by simpa using tries0, by simp, fun T hT => ?_, by simp, fun c r hc => by omega⟩
    simp at hT
    rcases hT with rfl | rfl | rfl
    · exact hT1
    · exact hT2
    · exact hT3
  clear tries0 kB gB
  rintro ⟨t, _, A⟩ ⟨rfl, g, hn, t1, t2, kd, x, hx, t6, Ts, hTs, hTl, hTt, hTw, hTp⟩
  dsimp only at g hn t1 t2 kd t6 hTs
  simp [Value.cells] at kd
  generalize t5 : t 5 = v5 at hTs
  simp [t2, kd, t6, h.blocks.lenV]
  refine fcond_intro (fun hc => ?_) (fun hc => ?_)
  case refine_2 =>
    have : x = D.blocks.length := by simp at hc; omega
    subst this
    have hall : ∀ c r, D.blocks[c]? = some r → ∀ a, a < r.length → tabF D (prG D c a r.length) ∈ Ts := fun c r hr a ha => hTp c r (List.getElem?_eq_some_iff.1 hr).1 hr a ha
    clear hc hTp
    have hdoE : ∀ T ∈ Ts, doE D xs T = 0 := fun T hT => by
      unfold doE errD
      rw [if_pos hck, if_pos hd, if_pos rfl, if_pos (hTt T hT)]
    have hlens := fun T hT => truth_lens hV (hTt T hT)
    simp
    refine floop_intro (fun z => z.d = [] ∧ Ge H z.H ∧ H.next < z.H.next ∧ z.t 1 = v1 ∧ z.t 2 = .pointer (some ⟨H.next, 0, none⟩) ∧ z.t 5 = v5 ∧ z.H.get H.next = .cells true (dayV D b w).cells.toList 10 ∧ Tries z.H (H.next + 1) v5 Ts ∧ ∃ i : Nat, i ≤ Ts.length ∧ z.t 8 = .int .i64 i ∧ ∀ j (hj : j < Ts.length), j < i → legalB D (knownT Ts[j]) (piecesL D (maskL xs)) = true) (fun z => Ts.length - (intOf (z.t 8)).toNat) ?_ ?_
    · exact ⟨rfl, g, by simpa using hn, by simp [t1], by simp [t2], by simp [t5], by simpa [Value.cells] using kd, by simpa using hTs, 0, by omega, by simp, fun j _ hj => by omega⟩
    clear hTs kd t1 t2 t5 t6 g hn
    rintro ⟨t, _, A⟩ ⟨rfl, g, hn, t1, t2, t5, kd, hTs, i, hi, t8, hleg⟩
    dsimp only at g hn t1 t2 t5 kd t8 hTs
    simp [Value.cells] at kd
    simp [t5, t8, hTs.lenV]
    refine fcond_intro (fun hc => ?_) (fun hc => ?_)
    case refine_2 =>
      have : i = Ts.length := by simp at hc; omega
      subst this
      exfalso
      have hin : ∀ T ∈ Ts, legalB D (knownT T) (piecesL D (maskL xs)) = true := fun T hT => by
        obtain ⟨j, hj, rfl⟩ := List.mem_iff_getElem.1 hT
        exact hleg j hj hj
      have hokp : ∀ p ∈ piecesL D (maskL xs), PcOk D (maskL xs) p := fun p hp => piecesL_mem hmlt hp
      have hSp : ∀ c j, S c j = true ↔ ∃ p ∈ piecesL D (maskL xs), p.b = c ∧ p.f < j ∧ j ≤ p.t := fun c j => by
        rw [hS, hz1]
        constructor
        · rintro ⟨p, hp, q⟩
          obtain ⟨z, hz, rfl⟩ := List.mem_map.1 hp
          exact ⟨z.1, List.mem_map.2 ⟨z, hz, rfl⟩, q⟩
        · rintro ⟨p, hp, q⟩
          obtain ⟨z, hz, rfl⟩ := List.mem_map.1 hp
          exact ⟨toR z.1 z.2, List.mem_map.2 ⟨z, hz, rfl⟩, q⟩
      have := legal_of_tries hV hokp (piecesL_pos hm0) hSp hgw (hin _ hTw) fun c a r hr ha => hin _ (hall c r hr a ha)
      unfold legalD at hno
      rw [this] at hno
      cases hno
    have hi' : i < Ts.length := by simpa using hc
    have hTi : Ts[i] ∈ Ts := List.getElem_mem hi'
    have gw : Ge A (⟨A.get, A.next + 15⟩ : Heap) := Ge.grow_le (by omega) (Ge.refl _)
    obtain ⟨p, u, e1, e2, e3⟩ := hTs.atAll hi'
    have gw2 : Ge A ((⟨A.get, A.next + 15⟩ : Heap).set (A.next + 12) (.cells true [.int .i64 0, .int .i64 0, .slice none 0 0, .bool false] 4)) := gw.setNew (by omega) _
    simp [t1, t2, t5, t8, kd, e1, e2 _ gw]
    refine fcall_fun (day18_spec (h.ge (g.trans gw2)) hT) ?_
    rintro _ A1 ⟨b', w', rfl, hD1, a1⟩
    have m1 := a1.next
    simp at m1
    have bx1 := a1.got (n := A.next + 12) (by simp) rfl
    simp at bx1
    have c1 := gw2.trans a1
    simp [e2 _ c1]
    refine fcall_fun (list_spec (hxv.ge (g.trans c1)) (by omega)) ?_
    rintro vl A2 ⟨hl2, a2⟩
    have m2 := a2.next
    have bx2 := a2.got (n := A.next + 12) (by omega) bx1
    have c2 := c1.trans a2
    have hrows := (e3 _ c2).rows (hlens _ hTi).1 (hlens _ hTi).2
    simp [e2 _ c2]
    refine fcall_fun (do_spec (hD1.ge a2) hT (own_ints hl2 (by omega)) (by omega) hrows (hlens _ hTi).1 (hlens _ hTi).2) ?_
    rintro _ A3 ⟨vd, vs, vB, vl', rfl, hR6, a3⟩
    have m3 := a3.next
    have bx3 := a3.got (n := A.next + 12) (by omega) bx2
    have c3 := c2.trans a3
    obtain ⟨rfl, rfl, hvB, rfl⟩ := hR6.good (hdoE _ hTi)
    have hvB1 := hR6.one
    have kd3 := c3.got hn kd
    have gn := g.next
    simp [hvB1, bx3, hdoE _ hTi]
    have gS : Ge A (A3.set (A.next + 12) (.cells true [.int .i64 (doDrive D xs Ts[i]), .int .i64 (doSpread D xs Ts[i]), vB, .bool (doLegal D xs Ts[i])] 4)) := c3.setNew (by omega) _
    refine fcond_intro (fun hc2 => ?_) (fun hc2 => ?_)
    · simp
      exact g.trans gS
    have hL : doLegal D xs Ts[i] = true := by simpa using hc2
    simp [t8, add_in (x := i) (y := 1) (by omega) (by omega)]
    refine ⟨⟨g.trans gS, by omega, t1, t2, t5, ?_, hTs.ge gS, i + 1, by omega, by omega, fun j hj hj2 => ?_⟩, by omega⟩
    · rw [if_neg (by omega)]; exact kd3
    · by_cases e : j < i
      · exact hleg j hj e
      · have : j = i := by omega
        subst this
        exact hL
  have hx' : x < D.blocks.length := by simpa using hc
  obtain ⟨r, hr⟩ : ∃ r, D.blocks[x]? = some r := ⟨_, List.getElem?_eq_getElem hx'⟩
  obtain ⟨p, u, e1, e2, e3⟩ := h.blocks.atAll hx'
  have hrx := (List.getElem?_eq_some_iff.1 hr).2
  have hrl := hV.blen (List.getElem_mem hx')
  rw [hrx] at e3 hrl
  simp
  refine floop_intro (fun z => z.d = [] ∧ Ge H z.H ∧ H.next < z.H.next ∧ z.t 1 = v1 ∧ z.t 2 = .pointer (some ⟨H.next, 0, none⟩) ∧ z.H.get H.next = .cells true (dayV D b w).cells.toList 10 ∧ z.t 6 = .int .i64 x ∧ ∃ i : Nat, i ≤ r.length ∧ z.t 7 = .int .i64 i ∧ ∃ Ts : List (List (List Int)), Tries z.H (H.next + 1) (z.t 5) Ts ∧ Ts.length ≤ 3 + 22 * x + 2 * i ∧ (∀ T ∈ Ts, truthD D T = true) ∧ tabF D gw ∈ Ts ∧ (∀ c r, c < x → D.blocks[c]? = some r → ∀ a, a < r.length → tabF D (prG D c a r.length) ∈ Ts) ∧ ∀ a, a < i → tabF D (prG D x a r.length) ∈ Ts) (fun z => r.length - (intOf (z.t 7)).toNat) ?_ ?_
  · exact ⟨rfl, g, by simpa using hn, by simp [t1], by simp [t2], by simpa [Value.cells] using kd, by simp [t6], 0, by omega, by simp, Ts, by simpa [t5] using hTs, by omega, hTt, hTw, hTp, fun a ha => by omega⟩
  have t6o := t6
  clear hTs hTl hTt hTw hTp t1 t2 t5 t6 kd hn g hc
  rintro ⟨t, _, A⟩ ⟨rfl, g, hn, t1, t2, kd, t6, i, hi, t7, Ts, hTs, hTl, hTt, hTw, hTp, hTi⟩
  dsimp only at g hn t1 t2 kd t6 t7 hTs
  simp [Value.cells] at kd
  generalize t5 : t 5 = v5 at hTs
  have e2A := e2 A g
  simp [t2, kd, t6, t7, e1, e2A, e3.lenV]
  refine fcond_intro (fun hc => ?_) (fun hc => ?_)
  case refine_2 =>
    have : i = r.length := by simp at hc; omega
    subst this
    simp [t6, add_in (x := x) (y := 1) (by omega) (by omega)]
    refine ⟨⟨g, hn, t1, t2, by simpa [Value.cells] using kd, x + 1, by omega, by omega, Ts, by simpa [t5] using hTs, by omega, hTt, hTw, fun c r' hcx hr' a ha => ?_⟩, by rw [t6o]; simp; omega⟩
    by_cases e : c < x
    · exact hTp c r' e hr' a ha
    · have : c = x := by omega
      subst this
      rw [hr] at hr'; cases hr'
      exact hTi a ha
  have hi' : i < r.length := by simpa using hc
  simp [t2, kd, t6, t7, t5]
  have gw : Ge A (⟨A.get, A.next + 12⟩ : Heap) := Ge.grow_le (by omega) (Ge.refl _)
  refine fcall_fun (stretched_spec (h.ge (g.trans gw)) hV hr hi') ?_
  rintro q1 A1 ⟨⟨vq1, hQ1⟩, a1⟩
  have m1 := a1.next
  simp at m1 hQ1
  have b1 := a1.got (n := H.next) (by simp; omega) kd
  simp [t2, b1]
  refine fcall_fun (pressed_spec (h.ge ((g.trans gw).trans a1)) hV hr hi') ?_
  rintro q2 A2 ⟨⟨vq2, hQ2⟩, a2⟩
  have m2 := a2.next
  have b2 := a2.got (n := H.next) (by omega) b1
  have oq1 := hQ1.own.one
  have oq2 := hQ2.own.one
  simp [t5, oq1, oq2, one_cells]
  have hv5 := fun m (e : slName v5 = some m) => hTs.names e
  refine Tries.push2 (A0 := A) hTs (by simp; omega) (fun m hm => ?_) (TabAt.new (vs := vq1) (lo := A.next + 12 + 1) (hQ1.keep (by simpa using m2) fun n h1 h2 => ?_) (by omega) fun m hm => ?_) (TabAt.new (vs := vq2) (lo := A1.next + 1) (hQ2.keep (by simp) fun n h1 h2 => ?_) (by omega) fun m hm => ?_) (by simp [slCells, rdL]) (by omega) (by omega) (by simp) (by omega) (by omega) fun u' B k1 k2 k3 => ?_
  · rw [Heap.set_get, if_neg (by omega), a2.get m (by omega), a1.get m (by simp; omega)]
  · rw [Heap.set_get, if_neg (by omega), a2.get n h2]
  · rcases hm with hm | hm
    · have := hv5 m hm; omega
    · omega
  · rw [Heap.set_get, if_neg (by omega)]
  · rcases hm with hm | hm
    · have := hv5 m hm; omega
    · omega
  have gA2 : Ge H A2 := ((g.trans gw).trans a1).trans a2
  have gB2 : Ge H B := ⟨by have := gA2.next; omega, fun n hn2 => by
    rw [k3 n (by omega), Heap.set_get, if_neg (by omega)]; exact gA2.get n hn2⟩
  have kB2 : B.get H.next = A2.get H.next := by rw [k3 _ (by omega), Heap.set_get, if_neg (by omega)]
  simp [t7, add_in (x := i) (y := 1) (by omega) (by omega)]
  refine ⟨⟨gB2, by omega, t1, t2, by simpa [Value.cells] using kB2.trans b2, t6, i + 1, by omega, by omega, Ts ++ [tabF D (strG D x i r.length), tabF D (prG D x i r.length)], k1, by simp; omega, fun T hT => ?_, by simp [hTw], fun c r' hcx hr' a ha => ?_, fun a ha => ?_⟩, by omega⟩
  · rcases List.mem_append.1 hT with hT | hT
    · exact hTt T hT
    · simp at hT
      rcases hT with rfl | rfl
      · exact strG_truth hV hr
      · exact prG_truth hV hr hi'
  · exact List.mem_append_left _ (hTp c r' hcx hr' a ha)
  · by_cases e : a < i
    · exact List.mem_append_left _ (hTi a e)
    · have : a = i := by omega
      subst this
      exact List.mem_append_right _ (by simp)

end Go.Proofs.YtllkhaabcfnlpaaDoor


namespace Go.Proofs.YtllkhaabcfnlpaaDoor
open Go Go.Ab

end Go.Proofs.YtllkhaabcfnlpaaDoor


namespace Go.Proofs.YtllkhaabcfnlpaaDoor
open Go Go.Ab

end Go.Proofs.YtllkhaabcfnlpaaDoor


namespace Go.Proofs.YtllkhaabcfnlpaaDoor
open Go Go.Ab

theorem row_count : ∀ d, d < 1024 → ∀ s, s < 10 → (rowOf d).count ((s : Nat) : Int) = (d.testBit s).toNat := by decide +kernel

theorem part_count {L : List Nat} (hL : SetsOk L) {s : Nat} (hs : s < 10) : ∀ {l : List Nat} {left : Nat}, Part L left l → ((l.map rowOf).flatten).count (s : Int) = (left.testBit s).toNat
  | [], left, h => by
    have := h.all s
    simp at this
    simp [this]
  | d :: l, left, h => by
    obtain ⟨h1, h2⟩ := h.tail
    have ih := part_count hL hs h2
    rw [List.map_cons, List.flatten_cons, List.count_append, ih, row_count d (hL d (h.mem d (List.mem_cons_self ..))).2 s hs, testBit_diff]
    have := sub_iff.1 h1 s
    cases hd : d.testBit s
    · simp
    · rw [this hd]; rfl

def cnt (P : List (List Int)) (i k s : Nat) : Nat := ((P.take i).flatten).count (s : Int) + (((P[i]?).getD []).take k).count (s : Int)
theorem cnt_step {P : List (List Int)} {i k s : Nat} (hi : i < P.length) (hk : k < P[i].length) : cnt P i (k + 1) s = cnt P i k s + if P[i][k] = (s : Int) then 1 else 0 := by
  unfold cnt
  rw [List.getElem?_eq_getElem hi, Option.getD_some, List.take_succ_eq_append_getElem hk, List.count_append, List.count_singleton]
  simp only [beq_iff_eq]
  omega
theorem cnt_row {P : List (List Int)} {i s : Nat} (hi : i < P.length) : cnt P i P[i].length s = cnt P (i + 1) 0 s := by
  unfold cnt
  rw [List.getElem?_eq_getElem hi, Option.getD_some, List.take_length, List.take_succ_eq_append_getElem hi, List.flatten_append, List.count_append]
  simp
theorem cnt_le {P : List (List Int)} {i k s : Nat} (hP : P.length ≤ 1024) (hr : ∀ r ∈ P, r.length ≤ 10) : cnt P i k s ≤ 20000 := by
  have fl : ∀ (l : List (List Int)), (∀ r ∈ l, r.length ≤ 10) → l.flatten.length ≤ 10 * l.length := by
    intro l
    induction l with
    | nil => intro _; simp
    | cons a l ih =>
      intro h
      have h1 := h a (List.mem_cons_self ..)
      have h2 := ih fun r hr => h r (List.mem_cons_of_mem _ hr)
      rw [List.flatten_cons, List.length_append, List.length_cons]; omega
  have h1 := fl (P.take i) fun r h => hr r (List.mem_of_mem_take h)
  have h2 : (P.take i).length ≤ 1024 := by rw [List.length_take]; omega
  have h3 : ((P.take i).flatten).count (s : Int) ≤ (P.take i).flatten.length := List.count_le_length
  have h4 : (((P[i]?).getD []).take k).count (s : Int) ≤ (((P[i]?).getD []).take k).length := List.count_le_length
  have h5 : (((P[i]?).getD []).take k).length ≤ 10 := by
    rw [List.length_take]
    by_cases e : i < P.length
    · rw [List.getElem?_eq_getElem e, Option.getD_some]
      have := hr _ (List.getElem_mem e); omega
    · rw [List.getElem?_eq_none (by omega)]; simp
  unfold cnt
  omega

end Go.Proofs.YtllkhaabcfnlpaaDoor


namespace Go.Proofs.YtllkhaabcfnlpaaDoor
open Go Go.Ab

def tail8 : ACode :=
 (.seq
 (.seq
 (.region [⟨some 21, .mov (.c (.int .i64 0)), none⟩])
 (.block 4
 (.loop
 (.seq
 (.seq
 (.region [⟨some 193, .mov (.t 21), none⟩, ⟨some 194, .mov (.t 11), none⟩, ⟨some 195, .len (.t 194), none⟩, ⟨some 196, .bin .lss (.t 193) (.t 195), none⟩, ⟨some 197, .mov (.t 196), none⟩, ⟨some 198, .mov (.t 10), (some (197, true))⟩, ⟨some 199, .bin .eql (.t 198) (.c (.int .i64 0)), (some (197, true))⟩, ⟨some 200, .pick (.t 197) (.t 199) (.c (.bool false)), none⟩])
 (.cond (.t 200)
 .skip
 (.exit 4)))
 (.seq
 (.block 5
 (.seq
 (.region [⟨some 203, .mov (.t 11), none⟩, ⟨some 204, .mov (.t 21), none⟩, ⟨some 205, .isl 1 (.t 203) (.t 204), none⟩, ⟨some 206, .ld false 1 (.t 205), none⟩, ⟨some 207, .bin .neq (.t 206) (.c (.int .i64 1)), none⟩])
 (.cond (.t 207)
 (.seq
 (.region [⟨some 6, .mov (.c (.bool false)), none⟩])
 .ret)
 .skip)))
 (.region [⟨some 201, .mov (.t 21), none⟩, ⟨some 202, .bin .add (.t 201) (.c (.int .i64 1)), none⟩, ⟨some 21, .mov (.t 202), none⟩]))))))
 (.seq
 (.region [⟨some 208, .call (.c (.func (.func 16) #[] #[])) [], none⟩, ⟨some 6, .mov (.t 208), none⟩])
 .ret))
def body8 : ACode :=
 (.seq
 (.seq
 (.draw 7 [⟨⟨some 63, .ld true 10 (.t 3), none⟩, 0, false, []⟩, ⟨⟨some 64, .mov (.t 12), none⟩, 1, false, []⟩, ⟨⟨some 65, .mov (.t 13), none⟩, 2, false, []⟩, ⟨⟨some 66, .isl 1 (.t 64) (.t 65), none⟩, 3, false, []⟩, ⟨⟨some 67, .ld false 1 (.t 66), none⟩, 4, false, []⟩, ⟨⟨some 68, .call (.c (.func (.func 23) #[] #[])) [(.t 63), (.t 67)], none⟩, 5, true, []⟩, ⟨⟨some 69, .not (.t 68), none⟩, 6, false, []⟩])
 (.cond (.t 69)
 (.seq
 (.region [⟨some 6, .mov (.c (.bool false)), none⟩])
 .ret)
 .skip))
 (.seq
 (.draw 13 [⟨⟨some 71, .ld true 10 (.t 3), none⟩, 0, false, []⟩, ⟨⟨some 73, .mov (.t 12), none⟩, 2, false, []⟩, ⟨⟨some 74, .mov (.t 13), none⟩, 3, false, []⟩, ⟨⟨some 75, .isl 1 (.t 73) (.t 74), none⟩, 4, false, []⟩, ⟨⟨some 76, .ld false 1 (.t 75), none⟩, 5, false, []⟩, ⟨⟨some 72, .call (.c (.func (.func 18) #[] #[])) [(.t 71)], none⟩, 1, true, [5]⟩, ⟨⟨some 77, .call (.c (.func (.func 20) #[] #[])) [(.t 76)], none⟩, 6, true, []⟩, ⟨⟨some 78, .call (.c (.func (.func 19) #[] #[])) [(.t 72), (.t 77)], none⟩, 7, true, []⟩, ⟨⟨some 70, .mov (.t 78), none⟩, 8, false, []⟩, ⟨⟨some 79, .ext (.t 70) 0, none⟩, 9, false, []⟩, ⟨⟨some 80, .ext (.t 70) 1, none⟩, 10, false, []⟩, ⟨⟨some 14, .mov (.t 79), none⟩, 11, false, []⟩, ⟨⟨some 15, .mov (.t 80), none⟩, 12, false, []⟩])
 (.seq
 (.draw 16 [⟨⟨some 82, .ld true 10 (.t 3), none⟩, 0, false, []⟩, ⟨⟨some 84, .mov (.t 12), none⟩, 2, false, []⟩, ⟨⟨some 85, .mov (.t 13), none⟩, 3, false, []⟩, ⟨⟨some 86, .isl 1 (.t 84) (.t 85), none⟩, 4, false, []⟩, ⟨⟨some 87, .ld false 1 (.t 86), none⟩, 5, false, []⟩, ⟨⟨some 89, .mov (.t 7), none⟩, 7, false, []⟩, ⟨⟨some 16, .new [(.int .i64 0), (.int .i64 0), (.slice none 0 0), (.bool false)], none⟩, 13, false, []⟩, ⟨⟨some 83, .call (.c (.func (.func 18) #[] #[])) [(.t 82)], none⟩, 1, true, [5]⟩, ⟨⟨some 88, .call (.c (.func (.func 20) #[] #[])) [(.t 87)], none⟩, 6, true, []⟩, ⟨⟨some 90, .call (.c (.func (.func 28) #[] #[])) [(.t 89)], none⟩, 8, true, []⟩, ⟨⟨some 91, .call (.c (.func (.func 27) #[] #[])) [(.t 83), (.t 88), (.t 90)], none⟩, 9, true, []⟩, ⟨⟨some 81, .mov (.t 91), none⟩, 10, false, []⟩, ⟨⟨some 92, .ext (.t 81) 0, none⟩, 11, false, []⟩, ⟨⟨some 93, .ext (.t 81) 1, none⟩, 12, false, []⟩, ⟨⟨none, .st 4 (.t 16) (.t 92), none⟩, 14, true, []⟩, ⟨⟨some 17, .mov (.t 93), none⟩, 15, false, []⟩])
 (.seq
 (.seq
 (.region [⟨some 94, .mov (.t 15), none⟩, ⟨some 95, .bin .neq (.t 94) (.c (.int .i64 0)), none⟩, ⟨some 96, .mov (.t 95), none⟩, ⟨some 97, .mov (.t 17), (some (96, false))⟩, ⟨some 98, .bin .neq (.t 97) (.c (.int .i64 0)), (some (96, false))⟩, ⟨some 99, .pick (.t 96) (.c (.bool true)) (.t 98), none⟩, ⟨some 100, .mov (.t 99), none⟩, ⟨some 101, .mov (.t 13), (some (100, false))⟩, ⟨some 102, .mov (.t 8), (some (100, false))⟩, ⟨some 103, .len (.t 102), (some (100, false))⟩, ⟨some 104, .bin .lss (.t 101) (.t 103), (some (100, false))⟩, ⟨some 105, .mov (.t 104), (some (100, false))⟩, ⟨some 106, .mov (.t 14), (some (105, true))⟩, ⟨some 107, .not (.t 106), (some (105, true))⟩, ⟨some 108, .pick (.t 105) (.t 107) (.c (.bool false)), (some (100, false))⟩, ⟨some 109, .pick (.t 100) (.c (.bool true)) (.t 108), none⟩, ⟨some 110, .mov (.t 109), none⟩, ⟨some 111, .mov (.t 14), (some (110, false))⟩, ⟨some 112, .mov (.t 111), (some (110, false))⟩, ⟨some 113, .fa 3 (.t 16), (some (112, true))⟩, ⟨some 114, .ld false 1 (.t 113), (some (112, true))⟩, ⟨some 115, .not (.t 114), (some (112, true))⟩, ⟨some 116, .pick (.t 112) (.t 115) (.c (.bool false)), (some (110, false))⟩, ⟨some 117, .pick (.t 110) (.c (.bool true)) (.t 116), none⟩])
 (.cond (.t 117)
 (.seq
 (.region [⟨some 6, .mov (.c (.bool false)), none⟩])
 .ret)
 .skip))
 (.seq
 (.draw 13 [⟨⟨some 119, .ld true 10 (.t 3), none⟩, 0, false, []⟩, ⟨⟨some 121, .mov (.t 12), none⟩, 2, false, []⟩, ⟨⟨some 122, .mov (.t 13), none⟩, 3, false, []⟩, ⟨⟨some 123, .isl 1 (.t 121) (.t 122), none⟩, 4, false, []⟩, ⟨⟨some 124, .ld false 1 (.t 123), none⟩, 5, false, []⟩, ⟨⟨some 120, .call (.c (.func (.func 18) #[] #[])) [(.t 119)], none⟩, 1, true, [5]⟩, ⟨⟨some 125, .call (.c (.func (.func 20) #[] #[])) [(.t 124)], none⟩, 6, true, []⟩, ⟨⟨some 126, .call (.c (.func (.func 21) #[] #[])) [(.t 120), (.t 125)], none⟩, 7, true, []⟩, ⟨⟨some 118, .mov (.t 126), none⟩, 8, false, []⟩, ⟨⟨some 127, .ext (.t 118) 0, none⟩, 9, false, []⟩, ⟨⟨some 128, .ext (.t 118) 1, none⟩, 10, false, []⟩, ⟨⟨some 18, .mov (.t 127), none⟩, 11, false, []⟩, ⟨⟨some 19, .mov (.t 128), none⟩, 12, false, []⟩])
 (.seq
 (.seq
 (.region [⟨some 129, .mov (.t 14), none⟩, ⟨some 130, .mov (.t 129), none⟩, ⟨some 131, .mov (.t 19), (some (130, true))⟩, ⟨some 132, .bin .neq (.t 131) (.c (.int .i64 0)), (some (130, true))⟩, ⟨some 133, .mov (.t 132), (some (130, true))⟩, ⟨some 134, .mov (.t 18), (some (133, false))⟩, ⟨some 135, .fa 1 (.t 16), (some (133, false))⟩, ⟨some 136, .ld false 1 (.t 135), (some (133, false))⟩, ⟨some 137, .bin .lss (.t 134) (.t 136), (some (133, false))⟩, ⟨some 138, .pick (.t 133) (.c (.bool true)) (.t 137), (some (130, true))⟩, ⟨some 139, .mov (.t 138), (some (130, true))⟩, ⟨some 140, .mov (.t 18), (some (139, false))⟩, ⟨some 141, .fa 0 (.t 3), (some (139, false))⟩, ⟨some 142, .fa 6 (.t 141), (some (139, false))⟩, ⟨some 143, .ld false 1 (.t 142), (some (139, false))⟩, ⟨some 144, .bin .lss (.t 140) (.t 143), (some (139, false))⟩, ⟨some 145, .pick (.t 139) (.c (.bool true)) (.t 144), (some (130, true))⟩, ⟨some 146, .pick (.t 130) (.t 145) (.c (.bool false)), none⟩, ⟨some 147, .mov (.t 146), none⟩, ⟨some 148, .mov (.t 14), (some (147, false))⟩, ⟨some 149, .not (.t 148), (some (147, false))⟩, ⟨some 150, .mov (.t 149), (some (147, false))⟩, ⟨some 151, .mov (.t 19), (some (150, true))⟩, ⟨some 152, .bin .neq (.t 151) (.c (.int .i64 10)), (some (150, true))⟩, ⟨some 153, .pick (.t 150) (.t 152) (.c (.bool false)), (some (147, false))⟩, ⟨some 154, .pick (.t 147) (.c (.bool true)) (.t 153), none⟩])
 (.cond (.t 154)
 (.seq
 (.region [⟨some 6, .mov (.c (.bool false)), none⟩])
 .ret)
 .skip))
 (.seq
 (.seq
 (.region [⟨some 20, .mov (.c (.int .i64 0)), none⟩])
 (.block 2
 (.loop
 (.seq
 (.seq
 (.region [⟨some 155, .mov (.t 20), none⟩, ⟨some 156, .mov (.t 12), none⟩, ⟨some 157, .mov (.t 13), none⟩, ⟨some 158, .isl 1 (.t 156) (.t 157), none⟩, ⟨some 159, .ld false 1 (.t 158), none⟩, ⟨some 160, .len (.t 159), none⟩, ⟨some 161, .bin .lss (.t 155) (.t 160), none⟩, ⟨some 162, .mov (.t 161), none⟩, ⟨some 163, .mov (.t 13), (some (162, true))⟩, ⟨some 164, .mov (.t 8), (some (162, true))⟩, ⟨some 165, .len (.t 164), (some (162, true))⟩, ⟨some 166, .bin .lss (.t 163) (.t 165), (some (162, true))⟩, ⟨some 167, .pick (.t 162) (.t 166) (.c (.bool false)), none⟩])
 (.cond (.t 167)
 .skip
 (.exit 2)))
 (.seq
 (.block 3
 (.region [⟨some 170, .mov (.t 11), none⟩, ⟨some 171, .mov (.t 12), none⟩, ⟨some 172, .mov (.t 13), none⟩, ⟨some 173, .isl 1 (.t 171) (.t 172), none⟩, ⟨some 174, .ld false 1 (.t 173), none⟩, ⟨some 175, .mov (.t 20), none⟩, ⟨some 176, .isl 1 (.t 174) (.t 175), none⟩, ⟨some 177, .ld false 1 (.t 176), none⟩, ⟨some 178, .isl 1 (.t 170) (.t 177), none⟩, ⟨some 179, .ld false 1 (.t 178), none⟩, ⟨some 180, .bin .add (.t 179) (.c (.int .i64 1)), none⟩, ⟨some 181, .isl 1 (.t 170) (.t 177), none⟩, ⟨none, .st 1 (.t 181) (.t 180), none⟩]))
 (.region [⟨some 168, .mov (.t 20), none⟩, ⟨some 169, .bin .add (.t 168) (.c (.int .i64 1)), none⟩, ⟨some 20, .mov (.t 169), none⟩]))))))
 (.seq
 (.draw 11 [⟨⟨some 182, .mov (.t 14), none⟩, 0, false, []⟩, ⟨⟨some 183, .not (.t 182), none⟩, 1, false, []⟩, ⟨⟨some 184, .mov (.t 183), none⟩, 2, false, []⟩, ⟨⟨some 185, .ld true 10 (.t 3), (some (184, true))⟩, 3, false, []⟩, ⟨⟨some 186, .mov (.t 12), (some (184, true))⟩, 4, false, []⟩, ⟨⟨some 187, .mov (.t 13), (some (184, true))⟩, 5, false, []⟩, ⟨⟨some 188, .isl 1 (.t 186) (.t 187), (some (184, true))⟩, 6, false, []⟩, ⟨⟨some 189, .ld false 1 (.t 188), (some (184, true))⟩, 7, false, []⟩, ⟨⟨some 190, .call (.c (.func (.func 50) #[] #[])) [(.t 185), (.t 189)], (some (184, true))⟩, 8, true, []⟩, ⟨⟨some 191, .not (.t 190), (some (184, true))⟩, 9, false, []⟩, ⟨⟨some 192, .pick (.t 184) (.t 191) (.c (.bool false)), none⟩, 10, false, []⟩])
 (.cond (.t 192)
 (.seq
 (.region [⟨some 6, .mov (.c (.bool false)), none⟩])
 .ret)
 .skip)))))))))
def rest8 : ACode :=
 (.seq
 (.region [⟨some 47, .ld true 10 (.t 3), none⟩, ⟨some 48, .call (.c (.func (.func 37) #[] #[])) [(.t 47)], none⟩, ⟨some 49, .mks 1 8 [(.int .i64 0)] (.t 48) (.t 48), none⟩, ⟨some 11, .mov (.t 49), none⟩])
 (.seq
 (.draw 8 [⟨⟨some 50, .mov (.t 8), none⟩, 0, false, []⟩, ⟨⟨some 52, .ld true 10 (.t 3), none⟩, 2, false, []⟩, ⟨⟨some 53, .mov (.t 1), none⟩, 3, false, []⟩, ⟨⟨some 51, .call (.c (.func (.func 28) #[] #[])) [(.t 50)], none⟩, 1, true, [2]⟩, ⟨⟨some 54, .call (.c (.func (.func 49) #[] #[])) [(.t 52), (.t 53)], none⟩, 4, true, []⟩, ⟨⟨some 55, .bsl 1 [(.slice none 0 0)] [(0, 1, (.t 54))], none⟩, 5, false, []⟩, ⟨⟨some 56, .app 1 24 (.t 51) (.t 55), none⟩, 6, true, []⟩, ⟨⟨some 12, .mov (.t 56), none⟩, 7, false, []⟩])
 (.seq
 (.seq
 (.region [⟨some 13, .mov (.c (.int .i64 0)), none⟩])
 (.block 0
 (.loop
 (.seq
 (.seq
 (.region [⟨some 57, .mov (.t 13), none⟩, ⟨some 58, .mov (.t 12), none⟩, ⟨some 59, .len (.t 58), none⟩, ⟨some 60, .bin .lss (.t 57) (.t 59), none⟩])
 (.cond (.t 60)
 .skip
 (.exit 0)))
 (.seq
 (.block 1 body8)
 (.region [⟨some 61, .mov (.t 13), none⟩, ⟨some 62, .bin .add (.t 61) (.c (.int .i64 1)), none⟩, ⟨some 13, .mov (.t 62), none⟩]))))))
 tail8)))
theorem a8_eq : a8 =
  (.seq
   (.region [⟨(some 3), (.box (.t 0)), none⟩, ⟨(some 6), (.mov (.c (.bool false))), none⟩])
   (.seq
    (.seq
     (.region [⟨(some 22), (.ld true 10 (.t 3)), none⟩, ⟨(some 23), (.call (.c (.func (.func 47) #[] #[])) [(.t 22)]), none⟩, ⟨(some 24), (.not (.t 23)), none⟩, ⟨(some 25), (.mov (.t 24)), none⟩, ⟨(some 26), (.ld true 10 (.t 3)), (some (25, false))⟩, ⟨(some 27), (.call (.c (.func (.func 37) #[] #[])) [(.t 26)]), (some (25, false))⟩, ⟨(some 28), (.bin .eql (.t 27) (.c (.int .i64 0))), (some (25, false))⟩, ⟨(some 29), (.pick (.t 25) (.c (.bool true)) (.t 28)), none⟩])
     (.cond (.t 29)
      (.seq
       (.region [⟨(some 30), (.call (.c (.func (.func 16) #[] #[])) []), none⟩, ⟨(some 6), (.mov (.t 30)), none⟩])
       .ret)
      .skip))
    (.seq
     (.region [⟨(some 31), (.ld true 10 (.t 3)), none⟩, ⟨(some 32), (.mov (.t 2)), none⟩, ⟨(some 33), (.call (.c (.func (.func 48) #[] #[])) [(.t 31), (.t 32)]), none⟩, ⟨(some 7), (.mov (.t 33)), none⟩])
     (.seq
      (.region [⟨(some 35), (.ld true 10 (.t 3)), none⟩, ⟨(some 36), (.call (.c (.func (.func 18) #[] #[])) [(.t 35)]), none⟩, ⟨(some 37), (.call (.c (.func (.func 45) #[] #[])) [(.t 36)]), none⟩, ⟨(some 34), (.mov (.t 37)), none⟩, ⟨(some 38), (.ext (.t 34) 0), none⟩, ⟨(some 39), (.ext (.t 34) 1), none⟩, ⟨(some 40), (.ext (.t 34) 2), none⟩, ⟨(some 8), (.mov (.t 38)), none⟩, ⟨(some 9), (.mov (.t 39)), none⟩, ⟨(some 10), (.mov (.t 40)), none⟩])
      (.seq
       (.seq
        (.region [⟨(some 41), (.mov (.t 10)), none⟩, ⟨(some 42), (.bin .neq (.t 41) (.c (.int .i64 0))), none⟩, ⟨(some 43), (.mov (.t 42)), none⟩, ⟨(some 44), (.mov (.t 10)), (some (43, true))⟩, ⟨(some 45), (.bin .neq (.t 44) (.c (.int .i64 9))), (some (43, true))⟩, ⟨(some 46), (.pick (.t 43) (.t 45) (.c (.bool false))), none⟩])
        (.cond (.t 46)
         (.seq
          (.region [⟨(some 6), (.mov (.c (.bool false))), none⟩])
          .ret)
         .skip))
       rest8))))) := rfl

end Go.Proofs.YtllkhaabcfnlpaaDoor


namespace Go.Proofs.YtllkhaabcfnlpaaDoor
open Go Go.Ab

def TriedAt (A : Heap) (lo : Nat) (v : Value) (T : List (List Int)) : Prop := ∃ us : List Value, OwnSl A lo v us ∧ us.length = T.length ∧ ∀ k (h : k < T.length), ∃ u, us[k]? = some u ∧ OwnSl A lo u (T[k].map (.int .i64))
theorem TriedAt.keep {A B : Heap} {lo : Nat} {v : Value} {T : List (List Int)} (h : TriedAt A lo v T) (hn : A.next ≤ B.next) (hk : ∀ m, lo ≤ m → m < A.next → B.get m = A.get m) : TriedAt B lo v T := by
  obtain ⟨us, h1, h2, h3⟩ := h
  refine ⟨us, h1.keep hn fun m hm => hk m (h1.names hm).1 (h1.names hm).2, h2, fun k hk2 => ?_⟩
  obtain ⟨u, h4, h5⟩ := h3 k hk2
  exact ⟨u, h4, h5.keep hn fun m hm => hk m (h5.names hm).1 (h5.names hm).2⟩
theorem TriedAt.ge {A B : Heap} {lo : Nat} {v : Value} {T : List (List Int)} (h : TriedAt A lo v T) (g : Ge A B) : TriedAt B lo v T := h.keep g.next fun m _ hm => g.get m hm
theorem TriedAt.lenV {A : Heap} {lo : Nat} {v : Value} {T : List (List Int)} (h : TriedAt A lo v T) : Go.Ab.lenV v = some (.int .i64 T.length) := let ⟨_, h1, h2, _⟩ := h; by rw [← h2]; exact h1.lenV
theorem TriedAt.atAll {A : Heap} {lo : Nat} {v : Value} {T : List (List Int)} (h : TriedAt A lo v T) {k : Nat} (hk : k < T.length) (hl : T[k].length < 2 ^ 63) : ∃ p u, islV 1 v (.int .i64 k) = some p ∧ (∀ B, Ge A B → ldV B false 1 p = some u) ∧ IntsAt A u T[k] := by
  obtain ⟨us, h1, h2, h3⟩ := h
  obtain ⟨u, h4, h5⟩ := h3 k hk
  obtain ⟨p, e1, e2⟩ := h1.slr.at1 (k := .i64) (i := k) (by omega)
  refine ⟨p, u, e1, fun B g => ?_, own_ints h5 hl⟩
  obtain ⟨p', e3, e4⟩ := (h1.ge g).slr.at1 (k := .i64) (i := k) (by omega)
  rw [e1] at e3; cases e3
  rw [e4]; exact h4

theorem TriedAt.push {A : Heap} {lo lo' n nx : Nat} {v x y : Value} {T : List (List Int)} {r : List Int} {R : Value → Heap → Prop} (h : RowsG 1 iCell A lo (fun _ => False) v T) (hx : OwnSl A lo x (r.map (.int .i64))) (hxv : ∀ m, slName x = some m → slName v ≠ some m)
    (hy : slCells A 1 y = some (1, [x])) (hlen : T.length ≤ 2 ^ 19) (hn : n < lo) (hlo : lo' ≤ n) (hA : A.next ≤ nx) (hnx : n < nx)
    (K : ∀ u B, TriedAt B lo' u (T ++ [r]) → slName u = some n → B.next = nx → (∀ m, m < lo → m ≠ n → B.get m = A.get m) → R u B) : @fapp (baseOf A 1 v) (slCells A 1 y) 1 24 A n nx ⟨R⟩ := by
  obtain ⟨⟨us, o1, o2, o3⟩, _⟩ := h
  refine fapp_own' (lo := lo') (x := x) (o1.lower (by omega)) hy hx.one (by omega) (by omega) hlo hnx fun u B k1 k2 k3 k4 => ?_
  have kp : ∀ w cs, OwnSl A lo w cs → (∀ m, slName w = some m → slName v ≠ some m) → OwnSl B lo' w cs := fun w cs hw hne =>
    (hw.lower (by omega)).keep (by omega) fun m hm => k4 m (by have := (hw.names hm).1; omega) (hne m hm)
  refine K u B ⟨us ++ [x], k1, by simp [o2], fun k hk => ?_⟩ k2 k3 fun m hm hmn => k4 m hmn fun e => by have := (o1.names e).1; omega
  by_cases e : k < T.length
  · obtain ⟨w, p1, p2, p3⟩ := o3 k e
    refine ⟨w, by rw [List.getElem?_append_left (by omega)]; exact p1, ?_⟩
    rw [List.getElem_append_left e]
    have p2' : OwnSl A lo w (T[k].map (.int .i64)) := by
      rw [iCell_flat] at p2
      rcases p2 with ⟨q1, q2, q3⟩ | ⟨q, cap, c, q1, q2, q3, q4, q5, q6, q7⟩
      · exact .inl ⟨q1, q3⟩
      · exact .inr ⟨q, cap, c, by simpa using q1, q2, q3, q4, by simpa using q6, by simpa using q7⟩
    exact kp _ _ p2' fun m hm => (p3 m hm).1
  · have : k = T.length := by simp at hk; omega
    subst this
    refine ⟨x, by rw [List.getElem?_append_right (by omega), o2]; simp, ?_⟩
    rw [List.getElem_append_right (by omega)]
    simp only [Nat.sub_self, List.getElem_cons_zero]
    exact kp _ _ hx hxv

structure Plan8 (D : Dy) (P : List (List Int)) (e : Int) : Prop where
  rows : ∀ r ∈ P, isDutyB (segN D) r = true ∧ legalD D r = true ∧ r.length ≤ 10
  len : P.length ≤ 1023
  count : e = 0 → ∀ s, s < segN D → cnt P P.length 0 s = 1
  err : e = 0 ∨ e = 9

theorem plan8 {D : Dy} (hV : Valid D) (hc : checkD D = 0) : Plan8 D (bestR D) (bestE D) := by
  have h10 := segN_le hV
  refine ⟨fun r hr => ?_, ?_, fun e s hs => ?_, ?_⟩
  · by_cases e : bestE D = 0
    · have hok := best_ok hc e
      rw [bestR, if_pos e] at hr
      obtain ⟨d, hd, rfl⟩ := List.mem_map.1 hr
      obtain ⟨r1, r2, r3⟩ := row_facts hV ((best_part hV hok).1.mem d hd)
      refine ⟨r1, ?_, rowOf_length⟩
      have : legalD D (rowOf d) = legalN D (known0 D) (maskL (rowOf d)) := rfl
      rw [this, r2]; exact r3
    · rw [bestR, if_neg e] at hr; cases hr
  · by_cases e : bestE D = 0
    · have hok := best_ok hc e
      rw [bestR, if_pos e, List.length_map, (best_part hV hok).2.1]; exact best_len hV
    · rw [bestR, if_neg e]; simp
  · have hok := best_ok hc e
    have := part_count (LL_ok hV) (show s < 10 by omega) (best_part hV hok).1
    unfold cnt
    rw [List.take_length, List.take_zero, List.count_nil, Nat.add_zero, bestR, if_pos e, this]
    have : (2 ^ segN D - 1).testBit s = true := by rw [Nat.testBit_two_pow_sub_one]; simpa using hs
    rw [this]; rfl
  · unfold bestE; rw [if_pos hc]; split
    · exact .inl rfl
    · exact .inr rfl

theorem tail8_spec {D : Dy} {H A : Heap} {N q : Nat} {t : Nat → Value} {P : List (List Int)} {e : Int} (hP : Plan8 D P e) (hV : Valid D) (hwk : ∀ A, Ge H A → AFun Tryd.prog 16 [] A (fun r B => r = .bool true ∧ Ge A B)) (G : Ge H A)
    (t10 : t 10 = .int .i64 e) (t11 : t 11 = .slice (some ⟨q, 0, none⟩) (segN D) (segN D)) (hq : A.get q = .cells true ((rowF (fun s => (cnt P P.length 0 s : Int)) (segN D)).map (.int .i64)) (segN D)) :
    vc Tryd.prog N none (vdrawD Tryd.prog) tail8 (bodyQ Tryd.prog r8 fun r _ => r = .bool true) ⟨t, [], A⟩ := by
  have h10 := segN_le hV
  simp [tail8]
  refine floop_intro (fun z => z.d = [] ∧ z.H = A ∧ z.t 10 = .int .i64 e ∧ z.t 11 = .slice (some ⟨q, 0, none⟩) (segN D) (segN D) ∧ ∃ s : Nat, s ≤ segN D ∧ z.t 21 = .int .i64 s) (fun z => segN D - (intOf (z.t 21)).toNat) ?_ ?_
  · exact ⟨rfl, rfl, by simp [t10], by simp [t11], 0, by omega, by simp⟩
  clear t10 t11
  rintro ⟨t, _, B⟩ ⟨rfl, hB, t10, t11, s, hs, t21⟩
  dsimp only at hB t10 t11 t21
  subst hB
  by_cases hlt : s < segN D
  · rcases hP.err with e0 | e9
    · have hc1 := hP.count e0 s hlt
      subst e0
      have hcell := row_cell (f := fun s => (cnt P P.length 0 s : Int)) hlt
      rw [hc1] at hcell
      generalize (rowF (fun s => (cnt P P.length 0 s : Int)) (segN D)).map (Value.int .i64) = L at hq hcell
      have hisl : islV 1 (.slice (some ⟨q, 0, none⟩) (segN D) (segN D)) (.int .i64 (s : Int)) = some (.pointer (some ⟨q, s, none⟩)) := by
        rw [islV_in (by omega) (by omega)]; simp
      simp [t10, t11, t21, hlt, hisl, hq, hcell, add_in (x := s) (y := 1) (by omega) (by omega)]
      exact ⟨⟨s + 1, by omega, by omega⟩, by omega⟩
    · subst e9
      simp [t10, t11, t21, hlt]
      refine fcall_fun (hwk _ G) ?_
      rintro _ _ ⟨rfl, _⟩
      simp [r8]
  · simp [t10, t11, t21, hlt]
    refine fcall_fun (hwk _ G) ?_
    rintro _ _ ⟨rfl, _⟩
    simp [r8]

end Go.Proofs.YtllkhaabcfnlpaaDoor


namespace Go.Proofs.YtllkhaabcfnlpaaDoor
open Go Go.Ab

abbrev boxC (D : Dy) (b w : Value) : AObj := .cells true [.int .i64 D.law.piece, .int .i64 D.law.drive, .int .i64 D.law.spread, .int .i64 D.law.brk, .int .i64 D.law.on, .int .i64 D.law.off, .int .i64 D.law.least, .int .i64 D.law.pieces, b, w] 10
def seenC (n : Nat) (P : List (List Int)) (i k : Nat) : AObj := .cells true ((rowF (fun s => (cnt P i k s : Int)) n).map (.int .i64)) n

set_option maxHeartbeats 16000000 in
theorem body8_spec {D : Dy} {b w v7 v8 v12 : Value} {H Hs A : Heap} {N i p : Nat} {t : Nat → Value} {P T times : List (List Int)} {X : List Int} {e : Int} {Q : APost} (h : DayAt H b w D) (hT : D.Thin) (hc : checkD D = 0) (hP : Plan8 D P e)
    (hX : isDutyB (segN D) X = true) (hXl : X.length ≤ 10) (hTe : T = P ++ [X]) (hi : i < T.length) (GH : Ge H Hs) (G : Ge Hs A) (hpH : p < Hs.next) (hpb : Hs.get p = boxC D b w) (htimes : RowsAt Hs v7 times) (httr : truthD D times = true) (hv8 : lenV v8 = some (.int .i64 P.length))
    (hq : A.get Hs.next = seenC (segN D) P (min i P.length) 0) (hqn : Hs.next < A.next) (hTr : TriedAt A (Hs.next + 1) v12 T)
    (t3 : t 3 = .pointer (some ⟨p, 0, none⟩)) (t7 : t 7 = v7) (t8 : t 8 = v8) (t10 : t 10 = .int .i64 e) (t11 : t 11 = .slice (some ⟨Hs.next, 0, none⟩) (segN D) (segN D)) (t12 : t 12 = v12) (t13 : t 13 = .int .i64 (i : Int))
    (K : ∀ t' B, t' 3 = t 3 → t' 7 = t 7 → t' 8 = t 8 → t' 10 = t 10 → t' 11 = t 11 → t' 12 = t 12 → t' 13 = t 13 → Ge Hs B → Hs.next < B.next → B.get Hs.next = seenC (segN D) P (min (i + 1) P.length) 0 → TriedAt B (Hs.next + 1) v12 T → Q .normal ⟨t', [], B⟩) :
    vc Tryd.prog N none (vdrawD Tryd.prog) body8 Q ⟨t, [], A⟩ := by
  have hV := valid_of hc
  have h10 := segN_le hV
  have hseg : segsOf D.blocks = segN D := segPs_length.symm
  have hPl := hP.len
  have hTl : T.length = P.length + 1 := by rw [hTe]; simp
  obtain ⟨x, hx⟩ : ∃ x, T[i] = x := ⟨_, rfl⟩
  have hxP : ∀ (hip : i < P.length), x = P[i] := fun hip => by
    subst hTe; rw [← hx, List.getElem_append_left hip]
  have hxX : ¬ i < P.length → x = X := fun hip => by
    subst hTe
    rw [← hx, List.getElem_append_right (by omega)]
    simp
  have hxd : isDutyB (segN D) x = true ∧ x.length ≤ 10 := by
    by_cases hip : i < P.length
    · rw [hxP hip]
      have := hP.rows _ (List.getElem_mem hip)
      exact ⟨this.1, this.2.2⟩
    · rw [hxX hip]; exact ⟨hX, hXl⟩
  obtain ⟨hxd, hxl⟩ := hxd
  have hxl0 : i < P.length → legalD D x = true := fun hip => by
    rw [hxP hip]; exact (hP.rows _ (List.getElem_mem hip)).2.1
  have hxd' : isDutyB (segsOf D.blocks) x = true := by rw [hseg]; exact hxd
  have hE : errD D x = 0 := by simp [errD, hc, hxd']
  have kp := G.got hpH hpb
  have hdo : doE D x times = 0 := by unfold doE; rw [if_pos hE, if_pos httr]
  obtain ⟨tl1, tl2⟩ := truth_lens hV httr
  obtain ⟨ptr, u, e1, e2, e3⟩ := hTr.atAll hi (by rw [hx]; omega)
  rw [hx] at e3
  -- the conversions of plan and times do not change what is kept here
  have gn := G.next
  have w7 : Ge A (⟨A.get, A.next + 7⟩ : Heap) := Ge.grow_le (by omega) (Ge.refl _)
  simp [body8, t3, t12, t13, kp, e1, e2 _ w7]
  refine fcall_fun (isDuty23_spec (h.ge ((GH.trans G).trans w7)) hT (e3.ge w7) (by omega)) ?_
  rintro _ B1 ⟨rfl, b1⟩
  have c1 := w7.trans b1
  have k1 := c1.got (by omega) kp
  have m1 := b1.next
  simp at m1
  have w13 : Ge A (⟨B1.get, B1.next + 13⟩ : Heap) := Ge.grow_le (by omega) c1
  simp [hxd', t3, t12, t13, k1, e1, e2 _ w13]
  refine fcall_fun (day18_spec (h.ge ((GH.trans G).trans w13)) hT) ?_
  rintro _ B2 ⟨b2, w2, rfl, hd2, g2⟩
  have c2 := w13.trans g2
  have k2 := c2.got (by omega) kp
  have m2 := g2.next
  simp at m2
  simp [e2 _ c2]
  refine fcall_fun (list_spec (e3.ge c2) (by omega)) ?_
  rintro vl B3 ⟨o3, g3⟩
  have c3 := c2.trans g3
  have m3 := g3.next
  simp
  refine fcall_fun (legal_spec (hd2.ge g3) hT (own_ints o3 (by omega)) (by omega)) ?_
  rintro _ B4 ⟨rfl, g4⟩
  have c4 := c3.trans g4
  have k4 := c4.got (by omega) kp
  have m4 := g4.next
  have w16 : Ge A (⟨B4.get, B4.next + 16⟩ : Heap) := Ge.grow_le (by omega) c4
  simp [hE, t3, t7, t12, t13, k4, e1, e2 _ w16]
  obtain ⟨bx, hbx⟩ : ∃ bx, B4.next + 13 = bx := ⟨_, rfl⟩
  have w17 : Ge A ((⟨B4.get, B4.next + 16⟩ : Heap).set (B4.next + 13) (.cells true [.int .i64 0, .int .i64 0, .slice none 0 0, .bool false] 4)) := w16.setNew (by omega) _
  refine fcall_fun (day18_spec (h.ge ((GH.trans G).trans w17)) hT) ?_
  rintro _ B5 ⟨b5, w5, rfl, hd5, g5⟩
  have c5 := w17.trans g5
  have m5 := g5.next
  simp at m5
  have x5 := g5.got (n := B4.next + 13) (by simp) rfl
  simp at x5
  simp [e2 _ c5]
  refine fcall_fun (list_spec (e3.ge c5) (by omega)) ?_
  rintro vl6 B6 ⟨o6, g6⟩
  have c6 := c5.trans g6
  have m6 := g6.next
  have x6 := g6.got (n := B4.next + 13) (by omega) x5
  simp
  refine fcall_fun (rows28_spec (RowsOf.ge htimes (G.trans c6)) (by omega) (fun r hr => by have := tl2 r hr; omega)) ?_
  rintro v9 B7 ⟨o7, g7⟩
  have c7 := c6.trans g7
  have m7 := g7.next
  have x7 := g7.got (n := B4.next + 13) (by omega) x6
  have hr7 : RowsAt B7 v9 times := rows_done o7 (by omega) (fun r hr => by have := tl2 r hr; omega)
  simp
  refine fcall_fun (do_spec ((hd5.ge g6).ge g7) hT (IntsAt.ge (own_ints o6 (by omega)) g7) (by omega) hr7 tl1 tl2) ?_
  rintro _ B8 ⟨vd, vs, vB, vl', rfl, hR8, g8⟩
  have c8 := c7.trans g8
  have m8 := g8.next
  have x8 := g8.got (n := B4.next + 13) (by omega) x7
  obtain ⟨rfl, rfl, _, rfl⟩ := hR8.good hdo
  have hvB1 := hR8.one
  simp [hvB1, x8, hdo, hE]
  have wS : Ge A (B8.set (B4.next + 13) (.cells true [.int .i64 (doDrive D x times), .int .i64 (doSpread D x times), vB, .bool (doLegal D x times)] 4)) := c8.setNew (by omega) _
  have hok : ∀ q ∈ piecesL D (maskL x), PcOk D (maskL x) q := fun q hq => piecesL_mem (duty_mask hxd').1 hq
  have hpp := piecesL_pos (D := D) (duty_mask hxd').2
  have hpay : legalD D x = true → payE D x = 0 ∧ payD D x = payN D (maskL x) := fun hl => pay_good hc hxd hl
  have hpaySp : doSpread D x times ≤ payD D x ∧ D.law.least ≤ payD D x := by
    have h1 := spread_truth hok hpp httr
    have : payD D x = max (max 0 (spreadOf D (known0 D) (piecesL D (maskL x)))) D.law.least := rfl
    have h2 : doSpread D x times = spreadOf D (knownT times) (piecesL D (maskL x)) := rfl
    omega
  generalize hB9 : (B8.set (B4.next + 13) (.cells true [.int .i64 (doDrive D x times), .int .i64 (doSpread D x times), vB, .bool (doLegal D x times)] 4)) = B9 at *
  have x9 : B9.get (B4.next + 13) = .cells true [.int .i64 (doDrive D x times), .int .i64 (doSpread D x times), vB, .bool (doLegal D x times)] 4 := by rw [← hB9]; simp
  have n9 : B9.next = B8.next := by rw [← hB9]; simp
  have k9 := wS.got (by omega) kp
  have w13' : Ge A (⟨B9.get, B9.next + 13⟩ : Heap) := Ge.grow_le (by omega) wS
  clear hB9
  cases hleg : legalD D x
  · have hip : ¬ i < P.length := fun hh => by rw [hxl0 hh] at hleg; cases hleg
    have hpe : payE D x = 10 := by simp [payE, hE, hleg]
    simp [hv8, hip, t8, t13]
    simp [t3, t12, t13, k9, e1, e2 _ w13']
    refine fcall_fun (day18_spec (h.ge ((GH.trans G).trans w13')) hT) ?_
    rintro _ C1 ⟨d1, q1, rfl, hdd, f1⟩
    have cc1 := w13'.trans f1
    have mm1 := f1.next
    simp at mm1
    simp [e2 _ cc1]
    refine fcall_fun (list_spec (e3.ge cc1) (by omega)) ?_
    rintro vl2 C2 ⟨oo2, f2⟩
    have cc2 := cc1.trans f2
    have mm2 := f2.next
    simp
    refine fcall_fun (payF_spec (hdd.ge f2) hT (own_ints oo2 (by omega)) (by omega)) ?_
    rintro _ C3 ⟨rfl, f3⟩
    have cc3 := cc2.trans f3
    have mm3 := f3.next
    have k10 := cc3.got (by omega) kp
    have y9 : (⟨B9.get, B9.next + 13⟩ : Heap).get (B4.next + 13) = .cells true [.int .i64 (doDrive D x times), .int .i64 (doSpread D x times), vB, .bool (doLegal D x times)] 4 := x9
    have x10 := ((f1.trans f2).trans f3).got (n := B4.next + 13) (by simp; omega) y9
    have seen3 := cc3.got hqn hq
    have hTr3 := hTr.ge cc3
    simp [hpe]
    refine floop_intro (fun z => z.d = [] ∧ z.H = C3 ∧ z.t 3 = .pointer (some ⟨p, 0, none⟩) ∧ z.t 7 = v7 ∧ z.t 8 = v8 ∧ z.t 10 = .int .i64 e ∧ z.t 11 = .slice (some ⟨Hs.next, 0, none⟩) (segN D) (segN D) ∧ z.t 12 = v12 ∧ z.t 13 = .int .i64 (i : Int) ∧ z.t 14 = .bool false ∧ z.t 20 = .int .i64 0) (fun z => 0) ?_ ?_
    · exact ⟨rfl, rfl, by simp [t3], by simp [t7], by simp [t8], by simp [t10], by simp [t11], by simp [t12], by simp [t13], by simp, by simp⟩
    rintro ⟨t', _, C⟩ ⟨rfl, hC, s3, s7, s8, s10, s11, s12, s13, s14, s20⟩
    dsimp only at hC s3 s7 s8 s10 s11 s12 s13 s14 s20
    subst hC
    obtain ⟨ptr', u', e1', e2', e3'⟩ := hTr3.atAll hi (by rw [hx]; omega)
    rw [e1] at e1'; cases e1'
    have hlx := (e3.ge cc3).lenV
    by_cases hx0 : 0 < x.length
    case neg => exact absurd hxd (by
      have : x = [] := List.length_eq_zero_iff.1 (by omega)
      subst this; simp [isDutyB])
    simp [s8, s12, s13, s20, e1, e2 _ cc3, hlx, hx0, hv8, hip]
    have w11 : Ge C (⟨C.get, C.next + 11⟩ : Heap) := Ge.grow_le (by omega) (Ge.refl _)
    simp [s14, s3, s12, s13, k10, e1, e2 _ (cc3.trans w11)]
    refine fcall_fun (broken_spec (h.ge ((GH.trans G).trans (cc3.trans w11))) hT hc (e3.ge (cc3.trans w11)) hxd' (by omega) hleg) ?_
    rintro _ C4 ⟨rfl, f4⟩
    have cc4 := (cc3.trans w11).trans f4
    have mm4 := f4.next
    simp at mm4
    simp
    refine K _ _ (by simp [s3, t3]) (by simp [s7, t7]) (by simp [s8, t8]) (by simp [s10, t10]) (by simp [s11, t11]) (by simp [s12, t12]) (by simp [s13, t13]) (G.trans cc4) (by omega) ?_ (hTr.ge cc4)
    have hmin : min (i + 1) P.length = min i P.length := by omega
    rw [hmin]; exact cc4.got hqn hq
  have hdl : doLegal D x times = true := legal_truth hV hok hpp httr hleg
  obtain ⟨hpe, hpd⟩ := hpay hleg
  by_cases hip : i < P.length
  · simp [hv8, hip, t8, t13, hdl, x9]
    simp [t3, t12, t13, k9, e1, e2 _ w13']
    refine fcall_fun (day18_spec (h.ge ((GH.trans G).trans w13')) hT) ?_
    rintro _ C1 ⟨d1, q1, rfl, hdd, f1⟩
    have cc1 := w13'.trans f1
    have mm1 := f1.next
    simp at mm1
    simp [e2 _ cc1]
    refine fcall_fun (list_spec (e3.ge cc1) (by omega)) ?_
    rintro vl2 C2 ⟨oo2, f2⟩
    have cc2 := cc1.trans f2
    have mm2 := f2.next
    simp
    refine fcall_fun (payF_spec (hdd.ge f2) hT (own_ints oo2 (by omega)) (by omega)) ?_
    rintro _ C3 ⟨rfl, f3⟩
    have cc3 := cc2.trans f3
    have mm3 := f3.next
    have k10 := cc3.got (by omega) kp
    have y9 : (⟨B9.get, B9.next + 13⟩ : Heap).get (B4.next + 13) = .cells true [.int .i64 (doDrive D x times), .int .i64 (doSpread D x times), vB, .bool (doLegal D x times)] 4 := x9
    have x10 := ((f1.trans f2).trans f3).got (n := B4.next + 13) (by simp; omega) y9
    have seen3 := cc3.got hqn hq
    have hTr3 := hTr.ge cc3
    have hns : ¬ payD D x < doSpread D x times := by omega
    have hnl : ¬ payD D x < D.law.least := by omega
    simp [hpe, x10, t3, k10, hns, hnl]
    have hmin0 : min i P.length = i := by omega
    have hmin1 : min (i + 1) P.length = i + 1 := by omega
    have hPi : P[i] = x := (hxP hip).symm
    refine floop_intro (fun z => z.d = [] ∧ Ge Hs z.H ∧ C3.next ≤ z.H.next ∧ TriedAt z.H (Hs.next + 1) v12 T ∧ z.t 3 = .pointer (some ⟨p, 0, none⟩) ∧ z.t 7 = v7 ∧ z.t 8 = v8 ∧ z.t 10 = .int .i64 e ∧ z.t 11 = .slice (some ⟨Hs.next, 0, none⟩) (segN D) (segN D) ∧ z.t 12 = v12 ∧ z.t 13 = .int .i64 (i : Int) ∧ z.t 14 = .bool true ∧ ∃ k : Nat, k ≤ x.length ∧ z.t 20 = .int .i64 k ∧ z.H.get Hs.next = seenC (segN D) P i k) (fun z => x.length - (intOf (z.t 20)).toNat) ?_ ?_
    · refine ⟨rfl, G.trans cc3, by simp, hTr3, by simp [t3], by simp [t7], by simp [t8], by simp [t10], by simp [t11], by simp [t12], by simp [t13], by simp, 0, by omega, by simp, ?_⟩
      rw [← hmin0]; exact seen3
    rintro ⟨t', _, C⟩ ⟨rfl, gC, nC, hTrC, s3, s7, s8, s10, s11, s12, s13, s14, k, hk, s20, hsn⟩
    dsimp only at gC nC hTrC s3 s7 s8 s10 s11 s12 s13 s14 s20 hsn
    obtain ⟨ptr', u', e1', e2', e3'⟩ := hTrC.atAll hi (by rw [hx]; omega)
    rw [e1] at e1'; cases e1'
    rw [hx] at e3'
    have hlx := e3'.lenV
    have e2C := e2' C (Ge.refl _)
    have gCn := gC.next
    by_cases hkx : k < x.length
    case neg =>
      have : k = x.length := by omega
      subst this
      have w11 : Ge C (⟨C.get, C.next + 11⟩ : Heap) := Ge.grow_le (by omega) (Ge.refl _)
      simp [s8, s12, s13, s14, s20, e1, e2C, hlx, hv8, hip]
      refine K _ _ (by simp [s3, t3]) (by simp [s7, t7]) (by simp [s8, t8]) (by simp [s10, t10]) (by simp [s11, t11]) (by simp [s12, t12]) (by simp [s13, t13]) (gC.trans w11) (by simp; omega) ?_ (hTrC.ge w11)
      rw [hmin1]
      have : seenC (segN D) P i x.length = seenC (segN D) P (i + 1) 0 := by
        unfold seenC
        congr 3; funext s; rw [← hPi, cnt_row hip]
      rw [← this]; exact hsn
    have hb := duty_bounds hxd' x[k] (List.getElem_mem hkx)
    rw [hseg] at hb
    obtain ⟨s, hs⟩ : ∃ s : Nat, x[k] = (s : Int) := ⟨x[k].toNat, by omega⟩
    have hsl : s < segN D := by rw [hs] at hb; omega
    obtain ⟨px, q1, q2⟩ := e3'.at hkx
    rw [hs] at q2
    have hisl : islV 1 (.slice (some ⟨Hs.next, 0, none⟩) (segN D) (segN D)) (.int .i64 (s : Int)) = some (.pointer (some ⟨Hs.next, s, none⟩)) := by
      rw [islV_in (by omega) (by omega)]; simp
    have hcell := row_cell (f := fun s => (cnt P i k s : Int)) hsl
    have hle := cnt_le (i := i) (k := k) (s := s) (show P.length ≤ 1024 by omega) fun r hr => (hP.rows r hr).2.2
    obtain ⟨c, hcn⟩ : ∃ c, cnt P i k s = c := ⟨_, rfl⟩
    rw [hcn] at hcell hle
    unfold seenC at hsn
    obtain ⟨L, hL⟩ : ∃ L, (rowF (fun s => (cnt P i k s : Int)) (segN D)).map (Value.int .i64) = L := ⟨_, rfl⟩
    have hLl : L.length = segN D := by rw [← hL]; simp
    have hL' : L.set s (.int .i64 ((c : Int) + 1)) = (rowF (fun s => (cnt P i (k + 1) s : Int)) (segN D)).map (Value.int .i64) := by
      rw [← hL, ← List.map_set, rowF_set]
      congr 2; funext j
      have := cnt_step (s := j) hip (k := k) (by rw [hPi]; exact hkx)
      rw [this]
      have hPk : (P[i])[k]'(by rw [hPi]; exact hkx) = (s : Int) := by rw [← hs]; congr 1
      rw [hPk]
      by_cases e : j = s
      · subst e; rw [if_pos rfl, if_pos rfl, hcn]; omega
      · rw [if_neg e, if_neg (by omega)]; rfl
    have hwr : wrL L s [.int .i64 ((c : Int) + 1)] = (rowF (fun s => (cnt P i (k + 1) s : Int)) (segN D)).map (Value.int .i64) := by
      rw [wrL_one _ _ _ (by omega), hL']
    obtain ⟨L2, hL2⟩ : ∃ L2, (rowF (fun s => (cnt P i (k + 1) s : Int)) (segN D)).map (Value.int .i64) = L2 := ⟨_, rfl⟩
    rw [hL] at hsn hcell
    rw [hL2] at hwr
    have hs1 : s + 1 ≤ segN D := hsl
    simp [s8, s11, s12, s13, s14, s20, e1, e2C, hlx, hv8, hip, hkx, q1, q2, hisl, hsn, hcell, hLl, hs1, hwr, add_in (x := (c : Int)) (y := 1) (by omega) (by omega), add_in (x := (k : Int)) (y := 1) (by omega) (by omega)]
    exact ⟨⟨gC.setNew (Nat.le_refl _) _, nC, hTrC.keep (by simp) fun m h1 h2 => by rw [Heap.set_get, if_neg (by omega)], s3, s7, s10, k + 1, by omega, by omega, by unfold seenC; rw [hL2]⟩, by omega⟩
  · simp [hv8, hip, t8, t13, hdl, x9]
    simp [t3, t12, t13, k9, e1, e2 _ w13']
    refine fcall_fun (day18_spec (h.ge ((GH.trans G).trans w13')) hT) ?_
    rintro _ C1 ⟨d1, q1, rfl, hdd, f1⟩
    have cc1 := w13'.trans f1
    have mm1 := f1.next
    simp at mm1
    simp [e2 _ cc1]
    refine fcall_fun (list_spec (e3.ge cc1) (by omega)) ?_
    rintro vl2 C2 ⟨oo2, f2⟩
    have cc2 := cc1.trans f2
    have mm2 := f2.next
    simp
    refine fcall_fun (payF_spec (hdd.ge f2) hT (own_ints oo2 (by omega)) (by omega)) ?_
    rintro _ C3 ⟨rfl, f3⟩
    have cc3 := cc2.trans f3
    have mm3 := f3.next
    have k10 := cc3.got (by omega) kp
    have y9 : (⟨B9.get, B9.next + 13⟩ : Heap).get (B4.next + 13) = .cells true [.int .i64 (doDrive D x times), .int .i64 (doSpread D x times), vB, .bool (doLegal D x times)] 4 := x9
    have x10 := ((f1.trans f2).trans f3).got (n := B4.next + 13) (by simp; omega) y9
    have seen3 := cc3.got hqn hq
    have hTr3 := hTr.ge cc3
    have hns : ¬ payD D x < doSpread D x times := by omega
    have hnl : ¬ payD D x < D.law.least := by omega
    simp [hpe, x10, t3, k10, hns, hnl]
    refine floop_intro (fun z => z.d = [] ∧ z.H = C3 ∧ z.t 3 = .pointer (some ⟨p, 0, none⟩) ∧ z.t 7 = v7 ∧ z.t 8 = v8 ∧ z.t 10 = .int .i64 e ∧ z.t 11 = .slice (some ⟨Hs.next, 0, none⟩) (segN D) (segN D) ∧ z.t 12 = v12 ∧ z.t 13 = .int .i64 (i : Int) ∧ z.t 14 = .bool true ∧ z.t 20 = .int .i64 0) (fun z => 0) ?_ ?_
    · exact ⟨rfl, rfl, by simp [t3], by simp [t7], by simp [t8], by simp [t10], by simp [t11], by simp [t12], by simp [t13], by simp, by simp⟩
    rintro ⟨t', _, C⟩ ⟨rfl, hC, s3, s7, s8, s10, s11, s12, s13, s14, s20⟩
    dsimp only at hC s3 s7 s8 s10 s11 s12 s13 s14 s20
    subst hC
    obtain ⟨ptr', u', e1', e2', e3'⟩ := hTr3.atAll hi (by rw [hx]; omega)
    rw [e1] at e1'; cases e1'
    have hlx := (e3.ge cc3).lenV
    by_cases hx0 : 0 < x.length
    case neg => exact absurd hxd (by
      have : x = [] := List.length_eq_zero_iff.1 (by omega)
      subst this; simp [isDutyB])
    simp [s8, s12, s13, s20, e1, e2 _ cc3, hlx, hx0, hv8, hip]
    have w11 : Ge C (⟨C.get, C.next + 11⟩ : Heap) := Ge.grow_le (by omega) (Ge.refl _)
    have cc4 := cc3.trans w11
    simp [s14]
    refine K _ _ (by simp [s3, t3]) (by simp [s7, t7]) (by simp [s8, t8]) (by simp [s10, t10]) (by simp [s11, t11]) (by simp [s12, t12]) (by simp [s13, t13]) (G.trans cc4) (by simp; omega) ?_ (hTr.ge cc4)
    have hmin : min (i + 1) P.length = min i P.length := by omega
    rw [hmin]; exact cc4.got hqn hq

end Go.Proofs.YtllkhaabcfnlpaaDoor


namespace Go.Proofs.YtllkhaabcfnlpaaDoor
open Go Go.Ab

set_option maxHeartbeats 16000000 in
theorem rest8_spec {D : Dy} {b w v7 v8 : Value} {H A : Heap} {N p m : Nat} {t : Nat → Value} {P times : List (List Int)} {e : Int} (h : DayAt H b w D) (hT : D.Thin) (hc : checkD D = 0) (hpos : 0 < segN D) (hP : Plan8 D P e) (hwk : ∀ A, Ge H A → AFun Tryd.prog 16 [] A (fun r B => r = .bool true ∧ Ge A B))
    (G : Ge H A) (hpA : p < A.next) (hpb : A.get p = boxC D b w) (htimes : RowsAt A v7 times) (httr : truthD D times = true) (hp8 : RowsAt A v8 P)
    (t1 : t 1 = .int .u16 (m : Int)) (t3 : t 3 = .pointer (some ⟨p, 0, none⟩)) (t7 : t 7 = v7) (t8 : t 8 = v8) (t10 : t 10 = .int .i64 e) :
    vc Tryd.prog N none (vdrawD Tryd.prog) rest8 (bodyQ Tryd.prog r8 fun r _ => r = .bool true) ⟨t, [], A⟩ := by
  have hV := valid_of hc
  have h10 := segN_le hV
  have hseg : segsOf D.blocks = segN D := segPs_length.symm
  have hPl := hP.len
  have hv8 := hp8.lenV
  simp [rest8, t3, hpb]
  refine fcall_fun (segments_spec (h.ge G) hT) ?_
  rintro _ Hs ⟨rfl, g1⟩
  have GH := G.trans g1
  have k1 := g1.got hpA hpb
  have hpH : p < Hs.next := by have := g1.next; omega
  rw [hseg]
  have hmk : ∀ k, mksV k 1 8 [.int .i64 0] (.int .i64 (segN D : Int)) (.int .i64 (segN D : Int)) = some _ := fun k => mksV_at (by omega) (by omega)
  have hzr : zrep (segN D) [Value.int .i64 0] = (rowF (fun s => (cnt P 0 0 s : Int)) (segN D)).map (Value.int .i64) := by
    have e1 : ∀ n, zrep n [Value.int .i64 0] = List.replicate n (.int .i64 0) := by
      intro n; induction n with
      | zero => rfl
      | succ n ih => rw [zrep_succ, ih]; rfl
    rw [e1]
    refine List.ext_getElem (by simp) fun j j1 j2 => ?_
    simp [rowF, cnt]
  simp [hmk, hzr]
  obtain ⟨X0, hX0⟩ : ∃ X0, List.map (Value.int .i64) (rowF (fun s => (cnt P 0 0 s : Int)) (segN D)) = X0 := ⟨_, rfl⟩
  rw [hX0]
  have w9 : Ge Hs (⟨(Hs.new (.cells true X0 (segN D))).get, Hs.next + 9⟩ : Heap) := Ge.grow_le (by omega) (Ge.new _ _)
  have k9 := w9.got hpH k1
  have s9 : (⟨(Hs.new (.cells true X0 (segN D))).get, Hs.next + 9⟩ : Heap).get Hs.next = .cells true X0 (segN D) := by simp
  have hpne : p ≠ Hs.next := by omega
  simp [t1, t3, t8, k1, hpne]
  refine fcall_fun (rows28_spec (RowsOf.ge hp8 (g1.trans w9)) (by omega) (fun r hr => by have := (hP.rows r hr).2.2; omega)) ?_
  rintro v9 H7 ⟨o7, g7⟩
  have c7 := w9.trans g7
  have k7 := c7.got hpH k1
  have n7 := g7.next
  have s7 := g7.got (n := Hs.next) (by simp) s9
  simp at n7 o7
  simp [t3, k7]
  refine fcall_fun (set_spec (m := m) (h.ge (GH.trans c7)) hT hV) ?_
  rintro v10 H8 ⟨o8, g8⟩
  have c8 := c7.trans g8
  have k8 := c8.got hpH k1
  have n8 := g8.next
  have s8 := g8.got (n := Hs.next) (by omega) s7
  have hX := setB_duty (n := segN D) (m := m) hpos
  have hXl := setB_length (n := segN D) (m := m) h10
  obtain ⟨X, hXe⟩ : ∃ X, setB (segN D) m = X := ⟨_, rfl⟩
  rw [hXe] at hX hXl o8
  have o81 := o8.one
  simp [o81, one_cells]
  obtain ⟨T, hTe⟩ : ∃ T, T = P ++ [X] := ⟨_, rfl⟩
  have hTl : T.length = P.length + 1 := by rw [hTe]; simp
  refine TriedAt.push (lo := Hs.next + 9) (lo' := Hs.next + 1) (x := v10) (r := X) (o7.keep (by simpa using n8) (fun n h1 h2 _ => ?_) fun m _ hm => hm) ((o8.lower (by omega)).keep (by simp) fun m hm => ?_) (fun m hm e => ?_) (slCells_new (rw := true) (c := 1) (by simp)) (by omega) (by omega) (by omega) (by simp) (by omega) fun v12 B q1 q2 q3 q4 => ?_
  · rw [Heap.set_get, if_neg (by omega)]; exact g8.get n h2
  · have := (o8.names hm).1
    rw [Heap.set_get, if_neg (by omega)]
  · have := (o8.names hm).1
    have := (o7.names e).2
    omega
  rw [← hTe] at q1
  have GB : Ge Hs B := ⟨by omega, fun n hn => by rw [q4 n (by omega) (by omega), Heap.set_get, if_neg (by omega)]; exact c8.get n hn⟩
  have sB : B.get Hs.next = seenC (segN D) P (min 0 P.length) 0 := by
    rw [q4 _ (by omega) (by omega), Heap.set_get, if_neg (by omega), s8, ← hX0]
    simp [seenC]
  simp
  refine floop_intro (fun z => z.d = [] ∧ Ge Hs z.H ∧ Hs.next < z.H.next ∧ z.t 3 = .pointer (some ⟨p, 0, none⟩) ∧ z.t 7 = v7 ∧ z.t 8 = v8 ∧ z.t 10 = .int .i64 e ∧ z.t 11 = .slice (some ⟨Hs.next, 0, none⟩) (segN D) (segN D) ∧ z.t 12 = v12 ∧ TriedAt z.H (Hs.next + 1) v12 T ∧ ∃ i : Nat, i ≤ T.length ∧ z.t 13 = .int .i64 i ∧ z.H.get Hs.next = seenC (segN D) P (min i P.length) 0) (fun z => T.length - (intOf (z.t 13)).toNat) ?_ ?_
  · exact ⟨rfl, GB, by simp; omega, by simp [t3], by simp [t7], by simp [t8], by simp [t10], by simp, by simp, q1, 0, by omega, by simp, sB⟩
  clear t1 t3 t7 t8 t10 q1 q2 q3 q4 sB GB o7 o8 s8 s7 k8 k7
  rintro ⟨t, _, A'⟩ ⟨rfl, gA, nA, t3, t7, t8, t10, t11, t12, hTr, i, hi, t13, hsn⟩
  dsimp only at gA nA t3 t7 t8 t10 t11 t12 t13 hTr hsn
  have hTrl := hTr.lenV
  by_cases hit : i < T.length
  case neg =>
    have : i = T.length := by omega
    subst this
    have hmin : min T.length P.length = P.length := by omega
    rw [hmin] at hsn
    simp [t12, t13, hTrl]
    exact tail8_spec hP hV hwk (GH.trans gA) (by simp [t10]) (by simp [t11]) hsn
  simp [t12, t13, hTrl, hit]
  refine body8_spec (i := i) (X := X) (times := times) (v7 := v7) (v8 := v8) (v12 := v12) h hT hc hP hX (by omega) hTe hit GH gA hpH k1 (RowsOf.ge htimes g1) httr hv8 hsn nA hTr (by simp [t3]) (by simp [t7]) (by simp [t8]) (by simp [t10]) (by simp [t11]) (by simp [t12]) (by simp [t13]) fun t' B r3 r7 r8' r10 r11 r12 r13 gB nB sB tB => ?_
  simp at r3 r7 r8' r10 r11 r12 r13
  rw [t13] at r13
  simp [r13, add_in (x := i) (y := 1) (by omega) (by omega)]
  exact ⟨⟨gB, nB, by rw [r3, t3], by rw [r7, t7], by rw [r8', t8], by rw [r10, t10], by rw [r11, t11], by rw [r12, t12], tB, i + 1, by omega, by omega, sB⟩, by omega⟩

set_option maxHeartbeats 16000000 in
theorem dutyTruth_of {D : Dy} {b w v2 : Value} {H : Heap} {z : Int} {ws : List Int} (h : DayAt H b w D) (hz : 0 ≤ z ∧ z < 2 ^ 16) (hws : WordsAt H v2 ws) (hG : Gl H) (hwk : ∀ A, Ge H A → AFun Tryd.prog 16 [] A (fun r B => r = .bool true ∧ Ge A B)) :
    AFun Tryd.prog 8 [dayV D b w, .int .u16 z, v2] H (fun r _ => r = .bool true) := by
  obtain ⟨m, rfl⟩ : ∃ m : Nat, z = (m : Int) := ⟨z.toNat, by omega⟩
  refine AFun.mk ok8 hm (Nat.le_of_ble_eq_true rfl) ?_
  have hb := h.blocks.one
  have hw := h.walk.one
  rw [a8_eq]
  simp [hb, hw]
  refine fcall_fun (light_spec (h.ge (by simp))) ?_
  rintro _ H1 ⟨rfl, g1⟩
  have G1 : Ge H H1 := Ge.trans (by simp) g1
  have k1 := g1.got (n := H.next) (by simp) rfl
  have n1 := g1.next
  simp at k1 n1
  cases hli : lightB D
  · simp
    refine fcall_fun (hwk _ G1) ?_
    rintro _ _ ⟨rfl, _⟩
    simp [r8]
  have hli2 := hli
  unfold lightB at hli2
  rw [Bool.and_eq_true, decide_eq_true_eq] at hli2
  obtain ⟨hT, hc, hV⟩ := ready_facts hli2.1
  have hseg : segsOf D.blocks = segN D := segPs_length.symm
  have h10 := segN_le hV
  simp [k1]
  refine fcall_fun (segments_spec (h.ge G1) hT) ?_
  rintro _ H2 ⟨rfl, g2⟩
  have G2 := G1.trans g2
  have k2 := g2.got (n := H.next) (by omega) k1
  have n2 := g2.next
  rw [hseg]
  by_cases h0 : segPs D = []
  · simp [h0]
    refine fcall_fun (hwk _ G2) ?_
    rintro _ _ ⟨rfl, _⟩
    simp [r8]
  have hpos : 0 < segN D := List.length_pos_iff.2 h0
  simp [h0, k2]
  refine fcall_fun (truly_spec (h.ge G2) hV ⟨hws.1.ge G2, hws.2⟩) ?_
  rintro v7 H3 ⟨⟨times, htimes, httr⟩, g3⟩
  have G3 := G2.trans g3
  have k3 := g3.got (n := H.next) (by omega) k2
  have n3 := g3.next
  obtain ⟨htl1, htl2⟩ := truth_lens hV httr
  simp [k3]
  refine fcall_fun (day18_spec (h.ge G3) hT) ?_
  rintro _ H4 ⟨b4, w4, rfl, hd4, g4⟩
  have G4 := G3.trans g4
  have k4 := g4.got (n := H.next) (by omega) k3
  have n4 := g4.next
  simp
  refine fcall_fun (bestF_spec hd4 hT (hG.ge G4)) ?_
  rintro _ H5 ⟨v8, rfl, hp, g5⟩
  have G5 := G4.trans g5
  have k5 := g5.got (n := H.next) (by omega) k4
  have n5 := g5.next
  have hp1 := hp.one
  have hplen := hp.lenV
  have hP8 := plan8 hV hc
  have hpA : H.next < H5.next := by omega
  have htm := RowsOf.ge (RowsOf.ge htimes g4) g5
  rcases hP8.err with e0 | e9
  · simp [e0]
    refine rest8_spec (p := H.next) (m := m) (e := bestE D) (P := bestR D) (times := times) h hT hc hpos hP8 hwk G5 hpA k5 htm httr hp (by simp) (by simp) (by simp) (by simp) (by simp [e0])
  · simp [e9]
    refine rest8_spec (p := H.next) (m := m) (e := bestE D) (P := bestR D) (times := times) h hT hc hpos hP8 hwk G5 hpA k5 htm httr hp (by simp) (by simp) (by simp) (by simp) (by simp [e9])

end Go.Proofs.YtllkhaabcfnlpaaDoor


namespace Go.Proofs.YtllkhaabcfnlpaaDoor
open Go Go.Ab

theorem gl_of {W : World} (hgl : gmax ≤ W.heap.size) (hgc : ∀ g, g < gmax → ∃ cs c, [gl0, gl1][g]? = some (some (false, cs, c)) ∧ cs.all flat1 = true ∧ (absH W.heap).get g = .cells false cs c) : Gl (absH W.heap) := by
  obtain ⟨cs, c, k1, _, k3⟩ := hgc 1 (by decide)
  have e := Option.some.inj (Option.some.inj k1)
  have e1 : tz64 = cs := congrArg (fun p => p.2.1) e
  subst e1
  exact ⟨Nat.le_trans hgl (abs_size _), c, k3⟩

end Go.Proofs.YtllkhaabcfnlpaaDoor

