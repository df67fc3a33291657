/-
  Joined texts of a calculus of abstract memory, of the program's code in it, and of contracts.
-/
import Derived.Test.YtllkhaabcfnlpaaDoorJ12
namespace Go.Proofs.YtllkhaabcfnlpaaDoor
open Go Go.Ab

theorem sub_iff {d m : Nat} : diffN d m = 0 ↔ ∀ i, d.testBit i = true → m.testBit i = true := by
  constructor
  · intro h i hi
    have := @testBit_diff d m i
    rw [h, Nat.zero_testBit, hi] at this
    cases hm : m.testBit i
    · simp [hm] at this
    · rfl
  · intro h
    refine Nat.eq_of_testBit_eq fun i => ?_
    rw [testBit_diff, Nat.zero_testBit]
    cases hd : d.testBit i
    · rfl
    · rw [h i hd]; rfl
theorem bit_of_ne {m : Nat} (h : m ≠ 0) : ∃ i, m.testBit i = true := Nat.exists_testBit_of_ne_zero h
theorem low_bit {m : Nat} (h0 : m ≠ 0) (hm : m < 1024) : m.testBit (low m) = true ∧ ∀ i, m.testBit i = true → low m ≤ i := by
  obtain ⟨j, hj⟩ := bit_of_ne h0
  have hlt : ∀ i, m.testBit i = true → i < 10 := fun i hi => by
    refine Nat.lt_of_not_le fun hle => ?_
    have : m < 2 ^ i := Nat.lt_of_lt_of_le hm (Nat.pow_le_pow_right (n := 2) (by omega) hle)
    rw [Nat.testBit_lt_two_pow this] at hi
    cases hi
  unfold low
  cases hf : (List.range 10).find? fun i => m.testBit i with
  | none =>
    have := List.find?_eq_none.1 hf j (by have := hlt j hj; simpa using this)
    exact absurd hj this
  | some a =>
    have h1 := List.find?_some hf
    refine ⟨by simpa using h1, fun i hi => ?_⟩
    refine Nat.le_of_not_lt fun hia => ?_
    rw [List.find?_range_eq_some] at hf
    have := hf.2.2 i (by simpa using hia)
    simp [hi] at this

structure Ch where
  first : Nat
  n : Nat
  pay : Int
  ok : Bool
deriving DecidableEq
def noCh : Ch := ⟨0, 0, 0, false⟩
def better (c o : Ch) : Bool := if !c.ok || !o.ok then c.ok else if c.n ≠ o.n then decide (c.n < o.n) else decide (c.pay < o.pay)
def nextC (r : Ch) (d : Nat) (p : Int) : Ch := ⟨d, r.n + 1, r.pay + p, r.ok⟩
def stepC (rec : Nat → Ch) (pay : Nat → Int) (m : Nat) (best : Ch) (d : Nat) : Ch :=
  if diffN d m ≠ 0 then best else if better (nextC (rec (diffN m d)) d (pay d)) best then nextC (rec (diffN m d)) d (pay d) else best
def chooseK (L : List Nat) (pay : Nat → Int) : Nat → Nat → Ch
  | 0, _ => noCh
  | k + 1, m => if m = 0 then ⟨0, 0, 0, true⟩ else (L.filter fun d => low d == low m).foldl (stepC (chooseK L pay k) pay m) noCh
def choose (L : List Nat) (pay : Nat → Int) (m : Nat) : Ch := chooseK L pay (m + 1) m

def leC (a b : Ch) : Prop := b.ok = true → a.ok = true ∧ (a.n < b.n ∨ a.n = b.n ∧ a.pay ≤ b.pay)
theorem leC.rfl {a : Ch} : leC a a := fun h => ⟨h, .inr ⟨_root_.rfl, Int.le_refl _⟩⟩
theorem leC.trans {a b c : Ch} (h1 : leC a b) (h2 : leC b c) : leC a c := fun h => by
  obtain ⟨h3, h4⟩ := h2 h
  obtain ⟨h5, h6⟩ := h1 h3
  exact ⟨h5, by omega⟩

section
variable {rec : Nat → Ch} {pay : Nat → Int} {m : Nat}
def MadeOf (rec : Nat → Ch) (pay : Nat → Int) (m : Nat) (l : List Nat) (c : Ch) : Prop := c = noCh ∨ c.ok = true ∧ ∃ d ∈ l, diffN d m = 0 ∧ (rec (diffN m d)).ok = true ∧ c = nextC (rec (diffN m d)) d (pay d)
theorem fold_made {L : List Nat} : ∀ (l : List Nat) (b : Ch), (∀ d ∈ l, d ∈ L) → MadeOf rec pay m L b → MadeOf rec pay m L (l.foldl (stepC rec pay m) b)
  | [], b, _, h => h
  | x :: l, b, hl, h => by
    rw [List.foldl_cons]
    refine fold_made l _ (fun d hd => hl d (List.mem_cons_of_mem _ hd)) ?_
    unfold stepC
    by_cases hx : diffN x m = 0
    case neg => simpa [hx] using h
    simp only [hx, ne_eq, not_true, if_false]
    cases hb : better (nextC (rec (diffN m x)) x (pay x)) b
    · simpa using h
    · have hok : (rec (diffN m x)).ok = true := by
        unfold better at hb
        cases hc : (rec (diffN m x)).ok
        · simp [hc, nextC] at hb
        · rfl
      exact .inr ⟨hok, x, hl x (List.mem_cons_self ..), hx, hok, by simp⟩
theorem fold_congr {rec' : Nat → Ch} : ∀ (l : List Nat) (b : Ch), (∀ d ∈ l, diffN d m = 0 → rec (diffN m d) = rec' (diffN m d)) → l.foldl (stepC rec pay m) b = l.foldl (stepC rec' pay m) b
  | [], _, _ => rfl
  | x :: l, b, h => by
    rw [List.foldl_cons, List.foldl_cons]
    have e : stepC rec pay m b x = stepC rec' pay m b x := by
      unfold stepC
      by_cases hx : diffN x m = 0
      · rw [h x (List.mem_cons_self ..) hx]
      · simp [hx]
    rw [e]
    exact fold_congr l _ fun d hd => h d (List.mem_cons_of_mem _ hd)
end

theorem sub_less {d m : Nat} (h0 : d ≠ 0) (hs : diffN d m = 0) : diffN m d < m := by
  have h := sub_iff.1 hs
  have hle : diffN m d ≤ m := by
    have e : diffN m d &&& m = diffN m d := by
      refine Nat.eq_of_testBit_eq fun i => ?_
      rw [Nat.testBit_and, testBit_diff]
      cases m.testBit i <;> simp
    rw [← e]; exact Nat.and_le_right
  refine Nat.lt_of_le_of_ne hle fun e => ?_
  obtain ⟨i, hi⟩ := bit_of_ne h0
  have := @testBit_diff m d i
  rw [e, hi, h i hi] at this
  simp at this

def SetsOk (L : List Nat) : Prop := ∀ d ∈ L, d ≠ 0 ∧ d < 1024

section
variable {L : List Nat} {pay : Nat → Int}
theorem chooseK_eq (hL : SetsOk L) : ∀ (k m : Nat), m < k → chooseK L pay k m = choose L pay m := by
  intro k
  induction k using Nat.strongRecOn with
  | _ k ih =>
    intro m hmk
    cases k with
    | zero => omega
    | succ k =>
      unfold choose
      by_cases h0 : m = 0
      · subst h0; simp [chooseK]
      · by_cases hk : k = m
        · rw [hk]
        simp only [chooseK, h0, if_false]
        refine fold_congr _ _ fun d hd hs => ?_
        have hdL := (List.mem_filter.1 hd).1
        have hlt := sub_less (hL d hdL).1 hs
        rw [ih k (by omega) _ (by omega)]
        exact (ih m (by omega) _ hlt).symm
theorem choose_zero : choose L pay 0 = ⟨0, 0, 0, true⟩ := by simp [choose, chooseK]
theorem choose_step (hL : SetsOk L) {m : Nat} (h0 : m ≠ 0) : choose L pay m = (L.filter fun d => low d == low m).foldl (stepC (choose L pay) pay m) noCh := by
  conv => lhs; unfold choose
  simp only [chooseK, h0, if_false]
  refine fold_congr _ _ fun d hd hs => ?_
  exact chooseK_eq hL m _ (sub_less (hL d ((List.mem_filter.1 hd).1)).1 hs)

structure Part (L : List Nat) (m : Nat) (l : List Nat) : Prop where
  mem : ∀ d ∈ l, d ∈ L
  disj : l.Pairwise fun a b => a &&& b = 0
  all : ∀ i, m.testBit i = l.any fun d => d.testBit i

theorem and_zero {a b i : Nat} (h : a &&& b = 0) (ha : a.testBit i = true) : b.testBit i = false := by
  have : (a &&& b).testBit i = false := by rw [h, Nat.zero_testBit]
  rw [Nat.testBit_and, ha] at this
  simpa using this
theorem and_zero_of {a b : Nat} (h : ∀ i, a.testBit i = true → b.testBit i = false) : a &&& b = 0 := by
  refine Nat.eq_of_testBit_eq fun i => ?_
  rw [Nat.testBit_and, Nat.zero_testBit]
  cases ha : a.testBit i
  · rfl
  · rw [h i ha]; rfl
def sumP (pay : Nat → Int) (l : List Nat) : Int := (l.map pay).sum
theorem sumP_cons {d : Nat} {l : List Nat} : sumP pay (d :: l) = pay d + sumP pay l := by simp [sumP]
theorem Part.tail {m d : Nat} {l : List Nat} (h : Part L m (d :: l)) : diffN d m = 0 ∧ Part L (diffN m d) l := by
  obtain ⟨h1, h2, h3⟩ := h
  rw [List.pairwise_cons] at h2
  refine ⟨sub_iff.2 fun i hi => by rw [h3 i]; simp [hi], fun x hx => h1 x (List.mem_cons_of_mem _ hx), h2.2, fun i => ?_⟩
  rw [testBit_diff, h3 i, List.any_cons]
  cases hd : d.testBit i
  · simp
  · simp only [Bool.true_or, Bool.not_true, Bool.and_false]
    symm
    rw [List.any_eq_false]
    intro x hx
    rw [and_zero (h2.1 x hx) hd]; simp
theorem Part.cons {m d : Nat} {l : List Nat} (hd : d ∈ L) (hs : diffN d m = 0) (h : Part L (diffN m d) l) : Part L m (d :: l) := by
  obtain ⟨h1, h2, h3⟩ := h
  refine ⟨fun x hx => ?_, List.pairwise_cons.2 ⟨fun x hx => and_zero_of fun i hi => ?_, h2⟩, fun i => ?_⟩
  · rcases List.mem_cons.1 hx with rfl | hx
    · exact hd
    · exact h1 x hx
  · have := h3 i
    rw [testBit_diff, hi] at this
    simp only [Bool.not_true, Bool.and_false] at this
    have := (List.any_eq_false.1 this.symm) x hx
    simpa using this
  · rw [List.any_cons, ← h3 i, testBit_diff]
    cases hb : d.testBit i
    · simp
    · simp [sub_iff.1 hs i hb]
theorem Part.zero {l : List Nat} (hL : SetsOk L) (h : Part L 0 l) : l = [] := by
  cases l with
  | nil => rfl
  | cons d l =>
    obtain ⟨i, hi⟩ := bit_of_ne (hL d (h.mem d (List.mem_cons_self ..))).1
    have := h.all i
    rw [Nat.zero_testBit, List.any_cons, hi] at this
    simp at this
theorem Part.nil : Part L 0 [] := ⟨fun _ h => (by cases h), List.Pairwise.nil, fun i => (by simp)⟩

def planK (f : Nat → Ch) : Nat → Nat → List Nat
  | 0, _ => []
  | k + 1, m => if (f m).first = 0 then [] else (f m).first :: planK f k (diffN m (f m).first)
def planOf (L : List Nat) (pay : Nat → Int) (m : Nat) : List Nat := planK (choose L pay) (m + 1) m

theorem choose_made (hL : SetsOk L) {m : Nat} (h0 : m ≠ 0) : MadeOf (choose L pay) pay m (L.filter fun d => low d == low m) (choose L pay m) := by
  conv => arg 5; rw [choose_step hL h0]
  exact fold_made _ _ (fun d hd => hd) (.inl rfl)

theorem planK_eq (hL : SetsOk L) : ∀ (k m : Nat), m < k → planK (choose L pay) k m = planOf L pay m := by
  intro k
  induction k using Nat.strongRecOn with
  | _ k ih =>
    intro m hmk
    cases k with
    | zero => omega
    | succ k =>
      by_cases hk : k = m
      · rw [hk]; rfl
      unfold planOf
      simp only [planK]
      by_cases hf : (choose L pay m).first = 0
      · simp [hf]
      simp only [hf, if_false]
      have h0 : m ≠ 0 := fun e => by subst e; rw [choose_zero] at hf; exact hf rfl
      rcases choose_made hL h0 with e | ⟨_, d, hd, hs, _, e⟩
      · rw [e] at hf; exact absurd rfl hf
      have ef : (choose L pay m).first = d := by rw [e]; rfl
      have hlt := sub_less (hL d ((List.mem_filter.1 hd).1)).1 hs
      rw [ef, ih k (by omega) _ (by omega), ih m (by omega) _ hlt]

theorem planOf_step (hL : SetsOk L) {m : Nat} (hf : (choose L pay m).first ≠ 0) : planOf L pay m = (choose L pay m).first :: planOf L pay (diffN m (choose L pay m).first) ∧ diffN m (choose L pay m).first < m := by
  have h0 : m ≠ 0 := fun e => by subst e; rw [choose_zero] at hf; exact hf rfl
  rcases choose_made hL h0 with e | ⟨_, d, hd, hs, _, e⟩
  · rw [e] at hf; exact absurd rfl hf
  have ef : (choose L pay m).first = d := by rw [e]; rfl
  have hlt := sub_less (hL d ((List.mem_filter.1 hd).1)).1 hs
  refine ⟨?_, by rw [ef]; exact hlt⟩
  conv => lhs; unfold planOf
  simp only [planK, hf, if_false]
  rw [ef, planK_eq hL _ _ hlt]
theorem planOf_end {m : Nat} (hf : (choose L pay m).first = 0) : planOf L pay m = [] := by simp [planOf, planK, hf]

theorem plan_part (hL : SetsOk L) : ∀ (m : Nat), m < 1024 → (choose L pay m).ok = true → Part L m (planOf L pay m) ∧ (planOf L pay m).length = (choose L pay m).n ∧ sumP pay (planOf L pay m) = (choose L pay m).pay ∧ (planOf L pay m).Pairwise (fun a b => low a < low b) ∧ ∀ d ∈ planOf L pay m, low m ≤ low d := by
  intro m
  induction m using Nat.strongRecOn with
  | _ m ih =>
    intro hm hok
    by_cases h0 : m = 0
    · subst h0
      rw [planOf_end (by rw [choose_zero]), choose_zero]
      exact ⟨Part.nil, rfl, rfl, List.Pairwise.nil, fun _ h => by cases h⟩
    rcases choose_made hL h0 with e | ⟨_, d, hd, hs, hr, e⟩
    · rw [e] at hok; cases hok
    have ef : (choose L pay m).first = d := by rw [e]; rfl
    obtain ⟨hdL, hlow⟩ := List.mem_filter.1 hd
    have hlow : low d = low m := by simpa using hlow
    have hd0 := hL d hdL
    obtain ⟨s1, s2⟩ := planOf_step hL (m := m) (pay := pay) (by rw [ef]; exact hd0.1)
    rw [ef] at s1 s2
    obtain ⟨i1, i2, i3, i4, i5⟩ := ih _ s2 (by omega) hr
    rw [s1]
    refine ⟨Part.cons hdL hs i1, by rw [List.length_cons, i2, e]; rfl, by rw [sumP_cons, i3, e]; simp [nextC, Int.add_comm], List.pairwise_cons.2 ⟨fun x hx => ?_, i4⟩, fun x hx => ?_⟩
    · have hx0 := hL x (i1.mem x hx)
      have hne : diffN m d ≠ 0 := fun e0 => by rw [e0, planOf_end (by rw [choose_zero])] at hx; cases hx
      have hq := low_bit hne (by omega)
      have hq1 := hq.1
      rw [testBit_diff] at hq1
      simp only [Bool.and_eq_true, Bool.not_eq_true'] at hq1
      have hl := (low_bit h0 hm).2 _ hq1.1
      have hne2 : low (diffN m d) ≠ low m := fun e1 => by
        rw [e1, ← hlow, (low_bit hd0.1 hd0.2).1] at hq1
        cases hq1.2
      have := i5 x hx
      omega
    · rcases List.mem_cons.1 hx with rfl | hx
      · omega
      · have hne : diffN m d ≠ 0 := fun e0 => by rw [e0, planOf_end (by rw [choose_zero])] at hx; cases hx
        have hq1 := (low_bit hne (by omega)).1
        rw [testBit_diff] at hq1
        simp only [Bool.and_eq_true] at hq1
        have := (low_bit h0 hm).2 _ hq1.1
        have := i5 x hx
        omega
end

end Go.Proofs.YtllkhaabcfnlpaaDoor


namespace Go.Proofs.YtllkhaabcfnlpaaDoor
open Go Go.Ab

abbrev chC (c : Ch) : List Value := [.int .u64 c.first, .int .i64 c.n, .int .i64 c.pay, .bool c.ok]
abbrev chV (c : Ch) : Value := .agg #[.int .u64 c.first, .int .i64 c.n, .int .i64 c.pay, .bool c.ok]

theorem better_spec (c o : Ch) (H : Heap) : AFun Tryd.prog 105 [chV c, chV o] H (fun r B => r = .bool (better c o) ∧ Ge H B) := by
  refine AFun.mk ok105 hm (Nat.le_of_ble_eq_true rfl) ?_
  have G : Ge H ((H.new (.cells true (chC c) 4)).new (.cells true (chC o) 4)) := (Ge.new _ _).newOf _
  simp [a105, r105]
  unfold better
  cases hc : c.ok
  · simp [hc]
  cases ho : o.ok
  · simp [hc, ho]
  simp [hc, ho]
  by_cases hn : (c.n : Int) = (o.n : Int)
  · have hn' : c.n = o.n := by omega
    simp [hn, hn']
  · have hn' : ¬ c.n = o.n := by omega
    simp [hn, hn']

theorem choose_bounds {L : List Nat} {pay : Nat → Int} (hL : SetsOk L) (hp : ∀ d ∈ L, 0 ≤ pay d ∧ pay d ≤ 100000) : ∀ (m : Nat), (choose L pay m).n ≤ m ∧ 0 ≤ (choose L pay m).pay ∧ (choose L pay m).pay ≤ 100000 * (choose L pay m).n := by
  intro m
  induction m using Nat.strongRecOn with
  | _ m ih =>
    by_cases h0 : m = 0
    · subst h0; rw [choose_zero]; simp
    rcases choose_made (pay := pay) hL h0 with e | ⟨_, d, hd, hs, _, e⟩
    · rw [e]; simp [noCh]
    · have hdL := (List.mem_filter.1 hd).1
      have hlt := sub_less (hL d hdL).1 hs
      obtain ⟨i1, i2, i3⟩ := ih _ hlt
      have hpd := hp d hdL
      rw [e]
      simp only [nextC]
      omega

structure Sit (A : Heap) (L : List Nat) (pay : Nat → Int) (n1 n2 n3 n4 mk mb mp : Nat) : Prop where
  c1 : A.get n1 = .cells true [.map (some mk)] 1
  c2 : A.get n2 = .cells true [.map (some mb)] 1
  c3 : A.get n3 = .cells true [.func (.func 104) #[] #[.pointer (some ⟨n1, 0, none⟩), .pointer (some ⟨n2, 0, none⟩), .pointer (some ⟨n3, 0, none⟩), .pointer (some ⟨n4, 0, none⟩)]] 1
  c4 : A.get n4 = .cells true [.map (some mp)] 1
  lt : n1 < A.next ∧ n2 < A.next ∧ n3 < A.next ∧ n4 < A.next ∧ mk < A.next ∧ mb < A.next ∧ mp < A.next
  ne : n1 ≠ mk ∧ n2 ≠ mk ∧ n3 ≠ mk ∧ n4 ≠ mk ∧ mb ≠ mk ∧ mp ≠ mk
  pays : ∃ f, MapFn A mp f ∧ ∀ d ∈ L, f d = some (.int .i64 (pay d))
  begs : ∃ f, MapFn A mb f ∧ ∀ i, i < 10 → SlR A 1 ((f (2 ^ i)).getD (.slice none 0 0)) (L.filter fun d => low d == i).length ((L.filter fun d => low d == i).map bitsV)

theorem Sit.keep {A B : Heap} {L : List Nat} {pay : Nat → Int} {n1 n2 n3 n4 mk mb mp : Nat} (h : Sit A L pay n1 n2 n3 n4 mk mb mp) (hm : ∃ es c, A.get mk = .map es c) (g : GeX mk A B) : Sit B L pay n1 n2 n3 n4 mk mb mp := by
  obtain ⟨c1, c2, c3, c4, ⟨l1, l2, l3, l4, l5, l6, l7⟩, ⟨e1, e2, e3, e4, e5, e6⟩, ⟨fp, p1, p2⟩, ⟨fb, b1, b2⟩⟩ := h
  have gn := g.next
  exact ⟨(g.get _ l1 e1).trans c1, (g.get _ l2 e2).trans c2, (g.get _ l3 e3).trans c3, (g.get _ l4 e4).trans c4, ⟨by omega, by omega, by omega, by omega, by omega, by omega, by omega⟩, ⟨e1, e2, e3, e4, e5, e6⟩,
    ⟨fp, p1.keep (g.get _ l7 e6), p2⟩, ⟨fb, b1.keep (g.get _ l6 e5), fun i hi => (b2 i hi).geX hm g⟩⟩

structure KnownC (A : Heap) (L : List Nat) (pay : Nat → Int) (mk : Nat) (f : Nat → Option Value) : Prop where
  map : MapFn A mk f
  zero : f 0 = some (chV ⟨0, 0, 0, true⟩)
  val : ∀ k v, f k = some v → v = chV (choose L pay k) ∧ ((choose L pay k).first ≠ 0 → (f (diffN k (choose L pay k).first)).isSome = true)
theorem KnownC.keep {A B : Heap} {L : List Nat} {pay : Nat → Int} {mk : Nat} {f : Nat → Option Value} (h : KnownC A L pay mk f) (e : B.get mk = A.get mk) : KnownC B L pay mk f := ⟨h.map.keep e, h.zero, h.val⟩

theorem flat_ch0 : flat (.agg #[.int .u64 0, .int .i64 0, .int .i64 0, .bool false]) = true := by simp [flat, flat1]
theorem flat_nil : flat (.slice none 0 0) = true := by simp [flat, flat1]

section
variable {L : List Nat} {pay : Nat → Int} {n1 n2 n3 n4 mk mb mp : Nat}
theorem chooseF_spec (hL : SetsOk L) (hpay : ∀ d ∈ L, 0 ≤ pay d ∧ pay d ≤ 100000) (hlen : L.length ≤ 1024) : ∀ (m : Nat), m < 1024 → ∀ (H : Heap) (f : Nat → Option Value), Sit H L pay n1 n2 n3 n4 mk mb mp → KnownC H L pay mk f →
    AFun Tryd.prog 104 [bitsV m, .pointer (some ⟨n1, 0, none⟩), .pointer (some ⟨n2, 0, none⟩), .pointer (some ⟨n3, 0, none⟩), .pointer (some ⟨n4, 0, none⟩)] H
      (fun r B => r = chV (choose L pay m) ∧ GeX mk H B ∧ ∃ f', KnownC B L pay mk f' ∧ (∀ k, (f k).isSome = true → (f' k).isSome = true) ∧ (f' m).isSome = true) := by
  intro m
  induction m using Nat.strongRecOn with
  | _ m ih =>
    intro hm10 H f hS hK
    refine AFun.mk ok104 hm (Nat.le_of_ble_eq_true rfl) ?_
    have hlk : ∀ A : Heap, A.get mk = H.get mk → lkpH Tryd.prog 102 (.agg #[.int .u64 0, .int .i64 0, .int .i64 0, .bool false]) A (bitsV m) (.map (some mk)) = some (.tuple #[(f m).getD (.agg #[.int .u64 0, .int .i64 0, .int .i64 0, .bool false]), .bool (f m).isSome]) :=
      fun A hA => (hK.map.keep hA).lkp flat_ch0 m
    obtain ⟨l1, l2, l3, l4, l5, l6, l7⟩ := hS.lt
    have z1 : n1 ≠ H.next := by omega
    have zk : mk ≠ H.next := by omega
    simp [a104, r104, z1, hS.c1]
    rw [hlk _ (by simp [zk])]
    cases hf : f m with
    | some v =>
      obtain ⟨rfl, hcl⟩ := hK.val m v hf
      simp
      refine ⟨GeX.of ?_, f, hK.keep ?_, fun k hk => hk, by rw [hf]; rfl⟩
      · exact (((Ge.new _ _).newOf _).setNew (by simp) _).setNew (by simp) _
      · have zk1 : mk ≠ H.next + 1 := by omega
        simp [zk, zk1]
    | none =>
      have h0 : m ≠ 0 := fun e => by rw [e, hK.zero] at hf; cases hf
      have z20 : n2 ≠ H.next := by omega
      have z21 : n2 ≠ H.next + 1 := by omega
      have z22 : n2 ≠ H.next + 2 := by omega
      simp [z20, z21, z22, hS.c2]
      refine fcall_fun (lowest_spec h0 hm10 _) ?_
      rintro _ B ⟨rfl, hB⟩
      obtain ⟨fb, b1, b2⟩ := hS.begs
      have hlow := low_facts h0 hm10
      have gB : Ge H B := by
        rw [hB]
        refine Ge.grow_le (by omega) ?_
        exact ((((Ge.new _ _).newOf _).setNew (by simp) _).newOf _)
      have nB : B.next = H.next + 9 := by rw [hB]
      have k6 : B.get H.next = .cells true [.int .u64 0, .int .i64 0, .int .i64 0, .bool false] 4 := by rw [hB]; simp
      have k9 : B.get (H.next + 2) = .cells true [.int .u64 0, .int .i64 0, .int .i64 0, .bool false] 4 := by rw [hB]; simp
      have hl1 := (b1.ge gB l6).lk1 flat_nil (2 ^ low m)
      have hslH := b2 (low m) hlow.2.1
      generalize hv : (fb (2 ^ low m)).getD (.slice none 0 0) = v at hl1 hslH
      clear hB
      have hLmL : ∀ d ∈ L.filter (fun d => low d == low m), d ∈ L ∧ low d = low m := fun d hd => by
        obtain ⟨h1, h2⟩ := List.mem_filter.1 hd
        exact ⟨h1, by simpa using h2⟩
      have hLml : (L.filter (fun d => low d == low m)).length ≤ 1024 := Nat.le_trans (List.length_filter_le _ _) hlen
      have hstep := choose_step (pay := pay) hL h0
      have hmk := hK.map.isMap
      simp [hl1, hslH.lenV, z20, z21, z22, (gB.got l2 hS.c2)]
      generalize hLm : L.filter (fun d => low d == low m) = Lm at *
      have zk1 : mk ≠ H.next + 1 := by omega
      have zk2 : mk ≠ H.next + 2 := by omega
      obtain ⟨q1, q2, q3, q4, q5, q6⟩ := hS.ne
      refine floop_intro (fun z => z.d = [] ∧ GeX mk H z.H ∧ H.next + 3 ≤ z.H.next ∧ z.t 0 = bitsV m ∧ z.t 1 = .pointer (some ⟨n1, 0, none⟩) ∧ z.t 2 = .pointer (some ⟨n2, 0, none⟩) ∧ z.t 3 = .pointer (some ⟨n3, 0, none⟩) ∧ z.t 4 = .pointer (some ⟨n4, 0, none⟩) ∧ z.t 6 = .pointer (some ⟨H.next, 0, none⟩) ∧ z.t 9 = .pointer (some ⟨H.next + 2, 0, none⟩) ∧ z.t 25 = v ∧ z.t 26 = .int .i64 (Lm.length : Int) ∧ z.H.get H.next = .cells true [.int .u64 0, .int .i64 0, .int .i64 0, .bool false] 4 ∧
        ∃ (i : Nat) (fz : Nat → Option Value), i ≤ Lm.length ∧ z.t 27 = .int .i64 (i : Int) ∧ z.H.get (H.next + 2) = .cells true (chC ((Lm.take i).foldl (stepC (choose L pay) pay m) noCh)) 4 ∧ KnownC z.H L pay mk fz ∧ (∀ k, (f k).isSome = true → (fz k).isSome = true) ∧ (((Lm.take i).foldl (stepC (choose L pay) pay m) noCh).first ≠ 0 → (fz (diffN m ((Lm.take i).foldl (stepC (choose L pay) pay m) noCh).first)).isSome = true)) (fun z => Lm.length - (intOf (z.t 27)).toNat) ?_ ?_
      · refine ⟨rfl, GeX.of gB, (by show H.next + 3 ≤ B.next; omega), by simp, by simp, by simp, by simp, by simp, by simp, by simp, by simp, by simp, k6, 0, f, by omega, by simp, ?_, hK.keep (gB.get _ l5), fun k hk => hk, fun h => absurd rfl h⟩
        exact k9
      clear hl1 gB nB k6 k9
      rintro ⟨t, _, A⟩ ⟨rfl, gX, hn, t0, t1, t2, t3, t4, t6, t9, t25, t26, k6, i, fz, hi, t27, k9, hKz, hmono, hcl⟩
      dsimp only at gX hn t0 t1 t2 t3 t4 t6 t9 t25 t26 k6 t27 k9 hKz
      have SA := hS.keep hmk gX
      have hsl := hslH.geX hmk gX
      simp [t26, t27]
      refine fcond_intro (fun hc => ?_) (fun hc => ?_)
      case refine_2 =>
        have hiL : i = Lm.length := by simp at hc; omega
        rw [hiL, List.take_length, ← hstep] at k9 hcl
        obtain ⟨x, hx1, hx2⟩ := hKz.map.put m (chV (choose L pay m))
        have w1 : H.next ≠ mk := by omega
        have w2 : H.next + 2 ≠ mk := by omega
        have w3 : H.next + 2 ≠ H.next := by omega
        simp [t0, t1, t6, t9, SA.c1, k9, hx1, w1, w2, w3, k6]
        refine ⟨⟨by simp; omega, fun n hn hne => ?_⟩, putF fz m (chV (choose L pay m)), ⟨hx2 _ (by simp [zk]), ?_, ?_⟩, ?_, ?_⟩
        · have e1 : n ≠ H.next := by omega
          simp [e1, hne, gX.get n hn hne]
        · simp only [putF, Ne.symm h0, if_false]; exact hKz.zero
        · intro k u hu
          unfold putF at hu
          by_cases hk : k = m
          · subst hk
            rw [if_pos rfl] at hu
            refine ⟨(Option.some.inj hu).symm, fun hne => ?_⟩
            unfold putF
            split
            · rfl
            · exact hcl hne
          · rw [if_neg hk] at hu
            refine ⟨(hKz.val k u hu).1, fun hne => ?_⟩
            unfold putF
            split
            · rfl
            · exact (hKz.val k u hu).2 hne
        · intro k hk
          unfold putF
          split
          · rfl
          · exact hmono k hk
        · simp [putF]
      have h1 : i < Lm.length := by simpa using hc
      obtain ⟨q, e1, e2⟩ := hsl.at1 (k := .i64) (i := i) (by simpa using h1)
      have e3 : (Lm.map bitsV)[i]? = some (bitsV Lm[i]) := by simp [h1]
      rw [e3] at e2
      obtain ⟨hdL, hdlow⟩ := hLmL Lm[i] (List.getElem_mem h1)
      have hd0 := hL _ hdL
      have hfold : (Lm.take (i + 1)).foldl (stepC (choose L pay) pay m) noCh = stepC (choose L pay) pay m ((Lm.take i).foldl (stepC (choose L pay) pay m) noCh) Lm[i] := by
        rw [List.take_succ_eq_append_getElem h1, List.foldl_append]; rfl
      generalize hbest : (Lm.take i).foldl (stepC (choose L pay) pay m) noCh = best at *
      generalize hnext : (Lm.take (i + 1)).foldl (stepC (choose L pay) pay m) noCh = after at *
      generalize Lm[i] = d at *
      simp [t25, t27, e1, e2, t0]
      rw [aval_diff (a := d) (b := m) (by simp) (by simp) (by decide) (by decide) (by omega) (by omega)]
      by_cases hs : diffN d m = 0
      case neg =>
        have hab : after = best := by rw [hfold, stepC, if_pos hs]
        simp [hs, t27, add_in (x := i) (y := 1) (by omega) (by omega)]
        exact ⟨⟨gX, hn, t0, t1, t2, t3, t4, t6, t9, t25, t26, k6, i + 1, by omega, by omega, by rw [hnext, hab]; simpa using k9, fz, hKz, hmono, by rw [hnext, hab]; exact hcl⟩, by omega⟩
      have hlt := sub_less hd0.1 hs
      simp [hs, t0, t3, SA.c3]
      rw [aval_diff (a := m) (b := d) (by simp) (by simp) (by decide) (by decide) (by omega) (by omega)]
      simp
      refine fcall_intro ((ACall.of_fun (R := fun r B => r = chV (choose L pay (diffN m d)) ∧ GeX mk A B ∧ ∃ f', KnownC B L pay mk f' ∧ (∀ k, (fz k).isSome = true → (f' k).isSome = true) ∧ (f' (diffN m d)).isSome = true) (by simpa using ih (diffN m d) hlt (by omega) A fz SA hKz)).mono ?_)
      rintro _ C ⟨rfl, gC, f2, hK2, mono2, hsome⟩
      have SC := SA.keep hKz.map.isMap gC
      have nC := gC.next
      have k6C := (gC.get H.next (by omega) (Ne.symm zk)).trans k6
      have k9C := (gC.get (H.next + 2) (by omega) (Ne.symm zk2)).trans k9
      obtain ⟨fp, hfp1, hfp2⟩ := SC.pays
      have hlp : ∀ X : Heap, X.get mp = C.get mp → lk1H Tryd.prog 102 (.int .i64 0) X (bitsV d) (.map (some mp)) = some (.int .i64 (pay d)) := fun X hX => by
        rw [(hfp1.keep hX).lk1 (by simp [flat, flat1]), hfp2 d hdL]; rfl
      obtain ⟨r1, r2, r3⟩ := choose_bounds hL hpay (diffN m d)
      have hpd := hpay d hdL
      have hnc : nextC (choose L pay (diffN m d)) d (pay d) = ⟨d, (choose L pay (diffN m d)).n + 1, (choose L pay (diffN m d)).pay + pay d, (choose L pay (diffN m d)).ok⟩ := rfl
      have hst : after = if better (nextC (choose L pay (diffN m d)) d (pay d)) best then nextC (choose L pay (diffN m d)) d (pay d) else best := by rw [hfold, stepC, if_neg (by simp [hs])]
      generalize choose L pay (diffN m d) = r at *
      have y4 : n4 ≠ C.next := by omega
      have yp : mp ≠ C.next := by omega
      have yk : mk ≠ C.next := by omega
      have yk1 : mk ≠ C.next + 1 := by omega
      have y9 : H.next + 2 ≠ C.next := by omega
      have y91 : H.next + 2 ≠ C.next + 1 := by omega
      have y6 : H.next ≠ C.next := by omega
      have y61 : H.next ≠ C.next + 1 := by omega
      simp [t4, t9, y4, SC.c4, add_in (x := (r.n : Int)) (y := 1) (by omega) (by omega)]
      rw [hlp _ (by simp [yp])]
      simp [t9, y9, y91, k9C, add_in (x := r.pay) (y := pay d) (by omega) (by omega)]
      have hb := fun X : Heap => better_spec (nextC r d (pay d)) best X
      rw [hnc] at hb hst
      refine fcall_fun (hb _) ?_
      rintro _ D ⟨rfl, gD⟩
      have gCD := Ge.trans (((((Ge.new C _).setNew (Nat.le_refl _) _).newOf _).setNew (by simp) _)) gD
      have nD := gD.next
      simp at nD
      have k13 := gD.got (n := C.next + 1) (by simp) rfl
      simp at k13
      have k6D := gCD.got (n := H.next) (by omega) k6C
      have k9D := gCD.got (n := H.next + 2) (by omega) k9C
      have hKD := hK2.keep (gCD.get mk (by omega))
      have gXD : GeX mk H D := (gX.trans gC).trans (GeX.of gCD)
      have hmonoD : ∀ k, (f k).isSome = true → (f2 k).isSome = true := fun k hk => mono2 k (hmono k hk)
      have w1 : H.next + 2 ≠ mk := by omega
      have w3 : H.next ≠ H.next + 2 := by omega
      have w4 : mk ≠ H.next + 2 := by omega
      cases hbt : better ⟨d, r.n + 1, r.pay + pay d, r.ok⟩ best
      · rw [hbt] at hst
        simp only [Bool.false_eq_true, if_false] at hst
        simp [t27, add_in (x := i) (y := 1) (by omega) (by omega)]
        exact ⟨⟨gXD, by omega, t0, t1, t2, t3, t4, t6, t9, t25, t26, k6D, i + 1, by omega, by omega, by rw [hnext, hst]; simpa using k9D, f2, hKD, hmonoD, by rw [hnext, hst]; exact fun h => mono2 _ (hcl h)⟩, by omega⟩
      · rw [hbt] at hst
        simp only [if_true] at hst
        simp [t9, t27, k9D, k13, add_in (x := i) (y := 1) (by omega) (by omega)]
        refine ⟨⟨⟨by have := gXD.next; simp; omega, fun n hn hne => ?_⟩, by omega, t0, t1, t2, t3, t4, t6, t25, t26, by simp [w3, k6D], i + 1, by omega, by omega, ?_, f2, hKD.keep (by simp [w4]), hmonoD, ?_⟩, by omega⟩
        · have e1 : n ≠ H.next + 2 := by omega
          simp [e1, gXD.get n hn hne]
        · rw [hnext, hst]; simp
        · rw [hnext, hst]; exact fun _ => hsome
end

end Go.Proofs.YtllkhaabcfnlpaaDoor


namespace Go.Proofs.YtllkhaabcfnlpaaDoor
open Go Go.Ab

theorem sub_bits {a : Nat} {z : Int} (hz : z = 1) (h0 : 1 ≤ a) (h : a < 2 ^ 64) : binI BinOp.sub (bitsV a) (.int .u64 z) = some (bitsV (a - 1)) := by
  have e : binI BinOp.sub (bitsV a) (.int .u64 z) = some (.int .u64 (IntKind.u64.wrap ((a : Int) - z))) := rfl
  have e2 : (a : Int) - z = ((a - 1 : Nat) : Int) := by omega
  rw [e, e2, wrap_u64 (by omega)]
theorem add_bits {a : Nat} {z : Int} (hz : z = 1) (h : a + 1 < 2 ^ 64) : binI BinOp.add (bitsV a) (.int .u64 z) = some (bitsV (a + 1)) := by
  have e : binI BinOp.add (bitsV a) (.int .u64 z) = some (.int .u64 (IntKind.u64.wrap ((a : Int) + z))) := rfl
  have e2 : (a : Int) + z = ((a + 1 : Nat) : Int) := by omega
  rw [e, e2, wrap_u64 h]

abbrev segN (D : Dy) : Nat := (segPs D).length
theorem segN_le {D : Dy} (hV : Valid D) : segN D ≤ 10 := by have := hV.segs; rw [← segPs_length] at this; exact this
theorem pow_segN {D : Dy} (hV : Valid D) : 1 ≤ 2 ^ segN D ∧ 2 ^ segN D ≤ 1024 := ⟨Nat.one_le_two_pow, Nat.pow_le_pow_right (n := 2) (by omega) (segN_le hV)⟩

section
variable {D : Dy} {K : List (List (Int × Int))} {b w s k q : Value} {H : Heap}
theorem all_spec (hP : PlanAt H b w s k q D K) (hV : Valid D) : AFun Tryd.prog 98 [planV D b w s k q] H (fun r B => r = bitsV (2 ^ segN D - 1) ∧ Ge H B) := by
  refine AFun.mk ok98 hm (Nat.le_of_ble_eq_true rfl) ?_
  have hb := hP.day.blocks.one
  have hw := hP.day.walk.one
  have hs := hP.segs.one
  have hk := hP.known.one
  have hq : one q = true := SlR.one hP.quest
  have h10 := segN_le hV
  obtain ⟨hp1, hp2⟩ := pow_segN hV
  simp [a98, r98, hb, hw, hs, hk, hq, hP.segs.lenV]
  refine fcall_fun (setOf_spec (segN D) (by omega) _) ?_
  rintro _ _ ⟨rfl, rfl⟩
  simp [sub_bits rfl hp1 (by omega)]

def passL (p : Nat → Bool) (i : Nat) : List Nat := (List.range' 1 (i - 1)).filter p
theorem passL_step {p : Nat → Bool} {i : Nat} (h : 1 ≤ i) : passL p (i + 1) = if p i then passL p i ++ [i] else passL p i := by
  unfold passL
  obtain ⟨j, rfl⟩ : ∃ j, i = j + 1 := ⟨i - 1, by omega⟩
  simp only [Nat.add_sub_cancel]
  rw [List.range'_concat, List.filter_append]
  rw [show 1 + 1 * j = j + 1 by omega]
  cases hp : p (j + 1) <;> simp [hp]
theorem passL_length {p : Nat → Bool} {i : Nat} : (passL p i).length ≤ i := by
  unfold passL
  have := List.length_filter_le p (List.range' 1 (i - 1))
  simp at this
  omega
theorem passL_mem {p : Nat → Bool} {i d : Nat} : d ∈ passL p i ↔ (1 ≤ d ∧ d < i) ∧ p d = true := by
  unfold passL
  rw [List.mem_filter, List.mem_range']
  constructor
  · rintro ⟨⟨j, h1, rfl⟩, h2⟩; exact ⟨by omega, h2⟩
  · rintro ⟨h1, h2⟩; exact ⟨⟨d - 1, by omega, by omega⟩, h2⟩

theorem dutiesThat_spec {p : Nat → Bool} {pv : Value} (hP : PlanAt H b w s k q D K) (hV : Valid D) (hp : ∀ A m, Ge H A → m ≠ 0 → m < 2 ^ segN D → ACall Tryd.prog pv [bitsV m] A (fun r B => r = .bool (p m) ∧ Ge A B)) :
    AFun Tryd.prog 119 [planV D b w s k q, pv] H (fun r B => OwnSl B H.next r ((passL p (2 ^ segN D)).map bitsV) ∧ Ge H B) := by
  refine AFun.mk ok119 hm (Nat.le_of_ble_eq_true rfl) ?_
  have hb := hP.day.blocks.one
  have hw := hP.day.walk.one
  have hs := hP.segs.one
  have hk := hP.known.one
  have hq : one q = true := SlR.one hP.quest
  obtain ⟨hp1, hp2⟩ := pow_segN hV
  simp [a119, r119, hb, hw, hs, hk, hq]
  refine floop_intro (fun z => z.d = [] ∧ Ge H z.H ∧ H.next < z.H.next ∧ z.t 1 = pv ∧ z.t 2 = .pointer (some ⟨H.next, 0, none⟩) ∧ z.H.get H.next = .cells true (planV D b w s k q).cells.toList 13 ∧ ∃ i : Nat, 1 ≤ i ∧ i ≤ 2 ^ segN D ∧ z.t 6 = bitsV i ∧ OwnSl z.H (H.next + 1) (z.t 5) ((passL p i).map bitsV)) (fun z => 2 ^ segN D - (intOf (z.t 6)).toNat) ?_ ?_
  · exact ⟨rfl, by simp, by simp, by simp, by simp, by simp [Value.cells], 1, by omega, hp1, by simp, .inl ⟨by simp, by simp [passL]⟩⟩
  rintro ⟨t, _, A⟩ ⟨rfl, g, hn, t1, t2, kd, i, hi1, hi, t6, o5⟩
  dsimp only at g hn t1 t2 kd t6 o5
  simp [Value.cells] at kd
  generalize t5 : t 5 = v5 at o5
  simp [t1, t2, t6, kd]
  refine fcall_fun (all_spec (hP.ge g) hV) ?_
  rintro _ A1 ⟨rfl, gA⟩
  have g1 := gA
  have n1 := g1.next
  simp [t6]
  by_cases hc : i ≤ 2 ^ segN D - 1
  case neg =>
    have e : i = 2 ^ segN D := by omega
    subst e
    simp [hc, t5]
    exact ⟨(o5.ge gA).lower (by omega), g.trans gA⟩
  simp [hc, t1, t6]
  refine fcall_intro ((hp A1 i (g.trans gA) (by omega) (by omega)).mono ?_)
  rintro _ A2 ⟨rfl, g2⟩
  have G2 := gA.trans g2
  have n2 := g2.next
  have kd2 := G2.got hn kd
  have hstep := passL_step (p := p) hi1
  have hadd := add_bits (a := i) (z := 1) rfl (by omega)
  cases hpi : p i
  · simp [t6, hadd]
    rw [hpi] at hstep
    simp only [Bool.false_eq_true, if_false] at hstep
    exact ⟨⟨g.trans G2, by omega, t1, t2, by simpa [Value.cells] using kd2, i + 1, by omega, by omega, rfl, by rw [hstep, t5]; exact o5.ge G2⟩, by omega⟩
  · rw [hpi] at hstep
    simp only [if_true] at hstep
    simp [t5, t6]
    have hlen := passL_length (p := p) (i := i)
    refine fapp_own (lo := H.next + 1) (x := bitsV i) ((o5.ge G2).ge (Ge.new _ _)) (slCells_new (rw := true) (c := 1) (by simp)) rfl (by simp; omega) (by omega) (by simp) (by omega) (by simp; omega) fun u3 C k3 k4 k5 k6 => ?_
    have h5n : ∀ m, slName v5 = some m → H.next + 1 ≤ m := fun m hm => (o5.names hm).1
    have gC : Ge H C := ⟨by have := g.next; omega, fun n hn => by
      have f0 := g.next
      have f3 : n ≠ A2.next := by omega
      rw [k6 n (by omega) (fun e => by have := h5n n e; omega)]; simp [f3]
      rw [G2.get n (by omega)]; exact g.get n hn⟩
    have kC : C.get H.next = A2.get H.next := (k6 H.next (by omega) (fun e => by have := h5n _ e; omega)).trans (by rw [Heap.new_get, if_neg (by omega)])
    simp [t6, hadd]
    refine ⟨⟨gC, by omega, t1, t2, by simpa [Value.cells] using kC.trans kd2, i + 1, by omega, by omega, rfl, ?_⟩, by omega⟩
    rw [hstep, List.map_append]
    exact k3

def legalN (D : Dy) (K : List (List (Int × Int))) (m : Nat) : Bool := legalB D K (piecesL D m)
def legalL (D : Dy) (K : List (List (Int × Int))) : List Nat := passL (legalN D K) (2 ^ segN D)

theorem legalDuties_spec (hP : PlanAt H b w s k q D K) (hV : Valid D) (hK : KOk D K) :
    AFun Tryd.prog 99 [planV D b w s k q] H (fun r B => OwnSl B H.next r ((legalL D K).map bitsV) ∧ Ge H B) := by
  refine AFun.mk ok99 hm (Nat.le_of_ble_eq_true rfl) ?_
  have hb := hP.day.blocks.one
  have hw := hP.day.walk.one
  have hs := hP.segs.one
  have hk := hP.known.one
  have hq : one q = true := SlR.one hP.quest
  simp [a99, r99, hb, hw, hs, hk, hq]
  have G0 : Ge H (H.new (.cells true (planCells D b w s k q) 13)) := Ge.new _ _
  refine fcall_fun (dutiesThat_spec (p := legalN D K) (hP.ge G0) hV fun A m gA h0 hlt => ?_) ?_
  · refine ACall.of_fun ?_
    exact isLegal_spec (hP.ge (G0.trans gA)) hV hK hlt h0
  rintro r B ⟨o, g⟩
  simp
  exact ⟨o.lower (by simp), G0.trans g⟩

end

end Go.Proofs.YtllkhaabcfnlpaaDoor


namespace Go.Proofs.YtllkhaabcfnlpaaDoor
open Go Go.Ab

section
variable {P : Program} {t : Nat → Value} {H : Heap} {N x y : Nat} {d : Option Tmp} {T U ty : TypeId} {pos : String} {af : Array Edge} {g : Option (Nat × Bool)}
theorem wrap_i64n {p : Nat} (h : p < 2 ^ 62) : IntKind.i64.wrap (p : Int) = (p : Int) := wrap_i64 (by omega) (by omega)
end

def bitsI (l : List Nat) : List Int := l.map fun (x : Nat) => (x : Int)
def setR (n m : Nat) : List Int := bitsI (bitsFrom n m 0)
theorem bitsUp {m j : Nat} : bitsFrom (j + 1) m 0 = if m.testBit j then bitsFrom j m 0 ++ [j] else bitsFrom j m 0 := by
  unfold bitsFrom
  simp only [Nat.sub_zero]
  rw [List.range'_concat, List.filter_append]
  simp only [Nat.zero_add, Nat.one_mul]
  cases hp : m.testBit j <;> simp [hp]
theorem setR_step {m j : Nat} : setR (j + 1) m = if m.testBit j then setR j m ++ [(j : Int)] else setR j m := by
  unfold setR
  rw [bitsUp]
  cases hp : m.testBit j <;> simp [bitsI]
theorem setR_length {n m : Nat} : (setR n m).length ≤ n := by
  have := List.length_filter_le (fun x => m.testBit x) (List.range' 0 (n - 0))
  simpa [setR, bitsI, bitsFrom] using this
end Go.Proofs.YtllkhaabcfnlpaaDoor


namespace Go.Proofs.YtllkhaabcfnlpaaDoor
open Go Go.Ab

theorem setR_mem {n m : Nat} {x : Int} : x ∈ setR n m ↔ ∃ s : Nat, x = (s : Int) ∧ s < n ∧ m.testBit s = true := by
  unfold setR bitsI
  rw [List.mem_map]
  constructor
  · rintro ⟨s, hs, rfl⟩; exact ⟨s, rfl, bitsFrom_mem.1 hs⟩
  · rintro ⟨s, rfl, hs⟩; exact ⟨s, bitsFrom_mem.2 hs, rfl⟩
theorem setR_has {n m s : Nat} : (s : Int) ∈ setR n m ↔ s < n ∧ m.testBit s = true := by
  rw [setR_mem]
  constructor
  · rintro ⟨s', h, h2⟩
    have : s = s' := by omega
    subst this; exact h2
  · exact fun h => ⟨s, rfl, h⟩
theorem bit_lt {m n i : Nat} (hm : m < 2 ^ n) (hi : m.testBit i = true) : i < n := by
  refine Nat.lt_of_not_le fun hle => ?_
  have : m < 2 ^ i := Nat.lt_of_lt_of_le hm (Nat.pow_le_pow_right (n := 2) (by omega) hle)
  rw [Nat.testBit_lt_two_pow this] at hi
  cases hi
theorem setR_mask {n m : Nat} (h : m < 2 ^ n) : maskL (setR n m) = m := by
  refine Nat.eq_of_testBit_eq fun i => ?_
  rw [maskL_bit, Bool.eq_iff_iff, List.any_eq_true]
  constructor
  · rintro ⟨x, hx, he⟩
    obtain ⟨s, rfl, _, hs⟩ := setR_mem.1 hx
    have : s = i := by simpa using he
    rw [← this]; exact hs
  · intro hi
    exact ⟨(i : Int), setR_has.2 ⟨bit_lt h hi, hi⟩, by simp⟩
theorem rise_duty {n : Nat} {l : List Nat} (h : l.Pairwise (· < ·)) (hb : ∀ x ∈ l, x < n) (h0 : l ≠ []) : isDutyB n (bitsI l) = true := by
  unfold isDutyB riseB
  have hl : (bitsI l).length = l.length := by simp [bitsI]
  rw [Bool.and_eq_true, List.all_eq_true, decide_eq_true_eq]
  refine ⟨fun j hj => ?_, by rw [hl]; exact List.length_pos_iff.2 h0⟩
  rw [List.mem_range, hl] at hj
  have e1 : (bitsI l)[j]?.getD 0 = (l[j] : Int) := by simp [bitsI, hj]
  have hlt := hb l[j] (List.getElem_mem hj)
  unfold riseAt
  rw [e1, Bool.and_eq_true, decide_eq_true_eq, decide_eq_true_eq]
  refine ⟨?_, by omega⟩
  unfold lastAt
  by_cases hj0 : j = 0
  · simp [hj0]
  have hj1 : j - 1 < l.length := by omega
  have e2 : (bitsI l)[j - 1]?.getD 0 = (l[j - 1] : Int) := by simp [bitsI, hj1]
  rw [if_neg hj0, e2]
  have := List.pairwise_iff_getElem.1 h (j - 1) j hj1 hj (by omega)
  omega
theorem setR_duty {n m : Nat} (h0 : m ≠ 0) (h : m < 2 ^ n) : isDutyB n (setR n m) = true := by
  refine rise_duty bitsFrom_rise (fun x hx => (bitsFrom_mem.1 hx).1) fun e => h0 ?_
  refine Nat.eq_of_testBit_eq fun i => ?_
  rw [Nat.zero_testBit]
  cases hi : m.testBit i
  · rfl
  · have := bitsFrom_mem.2 ⟨bit_lt h hi, hi⟩
    rw [e] at this; cases this

end Go.Proofs.YtllkhaabcfnlpaaDoor


namespace Go.Proofs.YtllkhaabcfnlpaaDoor
open Go Go.Ab

theorem own_S {A : Heap} {lo : Nat} {u : Value} {l : List Int} (h : OwnSl A lo u (l.map (.int .i64))) : OwnS A lo 1 u l.length (l.flatMap iCell) := by
  rw [iCell_flat]
  rcases h with ⟨rfl, h0⟩ | ⟨n, cap, c, rfl, k1, k2, k3, k4, k5⟩
  · have h00 : l.length = 0 := by have := congrArg List.length h0; simpa using this
    exact .inl ⟨rfl, h00, h0⟩
  · exact .inr ⟨n, cap, c, by simp, k1, k2, k3, by simp, by simpa using k4, by omega⟩

def rowOf (d : Nat) : List Int := bitsI (bitsL d)
theorem rowOf_length {d : Nat} : (rowOf d).length ≤ 10 := by
  have := List.length_filter_le (fun x => d.testBit x) (List.range' 0 10)
  simpa [rowOf, bitsI, bitsL, bitsFrom] using this

theorem first_mem {L : List Nat} {pay : Nat → Int} (hL : SetsOk L) {m : Nat} (hf : (choose L pay m).first ≠ 0) : (choose L pay m).first ∈ L ∧ diffN (choose L pay m).first m = 0 := by
  have h0 : m ≠ 0 := fun e => by subst e; rw [choose_zero] at hf; exact hf rfl
  rcases choose_made hL h0 with e | ⟨_, d, hd, hs, _, e⟩
  · rw [e] at hf; exact absurd rfl hf
  have ef : (choose L pay m).first = d := by rw [e]; rfl
  rw [ef]
  exact ⟨(List.mem_filter.1 hd).1, hs⟩

theorem plan_spec {L : List Nat} {pay : Nat → Int} {mk m : Nat} {H : Heap} {f : Nat → Option Value} (hL : SetsOk L) (hm10 : m < 1024) (hK : KnownC H L pay mk f) (hmk : mk < H.next) (hf : (f m).isSome = true) (hG : Gl H) :
    AFun Tryd.prog 106 [bitsV m, .map (some mk)] H (fun r B => RowsAt B r ((planOf L pay m).map rowOf) ∧ Ge H B) := by
  refine AFun.mk ok106 hm (Nat.le_of_ble_eq_true rfl) ?_
  simp [a106, r106]
  refine floop_intro (fun z => z.d = [] ∧ Ge H z.H ∧ H.next ≤ z.H.next ∧ z.t 1 = .map (some mk) ∧ ∃ (left : Nat) (done : List Nat), z.t 6 = bitsV left ∧ done.length + left ≤ m ∧ planOf L pay m = done ++ planOf L pay left ∧ (f left).isSome = true ∧ RowsG 1 iCell z.H H.next (fun _ => False) (z.t 5) (done.map rowOf)) (fun z => (intOf (z.t 6)).toNat) ?_ ?_
  · refine ⟨rfl, by simp, by simp, by simp, m, [], by simp, by simp, by simp, hf, ?_⟩
    exact ⟨⟨[], .inr ⟨H.next, 0, 0, by simp, Nat.le_refl _, by simp, by simp, by simp, by simp⟩, rfl, fun k hk => by simp at hk⟩, fun _ _ h => h⟩
  rintro ⟨t, _, A⟩ ⟨rfl, g, hn, t1, left, done, t6, hdl, hpl, hfl, hR⟩
  dsimp only at g hn t1 t6 hR
  generalize t5 : t 5 = v5 at hR
  have hval : f left = some (chV (choose L pay left)) := by
    obtain ⟨v, hv⟩ := Option.isSome_iff_exists.1 hfl
    rw [hv, (hK.val left v hv).1]
  have hcl := (hK.val left _ hval).2
  have hlk : ∀ X : Heap, X.get mk = H.get mk → lk1H Tryd.prog 102 (.agg #[.int .u64 0, .int .i64 0, .int .i64 0, .bool false]) X (bitsV left) (.map (some mk)) = some (chV (choose L pay left)) := fun X hX => by
    rw [(hK.map.keep hX).lk1 flat_ch0, hval]; rfl
  have hA := hlk A (g.get _ hmk)
  simp [t1, t6, hA]
  by_cases hz : (choose L pay left).first = 0
  · rw [planOf_end hz, List.append_nil] at hpl
    simp [hz, t5]
    rw [hpl]
    refine ⟨rows_done hR (by simp; omega) fun r hr => ?_, g⟩
    obtain ⟨d, _, rfl⟩ := List.mem_map.1 hr
    have := rowOf_length (d := d); omega
  obtain ⟨hfL, hsub⟩ := first_mem hL hz
  obtain ⟨hp1, hp2⟩ := planOf_step hL (pay := pay) hz
  have hf10 := (hL _ hfL).2
  have hcl2 := hcl hz
  have hl10 : left < 1024 := by omega
  generalize choose L pay left = c at *
  simp [hz, t5, t1, t6, hA]
  refine fcall_fun (setList_spec hf10 (hG.ge g)) ?_
  rintro u B ⟨ou, gB⟩
  have hu1 := ou.one
  have nB := gB.next
  simp [hu1, one_cells]
  have gB2 : Ge A (B.new (.cells true [u] 1)) := gB.newOf _
  have hR2 : RowsG 1 iCell (B.new (.cells true [u] 1)) H.next (fun _ => False) v5 (done.map rowOf) := hR.keep gB2.next (fun n _ hn _ => gB2.get n hn) (fun _ _ hf => hf)
  have hou : OwnSl (B.new (.cells true [u] 1)) H.next u ((rowOf c.first).map (.int .i64)) := by
    have e : (rowOf c.first).map (Value.int .i64) = intL (bitsL c.first) := by simp [rowOf, bitsI]
    rw [e]
    exact (ou.ge (Ge.new _ _)).lower hn
  refine hR2.push (r := rowOf c.first) (x := u) (X' := fun _ => False) (own_S hou) (fun m hm => ⟨fun e => ?_, fun hf => hf⟩) (fun m hf => hf.elim) (slCells_new (rw := true) (c := 1) (by simp)) (by simp; omega) (by simp) (by omega) (by simp; omega) fun u' C k1 k2 k3 k4 => ?_
  · have := (ou.names hm).1
    have := (hR.names e).2
    omega
  have h3 : ∀ m, slName v5 = some m → H.next ≤ m := fun m hm => (hR.names hm).1
  have gC : Ge H C := by
    refine ⟨by omega, fun n hn => ?_⟩
    have e1 : n ≠ B.next := by omega
    rw [k4 n (by omega) (fun e => by have := h3 n e; omega)]
    simp [e1, gB.get n (by omega), g.get n hn]
  have hC := hlk C (gC.get _ hmk)
  simp [t1, t6, hC]
  rw [aval_diff (a := left) (b := c.first) (by simp) (by simp) (by decide) (by decide) (by omega) (by omega)]
  simp
  exact ⟨⟨gC, by omega, t1, diffN left c.first, rfl, done ++ [c.first], by simp; omega, by rw [hpl, hp1]; simp, hcl2, by simpa using k1⟩, by rw [t6]; simp; exact hp2⟩

end Go.Proofs.YtllkhaabcfnlpaaDoor


namespace Go.Proofs.YtllkhaabcfnlpaaDoor
open Go Go.Ab

theorem _root_.Go.Ab.IntsAt.atAll {H : Heap} {v : Value} {xs : List Int} (h : IntsAt H v xs) {i : Nat} (hi : i < xs.length) : ∃ p, islV 1 v (.int .i64 i) = some p ∧ ∀ A, Ge H A → ldV A false 1 p = some (.int .i64 xs[i]) := by
  obtain ⟨p, h1, _⟩ := h.at hi
  refine ⟨p, h1, fun A g => ?_⟩
  obtain ⟨q, h2, h3⟩ := (h.ge g).at hi
  rw [h1] at h2; cases h2; exact h3

def tOk (r : List Rl) (ts : List Int) (i : Nat) : Bool := (decide ((r[i]?.getD ⟨0, 0, 0⟩).lo ≤ ts[i]?.getD 0) && decide (ts[i]?.getD 0 ≤ (r[i]?.getD ⟨0, 0, 0⟩).hi)) && (decide (i = 0) || decide (ts[i - 1]?.getD 0 ≤ ts[i]?.getD 0))
def truthOf (r : List Rl) (ts : List Int) : Bool := decide (ts.length = r.length) && (List.range r.length).all (tOk r ts)
def truthD (D : Dy) (T : List (List Int)) : Bool := decide (T.length = D.blocks.length) && (List.range D.blocks.length).all fun i => truthOf (D.blocks[i]?.getD []) (T[i]?.getD [])

theorem all_no {n i : Nat} {p : Nat → Bool} (hi : i < n) (h : p i = false) : (List.range n).all p = false := by
  rw [← Bool.not_eq_true, List.all_eq_true]
  intro hall
  have := hall i (by simpa using hi)
  rw [h] at this; cases this
theorem all_yes {n : Nat} {p : Nat → Bool} (h : ∀ k, k < n → p k = true) : (List.range n).all p = true := by
  rw [List.all_eq_true]
  intro k hk
  exact h k (by simpa using hk)

theorem truthOf_spec {H : Heap} {v u : Value} {r : List Rl} {ts : List Int} (hv : RelsAt H v r) (hu : IntsAt H u ts) (h0 : ∀ x ∈ r, 0 ≤ x.lo) : AFun Tryd.prog 92 [v, u] H (fun q B => q = .bool (truthOf r ts) ∧ Ge H B) := by
  refine AFun.mk ok92 hm (Nat.le_of_ble_eq_true rfl) ?_
  have h62 := hv.2
  unfold truthOf
  simp [a92, r92, hv.lenV, hu.lenV]
  by_cases hl : ts.length = r.length
  case neg =>
    have hl2 : ¬ (ts.length : Int) = r.length := by omega
    simp [hl, hl2]
  have hl2 : (ts.length : Int) = r.length := by omega
  simp [hl, hl2, hv.lenV]
  refine floop_intro (fun z => z.d = [] ∧ Ge H z.H ∧ z.t 1 = u ∧ z.t 13 = v ∧ z.t 14 = .int .i64 r.length ∧ ∃ i : Nat, i ≤ r.length ∧ z.t 15 = .int .i64 i ∧ z.t 5 = .int .i64 (if i = 0 then 0 else ts[i - 1]?.getD 0) ∧ ∀ k, k < i → tOk r ts k = true) (fun z => r.length - (intOf (z.t 15)).toNat) ?_ ?_
  · exact ⟨rfl, by simp, by simp, by simp, by simp, 0, by simp, by simp, by simp, fun k hk => by omega⟩
  rintro ⟨t, _, A⟩ ⟨rfl, g, t1, t13, t14, i, hi, t15, t5, hall⟩
  dsimp only at g t1 t13 t14 t15 t5
  simp [t14, t15]
  refine fcond_intro (fun hc => ?_) (fun hc => ?_)
  case refine_2 =>
    have h1 : i = r.length := by simp at hc; omega
    subst h1
    have := all_yes hall
    simp only [List.all_eq_true, List.mem_range] at this
    simp [g]
    exact ⟨hl, this⟩
  have h1 : i < r.length := by simpa using hc
  have h2 : i < ts.length := by omega
  obtain ⟨n, o, e1, ln, e2, _⟩ := (hv.ge g).at h1
  obtain ⟨q, f1, f2⟩ := hu.atAll h2
  have gn : Ge A ((A.new (.cells true [.int .i64 0, .int .i64 0, .int .i64 0] 3)).set A.next (.cells true [.int .i64 r[i].place, .int .i64 r[i].lo, .int .i64 r[i].hi] 3)) := (Ge.new _ _).setNew (Nat.le_refl _) _
  have gn15 : Ge H (⟨((A.new (.cells true [.int .i64 0, .int .i64 0, .int .i64 0] 3)).set A.next (.cells true [.int .i64 r[i].place, .int .i64 r[i].lo, .int .i64 r[i].hi] 3)).get, A.next + 15⟩ : Heap) := Ge.grow_le (by have := g.next; omega) (g.trans gn)
  have f2' := f2 _ gn15
  simp [t1, t13, t15, t5, e1, e2, Rl.val, f1, f2']
  rw [aval_max (k := .i64) (m := if i = 0 then 0 else ts[i - 1]?.getD 0) (n := r[i].lo) (by simp [t5]) (by simp) (by decide) (by decide)]
  simp
  refine fcall_fun (within_spec _ _ _ _) ?_
  rintro _ _ ⟨rfl, rfl⟩
  have hlo := h0 _ (List.getElem_mem h1)
  have hok : (decide (max (if i = 0 then 0 else ts[i - 1]?.getD 0) r[i].lo ≤ ts[i]) && decide (ts[i] ≤ r[i].hi)) = tOk r ts i := by
    unfold tOk
    simp only [h1, h2, List.getElem?_eq_getElem, Option.getD_some]
    rw [Bool.eq_iff_iff]
    simp only [Bool.and_eq_true, Bool.or_eq_true, decide_eq_true_eq]
    by_cases hz : i = 0
    · simp only [hz, if_true, true_or, and_true]
      subst hz
      omega
    · simp only [hz, if_false, false_or]
      omega
  rw [hok]
  cases hb : tOk r ts i
  · have := all_no (n := r.length) h1 hb
    have h3 : ∃ x, x < r.length ∧ tOk r ts x = false := ⟨i, h1, hb⟩
    simp
    exact ⟨fun _ => h3, gn15⟩
  · simp [t1, f1, f2', t15, add_in (x := i) (y := 1) (by omega) (by omega)]
    refine ⟨⟨gn15, t13, t14, i + 1, by omega, by omega, by simp [h2], fun k hk => ?_⟩, by omega⟩
    by_cases hk2 : k = i
    · subst hk2; exact hb
    · exact hall k (by omega)

end Go.Proofs.YtllkhaabcfnlpaaDoor


namespace Go.Proofs.YtllkhaabcfnlpaaDoor
open Go Go.Ab

end Go.Proofs.YtllkhaabcfnlpaaDoor


namespace Go.Proofs.YtllkhaabcfnlpaaDoor
open Go Go.Ab

def payN (D : Dy) (d : Nat) : Int := payOf D (known0 D) (piecesL D d)
theorem payN_bounds {D : Dy} (hV : Valid D) (d : Nat) : 0 ≤ payN D d ∧ payN D d ≤ 100000 := by
  have h1 := law_bounds hV
  have hK : ∀ b n, (0 ≤ (kAt (known0 D) b n).1 ∧ (kAt (known0 D) b n).1 ≤ 3000) ∧ (0 ≤ (kAt (known0 D) b n).2 ∧ (kAt (known0 D) b n).2 ≤ 3000) := fun b n => by
    have hb := (known0_ok hV).bound
    unfold kAt
    cases hx : (known0 D)[b]? with
    | none => simp
    | some x =>
      cases hy : x[n]? with
      | none => simp [hy]
      | some y =>
        have := hb x (List.mem_of_getElem? hx) y (List.mem_of_getElem? hy)
        simpa [hy] using this
  unfold payN payOf spreadOf
  have h2 := hK ((piecesL D d)[(piecesL D d).length - 1]?.getD fz).e ((piecesL D d)[(piecesL D d).length - 1]?.getD fz).t
  have h3 := hK ((piecesL D d)[0]?.getD fz).b ((piecesL D d)[0]?.getD fz).f
  omega
theorem LL_ok {D : Dy} (hV : Valid D) : SetsOk (legalL D (known0 D)) := fun d hd => by
  have h := (passL_mem.1 hd).1
  have := (pow_segN hV).2
  omega
theorem LL_len {D : Dy} (hV : Valid D) : (legalL D (known0 D)).length ≤ 1024 := Nat.le_trans passL_length (pow_segN hV).2

structure Begs (A : Heap) (lo : Nat) (L : List Nat) (f : Nat → Option Value) : Prop where
  own : ∀ i, i < 10 → OwnSl A lo ((f (2 ^ i)).getD (.slice none 0 0)) ((L.filter fun d => low d == i).map bitsV)
  apart : ∀ i j n, i < 10 → j < 10 → i ≠ j → slName ((f (2 ^ i)).getD (.slice none 0 0)) = some n → slName ((f (2 ^ j)).getD (.slice none 0 0)) ≠ some n

section
variable {A B : Heap} {lo : Nat} {L : List Nat} {f : Nat → Option Value}
theorem Begs.keep (h : Begs A lo L f) (hn : A.next ≤ B.next) (hk : ∀ n, lo ≤ n → n < A.next → (∃ b cs c, A.get n = .cells b cs c) → B.get n = A.get n) : Begs B lo L f := by
  refine ⟨fun i hi => (h.own i hi).keep hn fun n hs => ?_, h.apart⟩
  have hnm := (h.own i hi).names hs
  refine hk n hnm.1 hnm.2 ?_
  rcases h.own i hi with ⟨e, _⟩ | ⟨m, cap, c, e, h1, h2, h3, _⟩
  · rw [e] at hs; cases hs
  · rw [e] at hs; cases hs
    exact ⟨_, _, _, h3⟩
theorem pow_inj {i j : Nat} (h : 2 ^ i = 2 ^ j) : i = j := (Nat.pow_right_inj (by omega : 1 < 2)).1 h
theorem Begs.push {d n : Nat} {u : Value} (h : Begs A lo L f) (_hd : low d < 10) (hu : OwnSl B lo u (((L.filter fun x => low x == low d).map bitsV) ++ [bitsV d])) (hun : slName u = some n) (hn : A.next ≤ n) (hnext : A.next ≤ B.next)
    (hk : ∀ m, lo ≤ m → m < A.next → slName ((f (2 ^ low d)).getD (.slice none 0 0)) ≠ some m → B.get m = A.get m) : Begs B lo (L ++ [d]) (putF f (2 ^ low d) u) := by
  have hsame : ∀ j, j = low d → (putF f (2 ^ low d) u (2 ^ j)).getD (.slice none 0 0) = u := fun j e => by subst e; simp [putF]
  have hother : ∀ j, j ≠ low d → (putF f (2 ^ low d) u (2 ^ j)).getD (.slice none 0 0) = (f (2 ^ j)).getD (.slice none 0 0) := fun j e => by
    have : ¬ 2 ^ j = 2 ^ low d := fun e2 => e (pow_inj e2)
    simp [putF, this]
  refine ⟨fun j hj => ?_, fun i j m hi hj hij hm => ?_⟩
  · rw [List.filter_append, List.map_append]
    by_cases e : j = low d
    · rw [hsame j e, e]
      simpa using hu
    · rw [hother j e]
      have e2 : ¬ low d = j := fun e3 => e e3.symm
      simp only [List.filter_cons, List.filter_nil, beq_iff_eq, e2, if_false, List.map_nil, List.append_nil]
      exact (h.own j hj).keep hnext fun m hs => hk m ((h.own j hj).names hs).1 ((h.own j hj).names hs).2 fun e3 => h.apart j (low d) m hj _hd e hs e3
  · by_cases e1 : i = low d
    · rw [hsame i e1, hun] at hm
      have e2 : j ≠ low d := fun e2 => hij (e1.trans e2.symm)
      rw [hother j e2]
      cases hm
      intro hs
      have := ((h.own j hj).names hs).2
      omega
    · rw [hother i e1] at hm
      by_cases e2 : j = low d
      · rw [hsame j e2, hun]
        intro hs
        cases hs
        have := ((h.own i hi).names hm).2
        omega
      · rw [hother j e2]; exact h.apart i j m hi hj hij hm

theorem _root_.Go.Ab.SlR.same {sz len : Nat} {v : Value} {cs : List Value} (h : SlR A sz v len cs) (hn : A.next ≤ B.next) (hk : ∀ n, n < A.next → (∃ b cs c, A.get n = .cells b cs c) → B.get n = A.get n) : SlR B sz v len cs := by
  refine ⟨?_, fun a n c e => Nat.lt_of_lt_of_le (h.2 a n c e) hn⟩
  rcases h.cases with ⟨rfl | rfl, rfl, rfl⟩ | ⟨n, o, cap, rw, ds, c, rfl, hg, hr⟩
  · rfl
  · rfl
  · simp only [slCells, hk n (h.2 _ _ _ rfl) ⟨_, _, _, hg⟩, hg, hr, Option.map_some]
end

theorem best_spec {D : Dy} {b w s k q : Value} {H : Heap} (hP : PlanAt H b w s k q D (known0 D)) (hV : Valid D) (hG : Gl H) :
    AFun Tryd.prog 80 [planV D b w s k q] H (fun r B => ∃ v, r = .tuple #[v, .int .i64 (choose (legalL D (known0 D)) (payN D) (2 ^ segN D - 1)).pay, .bool (choose (legalL D (known0 D)) (payN D) (2 ^ segN D - 1)).ok] ∧ RowsAt B v ((planOf (legalL D (known0 D)) (payN D) (2 ^ segN D - 1)).map rowOf) ∧ Ge H B) := by
  refine AFun.mk ok80 hm (Nat.le_of_ble_eq_true rfl) ?_
  have hb := hP.day.blocks.one
  have hw := hP.day.walk.one
  have hs := hP.segs.one
  have hk := hP.known.one
  have hq : one q = true := SlR.one hP.quest
  obtain ⟨hp1, hp2⟩ := pow_segN hV
  simp [a80, r80, hb, hw, hs, hk, hq]
  generalize hH1 : Heap.set _ (H.next + 4) _ = H1
  have g1 : Ge H H1 := by
    rw [← hH1]
    exact (((((Ge.new _ _).newOf _).newOf _).setNew (by simp) _).newOf _).newOf _ |>.setNew (by simp) _
  have n1 : H1.next = H.next + 5 := by rw [← hH1]; simp
  have k0 : H1.get H.next = .cells true (planCells D b w s k q) 13 := by rw [← hH1]; simp
  have k1 : H1.get (H.next + 1) = .map [] 0 := by rw [← hH1]; simp
  have k2 : H1.get (H.next + 2) = .cells true [.map (some (H.next + 1))] 1 := by rw [← hH1]; simp
  have k3 : H1.get (H.next + 3) = .map [] 0 := by rw [← hH1]; simp
  have k4 : H1.get (H.next + 4) = .cells true [.map (some (H.next + 3))] 1 := by rw [← hH1]; simp
  clear hH1
  refine fcall_fun (legalDuties_spec (hP.ge g1) hV (known0_ok hV)) ?_
  rintro v H2 ⟨o2, g2⟩
  have n2 := g2.next
  replace k0 := g2.got (by omega) k0
  replace k1 := g2.got (by omega) k1
  replace k2 := g2.got (by omega) k2
  replace k3 := g2.got (by omega) k3
  replace k4 := g2.got (by omega) k4
  have G2 := g1.trans g2
  have hsl := o2.slr
  simp only [List.length_map] at hsl
  have hLok := LL_ok hV
  have hLlen := LL_len hV
  have hLd : ∀ d ∈ legalL D (known0 D), d < 2 ^ segN D := fun d hd => (passL_mem.1 hd).1.2
  simp [hsl.lenV]
  generalize hLL : legalL D (known0 D) = L at *
  refine floop_intro (fun z => z.d = [] ∧ H2.next ≤ z.H.next ∧ (∀ n, n < H2.next → n ≠ H.next + 1 → n ≠ H.next + 3 → z.H.get n = H2.get n) ∧ z.t 1 = .pointer (some ⟨H.next, 0, none⟩) ∧ z.t 5 = .pointer (some ⟨H.next + 2, 0, none⟩) ∧ z.t 6 = .pointer (some ⟨H.next + 4, 0, none⟩) ∧ z.t 15 = v ∧ z.t 16 = .int .i64 (L.length : Int) ∧
    ∃ (i : Nat) (fp fb : Nat → Option Value), i ≤ L.length ∧ z.t 17 = .int .i64 (i : Int) ∧ MapFn z.H (H.next + 1) fp ∧ (∀ d ∈ L.take i, fp d = some (.int .i64 (payN D d))) ∧ MapFn z.H (H.next + 3) fb ∧ Begs z.H H2.next (L.take i) fb) (fun z => L.length - (intOf (z.t 17)).toNat) ?_ ?_
  · refine ⟨rfl, Nat.le_refl _, fun n _ _ _ => rfl, by simp, by simp, by simp, by simp, by simp, 0, fun _ => none, fun _ => none, by omega, by simp, MapFn.empty k1, fun d hd => by simp at hd, MapFn.empty k3, ⟨fun i _ => .inl ⟨rfl, rfl⟩, fun i j n _ _ _ h => by cases h⟩⟩
  rintro ⟨t, _, A⟩ ⟨rfl, hn, hkeep, t1, t5, t6, t15, t16, i, fp, fb, hi, t17, hmp, hfp, hmb, hbg⟩
  dsimp only at hn hkeep t1 t5 t6 t15 t16 t17 hmp hmb hbg
  have a0 := (hkeep H.next (by omega) (by omega) (by omega)).trans k0
  have a2 := (hkeep (H.next + 2) (by omega) (by omega) (by omega)).trans k2
  have a4 := (hkeep (H.next + 4) (by omega) (by omega) (by omega)).trans k4
  have hslA : SlR A 1 v L.length (L.map bitsV) := hsl.same hn fun n h1 ⟨_, _, _, h2⟩ => hkeep n h1 (fun e => by rw [e, k1] at h2; cases h2) (fun e => by rw [e, k3] at h2; cases h2)
  have gA : Ge H A := ⟨by omega, fun n h => (hkeep n (by have := G2.next; omega) (by omega) (by omega)).trans (G2.get n h)⟩
  simp [t16, t17]
  refine fcond_intro (fun hc => ?_) (fun hc => ?_)
  case refine_2 =>
    have : i = L.length := by simp at hc; omega
    subst this
    rw [List.take_length] at hfp hbg
    have zp : MapFn (A.new (.map [] 0)) A.next fun _ => none := MapFn.empty (by simp)
    obtain ⟨x, hx1, hx2⟩ := zp.put 0 (chV ⟨0, 0, 0, true⟩)
    have hx3 : mupH Tryd.prog 102 (A.new (.map [] 0)) (.int .u64 0) (.agg #[.int .u64 0, .int .i64 0, .int .i64 0, .bool true]) (.map (some A.next)) = some ((A.new (.map [] 0)).set A.next x) := hx1
    simp [hx3, t5, t6]
    have y0 : H.next ≠ A.next := by omega
    have y1 : H.next ≠ A.next + 1 := by omega
    have y2 : H.next ≠ A.next + 2 := by omega
    simp [t1, a0, y0, y1, y2]
    have gX : ∀ (c : AObj), Ge A (({ get := ((((((A.new (AObj.map [] 0)).set A.next x).new (AObj.cells true [Value.map none] 1)).set (A.next + 1) (AObj.cells true [Value.map (some A.next)] 1)).new (AObj.cells true [Value.nilFunc] 1)).set (A.next + 2) (AObj.cells true [Value.func (Fn.func 104) #[] #[.pointer (some ⟨A.next + 1, 0, none⟩), .pointer (some ⟨H.next + 4, 0, none⟩), .pointer (some ⟨A.next + 2, 0, none⟩), .pointer (some ⟨H.next + 2, 0, none⟩)]] 1)).get, next := A.next + 9 } : Heap).set (A.next + 7) c) := fun c => by
      refine Ge.setNew (Ge.grow_le (by omega) ?_) (by omega) _
      exact (((((Ge.new A _).setNew (Nat.le_refl _) _).newOf _).setNew (by omega) _).newOf _).setNew (by omega) _
    refine fcall_fun (all_spec (hP.ge (gA.trans (gX _))) hV) ?_
    rintro _ C ⟨rfl, gC⟩
    have nC := gC.next
    simp at nC
    have gAC := (gX _).trans gC
    have ck := gC.got (n := A.next) (by simp) rfl
    have c1 := gC.got (n := A.next + 1) (by simp) rfl
    have c3 := gC.got (n := A.next + 2) (by simp) rfl
    have c7 := gC.got (n := A.next + 7) (by simp) rfl
    simp at ck c1 c3 c7
    clear gX gC
    have c0 := gAC.got (n := H.next) (by omega) a0
    have c2 := gAC.got (n := H.next + 2) (by omega) a2
    have c4 := gAC.got (n := H.next + 4) (by omega) a4
    have gHC := gA.trans gAC
    have hK : KnownC C L (payN D) A.next (putF (fun _ => none) 0 (chV ⟨0, 0, 0, true⟩)) := by
      refine ⟨hx2 _ ck, by simp [putF], fun k v hv => ?_⟩
      unfold putF at hv
      by_cases e : k = 0
      · subst e
        rw [choose_zero]
        rw [if_pos rfl] at hv
        exact ⟨(Option.some.inj hv).symm, fun h => absurd rfl h⟩
      · rw [if_neg e] at hv; cases hv
    have hS : Sit C L (payN D) (A.next + 1) (H.next + 4) (A.next + 2) (H.next + 2) A.next (H.next + 3) (H.next + 1) := by
      refine ⟨c1, c4, c3, c2, by omega, by omega, ⟨fp, hmp.ge gAC (by omega), hfp⟩, ⟨fb, hmb.ge gAC (by omega), fun j hj => ?_⟩⟩
      have := ((hbg.own j hj).ge gAC).slr
      simpa using this
    have hpay : ∀ d ∈ L, 0 ≤ payN D d ∧ payN D d ≤ 100000 := fun d _ => payN_bounds hV d
    simp [t1, c0, c3]
    refine fcall_intro ((ACall.of_fun (R := fun r B => r = chV (choose L (payN D) (2 ^ segN D - 1)) ∧ GeX A.next C B ∧ ∃ f', KnownC B L (payN D) A.next f' ∧ (∀ k, (putF (fun _ => none) 0 (chV ⟨0, 0, 0, true⟩) k).isSome = true → (f' k).isSome = true) ∧ (f' (2 ^ segN D - 1)).isSome = true) (by simpa using chooseF_spec hLok hpay hLlen (2 ^ segN D - 1) (by omega) C _ hS hK)).mono ?_)
    rintro _ E ⟨rfl, gE, f2, hK2, _, hsome⟩
    have nE := gE.next
    have e0 := (gE.get H.next (by omega) (by omega)).trans c0
    have e1 := (gE.get (A.next + 1) (by omega) (by omega)).trans c1
    have e7 := (gE.get (A.next + 7) (by omega) (by omega)).trans c7
    have gHE : Ge H E := ⟨by have := gHC.next; omega, fun n hn => (gE.get n (by have := gHC.next; omega) (by omega)).trans (gHC.get n hn)⟩
    generalize hch : choose L (payN D) (2 ^ segN D - 1) = c at *
    have y7 : H.next ≠ A.next + 7 := by omega
    have y7k : A.next ≠ A.next + 7 := by omega
    simp [t1, e7, e0, e1, y7]
    have gX : Ge H ({ get := (E.set (A.next + 7) (.cells true (chC c) 4)).get, next := E.next + 11 } : Heap) := Ge.grow_le (by have := gHE.next; omega) (gHE.setNew (by omega) _)
    refine fcall_fun (all_spec (hP.ge gX) hV) ?_
    rintro _ F ⟨rfl, gF⟩
    have nF := gF.next
    simp at nF
    have f0 := gF.got (n := H.next) (by simp; omega) (by simp [y7]; exact e0)
    have f1 := gF.got (n := A.next + 1) (by simp; omega) (by simp; exact e1)
    have f7 := gF.got (n := A.next + 7) (by simp; omega) rfl
    simp at f7
    have hK3 : KnownC F L (payN D) A.next f2 := hK2.keep ((gF.get A.next (by simp; omega)).trans (by simp [y7k]))
    have gHF := gX.trans gF
    simp [t1, f0, f1, f7]
    refine fcall_fun (plan_spec hLok (by omega) hK3 (by omega) hsome (hG.ge gHF)) ?_
    rintro r R ⟨hr, gR⟩
    have r7 := gR.got (n := A.next + 7) (by omega) f7
    simp [f7, r7]
    exact ⟨hr, gHF.trans gR⟩
  have h1 : i < L.length := by simpa using hc
  obtain ⟨p, e1, e2⟩ := hslA.at1 (k := .i64) (i := i) (by simpa using h1)
  have e3 : (L.map bitsV)[i]? = some (bitsV L[i]) := by simp [h1]
  rw [e3] at e2
  have hdL := List.getElem_mem h1
  have hd0 := hLok _ hdL
  have hdn := hLd _ hdL
  have htk : L.take (i + 1) = L.take i ++ [L[i]] := List.take_succ_eq_append_getElem h1
  generalize L[i] = d at *
  simp [t1, t5, t15, t17, e1, e2, a0, a2]
  refine fcall_fun (pay_spec (hP.ge (gA.grow 6)) hV (known0_ok hV) hdn hd0.1) ?_
  rintro _ B ⟨rfl, gB⟩
  have nB := gB.next
  simp only at nB
  have hd10 : d < 1024 := hd0.2
  have b0 := gB.got (n := H.next) (by simp; omega) a0
  have b2 := gB.got (n := H.next + 2) (by simp; omega) a2
  have b4 := gB.got (n := H.next + 4) (by simp; omega) a4
  obtain ⟨x, hx1, hx2⟩ := (hmp.keep (B := B) (gB.get _ (by simp; omega))).put d (.int .i64 (payN D d))
  have hpd : payOf D (known0 D) (piecesL D d) = payN D d := rfl
  simp [t1, t5, b0, b2, hpd, hx1, t6, b4]
  refine fcall_fun (lowest_spec hd0.1 hd10 _) ?_
  rintro _ C ⟨rfl, hC⟩
  have nC : C.next = B.next + 11 := by rw [hC]; simp
  have hCg : ∀ n, n ≠ H.next + 1 → n ≠ B.next + 8 → C.get n = B.get n := fun n h1 h2 => by rw [hC]; simp [h1, h2]
  have c8 : C.get (B.next + 8) = .cells true [bitsV d] 1 := by rw [hC]; simp
  have c1 : C.get (H.next + 1) = x := by rw [hC]; simp; omega
  clear hC
  have c4 := (hCg (H.next + 4) (by omega) (by omega)).trans b4
  simp [t6, c4]
  refine fcall_fun (lowest_spec hd0.1 hd10 _) ?_
  rintro _ C' ⟨rfl, hC⟩
  subst hC
  obtain ⟨_, l10, _⟩ := low_facts hd0.1 hd10
  have cb : MapFn C' (H.next + 3) fb := hmb.keep ((hCg _ (by omega) (by omega)).trans (gB.get _ (by simp; omega)))
  have hl1 := cb.lk1 flat_nil (2 ^ low d)
  simp [t6, c4, hl1]
  have hkC : ∀ m, H2.next ≤ m → m < A.next → C'.get m = A.get m := fun m h1 h2 => (hCg m (by omega) (by omega)).trans (gB.get m (by show m < A.next + 6; omega))
  have ho := (hbg.own (low d) l10).keep (B := C') (by omega) fun m hm => hkC m ((hbg.own (low d) l10).names hm).1 ((hbg.own (low d) l10).names hm).2
  have hnm := fun m hm => (hbg.own (low d) l10).names (n := m) hm
  generalize hold : (fb (2 ^ low d)).getD (.slice none 0 0) = old at *
  have hfl : ((L.take i).filter fun x => low x == low d).length ≤ 1024 := Nat.le_trans (List.length_filter_le _ _) (by rw [List.length_take]; omega)
  refine fapp_own' (lo := H2.next) (x := bitsV d) ho (slCells_new (rw := true) (c := 1) c8) rfl (by simp; omega) (by omega) (by omega) (by omega) fun u E k5 k6 k7 k8 => ?_
  have hE : ∀ n, n < H2.next → E.get n = C'.get n := fun n hn => k8 n (by omega) fun e => by have := (hnm n e).1; omega
  have e4 := (hE (H.next + 4) (by omega)).trans c4
  have eb : MapFn E (H.next + 3) fb := cb.keep (hE _ (by omega))
  obtain ⟨y, hy1, hy2⟩ := eb.put (2 ^ low d) u
  simp [t6, e4, hy1, t17, add_in (x := i) (y := 1) (by omega) (by omega)]
  have kF : ∀ n, n ≠ H.next + 3 → (E.set (H.next + 3) y).get n = E.get n := fun n hn => by simp [hn]
  refine ⟨⟨by omega, fun n h1 h2 h3 => ?_, t1, t5, t15, t16, i + 1, by omega, by omega, putF fp d (.int .i64 (payN D d)), hx2 _ ?_, fun d' hd' => ?_, putF fb (2 ^ low d) u, hy2 _ (by simp), ?_⟩, by omega⟩
  · rw [if_neg h3, hE n h1, hCg n h2 (by omega), gB.get n (by show n < A.next + 6; omega)]
    exact hkeep n h1 h2 h3
  · rw [kF _ (by omega), hE _ (by omega)]; exact c1
  · unfold putF
    by_cases e : d' = d
    · rw [if_pos e, e]
    · rw [if_neg e]
      rw [htk] at hd'
      rcases List.mem_append.1 hd' with hd' | hd'
      · exact hfp d' hd'
      · exact absurd (by simpa using hd') e
  · rw [htk]
    refine hbg.push l10 (n := B.next + 9) ?_ k6 (by omega) (by simp; omega) fun m h1 h2 h3 => ?_
    · exact k5.keep (by simp) fun n hn => kF n (by have := (k5.names hn).1; omega)
    · rw [kF m (by omega), k8 m (by omega) (by rw [← hold]; exact h3)]
      exact hkC m h1 h2

def bestC (D : Dy) : Ch := choose (legalL D (known0 D)) (payN D) (2 ^ segN D - 1)
def bestL (D : Dy) : List Nat := planOf (legalL D (known0 D)) (payN D) (2 ^ segN D - 1)
def bestE (D : Dy) : Int := if checkD D = 0 then (if (bestC D).ok then 0 else 9) else checkD D
def bestPay (D : Dy) : Int := if bestE D = 0 then (bestC D).pay else 0
def bestR (D : Dy) : List (List Int) := if bestE D = 0 then (bestL D).map rowOf else []

theorem rows_nil {H : Heap} : RowsAt H (.slice none 0 0) [] := ⟨[], ⟨rfl, fun _ _ _ h => by cases h⟩, by simp, fun i h => by simp at h⟩

theorem bestF_spec {D : Dy} {b w : Value} {H : Heap} (h : DayAt H b w D) (hT : D.Thin) (hG : Gl H) :
    AFun Tryd.prog 45 [dayV D b w] H (fun r B => ∃ v, r = .tuple #[v, .int .i64 (bestPay D), .int .i64 (bestE D)] ∧ RowsAt B v (bestR D) ∧ Ge H B) := by
  refine AFun.mk ok45 hm (Nat.le_of_ble_eq_true rfl) ?_
  have hb := h.blocks.one
  have hw := h.walk.one
  simp [a45, r45, hb, hw]
  refine fcall_fun (checkDay_spec (h.ge (by simp)) hT) ?_
  rintro _ H1 ⟨rfl, g1⟩
  have G1 : Ge H H1 := Ge.trans (by simp) g1
  have k1 := g1.got (n := H.next) (by simp) rfl
  have n1 := g1.next
  simp at k1 n1
  by_cases hc : checkD D = 0
  case neg =>
    have he : bestE D = checkD D := by simp [bestE, hc]
    have hp : bestPay D = 0 := by simp [bestPay, he, hc]
    have hr : bestR D = [] := by simp [bestR, he, hc]
    simp [hc, he, hp, hr]
    exact ⟨rows_nil, G1⟩
  have hV := valid_of hc
  simp [hc, k1]
  refine fcall_fun (newPlanned_spec (h.ge G1) hV) ?_
  rintro _ H2 ⟨s, k, q, rfl, hO, g2⟩
  have G2 := G1.trans g2
  have hP : PlanAt H2 b w s k q D (known0 D) := hO.at (h.ge G2)
  simp
  refine fcall_fun (best_spec hP hV (hG.ge G2)) ?_
  rintro _ H3 ⟨v, rfl, hv, g3⟩
  have G3 := G2.trans g3
  have hcc : choose (legalL D (known0 D)) (payN D) (2 ^ segN D - 1) = bestC D := rfl
  have hll : planOf (legalL D (known0 D)) (payN D) (2 ^ segN D - 1) = bestL D := rfl
  rw [hcc]
  rw [hll] at hv
  cases hok : (bestC D).ok
  · have he : bestE D = 9 := by simp [bestE, hc, hok]
    have hp : bestPay D = 0 := by simp [bestPay, he]
    have hr : bestR D = [] := by simp [bestR, he]
    simp [he, hp, hr]
    exact ⟨rows_nil, G3⟩
  · have he : bestE D = 0 := by simp [bestE, hc, hok]
    have hp : bestPay D = (bestC D).pay := by simp [bestPay, he]
    have hr : bestR D = (bestL D).map rowOf := by simp [bestR, he]
    simp [he, hp]
    rw [hr]
    exact ⟨hv, G3⟩

end Go.Proofs.YtllkhaabcfnlpaaDoor


namespace Go.Proofs.YtllkhaabcfnlpaaDoor
open Go Go.Ab

theorem quo_in {x y : Int} (h0 : 0 ≤ x) (hx : x < 2 ^ 62) (hy : 0 < y) : binI BinOp.quo (.int .i64 x) (.int .i64 y) = some (.int .i64 (x / y)) := by
  have e : binI BinOp.quo (.int .i64 x) (.int .i64 y) = if y = 0 then none else some (.int .i64 (IntKind.i64.wrap (x.tdiv y))) := rfl
  have h1 : 0 ≤ x / y := Int.ediv_nonneg h0 (by omega)
  have h2 : x / y ≤ x := Int.ediv_le_self y h0
  rw [e, if_neg (by omega), Int.tdiv_eq_ediv_of_nonneg h0, wrap_i64 (by omega) (by omega)]

section
variable {D : Dy} {b w s k q : Value} {H : Heap}
end

end Go.Proofs.YtllkhaabcfnlpaaDoor


namespace Go.Proofs.YtllkhaabcfnlpaaDoor
open Go Go.Ab

def readyB (D : Dy) : Bool := thinB D && decide (checkD D = 0)
def lightB (D : Dy) : Bool := readyB D && decide (segN D ≤ 8)
theorem ready_spec {D : Dy} {b w : Value} {H : Heap} (h : DayAt H b w D) : AFun Tryd.prog 52 [dayV D b w] H (fun r B => r = .bool (readyB D) ∧ Ge H B) := by
  refine AFun.mk ok52 hm (Nat.le_of_ble_eq_true rfl) ?_
  have hb := h.blocks.one
  have hw := h.walk.one
  simp [a52, r52, hb, hw]
  refine fcall_fun (thin_spec (h.ge (by simp))) ?_
  rintro _ H1 ⟨rfl, g1⟩
  have G1 : Ge H H1 := Ge.trans (by simp) g1
  have k1 := g1.got (n := H.next) (by simp) rfl
  simp at k1
  unfold readyB
  cases hth : thinB D
  · simp
    exact G1
  simp [k1]
  refine fcall_fun (fault36_spec (h.ge G1) (thinB_thin hth)) ?_
  rintro _ H2 ⟨rfl, g2⟩
  simp
  exact G1.trans g2
theorem ready_facts {D : Dy} (h : readyB D = true) : D.Thin ∧ checkD D = 0 ∧ Valid D := by
  unfold readyB at h
  rw [Bool.and_eq_true, decide_eq_true_eq] at h
  exact ⟨thinB_thin h.1, h.2, valid_of h.2⟩
theorem light_spec {D : Dy} {b w : Value} {H : Heap} (h : DayAt H b w D) : AFun Tryd.prog 47 [dayV D b w] H (fun r B => r = .bool (lightB D) ∧ Ge H B) := by
  refine AFun.mk ok47 hm (Nat.le_of_ble_eq_true rfl) ?_
  have hb := h.blocks.one
  have hw := h.walk.one
  simp [a47, r47, hb, hw]
  refine fcall_fun (ready_spec (h.ge (by simp))) ?_
  rintro _ H1 ⟨rfl, g1⟩
  have G1 : Ge H H1 := Ge.trans (by simp) g1
  have k1 := g1.got (n := H.next) (by simp) rfl
  simp at k1
  unfold lightB
  cases hr : readyB D
  · simp
    exact G1
  obtain ⟨hT, _, _⟩ := ready_facts hr
  simp [k1]
  refine fcall_fun (segments_spec (h.ge G1) hT) ?_
  rintro _ H2 ⟨rfl, g2⟩
  have hseg : segsOf D.blocks = segN D := segPs_length.symm
  rw [hseg]
  simp
  refine ⟨?_, G1.trans g2⟩
  by_cases h8 : segN D ≤ 8
  · simp [h8]; omega
  · simp [h8]; omega

section
variable {I : Nat → Heap → Prop} {F : Heap → Prop} {H : Heap} {v pv : Value}
end

section
variable {D : Dy} {b w s k q : Value}
end

end Go.Proofs.YtllkhaabcfnlpaaDoor


namespace Go.Proofs.YtllkhaabcfnlpaaDoor
open Go Go.Ab

theorem setR_bits {n m : Nat} (h : m < 2 ^ n) (hn : n ≤ 10) : bitsFrom n m 0 = bitsL m := by
  refine rise_ext bitsFrom_rise bitsFrom_rise fun x => ?_
  rw [bitsFrom_mem, bitsFrom_mem]
  exact ⟨fun k => ⟨by omega, k.2⟩, fun k => ⟨bit_lt h k.2, k.2⟩⟩

end Go.Proofs.YtllkhaabcfnlpaaDoor


namespace Go.Proofs.YtllkhaabcfnlpaaDoor
open Go Go.Ab

section
variable {D : Dy}
theorem row_setR (hV : Valid D) {d : Nat} (hd : d ∈ legalL D (known0 D)) : rowOf d = setR (segN D) d := by
  have h := (passL_mem.1 hd).1
  unfold rowOf setR
  rw [setR_bits h.2 (segN_le hV)]
theorem row_facts (hV : Valid D) {d : Nat} (hd : d ∈ legalL D (known0 D)) : isDutyB (segN D) (rowOf d) = true ∧ maskL (rowOf d) = d ∧ legalN D (known0 D) d = true := by
  have h := passL_mem.1 hd
  rw [row_setR hV hd]
  exact ⟨setR_duty (by omega) h.1.2, setR_mask h.1.2, h.2⟩
theorem full_lt (hV : Valid D) : 2 ^ segN D - 1 < 1024 := by have := pow_segN hV; omega

theorem best_ok (hc : checkD D = 0) (hE : bestE D = 0) : (bestC D).ok = true := by
  unfold bestE at hE
  rw [if_pos hc] at hE
  cases h : (bestC D).ok
  · rw [h] at hE; simp at hE
  · rfl
theorem best_part (hV : Valid D) (hok : (bestC D).ok = true) : Part (legalL D (known0 D)) (2 ^ segN D - 1) (bestL D) ∧ (bestL D).length = (bestC D).n ∧ sumP (payN D) (bestL D) = (bestC D).pay ∧ (bestL D).Pairwise (fun a b => low a < low b) := by
  obtain ⟨h1, h2, h3, h4, _⟩ := plan_part (pay := payN D) (LL_ok hV) _ (full_lt hV) hok
  exact ⟨h1, h2, h3, h4⟩
theorem best_len (hV : Valid D) : (bestC D).n ≤ 1023 := by
  have h := (choose_bounds (pay := payN D) (LL_ok hV) (fun d _ => payN_bounds hV d) (2 ^ segN D - 1)).1
  have h2 := full_lt hV
  unfold bestC
  omega
theorem pay_good (hc : checkD D = 0) {x : List Int} (hd : isDutyB (segN D) x = true) (hl : legalN D (known0 D) (maskL x) = true) : payE D x = 0 ∧ payD D x = payN D (maskL x) := by
  have hseg : segsOf D.blocks = segN D := segPs_length.symm
  have he : errD D x = 0 := by simp [errD, hc, hseg, hd]
  have hleg : legalD D x = true := hl
  exact ⟨by simp [payE, he, hleg], rfl⟩

end

end Go.Proofs.YtllkhaabcfnlpaaDoor


namespace Go.Proofs.YtllkhaabcfnlpaaDoor
open Go Go.Ab

section
variable {α : Type}
end

section
variable {D : Dy}
structure SegIn (D : Dy) (p : Pc) : Prop where
  same : p.e = p.b
  lt : p.f < p.t
  seg : ∀ q, p.s.testBit q = true → (spD D q).1 = p.b ∧ p.f ≤ (spD D q).2 ∧ (spD D q).2 + 1 ≤ p.t
theorem blk_mono (hV : Valid D) {b j : Nat} (hs : D.has b (j + 1)) : (D.rel b j).lo ≤ (D.rel b (j + 1)).lo ∧ (D.rel b j).hi ≤ (D.rel b (j + 1)).hi := by
  obtain ⟨x, h1, h2⟩ := hs
  have hb := hV.blk x (List.mem_of_getElem? h1)
  unfold okBlk at hb
  rw [Bool.and_eq_true, List.all_eq_true] at hb
  have := hb.2 (j + 1) (by simpa using h2)
  have hj : j < x.length := by omega
  simp only [okAt, bef, Nat.add_sub_cancel, Bool.and_eq_true, decide_eq_true_eq] at this
  have e1 : D.rel b j = x[j] := by simp [Dy.rel, h1, hj]
  have e2 : D.rel b (j + 1) = x[j + 1] := by simp [Dy.rel, h1, h2]
  rw [e1, e2]
  simpa [hj, h2] using this.1
theorem has_le {b i j : Nat} (hs : D.has b j) (h : i ≤ j) : D.has b i := by
  obtain ⟨x, h1, h2⟩ := hs
  exact ⟨x, h1, by omega⟩
theorem blk_le (hV : Valid D) {b i : Nat} : ∀ {j : Nat}, D.has b j → i ≤ j → (D.rel b i).lo ≤ (D.rel b j).lo ∧ (D.rel b i).hi ≤ (D.rel b j).hi
  | 0, _, h => by
    have : i = 0 := by omega
    subst this; exact ⟨Int.le_refl _, Int.le_refl _⟩
  | j + 1, hs, h => by
    by_cases e : i = j + 1
    · subst e; exact ⟨Int.le_refl _, Int.le_refl _⟩
    · have := blk_le hV (has_le hs (by omega : j ≤ j + 1)) (by omega : i ≤ j)
      have := blk_mono hV hs
      omega

theorem kAt0 {b n : Nat} (hs : D.has b n) : kAt (known0 D) b n = ((D.rel b n).lo, (D.rel b n).hi) := by
  obtain ⟨x, h1, h2⟩ := hs
  have e1 : D.rel b n = x[n] := by simp [Dy.rel, h1, h2]
  rw [e1]
  simp [kAt, known0, h1, h2]
end

structure LegalP (D : Dy) (K : List (List (Int × Int))) (ps : List Pc) : Prop where
  count : (ps.length : Int) ≤ D.law.pieces
  piece : ∀ p ∈ ps, lastOf K p ≤ D.law.piece
  drive : (ps.map (lastOf K)).sum ≤ D.law.drive
  free : ∀ j, j + 1 < ps.length → D.law.brk ≤ freeOf D K (ps[j]?.getD fz) (ps[j + 1]?.getD fz)
  spread : spreadOf D K ps ≤ D.law.spread
theorem legalB_iff {D : Dy} (hV : Valid D) {K : List (List (Int × Int))} {ps : List Pc} : legalB D K ps = true ↔ LegalP D K ps := by
  have hl := law_bounds hV
  have hlT : lTo K ps ps.length = ps.map (lastOf K) := by unfold lTo; rw [List.take_length]
  unfold legalB answers
  rw [hlT]
  simp only [List.all_cons, List.all_nil, id, Bool.and_true, Bool.and_eq_true, decide_eq_true_eq, List.length_map]
  constructor
  · rintro ⟨h1, h2, h3, h4, h5⟩
    refine ⟨h1, fun p hp => ?_, h3, fun j hj => ?_, h5⟩
    · exact ((foldl_max (ps.map (lastOf K)) 0 D.law.piece).1 h2).2 _ (List.mem_map.2 ⟨p, hp, rfl⟩)
    · have := List.all_eq_true.1 h4 (freeOf D K (ps[j]?.getD fz) (ps[j + 1]?.getD fz)) (by unfold bTo; exact List.mem_map.2 ⟨j, by simp; omega, rfl⟩)
      simpa using this
  · rintro ⟨h1, h2, h3, h4, h5⟩
    refine ⟨h1, ?_, h3, ?_, h5⟩
    · refine (foldl_max (ps.map (lastOf K)) 0 D.law.piece).2 ⟨by omega, fun x hx => ?_⟩
      obtain ⟨p, hp, rfl⟩ := List.mem_map.1 hx
      exact h2 p hp
    · rw [List.all_eq_true]
      intro x hx
      unfold bTo at hx
      obtain ⟨j, hj, rfl⟩ := List.mem_map.1 hx
      rw [List.mem_range] at hj
      exact decide_eq_true (h4 j (by omega))

end Go.Proofs.YtllkhaabcfnlpaaDoor


namespace Go.Proofs.YtllkhaabcfnlpaaDoor
open Go Go.Ab

theorem aval_shr16 {P : Program} {t : Nat → Value} {H : Heap} {N x y : Nat} {d : Option Tmp} {T U ty : TypeId} {pos : String} {af : Array Edge} {g : Option (Nat × Bool)} {m s : Nat} (hx : t x = .int .u16 (m : Int)) (hy : t y = .int .u64 (s : Int)) (h1 : x < N) (h2 : y < N) (hs : s < 16) :
    aval P t H (.gen N ⟨d, .binOp .shr T (.tmp x) (.tmp y) U, ty, pos, af, g⟩) = some (.int .u16 ((m / 2 ^ s : Nat) : Int)) := by
  refine aval_gen ?_ rfl fun w => ?_
  · simp [Op.operands, flatO, hx, hy, h1, h2, flat, flat1]
  · have e2 : min s IntKind.u16.bits = s := by simp [IntKind.bits]; omega
    simp [execOp, evO, hx, hy, eqGuard, binOp, Op.shift, e2]
theorem rem16 {q : Nat} : binI BinOp.rem (.int .u16 (q : Int)) (.int .u16 2) = some (.int .u16 ((q % 2 : Nat) : Int)) := by
  have e : binI BinOp.rem (.int .u16 (q : Int)) (.int .u16 2) = some (.int .u16 ((q : Int).tmod 2)) := rfl
  have e2 : ((q : Int).tmod 2) = ((q % 2 : Nat) : Int) := (Int.ofNat_tmod q 2).symm
  rw [e, e2]

def setB (n m : Nat) : List Int := if setR n m = [] then [0] else setR n m
theorem setB_duty {n m : Nat} (hn : 0 < n) : isDutyB n (setB n m) = true := by
  unfold setB
  split
  · have := rise_duty (n := n) (l := [0]) (by simp) (fun x hx => by simp at hx; omega) (by simp)
    simpa [bitsI] using this
  · rename_i h
    exact rise_duty bitsFrom_rise (fun x hx => (bitsFrom_mem.1 hx).1) fun e => h (by rw [setR, e]; rfl)
theorem setB_length {n m : Nat} (h : n ≤ 10) : (setB n m).length ≤ 10 := by
  unfold setB
  split
  · simp
  · have := setR_length (n := n) (m := m); omega
theorem set_spec {D : Dy} {b w : Value} {H : Heap} {m : Nat} (h : DayAt H b w D) (hT : D.Thin) (hV : Valid D) :
    AFun Tryd.prog 49 [dayV D b w, .int .u16 (m : Int)] H (fun r B => OwnSl B H.next r ((setB (segN D) m).map (Value.int .i64)) ∧ Ge H B) := by
  refine AFun.mk ok49 hm (Nat.le_of_ble_eq_true rfl) ?_
  have hb := h.blocks.one
  have hw := h.walk.one
  have h10 := segN_le hV
  have hseg : segsOf D.blocks = segN D := segPs_length.symm
  simp [a49, r49, hb, hw]
  refine floop_intro (fun z => z.d = [] ∧ Ge H z.H ∧ H.next < z.H.next ∧ z.t 1 = .int .u16 (m : Int) ∧ z.t 2 = .pointer (some ⟨H.next, 0, none⟩) ∧ z.H.get H.next = .cells true (dayV D b w).cells.toList 10 ∧ ∃ j : Nat, j ≤ segN D ∧ z.t 6 = .int .i64 (j : Int) ∧ OwnSl z.H (H.next + 1) (z.t 5) ((setR j m).map (Value.int .i64))) (fun z => segN D - (intOf (z.t 6)).toNat) ?_ ?_
  · exact ⟨rfl, by simp, by simp, by simp, by simp, by simp [Value.cells], 0, by omega, by simp, .inl ⟨by simp, by simp [setR, bitsI, bitsFrom]⟩⟩
  rintro ⟨t, _, A⟩ ⟨rfl, g, hn, t1, t2, kd, j, hj, t6, o5⟩
  dsimp only at g hn t1 t2 kd t6 o5
  simp [Value.cells] at kd
  generalize t5 : t 5 = v5 at o5
  simp [t2, t6, kd]
  refine fcall_fun (segments_spec (h.ge g) hT) ?_
  rintro _ A1 ⟨rfl, g1⟩
  have n1 := g1.next
  have kd1 := g1.got hn kd
  have G1 := g.trans g1
  rw [hseg]
  simp [t6]
  have hlen := setR_length (n := j) (m := m)
  by_cases hjn : j < segN D
  case neg =>
    have : j = segN D := by omega
    subst this
    have hl := (o5.ge g1).lenV
    simp only [List.length_map] at hl
    simp [hjn, t5, hl]
    by_cases h0 : setR (segN D) m = []
    · have hsb : setB (segN D) m = [0] := by simp [setB, h0]
      rw [h0] at o5
      simp [h0, t5]
      refine fapp_own (lo := H.next + 1) (x := .int .i64 0) ((o5.ge g1).ge (Ge.new _ _)) (slCells_new (rw := true) (c := 1) (by simp)) rfl (by simp) (by omega) (by simp) (by omega) (by simp; omega) fun u3 C k3 k4 k5 k6 => ?_
      have h5n : ∀ m, slName v5 = some m → H.next + 1 ≤ m := fun m hm => (o5.names hm).1
      simp
      rw [hsb]
      refine ⟨OwnSl.lower (by simpa using k3) (by omega), by have := G1.next; omega, fun n hn => ?_⟩
      have f0 := G1.next
      have f3 : n ≠ A1.next := by omega
      rw [k6 n (by omega) (fun e => by have := h5n n e; omega)]; simp [f3, G1.get n hn]
    · have hsb : setB (segN D) m = setR (segN D) m := by simp [setB, h0]
      simp [h0, t5]
      rw [hsb]
      exact ⟨(o5.ge g1).lower (by omega), G1⟩
  have hw64 : IntKind.u64.wrap (j : Int) = (j : Int) := wrap_u64 (by omega)
  simp [hjn, t1, t6, hw64]
  have hstep := setR_step (m := m) (j := j)
  have hbit : m.testBit j = decide (m / 2 ^ j % 2 = 1) := Nat.testBit_eq_decide_div_mod_eq
  obtain ⟨q, hq⟩ : ∃ q, m / 2 ^ j = q := ⟨_, rfl⟩
  rw [hq] at hbit
  have hmod : q % 2 = 0 ∨ q % 2 = 1 := by omega
  rw [aval_shr16 (m := m) (s := j) (by simp) (by simp) (by decide) (by decide) (by omega), hq]
  simp [rem16]
  rcases hmod with h0 | h1
  · have hb0 : m.testBit j = false := by rw [hbit, h0]; rfl
    have hc0 : ¬ (q : Int) % 2 = 1 := by omega
    rw [hb0] at hstep
    simp only [Bool.false_eq_true, if_false] at hstep
    simp [hc0, t6, add_in (x := j) (y := 1) (by omega) (by omega)]
    exact ⟨⟨G1, by omega, t1, t2, by simpa [Value.cells] using kd1, j + 1, by omega, by omega, by rw [hstep, t5]; exact o5.ge g1⟩, by omega⟩
  · have hb1 : m.testBit j = true := by rw [hbit, h1]; rfl
    have hc1 : (q : Int) % 2 = 1 := by omega
    rw [hb1] at hstep
    simp only [if_true] at hstep
    simp [hc1, t5, t6]
    refine fapp_own (lo := H.next + 1) (x := .int .i64 (j : Int)) ((o5.ge g1).ge (Ge.new _ _)) (slCells_new (rw := true) (c := 1) (by simp)) rfl (by simp; omega) (by omega) (by simp) (by omega) (by simp; omega) fun u3 C k3 k4 k5 k6 => ?_
    have h5n : ∀ m, slName v5 = some m → H.next + 1 ≤ m := fun m hm => (o5.names hm).1
    have gC : Ge H C := ⟨by have := G1.next; omega, fun n hn => by
      have f0 := G1.next
      have f3 : n ≠ A1.next := by omega
      rw [k6 n (by omega) (fun e => by have := h5n n e; omega)]; simp [f3, G1.get n hn]⟩
    have kC : C.get H.next = A1.get H.next := (k6 H.next (by omega) (fun e => by have := h5n _ e; omega)).trans (by rw [Heap.new_get, if_neg (by omega)])
    simp [t6, add_in (x := j) (y := 1) (by omega) (by omega)]
    exact ⟨⟨gC, by omega, t1, t2, by simpa [Value.cells] using kC.trans kd1, j + 1, by omega, by omega, by rw [hstep, List.map_append]; exact k3⟩, by omega⟩

section
variable {D : Dy}
end

end Go.Proofs.YtllkhaabcfnlpaaDoor


namespace Go.Proofs.YtllkhaabcfnlpaaDoor
open Go Go.Ab

theorem fold_pay {rec : Nat → Ch} {pay pay' : Nat → Int} {m : Nat} : ∀ (l : List Nat) (b : Ch), (∀ d ∈ l, pay d = pay' d) → l.foldl (stepC rec pay m) b = l.foldl (stepC rec pay' m) b
  | [], _, _ => rfl
  | x :: l, b, h => by
    rw [List.foldl_cons, List.foldl_cons]
    have e : stepC rec pay m b x = stepC rec pay' m b x := by
      unfold stepC
      rw [h x (List.mem_cons_self ..)]
    rw [e]
    exact fold_pay l _ fun d hd => h d (List.mem_cons_of_mem _ hd)
theorem chooseK_pay {L : List Nat} {pay pay' : Nat → Int} (h : ∀ d ∈ L, pay d = pay' d) : ∀ k, chooseK L pay k = chooseK L pay' k
  | 0 => rfl
  | k + 1 => by
    funext m
    simp only [chooseK, chooseK_pay h k]
    split
    · rfl
    · exact fold_pay _ _ fun d hd => h d (List.mem_filter.1 hd).1
theorem choose_pay {L : List Nat} {pay pay' : Nat → Int} (h : ∀ d ∈ L, pay d = pay' d) : choose L pay = choose L pay' := by
  funext m
  unfold choose
  rw [chooseK_pay h]
theorem passL_congr {p p' : Nat → Bool} {i : Nat} (h : ∀ d, d ≠ 0 → d < i → p d = p' d) : passL p i = passL p' i := by
  unfold passL
  refine List.filter_congr fun d hd => ?_
  obtain ⟨j, hj, rfl⟩ := List.mem_range'.1 hd
  exact h _ (by omega) (by omega)

structure SameD (D D' : Dy) : Prop where
  segs : segN D' = segN D
  legal : ∀ m, m ≠ 0 → m < 2 ^ segN D → legalN D' (known0 D') m = legalN D (known0 D) m
  pay : ∀ m, m ≠ 0 → m < 2 ^ segN D → payN D' m = payN D m
theorem SameD.list {D D' : Dy} (h : SameD D D') : legalL D' (known0 D') = legalL D (known0 D) := by
  unfold legalL
  rw [h.segs]
  exact passL_congr h.legal
theorem SameD.best {D D' : Dy} (h : SameD D D') : bestC D' = bestC D ∧ bestL D' = bestL D := by
  have hp : ∀ d ∈ legalL D (known0 D), payN D' d = payN D d := fun d hd => h.pay d (by have := (passL_mem.1 hd).1; omega) (passL_mem.1 hd).1.2
  unfold bestC bestL planOf
  rw [h.list, h.segs, choose_pay hp]
  exact ⟨rfl, rfl⟩

def Rl.later (x : Int) (r : Rl) : Rl := ⟨r.place, r.lo + x, r.hi + x⟩
def Dy.later (D : Dy) (x : Int) : Dy := { D with blocks := D.blocks.map fun b => b.map (Rl.later x) }

section
variable {D : Dy} {x : Int}
end

end Go.Proofs.YtllkhaabcfnlpaaDoor


namespace Go.Proofs.YtllkhaabcfnlpaaDoor
open Go Go.Ab

section
variable {D : Dy}
end

structure EasyD (D D' : Dy) : Prop where
  segs : segPs D' = segPs D
  has : ∀ b n, D.has b n → D'.has b n
  lo : ∀ b n, D.has b n → (D.rel b n).lo ≤ (D'.rel b n).lo
  hi : ∀ b n, D.has b n → (D'.rel b n).hi = (D.rel b n).hi
  walk : ∀ b n c k, D.has b n → D.has c k → D'.walkOf b n c k ≤ D.walkOf b n c k
  piece : D.law.piece ≤ D'.law.piece
  drive : D.law.drive ≤ D'.law.drive
  spread : D.law.spread ≤ D'.law.spread
  pieces : D.law.pieces ≤ D'.law.pieces
  brk : D'.law.brk ≤ D.law.brk
  on : D'.law.on ≤ D.law.on
  off : D'.law.off ≤ D.law.off
  least : D'.law.least = D.law.least

section
variable {D D' : Dy}
end

end Go.Proofs.YtllkhaabcfnlpaaDoor


namespace Go.Proofs.YtllkhaabcfnlpaaDoor
open Go Go.Ab

end Go.Proofs.YtllkhaabcfnlpaaDoor


namespace Go.Proofs.YtllkhaabcfnlpaaDoor
open Go Go.Ab

end Go.Proofs.YtllkhaabcfnlpaaDoor


namespace Go.Proofs.YtllkhaabcfnlpaaDoor
open Go Go.Ab

end Go.Proofs.YtllkhaabcfnlpaaDoor


namespace Go.Proofs.YtllkhaabcfnlpaaDoor
open Go Go.Ab

structure RowsX (A : Heap) (lo : Nat) (v : Value) (rs : List (List Int)) (vs : List Value) : Prop where
  own : OwnSl A lo v vs
  len : vs.length = rs.length
  row : ∀ k (h : k < rs.length), ∃ u, vs[k]? = some u ∧ OwnSl A lo u (rs[k].map (.int .i64)) ∧ ∀ m, slName u = some m → slName v ≠ some m
  apart : ∀ (i j : Nat) (u u' : Value) (m : Nat), i ≠ j → vs[i]? = some u → vs[j]? = some u' → slName u = some m → slName u' ≠ some m

theorem RowsX.keep {A B : Heap} {lo : Nat} {v : Value} {rs : List (List Int)} {vs : List Value} (h : RowsX A lo v rs vs) (hn : A.next ≤ B.next) (hk : ∀ n, lo ≤ n → n < A.next → B.get n = A.get n) : RowsX B lo v rs vs := by
  refine ⟨h.own.keep hn fun n hs => hk n (h.own.names hs).1 (h.own.names hs).2, h.len, fun k hk2 => ?_, h.apart⟩
  obtain ⟨u, h1, h2, h3⟩ := h.row k hk2
  exact ⟨u, h1, h2.keep hn fun n hs => hk n (h2.names hs).1 (h2.names hs).2, h3⟩
theorem RowsX.rows {A : Heap} {lo : Nat} {v : Value} {rs : List (List Int)} {vs : List Value} (h : RowsX A lo v rs vs) (hl : rs.length < 2 ^ 63) (hs : ∀ r ∈ rs, r.length < 2 ^ 63) : RowsAt A v rs :=
  ⟨vs, by rw [← h.len]; exact h.own.slr, hl, fun i hi => let ⟨u, h1, h2, _⟩ := h.row i hi; ⟨u, h1, own_ints h2 (hs _ (List.getElem_mem hi))⟩⟩

end Go.Proofs.YtllkhaabcfnlpaaDoor


namespace Go.Proofs.YtllkhaabcfnlpaaDoor
open Go Go.Ab

section
variable {P : Program} {t : Nat → Value} {H : Heap} {N y : Nat} {k : IntKind} {m n : Int} {d : Option Tmp} {T U ty : TypeId} {pos : String} {af : Array Edge} {g : Option (Nat × Bool)}
end

structure Pre12 (D : Dy) (H2 A : Heap) (v8 w' : Value) (vs ws : List Value) : Prop where
  ge : Ge H2 A
  lt : H2.next < A.next
  cell : A.get H2.next = .cells true [.int .i64 D.law.piece, .int .i64 D.law.drive, .int .i64 D.law.spread, .int .i64 D.law.brk, .int .i64 D.law.on, .int .i64 D.law.off, .int .i64 D.law.least, .int .i64 D.law.pieces, v8, w'] 10
  own : OwnSl A (H2.next + 1) v8 vs
  len : vs.length = D.blocks.length
  rel : ∀ i (h : i < D.blocks.length), ∃ u, vs[i]? = some u ∧ RelsAt H2 u D.blocks[i]
  walk : RowsX A (H2.next + 1) w' D.walk ws
  ap : ∀ n, slName v8 = some n → slName w' ≠ some n ∧ ∀ (k : Nat) (u : Value), ws[k]? = some u → slName u ≠ some n

structure EasyL (l l' : Lw) : Prop where
  piece : l.piece ≤ l'.piece
  drive : l.drive ≤ l'.drive
  spread : l.spread ≤ l'.spread
  pieces : l.pieces ≤ l'.pieces
  brk : l'.brk ≤ l.brk
  on : l'.on ≤ l.on
  off : l'.off ≤ l.off
  least : l'.least = l.least

section
variable {D : Dy} {H2 A : Heap} {v8 w' : Value} {vs ws : List Value} {t : Nat → Value} {N n : Nat} {Q : APost}
end

end Go.Proofs.YtllkhaabcfnlpaaDoor


namespace Go.Proofs.YtllkhaabcfnlpaaDoor
open Go Go.Ab

theorem rem_int {a c : Nat} (hc : 0 < c) : binI BinOp.rem (.int .i64 (a : Int)) (.int .i64 (c : Int)) = some (.int .i64 ((a % c : Nat) : Int)) := by
  have e : binI BinOp.rem (.int .i64 (a : Int)) (.int .i64 (c : Int)) = if (c : Int) = 0 then none else some (.int .i64 ((a : Int).tmod c)) := rfl
  have e2 : ((a : Int).tmod c) = ((a % c : Nat) : Int) := (Int.ofNat_tmod a c).symm
  rw [e, if_neg (by omega), e2]

end Go.Proofs.YtllkhaabcfnlpaaDoor


namespace Go.Proofs.YtllkhaabcfnlpaaDoor
open Go Go.Ab

def Rl.late (e : Int) (x : Rl) : Rl := ⟨x.place, min x.hi (x.lo + e), x.hi⟩
end Go.Proofs.YtllkhaabcfnlpaaDoor


namespace Go.Proofs.YtllkhaabcfnlpaaDoor
open Go Go.Ab

end Go.Proofs.YtllkhaabcfnlpaaDoor


namespace Go.Proofs.YtllkhaabcfnlpaaDoor
open Go Go.Ab

def rowF (f : Nat → Int) (n : Nat) : List Int := (List.range n).map f
def tabF (D : Dy) (g : Nat → Nat → Int) : List (List Int) := (List.range D.blocks.length).map fun b => rowF (g b) ((D.blocks[b]?).getD []).length
def updG (g : Nat → Nat → Int) (b i : Nat) (x : Int) : Nat → Nat → Int := fun c j => if c = b ∧ j = i then x else g c j
@[simp] theorem rowF_length {f : Nat → Int} {n : Nat} : (rowF f n).length = n := by simp [rowF]
@[simp] theorem tabF_length {D : Dy} {g : Nat → Nat → Int} : (tabF D g).length = D.blocks.length := by simp [tabF]
theorem rowF_at {f : Nat → Int} {n i : Nat} (h : i < n) : (rowF f n)[i]? = some (f i) := by simp [rowF, h]
theorem tabF_at {D : Dy} {g : Nat → Nat → Int} {b : Nat} {r : List Rl} (h : D.blocks[b]? = some r) : (tabF D g)[b]? = some (rowF (g b) r.length) := by
  obtain ⟨hb, rfl⟩ := List.getElem?_eq_some_iff.1 h
  simp [tabF, hb]
theorem rowF_set {f : Nat → Int} {n i : Nat} {x : Int} : (rowF f n).set i x = rowF (fun j => if j = i then x else f j) n := by
  refine List.ext_getElem (by simp) fun j h1 h2 => ?_
  simp [rowF, List.getElem_set]
  by_cases e : i = j
  · simp [e]
  · simp [e, Ne.symm e]
theorem rowF_upd {g : Nat → Nat → Int} {b i n : Nat} {x : Int} : rowF (updG g b i x b) n = (rowF (g b) n).set i x := by
  rw [rowF_set]; congr 1; funext j; simp [updG]

theorem lows_tab {D : Dy} : lowsD D = tabF D fun b i => (D.rel b i).lo := by
  refine List.ext_getElem (by simp [lowsD]) fun b h1 h2 => ?_
  have hb : b < D.blocks.length := by simpa using h2
  simp only [lowsD, tabF, List.getElem_map, List.getElem_range, List.getElem?_eq_getElem hb, Option.getD_some]
  refine List.ext_getElem (by simp) fun i h3 h4 => ?_
  have hi : i < D.blocks[b].length := by simpa using h4
  simp [rowF, Dy.rel, hb, hi]

theorem RowsX.ge {A B : Heap} {lo : Nat} {v : Value} {rs : List (List Int)} {vs : List Value} (h : RowsX A lo v rs vs) (g : Ge A B) : RowsX B lo v rs vs :=
  h.keep g.next fun n _ hn => g.get n hn
theorem RowsX.lower {A : Heap} {lo lo' : Nat} {v : Value} {rs : List (List Int)} {vs : List Value} (h : RowsX A lo v rs vs) (hl : lo' ≤ lo) : RowsX A lo' v rs vs :=
  ⟨h.own.lower hl, h.len, fun k hk => let ⟨u, h1, h2, h3⟩ := h.row k hk; ⟨u, h1, h2.lower hl, h3⟩, h.apart⟩
theorem RowsX.names {A : Heap} {lo : Nat} {v : Value} {rs : List (List Int)} {vs : List Value} (h : RowsX A lo v rs vs) {k : Nat} {u : Value} (hk : vs[k]? = some u) {m : Nat} (hm : slName u = some m) : lo ≤ m ∧ m < A.next := by
  have hl := (List.getElem?_eq_some_iff.1 hk).1
  rw [h.len] at hl
  obtain ⟨u', h1, h2, _⟩ := h.row k hl
  rw [h1] at hk; cases hk
  exact h2.names hm

theorem RowsX.push {A : Heap} {lo n nx : Nat} {v x y : Value} {rs : List (List Int)} {vs : List Value} {r : List Int} {R : Value → Heap → Prop} (h : RowsX A lo v rs vs) (hx : OwnSl A lo x (r.map (.int .i64)))
    (hnm : ∀ m, slName x = some m → slName v ≠ some m ∧ ∀ (k : Nat) (u : Value), vs[k]? = some u → slName u ≠ some m) (hy : slCells A 1 y = some (1, [x])) (hlen : rs.length ≤ 2 ^ 20) (hn : A.next ≤ n) (hnx : n < nx) (hlo : lo ≤ A.next)
    (K : ∀ u B, RowsX B lo u (rs ++ [r]) (vs ++ [x]) → slName u = some n → B.next = nx → (∀ m, m ≠ n → slName v ≠ some m → B.get m = A.get m) → R u B) : @fapp (baseOf A 1 v) (slCells A 1 y) 1 24 A n nx ⟨R⟩ := by
  have hvl := h.len
  refine fapp_own h.own hy hx.one (by omega) (by omega) hn hnx hlo fun u B k1 k2 k3 k4 => ?_
  have keep : ∀ w cs, OwnSl A lo w cs → (∀ m, slName w = some m → slName v ≠ some m) → OwnSl B lo w cs := fun w cs hw hne =>
    hw.keep (by omega) fun m hm => k4 m (by have := (hw.names hm).2; omega) (hne m hm)
  refine K u B ⟨k1, by simp [hvl], fun k hk => ?_, fun i j w w' m hij hi hj hm => ?_⟩ k2 k3 k4
  · by_cases hk2 : k < rs.length
    · obtain ⟨w, h5, h6, h7⟩ := h.row k hk2
      refine ⟨w, by rw [List.getElem?_append_left (by omega)]; exact h5, ?_, fun m hm => ?_⟩
      · rw [List.getElem_append_left hk2]; exact keep _ _ h6 h7
      · rw [k2]; intro e; cases e; have := (h6.names hm).2; omega
    · have hke : k = rs.length := by simp at hk; omega
      subst hke
      refine ⟨x, by rw [List.getElem?_append_right (by omega)]; simp [hvl], ?_, fun m hm => ?_⟩
      · rw [List.getElem_append_right (by omega)]
        simp only [Nat.sub_self, List.getElem_cons_zero]
        exact keep _ _ hx fun m hm => (hnm m hm).1
      · rw [k2]; intro e; cases e; have := (hx.names hm).2; omega
  · have last : ∀ k z, ¬ k < vs.length → (vs ++ [x])[k]? = some z → k = vs.length ∧ z = x := fun k z hk hz => by
      have hl := (List.getElem?_eq_some_iff.1 hz).1
      simp at hl
      have : k = vs.length := by omega
      subst this
      simp at hz
      exact ⟨rfl, hz.symm⟩
    by_cases ei : i < vs.length
    · rw [List.getElem?_append_left ei] at hi
      by_cases ej : j < vs.length
      · rw [List.getElem?_append_left ej] at hj
        exact h.apart i j w w' m hij hi hj hm
      · obtain ⟨_, rfl⟩ := last j w' ej hj
        exact fun e => (hnm m e).2 i w hi hm
    · obtain ⟨e1, rfl⟩ := last i w ei hi
      by_cases ej : j < vs.length
      · rw [List.getElem?_append_left ej] at hj
        exact (hnm m hm).2 j w' hj
      · exact absurd ((last j w' ej hj).1.trans e1.symm) (Ne.symm hij)

theorem RowsX.store {D : Dy} {A : Heap} {lo : Nat} {v : Value} {g : Nat → Nat → Int} {vs : List Value} (h : RowsX A lo v (tabF D g) vs) {b i : Nat} {r : List Rl} (hb : D.blocks[b]? = some r) (hi : i < r.length) :
    ∃ q cap c, vs[b]? = some (.slice (some ⟨q, 0, none⟩) r.length cap) ∧ lo ≤ q ∧ q < A.next ∧ A.get q = .cells true ((rowF (g b) r.length).map (.int .i64)) c ∧ slName v ≠ some q ∧
      ∀ (x : Int) (B : Heap), A.next ≤ B.next → B.get q = .cells true (((rowF (g b) r.length).set i x).map (.int .i64)) c → (∀ m, lo ≤ m → m < A.next → m ≠ q → B.get m = A.get m) → RowsX B lo v (tabF D (updG g b i x)) vs := by
  have hbl := (List.getElem?_eq_some_iff.1 hb).1
  have hget : ∀ (g' : Nat → Nat → Int) (hh : b < (tabF D g').length), (tabF D g')[b] = rowF (g' b) r.length := fun g' hh => by
    have := tabF_at (g := g') hb
    rw [List.getElem?_eq_getElem hh] at this
    exact Option.some.inj this
  obtain ⟨u, f1, f2, f3⟩ := h.row b (by simpa using hbl)
  rw [hget g] at f2
  rcases f2 with ⟨_, h0⟩ | ⟨q, cap, c, hu0, q1, q2, q3, q4, q5⟩
  · have := congrArg List.length h0
    simp only [List.length_map, rowF_length, List.length_nil] at this; omega
  simp only [List.length_map, rowF_length] at hu0 q4
  subst hu0
  have hnq : slName (.slice (some ⟨q, 0, none⟩) r.length cap) = some q := rfl
  refine ⟨q, cap, c, f1, q1, q2, q3, f3 q hnq, fun x B hB hq hk => ⟨?_, ?_, fun k hk2 => ?_, h.apart⟩⟩
  · exact h.own.keep hB fun m hm => hk m (h.own.names hm).1 (h.own.names hm).2 fun e => f3 q hnq (by rw [← e]; exact hm)
  · have := h.len; simpa using this
  · have hk3 : k < D.blocks.length := by simpa using hk2
    by_cases e : k = b
    · subst e
      refine ⟨_, f1, ?_, fun m hm => f3 m hm⟩
      rw [hget _, rowF_upd]
      exact .inr ⟨q, cap, c, by simp, q1, by omega, hq, by simpa using q4, q5⟩
    · obtain ⟨u', m1, m2, m3⟩ := h.row k (by simpa using hk3)
      have hsame : (tabF D (updG g b i x))[k]'hk2 = (tabF D g)[k]'(by simpa using hk3) := by
        simp only [tabF, List.getElem_map, List.getElem_range]
        congr 1
        funext j
        simp [updG, e]
      refine ⟨u', m1, ?_, m3⟩
      rw [hsame]
      refine m2.keep hB fun m hm => hk m (m2.names hm).1 (m2.names hm).2 fun e2 => ?_
      exact h.apart k b u' _ m e m1 f1 hm (by rw [e2]; exact hnq)

theorem lowsX_spec {D : Dy} {b w : Value} {H : Heap} (h : DayAt H b w D) (hV : Valid D) : AFun Tryd.prog 64 [dayV D b w] H (fun r B => (∃ vs, RowsX B (H.next + 1) r (lowsD D) vs) ∧ Ge H B) := by
  refine AFun.mk ok64 hm (Nat.le_of_ble_eq_true rfl) ?_
  have hb := h.blocks.one
  have hw := h.walk.one
  have hfew := hV.few
  simp [a64, r64, hb, hw]
  refine floop_intro (fun z => z.d = [] ∧ Ge H z.H ∧ H.next < z.H.next ∧ z.t 1 = .pointer (some ⟨H.next, 0, none⟩) ∧ z.H.get H.next = .cells true (dayV D b w).cells.toList 10 ∧ ∃ i : Nat, i ≤ D.blocks.length ∧ z.t 4 = .int .i64 i ∧ ∃ vs, RowsX z.H (H.next + 1) (z.t 3) ((lowsD D).take i) vs) (fun z => D.blocks.length - (intOf (z.t 4)).toNat) ?_ ?_
  · exact ⟨rfl, by simp, by simp, by simp, by simp [Value.cells], 0, by omega, by simp, [], ⟨.inl ⟨by simp, rfl⟩, by simp, fun k hk => by simp at hk, fun i j u u' m _ h => by simp at h⟩⟩
  rintro ⟨t, _, A⟩ ⟨rfl, g, hn, t1, kd, i, hi, t4, vs, hR⟩
  dsimp only at g hn t1 kd t4 hR
  simp [Value.cells] at kd
  generalize t3 : t 3 = v3 at hR
  simp [t1, kd, t4, h.blocks.lenV]
  refine fcond_intro (fun hc => ?_) (fun hc => ?_)
  case refine_2 =>
    have : i = D.blocks.length := by simp at hc; omega
    subst this
    have hfull : (lowsD D).take D.blocks.length = lowsD D := by rw [List.take_of_length_le]; simp [lowsD]
    rw [hfull] at hR
    simp [t3]
    exact ⟨⟨vs, hR⟩, g⟩
  have hi' : i < D.blocks.length := by simpa using hc
  obtain ⟨p, u, e1, e2, e3⟩ := h.blocks.atAll hi'
  have hl := hV.blen (List.getElem_mem hi')
  simp
  refine floop_intro (fun z => z.d = [] ∧ Ge A z.H ∧ z.t 1 = .pointer (some ⟨H.next, 0, none⟩) ∧ z.t 4 = .int .i64 i ∧ z.t 3 = v3 ∧ ∃ j : Nat, j ≤ D.blocks[i].length ∧ z.t 6 = .int .i64 j ∧ OwnSl z.H A.next (z.t 5) (((D.blocks[i].take j).map Rl.lo).map (.int .i64))) (fun z => D.blocks[i].length - (intOf (z.t 6)).toNat) ?_ ?_
  · exact ⟨rfl, by simp, by simp [t1], by simp [t4], by simp [t3], 0, by omega, by simp, .inl ⟨by simp, rfl⟩⟩
  have t4o := t4
  clear t1 t4 t3 hc
  rintro ⟨t, _, C⟩ ⟨rfl, gC, t1, t4, t3, j, hj, t6, o5⟩
  dsimp only at gC t1 t4 t3 t6 o5
  generalize t5 : t 5 = v5 at o5
  have kdC := gC.got hn kd
  have gn := gC.next
  have gHC := g.trans gC
  have e21 := e2 C gHC
  simp [t1, kdC, t4, t6, e1, e21, e3.lenV]
  refine fcond_intro (fun hc => ?_) (fun hc => ?_)
  case refine_2 =>
    have : j = D.blocks[i].length := by simp at hc; omega
    subst this
    rw [List.take_length] at o5
    have hv5 := o5.one
    simp [t3, t5, hv5, one_cells]
    have gN := Ge.new C (.cells true [v5] 1)
    refine ((hR.ge gC).ge gN).push (r := D.blocks[i].map Rl.lo) (x := v5) ((o5.ge gN).lower (by omega)) (fun m hm => ?_) (slCells_new (rw := true) (c := 1) (by simp)) ?_ (by simp) (by omega) (by simp; omega) fun u' B k1 k2 k3 k4 => ?_
    · have := (o5.names hm).1
      exact ⟨fun e => by have := (hR.own.names e).2; omega, fun k w hk e => by have := (hR.names hk e).2; omega⟩
    · rw [List.length_take]; simp [lowsD]; omega
    have h3 : ∀ m, slName v3 = some m → H.next + 1 ≤ m := fun m hm => (hR.own.names hm).1
    have gB : Ge H B := ⟨by have := g.next; omega, fun n hn2 => by
      have f1 : n ≠ C.next := by have := g.next; omega
      rw [k4 n (by have := g.next; omega) (fun e => by have := h3 n e; omega)]; simp [f1, gHC.get n hn2]⟩
    have kB : B.get H.next = C.get H.next := (k4 H.next (by omega) (fun e => by have := h3 _ e; omega)).trans (by rw [Heap.new_get, if_neg (by omega)])
    simp [t4, add_in (x := i) (y := 1) (by omega) (by omega)]
    refine ⟨⟨gB, by omega, t1, by simpa [Value.cells] using kB.trans kdC, i + 1, by omega, by omega, vs ++ [v5], ?_⟩, by rw [t4o]; simp; omega⟩
    have hrows : (lowsD D).take i ++ [D.blocks[i].map Rl.lo] = (lowsD D).take (i + 1) := by
      rw [List.take_succ_eq_append_getElem (by simp [lowsD]; exact hi')]
      simp [lowsD]
    rw [← hrows]; exact k1
  have hj' : j < D.blocks[i].length := by simpa using hc
  have hhas : D.has i j := ⟨_, List.getElem?_eq_getElem hi', hj'⟩
  have hrel : D.rel i j = D.blocks[i][j] := by simp [Dy.rel, hi', hj']
  simp [t1, kdC, t4, t6, t5]
  refine fcall_fun (lo69_spec (h.ge gHC) hhas) ?_
  rintro _ A1 ⟨rfl, g1⟩
  rw [hrel]
  simp [t5]
  have g2 := Ge.new A1 (.cells true [.int .i64 D.blocks[i][j].lo] 1)
  have n1 := g1.next
  refine fapp_own (lo := A.next) (x := .int .i64 D.blocks[i][j].lo) ((o5.ge g1).ge g2) (slCells_new (rw := true) (c := 1) (by simp)) rfl (by simp; omega) (by omega) (by simp) (by omega) (by simp; omega) fun u5 B k1 k2 k3 k4 => ?_
  have hcs : ((D.blocks[i].take j).map Rl.lo).map (Value.int .i64) ++ [.int .i64 D.blocks[i][j].lo] = ((D.blocks[i].take (j + 1)).map Rl.lo).map (.int .i64) := by
    rw [List.take_succ_eq_append_getElem hj', List.map_append, List.map_append]; rfl
  rw [hcs] at k1
  have h5n : ∀ m, slName v5 = some m → A.next ≤ m := fun m hm => (o5.names hm).1
  have gB : Ge A B := ⟨by omega, fun n hn2 => by
    have f1 : n ≠ A1.next := by omega
    rw [k4 n (by omega) (fun e => by have := h5n n e; omega)]; simp [f1]
    rw [g1.get n (by omega)]; exact gC.get n hn2⟩
  simp [t6, add_in (x := j) (y := 1) (by omega) (by omega)]
  exact ⟨⟨gB, t1, t4, t3, j + 1, by omega, by omega, by simpa using k1⟩, by omega⟩

end Go.Proofs.YtllkhaabcfnlpaaDoor


namespace Go.Proofs.YtllkhaabcfnlpaaDoor
open Go Go.Ab

theorem truthD_no {D : Dy} {T : List (List Int)} {i : Nat} (hi : i < D.blocks.length) (h : truthOf (D.blocks[i]?.getD []) (T[i]?.getD []) = false) : truthD D T = false := by
  unfold truthD
  rw [all_no hi h, Bool.and_false]
theorem truthD_yes {D : Dy} {T : List (List Int)} (hl : T.length = D.blocks.length) (h : ∀ k, k < D.blocks.length → truthOf (D.blocks[k]?.getD []) (T[k]?.getD []) = true) : truthD D T = true := by
  unfold truthD
  rw [all_yes h, hl]; simp
theorem truthD_len {D : Dy} {T : List (List Int)} (hl : T.length ≠ D.blocks.length) : truthD D T = false := by simp [truthD, hl]
theorem truthOf_yes {r : List Rl} {ts : List Int} (hl : ts.length = r.length) (h : ∀ k, k < r.length → tOk r ts k = true) : truthOf r ts = true := by
  unfold truthOf
  rw [all_yes h, hl]; simp
theorem isTruth_spec {D : Dy} {b w v : Value} {H : Heap} {T : List (List Int)} (h : DayAt H b w D) (hV : Valid D) (hT : RowsAt H v T) : AFun Tryd.prog 66 [dayV D b w, v] H (fun r B => r = .bool (truthD D T) ∧ Ge H B) := by
  refine AFun.mk ok66 hm (Nat.le_of_ble_eq_true rfl) ?_
  have hb := h.blocks.one
  have hw := h.walk.one
  have hfew := hV.few
  simp [a66, r66, hb, hw, hT.lenV, h.blocks.lenV]
  by_cases hl : T.length = D.blocks.length
  case neg =>
    have hl2 : ¬ (T.length : Int) = D.blocks.length := by omega
    simp [hl2, truthD_len hl]
  have hl2 : (T.length : Int) = D.blocks.length := by omega
  simp [hl2, h.blocks.lenV]
  refine floop_intro (fun z => z.d = [] ∧ Ge H z.H ∧ z.t 1 = v ∧ z.t 14 = b ∧ z.t 15 = .int .i64 D.blocks.length ∧ ∃ i : Nat, i ≤ D.blocks.length ∧ z.t 16 = .int .i64 i ∧ ∀ k, k < i → truthOf (D.blocks[k]?.getD []) (T[k]?.getD []) = true) (fun z => D.blocks.length - (intOf (z.t 16)).toNat) ?_ ?_
  · exact ⟨rfl, by simp, by simp, by simp, by simp, 0, by simp, by simp, fun k hk => by omega⟩
  rintro ⟨t, _, A⟩ ⟨rfl, g, t1, t14, t15, i, hi, t16, hall⟩
  dsimp only at g t1 t14 t15 t16
  simp [t15, t16]
  refine fcond_intro (fun hc => ?_) (fun hc => ?_)
  case refine_2 =>
    have h1 : i = D.blocks.length := by simp at hc; omega
    subst h1
    simp [g, truthD_yes hl hall]
  have h1 : i < D.blocks.length := by simpa using hc
  have h2 : i < T.length := by omega
  obtain ⟨p, u, e1, e2, e3⟩ := h.blocks.atAll h1
  obtain ⟨p', u', f1, f2, f3⟩ := RowsOf.atAll hT h2
  have e21 := e2 A g
  have f21 := f2 A g
  simp [t1, t14, t16, e1, e21, f1, f21]
  refine fcall_fun (truthOf_spec (e3.ge g) (f3.ge g) (fun x hx => (hV.rel (List.getElem_mem h1) hx).2.2.1)) ?_
  rintro _ B ⟨rfl, gB⟩
  cases hb : truthOf D.blocks[i] T[i]
  · have : truthD D T = false := truthD_no h1 (by simp [h1, h2, hb])
    simp [this, g.trans gB]
  · simp [t16, add_in (x := i) (y := 1) (by omega) (by omega)]
    refine ⟨⟨g.trans gB, t1, t14, t15, i + 1, by omega, by omega, fun k hk => ?_⟩, by omega⟩
    by_cases hk2 : k = i
    · subst hk2; simp [h1, h2, hb]
    · exact hall k (by omega)

end Go.Proofs.YtllkhaabcfnlpaaDoor

