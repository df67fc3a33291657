/-
  Joined texts of a calculus of abstract memory, and of contracts of the program's functions.
-/
import Derived.Test.YtnbkclhjpekkcaaJ10
import Derived.Test.YtnbkclhjpekkcaaChecked
import Derived.KernelRfl
/-
  Contracts of what asks whether a list rises.
-/
namespace Go.Proofs.Ytnbkclhjpekkcaa
open Go Go.Ab

/-- A test that may turn memory of its own. -/
theorem every_int_state {H : Heap} {v pv : Value} {xs : List Int} {I : Nat → Heap → Prop} {F : Heap → Prop} (h0 : I 0 H) (hI : ∀ i A, I i A → IntsAt A v xs)
    (hp : ∀ i (hi : i < xs.length) A, I i A → ACall Try.prog pv [.int .i64 xs[i]] A (fun r B => ∃ b, r = .bool b ∧ (b = true → I (i + 1) B) ∧ (b = false → F B))) : AFun Try.prog 65 [v, pv] H (fun r B => (r = .bool true ∧ I xs.length B) ∨ (r = .bool false ∧ F B)) := by
  refine AFun.mk ok65 hm (Nat.le_of_ble_eq_true rfl) ?_
  have hv := hI 0 H h0
  have h62 := hv.2
  simp [a65, r65, hv.lenV]
  refine floop_intro (fun s => s.d = [] ∧ s.t 1 = pv ∧ s.t 7 = v ∧ s.t 8 = .int .i64 xs.length ∧ ∃ i : Nat, i ≤ xs.length ∧ s.t 9 = .int .i64 i ∧ I i s.H) (fun s => xs.length - (intOf (s.t 9)).toNat) ?_ ?_
  · exact ⟨rfl, by simp, by simp, by simp, 0, by simp, by simp, h0⟩
  · rintro ⟨t, _, A⟩ ⟨rfl, h1, h7, h8, i, hi, h9, hIi⟩
    dsimp only at h1 h7 h8 h9 hIi
    simp [h8, h9]
    refine fcond_intro (fun hc => ?_) (fun hc => ?_)
    · have hi' : i < xs.length := by simpa using hc
      obtain ⟨q, e1, e2⟩ := (hI i A hIi).at hi'
      simp [h1, h7, h9, e1, e2]
      refine fcall_intro ((hp i hi' A hIi).mono ?_)
      rintro _ B ⟨b, rfl, k1, k2⟩
      cases b
      · simp [k2 rfl]
      · simp [h9, add_in (x := i) (y := 1) (by omega) (by omega)]
        exact ⟨⟨h1, h7, h8, i + 1, by omega, by omega, k1 rfl⟩, by omega⟩
    · have : i = xs.length := by simp at hc; omega
      subst this
      simp [hIi]

def prevOf (xs : List Int) (i : Nat) : Int := if i = 0 then -1 else xs[i - 1]?.getD 0
def risAt (T : Tab) (xs : List Int) (i : Nat) : Bool := decide (prevOf xs i < xs[i]?.getD 0) && T.num (xs[i]?.getD 0)
def risL (T : Tab) (xs : List Int) : Bool := (List.range xs.length).all (risAt T xs)

theorem rising_step {e s f : Value} {T : Tab} {H : Heap} {x last : Int} {nl ns : Nat} (_h : TabAt H e s T) (hnl : nl < H.next) (hl : H.get nl = .cells true [.int .i64 last] 1) (hs : H.get ns = .cells true [.int .i64 T.places, .int .i64 T.layover, e, s, .func (.func 74) #[] #[], f] 6) (hne : ns ≠ nl)
    (hlo : ∀ A : Heap, (∀ n, n ≠ nl → A.get n = H.get n) → A.next = H.next → TabAt A e s T) :
    AFun Try.prog 89 [.int .i64 x, .pointer (some ⟨nl, 0, none⟩), .pointer (some ⟨ns, 0, none⟩)] H (fun r B => r = .bool (decide (last < x) && T.num x) ∧ H.next ≤ B.next ∧ B.get nl = .cells true [.int .i64 x] 1 ∧ ∀ n, n < H.next → n ≠ nl → B.get n = H.get n) := by
  refine AFun.mk ok89 hm (Nat.le_of_ble_eq_true rfl) ?_
  simp [a89, r89, hl]
  refine fcond_intro (fun hc => ?_) (fun hc => ?_)
  · simp at hc
    simp [hc, hne, hs]
    refine fcall_fun (validNumber_spec (x := x) (hlo _ (fun n hn => by simp [hn]) rfl)) ?_
    rintro _ B ⟨rfl, gB⟩
    have nB := gB.next
    have kl := gB.got (n := nl) (by simpa using hnl) rfl
    simp at kl nB
    simp [hc, Tab.num, kl, nB]
    intro n hn hne'
    rw [gB.get n (by simpa using hn)]
    simp [hne']
  · have hc' : ¬ last < x := by simpa using hc
    simp [hc']
    intro n _ hn
    simp [hn]

theorem isRising_spec {e s f v : Value} {T : Tab} {xs : List Int} {H : Heap} (h : TabAt H e s T) (hv : IntsAt H v xs) : AFun Try.prog 81 [svcV T e s f, v] H (fun r B => r = .bool (risL T xs) ∧ Ge H B) := by
  refine AFun.mk ok81 hm (Nat.le_of_ble_eq_true rfl) ?_
  simp [a81, r81]
  have hE : Ge H (((H.new (.cells true [.int .i64 T.places, .int .i64 T.layover, e, s, .func (.func 74) #[] #[], f] 6)).new (.cells true [.int .i64 0] 1)).set (H.next + 1) (.cells true [.int .i64 (-1)] 1)) := Ge.setNew ((Ge.new _ _).newOf _) (by omega) _
  refine fcall_fun (every_int_state (xs := xs) (I := fun i A => Ge H A ∧ H.next + 2 ≤ A.next ∧ A.get H.next = .cells true [.int .i64 T.places, .int .i64 T.layover, e, s, .func (.func 74) #[] #[], f] 6 ∧ A.get (H.next + 1) = .cells true [.int .i64 (prevOf xs i)] 1 ∧ ∀ k, k < i → risAt T xs k = true) (F := fun A => Ge H A ∧ risL T xs = false) ?_ ?_ ?_) ?_
  · exact ⟨hE, by simp, by simp, by simp [prevOf], fun k hk => by omega⟩
  · exact fun i A hI => hv.ge hI.1
  · rintro i hi A ⟨g, hn, k0, k1, hall⟩
    have hcall := rising_step (x := xs[i]) (last := prevOf xs i) (nl := H.next + 1) (ns := H.next) (f := f) (h.ge g) (by omega) k1 k0 (by omega) (fun B hB hBn => h.ge ⟨by have := g.next; omega, fun n hn2 => by rw [hB n (by omega), g.get n hn2]⟩)
    refine (ACall.of_fun (xs := #[]) (us := #[.pointer (some ⟨H.next + 1, 0, none⟩), .pointer (some ⟨H.next, 0, none⟩)]) (args := [.int .i64 xs[i]]) (by simpa using hcall)).mono ?_
    rintro _ B ⟨rfl, q1, q2, q3⟩
    have hat : risAt T xs i = (decide (prevOf xs i < xs[i]) && T.num xs[i]) := by simp [risAt, hi]
    have gB : Ge H B := ⟨by have := g.next; omega, fun n hn2 => by rw [q3 n (by omega) (by omega), g.get n hn2]⟩
    refine ⟨risAt T xs i, by rw [hat], fun hb => ⟨gB, by omega, by rw [q3 _ (by omega) (by omega), k0], ?_, lt_succ_all hall hb⟩, fun hb => ⟨gB, all_range_false hi hb⟩⟩
    rw [q2]; simp [prevOf, hi]
  · rintro r B (⟨rfl, g, _, _, _, hall⟩ | ⟨rfl, g, hf⟩)
    · have : risL T xs = true := by simpa [risL] using hall
      simp [this, g]
    · simp [hf, g]

/-- What a list that rises is. -/
theorem risL_ok {T : Tab} (_hfew : T.trips.length ≤ 12) {xs : List Int} (h : risL T xs = true) : xs.Pairwise (· < ·) ∧ ∀ x ∈ xs, T.num x = true := by
  have hat : ∀ i (hi : i < xs.length), prevOf xs i < xs[i] ∧ T.num xs[i] = true := by
    intro i hi
    have := List.all_eq_true.1 h i (List.mem_range.2 hi)
    simpa [risAt, hi] using this
  refine ⟨?_, fun x hx => ?_⟩
  · rw [List.pairwise_iff_getElem]
    intro i j hi hj hij
    induction j with
    | zero => omega
    | succ j ih =>
      have h1 := (hat (j + 1) hj).1
      simp [prevOf, (by omega : j < xs.length)] at h1
      by_cases e : i = j
      · subst e; exact h1
      · have := ih (by omega) (by omega); omega
  · obtain ⟨i, hi, rfl⟩ := List.getElem_of_mem hx
    exact (hat i hi).2

theorem risL_length {T : Tab} (hfew : T.trips.length ≤ 12) {xs : List Int} (h : risL T xs = true) : xs.length ≤ T.trips.length := by
  obtain ⟨h1, h2⟩ := risL_ok hfew h
  have hnd : xs.Nodup := h1.imp fun hab => by omega
  have := flat_cnt hfew hnd h2 (fun _ => true)
  rw [List.countP_eq_length_filter, List.filter_eq_self.2 (fun _ _ => rfl)] at this
  exact Nat.le_trans this cntN_le

theorem pickL_at {xs : List Int} (hx : ∀ x ∈ xs, 0 ≤ x ∧ x < 12) {i : Nat} (hi : i < 12) : (pickL xs)[i]?.getD false = decide ((i : Int) ∈ xs) := by
  have key : ∀ m, m ≤ xs.length → (pickTo xs m)[i]?.getD false = decide ((i : Int) ∈ xs.take m) := by
    intro m
    induction m with
    | zero => intro _; simp only [pickTo, List.take_zero, List.foldl_nil, List.getElem?_replicate]; simp [hi]
    | succ m ih =>
      intro hm
      have hml : m < xs.length := by omega
      have hb := hx _ (List.getElem_mem hml)
      rw [pickTo_succ hml, List.take_succ_eq_append_getElem hml]
      by_cases e : xs[m].toNat = i
      · subst e
        have : ((xs[m].toNat : Nat) : Int) = xs[m] := by omega
        have hl := pickTo_length (xs := xs) m
        rw [List.getElem?_set_self (by omega), this]
        simp only [List.mem_append, List.mem_singleton, or_true, decide_true]
        rfl
      · rw [List.getElem?_set_ne e, ih (by omega)]
        have : ¬ (i : Int) = xs[m] := by omega
        simp only [List.mem_append, List.mem_singleton, this, or_false]
  have := key xs.length (Nat.le_refl _)
  rw [List.take_length] at this
  exact this

end Go.Proofs.Ytnbkclhjpekkcaa

/-
  Contracts of isCover, of ProveCover and of Cover.
-/
namespace Go.Proofs.Ytnbkclhjpekkcaa
open Go Go.Ab

/-- A pair of trips against two lists. -/
def pairOk (T : Tab) (a b : List Int) (i j : Nat) : Bool := !T.mayN i j || (pickL a)[i]?.getD false || (pickL b)[j]?.getD false
def allPairs (T : Tab) (a b : List Int) : Bool := (List.range T.trips.length).all fun i => (List.range T.trips.length).all fun j => pairOk T a b i j
def isCovL (T : Tab) (a b : List Int) : Bool := risL T a && risL T b && allPairs T a b

structure CInv (T : Tab) (a b : List Int) (A0 B : Heap) (r : ALoop) (i j : Nat) : Prop where
  next : A0.next + 2 ≤ B.next
  keep : ∀ n, n < A0.next → B.get n = A0.get n
  dfr : B.get A0.next = .dfr
  loop : B.get (A0.next + 1) = .loop r
  ok : ∀ i' j', i' < T.trips.length → j' < T.trips.length → (i' < i ∨ (i' = i ∧ j' < j)) → pairOk T a b i' j' = true

structure CBad (T : Tab) (a b : List Int) (A0 B : Heap) (b6 : Nat) (r : ALoop) : Prop where
  next : A0.next + 2 ≤ B.next
  keep : ∀ n, n < A0.next → n ≠ b6 → B.get n = A0.get n
  dfr : B.get A0.next = .dfr
  loop : B.get (A0.next + 1) = .loop { r with state := .done, pending := some .ret }
  res : B.get b6 = .cells true [.bool false] 1
  bad : allPairs T a b = false

theorem allPairs_bad {T : Tab} {a b : List Int} {i j : Nat} (hi : i < T.trips.length) (hj : j < T.trips.length) (h : pairOk T a b i j = false) : allPairs T a b = false :=
  all_range_false hi (all_range_false hj h)

theorem cover_round {T : Tab} {a b : List Int} {A0 A : Heap} {b6 b7 b8 dn i j : Nat} {r : ALoop} {t : Nat → Value} {fn : FuncId}
    (hr : r = { state := .ready, pending := none, fn, t, N := 39, params := #[27, 28], assign := c60x0, body := c60y0, defers := dn })
    (h6 : t 6 = .pointer (some ⟨b6, 0, none⟩)) (h7 : t 7 = .pointer (some ⟨b7, 0, none⟩)) (h8 : t 8 = .pointer (some ⟨b8, 0, none⟩)) (l6 : b6 < A0.next) (l7 : b7 < A0.next) (l8 : b8 < A0.next)
    (k6 : A0.get b6 = .cells true [.bool false] 1) (k7 : A0.get b7 = .cells true ((pickL a).map .bool) 12) (k8 : A0.get b8 = .cells true ((pickL b).map .bool) 12)
    (hfew : T.trips.length ≤ 12) (hI : CInv T a b A0 A r i j) (hi : i < T.trips.length) (hj : j < T.trips.length) (hmay : T.mayN i j = true) :
    ACall Try.prog (.func (.yield (A0.next + 1)) #[] #[]) [.int .i64 i, .int .i64 j] A (fun v B => ∃ k, v = .bool k ∧ (k = true → CInv T a b A0 B r i (j + 1)) ∧ (k = false → CBad T a b A0 B b6 r)) := by
  have hnx := hI.next
  have q6 := (hI.keep b6 l6).trans k6
  have q7 := (hI.keep b7 l7).trans k7
  have q8 := (hI.keep b8 l8).trans k8
  have la : (pickL a).length = 12 := pickTo_length _
  have lb : (pickL b).length = 12 := pickTo_length _
  have n6 : b6 ≠ A0.next + 1 := by omega
  have n7 : b7 ≠ A0.next + 1 := by omega
  have n8 : b8 ≠ A0.next + 1 := by omega
  have m6 : A0.next + 1 ≠ b6 := by omega
  refine ACall.of_yield (P := Try.prog) (D := vdrawD Try.prog) (CD := cdraw Try.prog 39) hI.loop (by rw [hr]; rfl) (by rw [hr]; intro p hp; simp at hp; rcases hp with rfl | rfl <;> simp) (by rw [hr]; exact ok60x0) (by rw [hr]; exact ok60y0) (by rw [hr]; exact draw_sound hm) ?_
  subst hr
  have hI1 : ∀ (q x : Nat), x < 12 → iarV 12 1 (.pointer (some ⟨q, 0, none⟩)) (.int .i64 x) = some (.pointer (some ⟨q, x, none⟩)) := fun q x hx => by
    rw [iarV_in (by omega) (by omega)]; simp
  have hi12 : i < 12 := by omega
  have hj12 : j < 12 := by omega
  simp [a60x0, tround, hI.loop]
  simp [a60y0, h7, hI1 _ i hi12, q7, la, hi12, n7]
  have hpa : (pickL a)[i]?.getD false = (pickL a)[i]'(by omega) := by simp [la, hi12]
  have hpb : (pickL b)[j]?.getD false = (pickL b)[j]'(by omega) := by simp [lb, hj12]
  have hok : pairOk T a b i j = ((pickL a)[i]'(by omega) || (pickL b)[j]'(by omega)) := by simp only [pairOk, hmay, hpa, hpb]; rfl
  have fine : ∀ B : Heap, A.next ≤ B.next → (∀ n, n < A0.next → B.get n = A.get n) → B.get A0.next = A.get A0.next → B.get (A0.next + 1) = .loop { state := .ready, pending := none, fn, t, N := 39, params := #[27, 28], assign := c60x0, body := c60y0, defers := dn } → pairOk T a b i j = true → CInv T a b A0 B { state := .ready, pending := none, fn, t, N := 39, params := #[27, 28], assign := c60x0, body := c60y0, defers := dn } i (j + 1) := by
    intro B h1 h2 h3 h4 h5
    refine ⟨by omega, fun n hn => (h2 n hn).trans (hI.keep n hn), h3.trans hI.dfr, h4, fun i' j' hi' hj' hlt => ?_⟩
    by_cases e : i' = i ∧ j' = j
    · obtain ⟨rfl, rfl⟩ := e; exact h5
    · exact hI.ok i' j' hi' hj' (by omega)
  have nd : A0.next ≠ A0.next + 1 := by omega
  generalize (pickL a)[i]'(by omega) = va at hok
  cases va
  case true =>
    simp
    refine fine _ (by simp) (fun n hn => ?_) (by simp) (by simp) (by rw [hok]; rfl)
    have : n ≠ A0.next + 1 := by omega
    simp [this]
  simp [h8, hI1 _ j hj12, q8, lb, hj12, n8]
  generalize (pickL b)[j]'(by omega) = vb at hok
  cases vb
  case true =>
    simp
    refine fine _ (by simp) (fun n hn => ?_) (by simp) (by simp) (by rw [hok]; rfl)
    have : n ≠ A0.next + 1 := by omega
    simp [this]
  simp [h6, q6, n6, m6]
  refine ⟨by simp; omega, fun n hn hn6 => ?_, ?_, by simp, by simp [n6], allPairs_bad hi hj (by rw [hok]; rfl)⟩
  · have : n ≠ A0.next + 1 := by omega
    simp [this, hn6, hI.keep n hn]
  · have : A0.next ≠ b6 := by omega
    simp [this, hI.dfr]

theorem cover_range {T : Tab} (hT : Valid T) {a b : List Int} {H A0 : Heap} {b6 b7 b8 nb cb : Nat} {rb : Bool} {t : Nat → Value} {e s f : Value} {Q : APost} (h : TabAt H e s T) (g : Ge H A0)
    (h6 : t 6 = .pointer (some ⟨b6, 0, none⟩)) (h7 : t 7 = .pointer (some ⟨b7, 0, none⟩)) (h8 : t 8 = .pointer (some ⟨b8, 0, none⟩)) (h26 : t 26 = .func (.func 88) #[] #[.pointer (some ⟨nb, 0, none⟩)]) (l6 : b6 < A0.next) (l7 : b7 < A0.next) (l8 : b8 < A0.next) (lb : nb < A0.next)
    (k6 : A0.get b6 = .cells true [.bool false] 1) (k7 : A0.get b7 = .cells true ((pickL a).map .bool) 12) (k8 : A0.get b8 = .cells true ((pickL b).map .bool) 12)
    (hbx : A0.get nb = .cells rb [.int .i64 T.places, .int .i64 T.layover, e, s, .func (.func 74) #[] #[], f] cb)
    (hK1 : ∀ B : Heap, A0.next + 2 ≤ B.next → (∀ n, n < A0.next → B.get n = A0.get n) → B.get A0.next = .dfr → allPairs T a b = true → Q .normal ⟨t, [A0.next], B⟩)
    (hK2 : ∀ B : Heap, A0.next + 2 ≤ B.next → (∀ n, n < A0.next → n ≠ b6 → B.get n = A0.get n) → B.get A0.next = .dfr → B.get b6 = .cells true [.bool false] 1 → allPairs T a b = false → Q .ret ⟨t, [A0.next], B⟩) :
    arange Try.prog 39 none (.t 26) #[27, 28] c60x0 c60y0 Q ⟨t, [], A0⟩ := by
  refine ⟨88, #[], #[.pointer (some ⟨nb, 0, none⟩)], h26, fun fn => ?_⟩
  refine (pairs_spec hT (I := fun i j A => CInv T a b A0 A { state := .ready, pending := none, fn, t, N := 39, params := #[27, 28], assign := c60x0, body := c60y0, defers := A0.next } i j) (F := fun B => CBad T a b A0 B b6 { state := .ready, pending := none, fn, t, N := 39, params := #[27, 28], assign := c60x0, body := c60y0, defers := A0.next }) ?_ ?_ ?_ ?_ ?_ ?_).mono ?_
  · refine ⟨by simp, fun n hn => ?_, by simp, by simp, fun _ _ _ _ h => by omega⟩
    have e1 : n ≠ A0.next + 1 := by omega
    simp [Nat.ne_of_lt hn, e1]
  · intro i j A B hI gg
    have hx := hI.next
    exact ⟨Nat.le_trans hx gg.next, fun n hn => (gg.get n (by omega)).trans (hI.keep n hn), gg.got (by omega) hI.dfr, gg.got (by omega) hI.loop, hI.ok⟩
  · intro i j A hI
    have hx := hI.next
    refine ⟨by omega, rb, cb, e, s, f, (hI.keep nb lb).trans hbx, ?_⟩
    exact h.ge ⟨by have := g.next; omega, fun n hn => by have := g.next; rw [hI.keep n (by omega), g.get n hn]⟩
  · intro i j A hI hi hj hmay
    exact cover_round rfl h6 h7 h8 l6 l7 l8 k6 k7 k8 hT.few hI hi hj hmay
  · intro i j A hI hmay
    refine ⟨hI.next, hI.keep, hI.dfr, hI.loop, fun i' j' hi' hj' hlt => ?_⟩
    by_cases e : i' = i ∧ j' = j
    · obtain ⟨rfl, rfl⟩ := e
      simp [pairOk, hmay]
    · exact hI.ok i' j' hi' hj' (by omega)
  · intro i A hI
    exact ⟨hI.next, hI.keep, hI.dfr, hI.loop, fun i' j' hi' hj' hlt => hI.ok i' j' hi' hj' (by omega)⟩
  · rintro v B (hI | hF)
    · have hx := hI.next
      refine ⟨_, hI.loop, by simp, ?_⟩
      refine hK1 _ (by simpa using hx) (fun n hn => ?_) ?_ ?_
      · have e1 : n ≠ A0.next + 1 := by omega
        simp [e1, hI.keep n hn]
      · simp [hI.dfr]
      · simp only [allPairs, List.all_eq_true, List.mem_range]
        exact fun i' hi' j' hj' => hI.ok i' j' hi' hj' (.inl hi')
    · have hx := hF.next
      refine ⟨_, hF.loop, by simp, ?_⟩
      refine hK2 _ (by simpa using hx) (fun n hn hne => ?_) ?_ ?_ hF.bad
      · have e1 : n ≠ A0.next + 1 := by omega
        simp [e1, hF.keep n hn hne]
      · simp [hF.dfr]
      · have e1 : b6 ≠ A0.next + 1 := by omega
        simp [e1, hF.res]

theorem isCover_spec {e s f va vb : Value} {T : Tab} {a b : List Int} {H : Heap} (h : TabAt H e s T) (hT : Valid T) (ha : IntsAt H va a) (hb : IntsAt H vb b) :
    AFun Try.prog 60 [svcV T e s f, va, vb] H (fun r B => r = .bool (isCovL T a b) ∧ Ge H B) := by
  refine AFun.mk ok60 hm (Nat.le_of_ble_eq_true rfl) ?_
  have hfew := hT.few
  simp [a60, r60]
  have g0 : Ge H ((H.new (.cells true [.int .i64 T.places, .int .i64 T.layover, e, s, .func (.func 74) #[] #[], f] 6)).new (.cells true [.bool false] 1)) := (Ge.new _ _).newOf _
  refine fcall_fun (isRising_spec (h.ge g0) (ha.ge g0)) ?_
  rintro _ H1 ⟨rfl, g1⟩
  have G1 := g0.trans g1
  have n1 := g1.next
  simp at n1
  have k0 := g1.got (n := H.next) (by simp) rfl
  have k1 := g1.got (n := H.next + 1) (by simp) rfl
  simp at k0 k1
  have false1 : ∀ B : Heap, Ge H B → H.next + 2 ≤ B.next → B.get (H.next + 1) = .cells true [.bool false] 1 → Ge H (B.set (H.next + 1) (.cells true [.bool false] 1)) := fun B g _ _ => Ge.setNew g (by omega) _
  cases hra : risL T a
  · simp [k1, isCovL, hra]
    exact Ge.setNew G1 (by omega) _
  simp [k0]
  refine fcall_fun (isRising_spec (h.ge G1) (hb.ge G1)) ?_
  rintro _ H2 ⟨rfl, g2⟩
  have G2 := G1.trans g2
  have n2 := g2.next
  have k20 := g2.got (by omega) k0
  have k21 := g2.got (by omega) k1
  cases hrb : risL T b
  · simp [k21, isCovL, hra, hrb]
    exact Ge.setNew G2 (by omega) _
  obtain ⟨_, a2⟩ := risL_ok hfew hra
  obtain ⟨_, b2⟩ := risL_ok hfew hrb
  have bnd : ∀ x : Int, T.num x = true → 0 ≤ x ∧ x < 12 := fun x hx => by have := num_lt hfew hx; omega
  simp
  refine fcall_fun (choose_spec (ha.ge G2) fun x hx => bnd x (a2 x hx)) ?_
  rintro _ H3 ⟨rfl, g3⟩
  have G3 := G2.trans g3
  simp
  refine fcall_fun (choose_spec (hb.ge G3) fun x hx => bnd x (b2 x hx)) ?_
  rintro _ H4 ⟨rfl, g4⟩
  have G4 := G3.trans g4
  have n3 := g3.next
  have n4 := g4.next
  have k40 := g4.got (by omega) (g3.got (by omega) k20)
  have k41 := g4.got (by omega) (g3.got (by omega) k21)
  have la : (pickL a).length = 12 := pickTo_length _
  have lb : (pickL b).length = 12 := pickTo_length _
  have q0 : H.next ≠ H4.next := by omega
  have q01 : H.next ≠ H4.next + 1 := by omega
  have q1 : H.next + 1 ≠ H4.next := by omega
  have q11 : H.next + 1 ≠ H4.next + 1 := by omega
  have hfa : (chA (pickL a)).size = 12 := by rw [chA_size, la]
  have hfb : (chA (pickL b)).size = 12 := by rw [chA_size, lb]
  have hta : (chA (pickL a)).toList = (pickL a).map .bool := chA_toList _
  have htb : (chA (pickL b)).toList = (pickL b).map .bool := chA_toList _
  simp [hfa, hfb, hta, htb, la, lb, Function.comp_def, q0, q01, k40]
  refine fcall_fun pairsOf_spec ?_
  rintro _ _ ⟨rfl, rfl⟩
  simp
  have hm : (pickL a).map .bool = (pickL a).map Value.bool := rfl
  refine frange_intro (cover_range (a := a) (b := b) (b6 := H.next + 1) (b7 := H4.next) (b8 := H4.next + 1) (nb := H4.next + 2) (cb := 6) (rb := true) (f := f) hT (h.ge G4) (Ge.newOf (Ge.setNew (Ge.setNew (Ge.newOf (Ge.new _ _) _) (by omega) _) (by omega) _) _) (by simp) (by simp) (by simp) (by simp) (by simp; omega) (by simp) (by simp) (by simp) ?_ ?_ ?_ ?_ ?_ ?_)
  · have e1 : H.next + 1 ≠ H4.next + 2 := by omega
    simp [q0, q01, q1, k41]
  · simp
  · simp
  · simp
  · intro B c1 c2 c3 c4
    simp at c1 c2 c3
    have b1 := c2 (H.next + 1) (by omega)
    have e1 : H.next + 1 ≠ H4.next + 2 := by omega
    simp [q0, q01, q1, k41] at b1
    have gB : Ge H B := by
      refine ⟨by have := G4.next; omega, fun n hn => ?_⟩
      have := G4.next
      have r0 : n ≠ H4.next := by omega
      have r1 : ∀ k, n ≠ H4.next + k := fun k => by omega
      rw [c2 n (by omega)]
      simp [r0, r1]
      exact G4.get n hn
    have e2 : H4.next + 2 ≠ H.next := by omega
    have e3 : H.next ≠ H4.next + 2 := by omega
    simp [b1, c3, e2, e3]
    have := G4.next
    exact ⟨by simp [isCovL, hra, hrb, c4], Ge.setNew (Ge.setNew gB (by omega) _) (by omega) _⟩
  · intro B c1 c2 c3 c4 c5
    simp at c1 c2 c3
    have gB : Ge H B := by
      refine ⟨by have := G4.next; omega, fun n hn => ?_⟩
      have := G4.next
      have r0 : n ≠ H4.next := by omega
      have r1 : ∀ k, n ≠ H4.next + k := fun k => by omega
      rw [c2 n (by omega) (by omega)]
      simp [r0, r1]
      exact G4.get n hn
    have e1 : H.next ≠ H4.next + 2 := by omega
    simp [c3, c4, e1]
    have := G4.next
    exact ⟨by simp [isCovL, hra, hrb, c5], Ge.setNew gB (by omega) _⟩

end Go.Proofs.Ytnbkclhjpekkcaa

/-
  Contracts of ProveCover and of Cover, and what a cover is.
-/
namespace Go.Proofs.Ytnbkclhjpekkcaa
open Go Go.Ab

theorem risL_of {T : Tab} {xs : List Int} (hp : xs.Pairwise (· < ·)) (hn : ∀ x ∈ xs, T.num x = true) : risL T xs = true := by
  simp only [risL, List.all_eq_true, List.mem_range]
  intro i hi
  have h1 := hn _ (List.getElem_mem hi)
  simp only [risAt, prevOf, hi, List.getElem?_eq_getElem, Option.getD_some, h1, Bool.and_true, decide_eq_true_eq]
  by_cases e : i = 0
  · subst e
    simp only [Tab.num, decide_eq_true_eq, Bool.and_eq_true] at h1
    simp
    omega
  · have h2 : i - 1 < xs.length := by omega
    have := List.pairwise_iff_getElem.1 hp (i - 1) i h2 hi (by omega)
    simpa [e, h2] using this

theorem numsOf_mem {n : Nat} {f : Nat → Bool} {x : Int} : x ∈ numsOf n f ↔ ∃ k : Nat, k < n ∧ f k = true ∧ x = (k : Int) := by
  simp only [numsOf, List.mem_map, List.mem_filter, List.mem_range]
  constructor
  · rintro ⟨k, ⟨h1, h2⟩, rfl⟩; exact ⟨k, h1, h2, rfl⟩
  · rintro ⟨k, h1, h2, rfl⟩; exact ⟨k, ⟨h1, h2⟩, rfl⟩

theorem numsOf_rise {n : Nat} {f : Nat → Bool} : (numsOf n f).Pairwise (· < ·) := by
  simp only [numsOf, List.pairwise_map]
  refine (List.pairwise_lt_range.filter f).imp ?_
  intro a b hab
  show (a : Int) < (b : Int)
  omega

theorem covL_of {T : Tab} (hfew : T.trips.length ≤ 12) {f g : Nat → Bool} (hc : Cov T.mayN T.trips.length f g) : isCovL T (numsOf T.trips.length f) (numsOf T.trips.length g) = true := by
  have hnum : ∀ f : Nat → Bool, ∀ x ∈ numsOf T.trips.length f, T.num x = true := by
    intro f x hx
    obtain ⟨k, h1, _, rfl⟩ := numsOf_mem.1 hx
    simp [Tab.num]; omega
  have hb : ∀ f : Nat → Bool, ∀ x ∈ numsOf T.trips.length f, 0 ≤ x ∧ x < 12 := fun f x hx => by
    have := num_lt hfew (hnum f x hx); omega
  simp only [isCovL, risL_of numsOf_rise (hnum f), risL_of numsOf_rise (hnum g), Bool.true_and, allPairs, List.all_eq_true, List.mem_range]
  intro i hi j hj
  simp only [pairOk, pickL_at (hb f) (Nat.lt_of_lt_of_le hi hfew), pickL_at (hb g) (Nat.lt_of_lt_of_le hj hfew)]
  cases hm : T.mayN i j
  · rfl
  · rcases hc i j hi hj hm with h | h
    · have : (i : Int) ∈ numsOf T.trips.length f := numsOf_mem.2 ⟨i, hi, h, rfl⟩
      simp [this]
    · have : (j : Int) ∈ numsOf T.trips.length g := numsOf_mem.2 ⟨j, hj, h, rfl⟩
      simp [this]

theorem cov_of {T : Tab} (hfew : T.trips.length ≤ 12) {a b : List Int} (h : isCovL T a b = true) : Cov T.mayN T.trips.length (fun i => decide ((i : Int) ∈ a)) (fun i => decide ((i : Int) ∈ b)) := by
  simp only [isCovL, Bool.and_eq_true] at h
  obtain ⟨⟨h1, h2⟩, h3⟩ := h
  have hb : ∀ xs : List Int, risL T xs = true → ∀ x ∈ xs, 0 ≤ x ∧ x < 12 := fun xs hr x hx => by
    have := num_lt hfew ((risL_ok hfew hr).2 x hx); omega
  intro i j hi hj hm
  simp only [allPairs, List.all_eq_true, List.mem_range] at h3
  have := h3 i hi j hj
  simp only [pairOk, pickL_at (hb a h1) (Nat.lt_of_lt_of_le hi hfew), pickL_at (hb b h2) (Nat.lt_of_lt_of_le hj hfew), hm] at this
  simpa using this

theorem cnt_mem {n : Nat} {xs : List Int} : cntN n (fun i => decide ((i : Int) ∈ xs)) ≤ xs.length := by
  induction xs with
  | nil => simp [cntN]
  | cons x xs ih =>
    have h1 : cntN n (fun i => decide ((i : Int) ∈ x :: xs)) ≤ cntN n (fun i => decide ((i : Int) = x)) + cntN n (fun i => decide ((i : Int) ∈ xs)) := by
      rw [cntN_split (f := fun i => decide ((i : Int) ∈ x :: xs)) (fun i => decide ((i : Int) = x))]
      refine Nat.add_le_add (cntN_mono fun k _ hk => ?_) (cntN_mono fun k _ hk => ?_)
      · simp at hk; simp [hk]
      · simp at hk; simp [hk.1.resolve_left hk.2]
    have h2 : cntN n (fun i => decide ((i : Int) = x)) ≤ 1 := by
      refine Nat.le_trans (cntN_inj (m := 1) (g := fun _ => true) (fun _ => 0) (fun _ _ _ => ⟨by omega, rfl⟩) (fun j k _ _ hj hk _ => ?_)) cntN_le
      simp at hj hk; omega
    simp only [List.length_cons]
    omega

/-- A cover proves no more buses than any cutting has. -/
theorem cov_le {T : Tab} (hfew : T.trips.length ≤ 12) {a b : List Int} (h : isCovL T a b = true) {bs : List (List Int)} (hb : isCutL T bs = true) : T.trips.length ≤ bs.length + a.length + b.length := by
  have h1 := cut_ge hfew hb (cov_of hfew h)
  have h2 := cnt_mem (n := T.trips.length) (xs := a)
  have h3 := cnt_mem (n := T.trips.length) (xs := b)
  omega

theorem isCovL_len {T : Tab} (hfew : T.trips.length ≤ 12) {a b : List Int} (h : isCovL T a b = true) : a.length ≤ T.trips.length ∧ b.length ≤ T.trips.length := by
  simp only [isCovL, Bool.and_eq_true] at h
  exact ⟨risL_length hfew h.1.1, risL_length hfew h.1.2⟩

def proves (T : Tab) (a b : List Int) (buses : Int) : Bool := decide (checkT T = 0) && isCovL T a b && decide (buses ≤ (T.trips.length : Int) - a.length - b.length)

theorem proveCover_spec {e s va vb : Value} {T : Tab} {H : Heap} {a b : List Int} {buses : Int} (h : TabAt H e s T) (ha : IntsAt H va a) (hb : IntsAt H vb b) :
    AFun Try.prog 33 [tabV T e s, va, vb, .int .i64 buses] H (fun v B => v = .bool (proves T a b buses) ∧ Ge H B) := by
  refine AFun.mk ok33 hm (Nat.le_of_ble_eq_true rfl) ?_
  have hl := h.trips.lenV
  have hs := h.trips.one
  simp [a33, r33]
  refine fcall_fun (checkTable_spec (h.ge (by simp))) ?_
  rintro _ H1 ⟨rfl, g1⟩
  have G1 : Ge H H1 := Ge.trans (by simp) g1
  have b1 := g1.got (n := H.next) (by simp) rfl
  simp at b1
  have n1 := g1.next
  simp at n1
  by_cases hc : checkT T = 0
  · have hT := checkT_zero.1 hc
    have hfew := hT.few
    simp [hc, b1]
    refine fcall_fun (newService_spec (h.ge G1) hT) ?_
    rintro _ H2 ⟨f, rfl, g2, _⟩
    have G2 := G1.trans g2
    simp [hc]
    refine fcall_fun (isCover_spec (h.ge G2) hT (ha.ge G2) (hb.ge G2)) ?_
    rintro _ H3 ⟨rfl, g3⟩
    have b3 := g3.got (by have := g2.next; omega) (g2.got (by omega) b1)
    cases hcv : isCovL T a b
    · simp [hc, proves, hcv, G2.trans g3]
    · obtain ⟨l1, l2⟩ := isCovL_len hfew hcv
      simp [hc, b3, hl, ha.lenV, hb.lenV, sub_in (x := T.trips.length) (y := a.length) (by omega) (by omega), sub_in (x := (T.trips.length : Int) - a.length) (y := b.length) (by omega) (by omega), proves, hcv, G2.trans g3]
  · simp [hc, proves, G1]

end Go.Proofs.Ytnbkclhjpekkcaa

/-
  The contract of Cover.
-/
namespace Go.Proofs.Ytnbkclhjpekkcaa
open Go Go.Ab

theorem coverAll_spec {e s : Value} {T : Tab} {H : Heap} (h : TabAt H e s T) : AFun Try.prog 32 [tabV T e s] H (fun r H' => Ge H H' ∧ (checkT T ≠ 0 → r = .tuple #[.slice none 0 0, .slice none 0 0, .int .i64 (checkT T)]) ∧
    (checkT T = 0 → ∃ va vb a b, r = .tuple #[va, vb, .int .i64 0] ∧ IntsAt H' va a ∧ IntsAt H' vb b ∧ isCovL T a b = true ∧ a.length + b.length = T.most)) := by
  refine AFun.mk ok32 hm (Nat.le_of_ble_eq_true rfl) ?_
  simp [a32, r32]
  refine fcall_fun (checkTable_spec (h.ge (by simp))) ?_
  rintro _ H1 ⟨rfl, g1⟩
  have G1 : Ge H H1 := Ge.trans (by simp) g1
  have b1 := g1.got (n := H.next) (by simp) rfl
  simp at b1
  simp
  refine fcond_intro (fun hc => ?_) (fun hc => ?_)
  · simp at hc
    simp [hc, G1]
  · simp at hc
    have hT := checkT_zero.1 hc
    have he := h.empty.one
    have hs := h.trips.one
    simp [b1]
    refine fcall_fun (newService_spec (h.ge G1) hT) ?_
    rintro _ H2 ⟨f, rfl, g2, hr⟩
    have hf1 := hr.one
    have hF := followers_ok hT.few
    simp [he, hs, hf1]
    have G2 : Ge H ((H2.new (.cells true [.int .i64 0, .int .i64 0, .slice none 0 0, .slice none 0 0, .nilFunc, .slice none 0 0] 6)).set H2.next (.cells true [.int .i64 T.places, .int .i64 T.layover, e, s, .func (.func 74) #[] #[], f] 6)) := Ge.setNew ((G1.trans g2).newOf _) (G1.trans g2).next _
    have G3 : Ge H2 ((H2.new (.cells true [.int .i64 0, .int .i64 0, .slice none 0 0, .slice none 0 0, .nilFunc, .slice none 0 0] 6)).set H2.next (.cells true [.int .i64 T.places, .int .i64 T.layover, e, s, .func (.func 74) #[] #[], f] 6)) := Ge.setNew (Ge.new _ _) (Nat.le_refl _) _
    refine fcall_fun (allTrips_spec ((h.ge G2).ge (Ge.more _ 11)) hT.few) ?_
    rintro _ H3 ⟨rfl, g3⟩
    have k3 := g3.got (n := H2.next) (by simp) (by simp; rfl)
    simp [k3]
    have G4 := (G2.grow 11).trans g3
    have G5 := (G3.grow 11).trans g3
    refine fcall_fun (join_spec (h.ge G4) hF (upTo_length _) (hr.ge G5)) ?_
    rintro _ H4 ⟨rfl, g4⟩
    have k4 := g4.got (n := H2.next) (by have := g3.next; simp at this; omega) k3
    simp [k4]
    refine fcall_fun (cover_spec (h.ge (G4.trans g4)) hT (hr.ge (G5.trans g4))) ?_
    rintro v H5 ⟨g5, fr, wa, hS, va, vb, rfl, hva, hvb⟩
    obtain ⟨c1, c2⟩ := hS.cov hT
    have o1 := IntsAt.one hva
    have o2 := IntsAt.one hvb
    simp [hc]
    exact ⟨(G4.trans g4).trans g5, va, vb, ⟨rfl, rfl⟩, aheadL T.trips.length fr, hva, behindL T.trips.length wa, hvb, covL_of hT.few c1, by rw [← c2, ← numsOf_length, ← numsOf_length]; rfl⟩

end Go.Proofs.Ytnbkclhjpekkcaa

/-
  What RunFewer answers.
-/
namespace Go.Proofs.Ytnbkclhjpekkcaa
open Go Go.Ab

theorem runFewer_of {e s bv av cv : Value} {T : Tab} {blocks : List (List Int)} {xs ys : List Int} {H : Heap} (h : TabAt H e s T) (hb : RowsAt H bv blocks) (ha : IntsAt H av xs) (hy : IntsAt H cv ys) : AFun Try.prog 10 [tabV T e s, bv, av, cv] H (fun v B => v = .bool true ∧ Ge H B) := by
  refine AFun.mk ok10 hm (Nat.le_of_ble_eq_true rfl) ?_
  have g0 : Ge H (H.new (.cells true [.int .i64 T.places, .int .i64 T.layover, e, s] 4)) := Ge.new _ _
  simp [a10, r10]
  refine fcall_fun (readyS_spec (h.ge g0)) ?_
  rintro _ H1 ⟨rfl, g1⟩
  have G1 := g0.trans g1
  have n1 := g1.next
  simp at n1
  have b1 := g1.got (n := H.next) (by simp) rfl
  simp at b1
  cases hrd : readyT T
  · simp
    refine fcall_fun (awake_spec _) ?_
    rintro _ B ⟨rfl, gB⟩
    simp
    exact G1.trans gB
  have hrd2 : thin T = true ∧ checkT T = 0 := by simpa [readyT] using hrd
  obtain ⟨hth, hc⟩ := hrd2
  have hT := checkT_zero.1 hc
  have hfew := hT.few
  simp
  refine fcall_fun (short_spec (hb.ge G1)) ?_
  rintro _ H2 ⟨rfl, g2⟩
  have G2 := G1.trans g2
  have n2 := g2.next
  have b2 := g2.got (by omega) b1
  have hse : (decide (blocks.length ≤ 15) && blocks.all fun l => decide (l.length ≤ 15)) = shortL blocks := rfl
  rw [hse]
  cases hsh : shortL blocks
  · simp
    refine fcall_fun (awake_spec _) ?_
    rintro _ B ⟨rfl, gB⟩
    simp
    exact G2.trans gB
  obtain ⟨s1, s2⟩ := shortL_at hsh
  simp [ha.lenV]
  by_cases hx : 15 < (xs.length : Int)
  · simp [hx]
    refine fcall_fun (awake_spec _) ?_
    rintro _ B ⟨rfl, gB⟩
    simp
    exact G2.trans gB
  by_cases hz : 15 < (ys.length : Int)
  · simp [hx, hz, hy.lenV]
    refine fcall_fun (awake_spec _) ?_
    rintro _ B ⟨rfl, gB⟩
    simp
    exact G2.trans gB
  simp [hx, hz, b2, hy.lenV]
  refine fcall_fun (table_spec (h.ge G2) hth) ?_
  rintro _ H3 ⟨⟨e3, s3, rfl, t3⟩, g3⟩
  have G3 := G2.trans g3
  have n3 := g3.next
  simp
  refine fcall_fun (cut_spec t3) ?_
  rintro _ H4 ⟨g4, _, hcut⟩
  obtain ⟨cuv, rfl, hcv⟩ := hcut hc
  have G4 := G3.trans g4
  have n4 := g4.next
  have b4 := g4.got (by omega) (g3.got (by omega) b2)
  have hgood := cutL_good hT
  have hsize := cutL_size hT
  obtain ⟨c1, c2⟩ := cut_small hfew hgood
  simp [b4]
  refine fcall_fun (table_spec (h.ge G4) hth) ?_
  rintro _ H5 ⟨⟨e5, s5, rfl, t5⟩, g5⟩
  have G5 := G4.trans g5
  have n5 := g5.next
  simp
  refine fcall_fun (coverAll_spec t5) ?_
  rintro _ H6 ⟨g6, _, hcov⟩
  obtain ⟨va, vb, a, b, rfl, hva, hvb, hok, hab⟩ := hcov hc
  have G6 := G5.trans g6
  have n6 := g6.next
  have b6 := g6.got (by omega) (g5.got (by omega) b4)
  obtain ⟨l1, l2⟩ := isCovL_len hfew hok
  simp [b6]
  refine fcall_fun (table_spec (h.ge G6) hth) ?_
  rintro _ H7 ⟨⟨e7, s7, rfl, t7⟩, g7⟩
  have G7 := G6.trans g7
  have n7 := g7.next
  simp
  have hcv7 := ((hcv.ge g5).ge g6).ge g7
  refine fcall_fun (rows_spec hcv7 (by omega) (fun l hl => by have := c2 l hl; omega)) ?_
  rintro r8 H8 ⟨hr8, g8⟩
  have G8 := G7.trans g8
  have n8 := g8.next
  simp
  refine fcall_fun (proveCut_spec (t7.ge g8) (hr8.rows (by omega))) ?_
  rintro _ H9 ⟨rfl, g9⟩
  have G9 := G8.trans g9
  have n9 := g9.next
  have b9 := g9.got (by omega) (g8.got (by omega) (g7.got (by omega) b6))
  simp [hc, hgood, b9]
  refine fcall_fun (table_spec (h.ge G9) hth) ?_
  rintro _ H10 ⟨⟨e10, s10, rfl, t10⟩, g10⟩
  have G10 := G9.trans g10
  have n10 := g10.next
  have g610 := ((g7.trans g8).trans g9).trans g10
  simp
  refine fcall_fun (list_spec (hva.ge g610) (by omega)) ?_
  rintro r11 H11 ⟨hr11, g11⟩
  have G11 := G10.trans g11
  have n11 := g11.next
  simp
  refine fcall_fun (list_spec (hvb.ge (g610.trans g11)) (by omega)) ?_
  rintro r12 H12 ⟨hr12, g12⟩
  have G12 := G11.trans g12
  have n12 := g12.next
  simp [hcv.lenV]
  have i11 : IntsAt H12 r11 a := ⟨by simpa using (hr11.ge g12).slr, by omega⟩
  have i12 : IntsAt H12 r12 b := ⟨by simpa using hr12.slr, by omega⟩
  refine fcall_fun (proveCover_spec ((t10.ge g11).ge g12) i11 i12) ?_
  rintro _ H13 ⟨rfl, g13⟩
  have G13 := G12.trans g13
  have n13 := g13.next
  have b13 := g13.got (by omega) (g12.got (by omega) (g11.got (by omega) (g10.got (by omega) b9)))
  have hpr : proves T a b (cutL T).length = true := by
    simp only [proves, hc, hok, decide_true, Bool.true_and, decide_eq_true_eq]
    omega
  simp [hpr, b13]
  refine fcall_fun (table_spec (h.ge G13) hth) ?_
  rintro _ H14 ⟨⟨e14, s14, rfl, t14⟩, g14⟩
  have G14 := G13.trans g14
  have n14 := g14.next
  simp
  refine fcall_fun (rows_spec (hb.ge G14) (by omega) (fun l hl => by have := s2 l hl; omega)) ?_
  rintro r15 H15 ⟨hr15, g15⟩
  have G15 := G14.trans g15
  have n15 := g15.next
  simp
  refine fcall_fun (proveCut_spec (t14.ge g15) (hr15.rows (by omega))) ?_
  rintro _ H16 ⟨rfl, g16⟩
  have G16 := G15.trans g16
  have n16 := g16.next
  have b16 := g16.got (by omega) (g15.got (by omega) (g14.got (by omega) b13))
  have hless : isCutL T blocks = true → ¬ (blocks.length : Int) < (cutL T).length := fun hi => by
    have := cutL_least hT hi; omega
  have fin : ∀ (D : Heap) (ed sd rv sv : Value), Ge H D → TabAt D ed sd T → IntsAt D rv xs → IntsAt D sv ys → AFun Try.prog 33 [tabV T ed sd, rv, sv, .int .i64 ((cutL T).length + 1)] D (fun v B => v = .bool false ∧ Ge H B) := by
    intro D ed sd rv sv gD tD hr hs
    refine (proveCover_spec tD hr hs).mono ?_
    rintro v B ⟨rfl, gB⟩
    refine ⟨?_, gD.trans gB⟩
    cases hcv : isCovL T xs ys
    · simp [proves, hcv]
    · have := cov_le hfew hcv hgood
      simp only [proves, hc, hcv, decide_true, Bool.true_and]
      simp
      omega
  cases hcx : isCutL T blocks
  all_goals first
  | (have hl := hless hcx; simp [hc, b16, hb.lenV, hcv.lenV, hl])
  | simp [hc, b16]
  all_goals refine fcall_fun (table_spec (h.ge G16) hth) ?_
  all_goals rintro _ H17 ⟨⟨e17, s17, rfl, t17⟩, g17⟩
  all_goals have G17 := G16.trans g17
  all_goals simp
  all_goals refine fcall_fun (list_spec (ha.ge G17) (by omega)) ?_
  all_goals rintro r18 H18 ⟨hr18, g18⟩
  all_goals have G18 := G17.trans g18
  all_goals simp
  all_goals refine fcall_fun (list_spec (hy.ge G18) (by omega)) ?_
  all_goals rintro r19 H19 ⟨hr19, g19⟩
  all_goals have G19 := G18.trans g19
  all_goals simp [hcv.lenV, add_in (x := (cutL T).length) (y := 1) (by omega) (by omega)]
  all_goals refine fcall_fun (fin H19 _ _ _ _ G19 ((t17.ge g18).ge g19) ⟨by simpa using (hr18.ge g19).slr, by omega⟩ ⟨by simpa using hr19.slr, by omega⟩) ?_
  all_goals rintro _ B ⟨rfl, gB⟩
  all_goals simp
  all_goals refine fcall_fun (awake_spec _) ?_
  all_goals rintro _ C ⟨rfl, gC⟩
  all_goals simp
  all_goals exact gB.trans gC

end Go.Proofs.Ytnbkclhjpekkcaa

/-
  The code of functions of the package, as the calculus has it.
-/
namespace Go.Proofs.Ytnbkclhjpekkcaa
open Go Go.Ab

/-- layover/layoverlaw01.RunMore -/
def a12 : ACode :=
  (.seq
   (.region [⟨(some 2), (.box (.t 0)), none⟩, ⟨(some 3), (.box (.t 1)), none⟩, ⟨(some 4), (.mov (.c (.bool false))), none⟩])
   (.seq
    (.region [⟨(some 16), (.ld true 4 (.t 2)), none⟩, ⟨(some 5), (.new [(.int .i64 0), (.int .i64 0), (.slice none 0 0), (.slice none 0 0)]), none⟩, ⟨none, (.st 4 (.t 5) (.t 16)), none⟩])
    (.seq
     (.draw 9 [⟨⟨(some 17), (.bsl 0 [] []), none⟩, 0, false, []⟩, ⟨⟨(some 18), (.fa 3 (.t 2)), none⟩, 1, false, []⟩, ⟨⟨(some 19), (.ld false 1 (.t 18)), none⟩, 2, false, []⟩, ⟨⟨(some 21), (.ld true 6 (.t 3)), none⟩, 4, false, []⟩, ⟨⟨(some 22), (.bsl 1 [(.int .i64 0), (.int .i64 0), (.int .i64 0), (.int .i64 0), (.int .i64 0), (.int .i64 0)] [(0, 6, (.t 21))]), none⟩, 5, false, []⟩, ⟨⟨(some 20), (.app 6 48 (.t 17) (.t 19)), none⟩, 3, true, [4]⟩, ⟨⟨(some 23), (.app 6 48 (.t 20) (.t 22)), none⟩, 6, true, []⟩, ⟨⟨(some 24), (.fa 3 (.t 5)), none⟩, 7, false, []⟩, ⟨⟨none, (.st 1 (.t 24) (.t 23)), none⟩, 8, true, []⟩])
     (.seq
      (.seq
       (.region [⟨(some 25), (.ld true 4 (.t 2)), none⟩, ⟨(some 26), (.call (.c (.func (.func 43) #[] #[])) [(.t 25)]), none⟩, ⟨(some 27), (.not (.t 26)), none⟩, ⟨(some 28), (.mov (.t 27)), none⟩, ⟨(some 29), (.ld true 4 (.t 5)), (some (28, false))⟩, ⟨(some 30), (.call (.c (.func (.func 43) #[] #[])) [(.t 29)]), (some (28, false))⟩, ⟨(some 31), (.not (.t 30)), (some (28, false))⟩, ⟨(some 32), (.pick (.t 28) (.c (.bool true)) (.t 31)), none⟩])
       (.cond (.t 32)
        (.seq
         (.region [⟨(some 33), (.call (.c (.func (.func 17) #[] #[])) []), none⟩, ⟨(some 4), (.mov (.t 33)), none⟩])
         .ret)
        .skip))
      (.seq
       (.region [⟨(some 35), (.ld true 4 (.t 2)), none⟩, ⟨(some 36), (.call (.c (.func (.func 19) #[] #[])) [(.t 35)]), none⟩, ⟨(some 37), (.call (.c (.func (.func 26) #[] #[])) [(.t 36)]), none⟩, ⟨(some 34), (.mov (.t 37)), none⟩, ⟨(some 38), (.ext (.t 34) 0), none⟩, ⟨(some 39), (.ext (.t 34) 1), none⟩, ⟨(some 6), (.mov (.t 38)), none⟩, ⟨(some 7), (.mov (.t 39)), none⟩])
       (.seq
        (.region [⟨(some 41), (.ld true 4 (.t 5)), none⟩, ⟨(some 42), (.call (.c (.func (.func 19) #[] #[])) [(.t 41)]), none⟩, ⟨(some 43), (.call (.c (.func (.func 26) #[] #[])) [(.t 42)]), none⟩, ⟨(some 40), (.mov (.t 43)), none⟩, ⟨(some 44), (.ext (.t 40) 0), none⟩, ⟨(some 45), (.ext (.t 40) 1), none⟩, ⟨(some 8), (.mov (.t 44)), none⟩, ⟨(some 9), (.mov (.t 45)), none⟩])
        (.seq
         (.region [⟨(some 47), (.ld true 4 (.t 5)), none⟩, ⟨(some 48), (.call (.c (.func (.func 19) #[] #[])) [(.t 47)]), none⟩, ⟨(some 49), (.call (.c (.func (.func 20) #[] #[])) [(.t 48)]), none⟩, ⟨(some 46), (.mov (.t 49)), none⟩, ⟨(some 50), (.ext (.t 46) 0), none⟩, ⟨(some 51), (.ext (.t 46) 1), none⟩, ⟨(some 10), (.mov (.t 50)), none⟩, ⟨(some 11), (.mov (.t 51)), none⟩])
         (.seq
          (.seq
           (.region [⟨(some 52), (.mov (.t 7)), none⟩, ⟨(some 53), (.bin .neq (.t 52) (.c (.int .i64 0))), none⟩, ⟨(some 54), (.mov (.t 53)), none⟩, ⟨(some 55), (.mov (.t 9)), (some (54, false))⟩, ⟨(some 56), (.bin .neq (.t 55) (.c (.int .i64 0))), (some (54, false))⟩, ⟨(some 57), (.pick (.t 54) (.c (.bool true)) (.t 56)), none⟩, ⟨(some 58), (.mov (.t 57)), none⟩, ⟨(some 59), (.mov (.t 11)), (some (58, false))⟩, ⟨(some 60), (.bin .neq (.t 59) (.c (.int .i64 0))), (some (58, false))⟩, ⟨(some 61), (.pick (.t 58) (.c (.bool true)) (.t 60)), none⟩, ⟨(some 62), (.mov (.t 61)), none⟩, ⟨(some 63), (.mov (.t 10)), (some (62, false))⟩, ⟨(some 64), (.len (.t 63)), (some (62, false))⟩, ⟨(some 65), (.fa 3 (.t 5)), (some (62, false))⟩, ⟨(some 66), (.ld false 1 (.t 65)), (some (62, false))⟩, ⟨(some 67), (.len (.t 66)), (some (62, false))⟩, ⟨(some 68), (.bin .neq (.t 64) (.t 67)), (some (62, false))⟩, ⟨(some 69), (.pick (.t 62) (.c (.bool true)) (.t 68)), none⟩, ⟨(some 70), (.mov (.t 69)), none⟩, ⟨(some 71), (.mov (.t 8)), (some (70, false))⟩, ⟨(some 72), (.len (.t 71)), (some (70, false))⟩, ⟨(some 73), (.mov (.t 6)), (some (70, false))⟩, ⟨(some 74), (.len (.t 73)), (some (70, false))⟩, ⟨(some 75), (.bin .add (.t 74) (.c (.int .i64 1))), (some (70, false))⟩, ⟨(some 76), (.bin .gtr (.t 72) (.t 75)), (some (70, false))⟩, ⟨(some 77), (.pick (.t 70) (.c (.bool true)) (.t 76)), none⟩])
           (.cond (.t 77)
            (.seq
             (.region [⟨(some 4), (.mov (.c (.bool false))), none⟩])
             .ret)
            .skip))
          (.seq
           (.region [⟨(some 12), (.mov (.c (.bool true))), none⟩])
           (.seq
            (.seq
             (.region [⟨(some 13), (.mov (.c (.int .i64 0))), none⟩])
             (.block 0
              (.loop
               (.seq
                (.seq
                 (.region [⟨(some 78), (.mov (.t 13)), none⟩, ⟨(some 79), (.mov (.t 10)), none⟩, ⟨(some 80), (.len (.t 79)), none⟩, ⟨(some 81), (.bin .lss (.t 78) (.t 80)), none⟩])
                 (.cond (.t 81)
                  .skip
                  (.exit 0)))
                (.seq
                 (.block 1
                  (.seq
                   (.region [⟨(some 14), (.mov (.c (.int .i64 0))), none⟩])
                   (.block 2
                    (.loop
                     (.seq
                      (.seq
                       (.region [⟨(some 84), (.mov (.t 14)), none⟩, ⟨(some 85), (.mov (.t 10)), none⟩, ⟨(some 86), (.mov (.t 13)), none⟩, ⟨(some 87), (.isl 1 (.t 85) (.t 86)), none⟩, ⟨(some 88), (.ld false 1 (.t 87)), none⟩, ⟨(some 89), (.len (.t 88)), none⟩, ⟨(some 90), (.bin .lss (.t 84) (.t 89)), none⟩])
                       (.cond (.t 90)
                        .skip
                        (.exit 2)))
                      (.seq
                       (.block 3
                        (.draw 15 [⟨⟨(some 93), (.mov (.t 12)), none⟩, 0, false, []⟩, ⟨⟨(some 94), (.mov (.t 93)), none⟩, 1, false, []⟩, ⟨⟨(some 95), (.mov (.t 10)), (some (94, true))⟩, 2, false, []⟩, ⟨⟨(some 96), (.mov (.t 13)), (some (94, true))⟩, 3, false, []⟩, ⟨⟨(some 97), (.isl 1 (.t 95) (.t 96)), (some (94, true))⟩, 4, false, []⟩, ⟨⟨(some 98), (.ld false 1 (.t 97)), (some (94, true))⟩, 5, false, []⟩, ⟨⟨(some 99), (.mov (.t 14)), (some (94, true))⟩, 6, false, []⟩, ⟨⟨(some 100), (.isl 1 (.t 98) (.t 99)), (some (94, true))⟩, 7, false, []⟩, ⟨⟨(some 101), (.ld false 1 (.t 100)), (some (94, true))⟩, 8, false, []⟩, ⟨⟨(some 102), (.fa 3 (.t 2)), (some (94, true))⟩, 9, false, []⟩, ⟨⟨(some 103), (.ld false 1 (.t 102)), (some (94, true))⟩, 10, false, []⟩, ⟨⟨(some 104), (.len (.t 103)), (some (94, true))⟩, 11, false, []⟩, ⟨⟨(some 105), (.bin .neq (.t 101) (.t 104)), (some (94, true))⟩, 12, false, []⟩, ⟨⟨(some 106), (.pick (.t 94) (.t 105) (.c (.bool false))), none⟩, 13, false, []⟩, ⟨⟨(some 12), (.mov (.t 106)), none⟩, 14, false, []⟩]))
                       (.region [⟨(some 91), (.mov (.t 14)), none⟩, ⟨(some 92), (.bin .add (.t 91) (.c (.int .i64 1))), none⟩, ⟨(some 14), (.mov (.t 92)), none⟩])))))))
                 (.region [⟨(some 82), (.mov (.t 13)), none⟩, ⟨(some 83), (.bin .add (.t 82) (.c (.int .i64 1))), none⟩, ⟨(some 13), (.mov (.t 83)), none⟩]))))))
            (.seq
             (.region [⟨(some 107), (.mov (.t 10)), none⟩, ⟨(some 108), (.fa 3 (.t 2)), none⟩, ⟨(some 109), (.ld false 1 (.t 108)), none⟩, ⟨(some 110), (.len (.t 109)), none⟩, ⟨(some 111), (.isl 1 (.t 107) (.t 110)), none⟩, ⟨(some 112), (.ld false 1 (.t 111)), none⟩, ⟨(some 113), (.len (.t 112)), none⟩, ⟨(some 114), (.bin .eql (.t 113) (.c (.int .i64 0))), none⟩, ⟨(some 15), (.mov (.t 114)), none⟩])
             (.seq
              (.region [⟨(some 115), (.mov (.t 8)), none⟩, ⟨(some 116), (.len (.t 115)), none⟩, ⟨(some 117), (.mov (.t 6)), none⟩, ⟨(some 118), (.len (.t 117)), none⟩, ⟨(some 119), (.bin .geq (.t 116) (.t 118)), none⟩, ⟨(some 120), (.mov (.t 119)), none⟩, ⟨(some 121), (.mov (.t 12)), (some (120, false))⟩, ⟨(some 122), (.not (.t 121)), (some (120, false))⟩, ⟨(some 123), (.mov (.t 122)), (some (120, false))⟩, ⟨(some 124), (.mov (.t 15)), (some (123, true))⟩, ⟨(some 125), (.not (.t 124)), (some (123, true))⟩, ⟨(some 126), (.pick (.t 123) (.t 125) (.c (.bool false))), (some (120, false))⟩, ⟨(some 127), (.pick (.t 120) (.c (.bool true)) (.t 126)), none⟩, ⟨(some 128), (.mov (.t 127)), none⟩, ⟨(some 129), (.call (.c (.func (.func 17) #[] #[])) []), (some (128, true))⟩, ⟨(some 130), (.pick (.t 128) (.t 129) (.c (.bool false))), none⟩, ⟨(some 4), (.mov (.t 130)), none⟩])
              .ret))))))))))))
def r12 : List AOp := [(.mov (.t 4))]
theorem ok12 : FnOk Try.prog 12 Try.f12.ntmps a12 r12 := ⟨Try.f12, Try.func12, by kernel_rfl, by kernel_rfl, by kernel_rfl, fun asv w => by simp⟩

/-- layover/layoverlaw01.RunLater -/
def a14 : ACode :=
  (.seq
   (.region [⟨(some 2), (.box (.t 0)), none⟩, ⟨(some 4), (.mov (.c (.bool false))), none⟩])
   (.seq
    (.seq
     (.region [⟨(some 16), (.ld true 4 (.t 2)), none⟩, ⟨(some 17), (.call (.c (.func (.func 43) #[] #[])) [(.t 16)]), none⟩, ⟨(some 18), (.not (.t 17)), none⟩])
     (.cond (.t 18)
      (.seq
       (.region [⟨(some 19), (.call (.c (.func (.func 17) #[] #[])) []), none⟩, ⟨(some 4), (.mov (.t 19)), none⟩])
       .ret)
      .skip))
    (.seq
     (.region [⟨(some 20), (.ld true 4 (.t 2)), none⟩, ⟨(some 5), (.new [(.int .i64 0), (.int .i64 0), (.slice none 0 0), (.slice none 0 0)]), none⟩, ⟨none, (.st 4 (.t 5) (.t 20)), none⟩])
     (.seq
      (.region [⟨(some 21), (.bsl 0 [] []), none⟩, ⟨(some 22), (.fa 3 (.t 2)), none⟩, ⟨(some 23), (.ld false 1 (.t 22)), none⟩, ⟨(some 24), (.app 6 48 (.t 21) (.t 23)), none⟩, ⟨(some 25), (.fa 3 (.t 5)), none⟩, ⟨none, (.st 1 (.t 25) (.t 24)), none⟩])
      (.seq
       (.seq
        (.region [⟨(some 6), (.mov (.c (.int .i64 0))), none⟩])
        (.block 0
         (.loop
          (.seq
           (.seq
            (.region [⟨(some 26), (.mov (.t 6)), none⟩, ⟨(some 27), (.fa 3 (.t 5)), none⟩, ⟨(some 28), (.ld false 1 (.t 27)), none⟩, ⟨(some 29), (.len (.t 28)), none⟩, ⟨(some 30), (.bin .lss (.t 26) (.t 29)), none⟩])
            (.cond (.t 30)
             .skip
             (.exit 0)))
           (.seq
            (.block 1
             (.region [⟨(some 33), (.fa 3 (.t 5)), none⟩, ⟨(some 34), (.ld false 1 (.t 33)), none⟩, ⟨(some 35), (.mov (.t 6)), none⟩, ⟨(some 36), (.isl 6 (.t 34) (.t 35)), none⟩, ⟨(some 37), (.fa 2 (.t 36)), none⟩, ⟨(some 38), (.ld false 1 (.t 37)), none⟩, ⟨(some 39), (.mov (.t 1)), none⟩, ⟨(some 40), (.cvi .i64 (.t 39)), none⟩, ⟨(some 41), (.bin .rem (.t 40) (.c (.int .i64 500))), none⟩, ⟨(some 42), (.bin .add (.t 38) (.t 41)), none⟩, ⟨(some 43), (.isl 6 (.t 34) (.t 35)), none⟩, ⟨(some 44), (.fa 2 (.t 43)), none⟩, ⟨none, (.st 1 (.t 44) (.t 42)), none⟩]))
            (.region [⟨(some 31), (.mov (.t 6)), none⟩, ⟨(some 32), (.bin .add (.t 31) (.c (.int .i64 1))), none⟩, ⟨(some 6), (.mov (.t 32)), none⟩]))))))
       (.seq
        (.seq
         (.region [⟨(some 45), (.ld true 4 (.t 5)), none⟩, ⟨(some 46), (.call (.c (.func (.func 47) #[] #[])) [(.t 45)]), none⟩, ⟨(some 47), (.bin .neq (.t 46) (.c (.int .i64 0))), none⟩])
         (.cond (.t 47)
          (.seq
           (.region [⟨(some 48), (.call (.c (.func (.func 17) #[] #[])) []), none⟩, ⟨(some 4), (.mov (.t 48)), none⟩])
           .ret)
          .skip))
        (.seq
         (.region [⟨(some 50), (.ld true 4 (.t 2)), none⟩, ⟨(some 51), (.call (.c (.func (.func 19) #[] #[])) [(.t 50)]), none⟩, ⟨(some 52), (.call (.c (.func (.func 20) #[] #[])) [(.t 51)]), none⟩, ⟨(some 49), (.mov (.t 52)), none⟩, ⟨(some 53), (.ext (.t 49) 0), none⟩, ⟨(some 54), (.ext (.t 49) 1), none⟩, ⟨(some 7), (.mov (.t 53)), none⟩, ⟨(some 8), (.mov (.t 54)), none⟩])
         (.seq
          (.region [⟨(some 56), (.ld true 4 (.t 5)), none⟩, ⟨(some 57), (.call (.c (.func (.func 19) #[] #[])) [(.t 56)]), none⟩, ⟨(some 58), (.call (.c (.func (.func 20) #[] #[])) [(.t 57)]), none⟩, ⟨(some 55), (.mov (.t 58)), none⟩, ⟨(some 59), (.ext (.t 55) 0), none⟩, ⟨(some 60), (.ext (.t 55) 1), none⟩, ⟨(some 9), (.mov (.t 59)), none⟩, ⟨(some 10), (.mov (.t 60)), none⟩])
          (.seq
           (.region [⟨(some 62), (.ld true 4 (.t 2)), none⟩, ⟨(some 63), (.call (.c (.func (.func 19) #[] #[])) [(.t 62)]), none⟩, ⟨(some 64), (.call (.c (.func (.func 26) #[] #[])) [(.t 63)]), none⟩, ⟨(some 61), (.mov (.t 64)), none⟩, ⟨(some 65), (.ext (.t 61) 0), none⟩, ⟨(some 66), (.ext (.t 61) 1), none⟩, ⟨(some 11), (.mov (.t 65)), none⟩, ⟨(some 12), (.mov (.t 66)), none⟩])
           (.seq
            (.region [⟨(some 68), (.ld true 4 (.t 5)), none⟩, ⟨(some 69), (.call (.c (.func (.func 19) #[] #[])) [(.t 68)]), none⟩, ⟨(some 70), (.call (.c (.func (.func 26) #[] #[])) [(.t 69)]), none⟩, ⟨(some 67), (.mov (.t 70)), none⟩, ⟨(some 71), (.ext (.t 67) 0), none⟩, ⟨(some 72), (.ext (.t 67) 1), none⟩, ⟨(some 13), (.mov (.t 71)), none⟩, ⟨(some 14), (.mov (.t 72)), none⟩])
            (.seq
             (.seq
              (.region [⟨(some 73), (.mov (.t 8)), none⟩, ⟨(some 74), (.bin .neq (.t 73) (.c (.int .i64 0))), none⟩, ⟨(some 75), (.mov (.t 74)), none⟩, ⟨(some 76), (.mov (.t 10)), (some (75, false))⟩, ⟨(some 77), (.bin .neq (.t 76) (.c (.int .i64 0))), (some (75, false))⟩, ⟨(some 78), (.pick (.t 75) (.c (.bool true)) (.t 77)), none⟩, ⟨(some 79), (.mov (.t 78)), none⟩, ⟨(some 80), (.mov (.t 12)), (some (79, false))⟩, ⟨(some 81), (.bin .neq (.t 80) (.c (.int .i64 0))), (some (79, false))⟩, ⟨(some 82), (.pick (.t 79) (.c (.bool true)) (.t 81)), none⟩, ⟨(some 83), (.mov (.t 82)), none⟩, ⟨(some 84), (.mov (.t 14)), (some (83, false))⟩, ⟨(some 85), (.bin .neq (.t 84) (.c (.int .i64 0))), (some (83, false))⟩, ⟨(some 86), (.pick (.t 83) (.c (.bool true)) (.t 85)), none⟩, ⟨(some 87), (.mov (.t 86)), none⟩, ⟨(some 88), (.mov (.t 7)), (some (87, false))⟩, ⟨(some 89), (.len (.t 88)), (some (87, false))⟩, ⟨(some 90), (.mov (.t 9)), (some (87, false))⟩, ⟨(some 91), (.len (.t 90)), (some (87, false))⟩, ⟨(some 92), (.bin .neq (.t 89) (.t 91)), (some (87, false))⟩, ⟨(some 93), (.pick (.t 87) (.c (.bool true)) (.t 92)), none⟩, ⟨(some 94), (.mov (.t 93)), none⟩, ⟨(some 95), (.mov (.t 11)), (some (94, false))⟩, ⟨(some 96), (.len (.t 95)), (some (94, false))⟩, ⟨(some 97), (.mov (.t 13)), (some (94, false))⟩, ⟨(some 98), (.len (.t 97)), (some (94, false))⟩, ⟨(some 99), (.bin .neq (.t 96) (.t 98)), (some (94, false))⟩, ⟨(some 100), (.pick (.t 94) (.c (.bool true)) (.t 99)), none⟩])
              (.cond (.t 100)
               (.seq
                (.region [⟨(some 4), (.mov (.c (.bool false))), none⟩])
                .ret)
               .skip))
             (.seq
              (.seq
               (.region [⟨(some 15), (.mov (.c (.int .i64 0))), none⟩])
               (.block 2
                (.loop
                 (.seq
                  (.seq
                   (.region [⟨(some 101), (.mov (.t 15)), none⟩, ⟨(some 102), (.mov (.t 7)), none⟩, ⟨(some 103), (.len (.t 102)), none⟩, ⟨(some 104), (.bin .lss (.t 101) (.t 103)), none⟩])
                   (.cond (.t 104)
                    .skip
                    (.exit 2)))
                  (.seq
                   (.block 3
                    (.seq
                     (.draw 10 [⟨⟨(some 107), (.mov (.t 7)), none⟩, 0, false, []⟩, ⟨⟨(some 108), (.mov (.t 15)), none⟩, 1, false, []⟩, ⟨⟨(some 109), (.isl 1 (.t 107) (.t 108)), none⟩, 2, false, []⟩, ⟨⟨(some 110), (.ld false 1 (.t 109)), none⟩, 3, false, []⟩, ⟨⟨(some 111), (.mov (.t 9)), none⟩, 4, false, []⟩, ⟨⟨(some 112), (.mov (.t 15)), none⟩, 5, false, []⟩, ⟨⟨(some 113), (.isl 1 (.t 111) (.t 112)), none⟩, 6, false, []⟩, ⟨⟨(some 114), (.ld false 1 (.t 113)), none⟩, 7, false, []⟩, ⟨⟨(some 115), (.call (.c (.func (.func 22) #[] #[])) [(.t 110), (.t 114)]), none⟩, 8, true, []⟩, ⟨⟨(some 116), (.not (.t 115)), none⟩, 9, false, []⟩])
                     (.cond (.t 116)
                      (.seq
                       (.region [⟨(some 4), (.mov (.c (.bool false))), none⟩])
                       .ret)
                      .skip)))
                   (.region [⟨(some 105), (.mov (.t 15)), none⟩, ⟨(some 106), (.bin .add (.t 105) (.c (.int .i64 1))), none⟩, ⟨(some 15), (.mov (.t 106)), none⟩]))))))
              (.seq
               (.region [⟨(some 117), (.ld true 4 (.t 5)), none⟩, ⟨(some 118), (.call (.c (.func (.func 19) #[] #[])) [(.t 117)]), none⟩, ⟨(some 119), (.mov (.t 11)), none⟩, ⟨(some 120), (.call (.c (.func (.func 28) #[] #[])) [(.t 119)]), none⟩, ⟨(some 121), (.call (.c (.func (.func 27) #[] #[])) [(.t 118), (.t 120)]), none⟩, ⟨(some 122), (.mov (.t 121)), none⟩, ⟨(some 123), (.call (.c (.func (.func 17) #[] #[])) []), (some (122, true))⟩, ⟨(some 124), (.pick (.t 122) (.t 123) (.c (.bool false))), none⟩, ⟨(some 4), (.mov (.t 124)), none⟩])
               .ret)))))))))))))
def r14 : List AOp := [(.mov (.t 4))]
theorem ok14 : FnOk Try.prog 14 Try.f14.ntmps a14 r14 := ⟨Try.f14, Try.func14, by kernel_rfl, by kernel_rfl, by kernel_rfl, fun asv w => by simp⟩

/-- layover/layoverlaw01.RunKinds -/
def a15 : ACode :=
  (.seq
   (.region [⟨(some 1), (.box (.t 0)), none⟩, ⟨(some 2), (.mov (.c (.bool false))), none⟩])
   (.seq
    (.seq
     (.region [⟨(some 7), (.ld true 4 (.t 1)), none⟩, ⟨(some 8), (.call (.c (.func (.func 43) #[] #[])) [(.t 7)]), none⟩, ⟨(some 9), (.not (.t 8)), none⟩])
     (.cond (.t 9)
      (.seq
       (.region [⟨(some 10), (.call (.c (.func (.func 17) #[] #[])) []), none⟩, ⟨(some 2), (.mov (.t 10)), none⟩])
       .ret)
      .skip))
    (.seq
     (.region [⟨(some 12), (.ld true 4 (.t 1)), none⟩, ⟨(some 13), (.call (.c (.func (.func 19) #[] #[])) [(.t 12)]), none⟩, ⟨(some 14), (.call (.c (.func (.func 26) #[] #[])) [(.t 13)]), none⟩, ⟨(some 11), (.mov (.t 14)), none⟩, ⟨(some 15), (.ext (.t 11) 0), none⟩, ⟨(some 16), (.ext (.t 11) 1), none⟩, ⟨(some 3), (.mov (.t 15)), none⟩, ⟨(some 4), (.mov (.t 16)), none⟩])
     (.seq
      (.region [⟨(some 18), (.ld true 4 (.t 1)), none⟩, ⟨(some 19), (.call (.c (.func (.func 45) #[] #[])) [(.t 18), (.c (.slice none 0 0))]), none⟩, ⟨(some 17), (.mov (.t 19)), none⟩, ⟨(some 20), (.ext (.t 17) 0), none⟩, ⟨(some 21), (.ext (.t 17) 1), none⟩, ⟨(some 5), (.new [(.int .i64 0), (.int .i64 0), (.int .i64 0)]), none⟩, ⟨none, (.st 3 (.t 5) (.t 20)), none⟩, ⟨(some 6), (.mov (.t 21)), none⟩])
      (.seq
       (.region [⟨(some 22), (.mov (.t 4)), none⟩, ⟨(some 23), (.bin .eql (.t 22) (.c (.int .i64 0))), none⟩, ⟨(some 24), (.mov (.t 23)), none⟩, ⟨(some 25), (.mov (.t 6)), (some (24, true))⟩, ⟨(some 26), (.pick (.t 24) (.t 25) (.c (.bool false))), none⟩, ⟨(some 27), (.mov (.t 26)), none⟩, ⟨(some 28), (.mov (.t 3)), (some (27, true))⟩, ⟨(some 29), (.len (.t 28)), (some (27, true))⟩, ⟨(some 30), (.iar 3 1 (.t 5) (.c (.int .i64 0))), (some (27, true))⟩, ⟨(some 31), (.ld false 1 (.t 30)), (some (27, true))⟩, ⟨(some 32), (.iar 3 1 (.t 5) (.c (.int .i64 1))), (some (27, true))⟩, ⟨(some 33), (.ld false 1 (.t 32)), (some (27, true))⟩, ⟨(some 34), (.bin .add (.t 31) (.t 33)), (some (27, true))⟩, ⟨(some 35), (.iar 3 1 (.t 5) (.c (.int .i64 2))), (some (27, true))⟩, ⟨(some 36), (.ld false 1 (.t 35)), (some (27, true))⟩, ⟨(some 37), (.bin .add (.t 34) (.t 36)), (some (27, true))⟩, ⟨(some 38), (.bin .eql (.t 29) (.t 37)), (some (27, true))⟩, ⟨(some 39), (.pick (.t 27) (.t 38) (.c (.bool false))), none⟩, ⟨(some 40), (.mov (.t 39)), none⟩, ⟨(some 41), (.call (.c (.func (.func 17) #[] #[])) []), (some (40, true))⟩, ⟨(some 42), (.pick (.t 40) (.t 41) (.c (.bool false))), none⟩, ⟨(some 2), (.mov (.t 42)), none⟩])
       .ret)))))
def r15 : List AOp := [(.mov (.t 2))]
theorem ok15 : FnOk Try.prog 15 Try.f15.ntmps a15 r15 := ⟨Try.f15, Try.func15, by kernel_rfl, by kernel_rfl, by kernel_rfl, fun asv w => by simp⟩

/-- layover/layoverlaw01.RunNames -/
def a8 : ACode :=
  (.seq
   (.region [⟨(some 0), (.mov (.c (.bool false))), none⟩])
   (.seq
    (.region [⟨(some 19), (.call (.c (.func (.func 42) #[] #[])) []), none⟩, ⟨(some 20), (.call (.c (.func (.func 32) #[] #[])) [(.t 19)]), none⟩, ⟨(some 18), (.mov (.t 20)), none⟩, ⟨(some 21), (.ext (.t 18) 0), none⟩, ⟨(some 22), (.ext (.t 18) 1), none⟩, ⟨(some 23), (.ext (.t 18) 2), none⟩, ⟨(some 1), (.mov (.t 21)), none⟩, ⟨(some 2), (.mov (.t 22)), none⟩, ⟨(some 3), (.mov (.t 23)), none⟩])
    (.seq
     (.region [⟨(some 25), (.call (.c (.func (.func 42) #[] #[])) []), none⟩, ⟨(some 26), (.bsl 3 [(.int .i64 0), (.int .i64 0), (.int .i64 0)] [(0, 1, (.c (.int .i64 0))), (1, 1, (.c (.int .i64 1))), (2, 1, (.c (.int .i64 3)))]), none⟩, ⟨(some 27), (.bsl 1 [(.int .i64 0)] [(0, 1, (.c (.int .i64 2)))]), none⟩, ⟨(some 28), (.bsl 1 [(.int .i64 0)] [(0, 1, (.c (.int .i64 4)))]), none⟩, ⟨(some 29), (.bsl 3 [(.slice none 0 0), (.slice none 0 0), (.slice none 0 0)] [(0, 1, (.t 26)), (1, 1, (.t 27)), (2, 1, (.t 28))]), none⟩, ⟨(some 30), (.bsl 5 [(.int .i64 0), (.int .i64 0), (.int .i64 0), (.int .i64 0), (.int .i64 0)] [(0, 1, (.c (.int .i64 40))), (1, 1, (.c (.int .i64 20))), (2, 1, (.c (.int .i64 40))), (3, 1, (.c (.int .i64 30))), (4, 1, (.c (.int .i64 10)))]), none⟩, ⟨(some 31), (.call (.c (.func (.func 36) #[] #[])) [(.t 25), (.t 29), (.t 30)]), none⟩, ⟨(some 24), (.mov (.t 31)), none⟩, ⟨(some 32), (.ext (.t 24) 0), none⟩, ⟨(some 33), (.ext (.t 24) 1), none⟩, ⟨(some 4), (.mov (.t 32)), none⟩, ⟨(some 5), (.mov (.t 33)), none⟩])
     (.seq
      (.region [⟨(some 35), (.call (.c (.func (.func 42) #[] #[])) []), none⟩, ⟨(some 36), (.bsl 3 [(.int .i64 0), (.int .i64 0), (.int .i64 0)] [(0, 1, (.c (.int .i64 1))), (1, 1, (.c (.int .i64 1))), (2, 1, (.c (.int .i64 0)))]), none⟩, ⟨(some 37), (.call (.c (.func (.func 39) #[] #[])) [(.t 35), (.t 36)]), none⟩, ⟨(some 34), (.mov (.t 37)), none⟩, ⟨(some 38), (.ext (.t 34) 0), none⟩, ⟨(some 39), (.ext (.t 34) 1), none⟩, ⟨(some 6), (.mov (.t 38)), none⟩, ⟨(some 7), (.mov (.t 39)), none⟩])
      (.seq
       (.region [⟨(some 41), (.call (.c (.func (.func 42) #[] #[])) []), none⟩, ⟨(some 42), (.bsl 3 [(.int .i64 0), (.int .i64 0), (.int .i64 0)] [(0, 1, (.c (.int .i64 2))), (1, 1, (.c (.int .i64 0))), (2, 1, (.c (.int .i64 0)))]), none⟩, ⟨(some 43), (.call (.c (.func (.func 39) #[] #[])) [(.t 41), (.t 42)]), none⟩, ⟨(some 40), (.mov (.t 43)), none⟩, ⟨(some 44), (.ext (.t 40) 0), none⟩, ⟨(some 45), (.ext (.t 40) 1), none⟩, ⟨(some 8), (.mov (.t 44)), none⟩, ⟨(some 9), (.mov (.t 45)), none⟩])
       (.seq
        (.region [⟨(some 47), (.call (.c (.func (.func 42) #[] #[])) []), none⟩, ⟨(some 48), (.bsl 3 [(.int .i64 0), (.int .i64 0), (.int .i64 0)] [(0, 1, (.c (.int .i64 2))), (1, 1, (.c (.int .i64 1))), (2, 1, (.c (.int .i64 0)))]), none⟩, ⟨(some 49), (.call (.c (.func (.func 39) #[] #[])) [(.t 47), (.t 48)]), none⟩, ⟨(some 46), (.mov (.t 49)), none⟩, ⟨(some 50), (.ext (.t 46) 0), none⟩, ⟨(some 51), (.ext (.t 46) 1), none⟩, ⟨(some 10), (.mov (.t 50)), none⟩, ⟨(some 11), (.mov (.t 51)), none⟩])
        (.seq
         (.seq
          (.draw 84 [⟨⟨(some 52), (.mov (.t 3)), none⟩, 0, false, []⟩, ⟨⟨(some 53), (.bin .neq (.t 52) (.c (.int .i64 0))), none⟩, 1, false, []⟩, ⟨⟨(some 54), (.mov (.t 53)), none⟩, 2, false, []⟩, ⟨⟨(some 56), (.mov (.t 1)), (some (54, false))⟩, 4, false, []⟩, ⟨⟨(some 57), (.mov (.t 2)), (some (54, false))⟩, 5, false, []⟩, ⟨⟨(some 55), (.call (.c (.func (.func 42) #[] #[])) []), (some (54, false))⟩, 3, true, []⟩, ⟨⟨(some 58), (.call (.c (.func (.func 33) #[] #[])) [(.t 55), (.t 56), (.t 57), (.c (.int .i64 3))]), (some (54, false))⟩, 6, true, []⟩, ⟨⟨(some 59), (.not (.t 58)), (some (54, false))⟩, 7, false, []⟩, ⟨⟨(some 60), (.pick (.t 54) (.c (.bool true)) (.t 59)), none⟩, 8, false, []⟩, ⟨⟨(some 61), (.mov (.t 60)), none⟩, 9, false, []⟩, ⟨⟨(some 63), (.mov (.t 1)), (some (61, false))⟩, 11, false, []⟩, ⟨⟨(some 64), (.mov (.t 2)), (some (61, false))⟩, 12, false, []⟩, ⟨⟨(some 62), (.call (.c (.func (.func 42) #[] #[])) []), (some (61, false))⟩, 10, true, []⟩, ⟨⟨(some 65), (.call (.c (.func (.func 33) #[] #[])) [(.t 62), (.t 63), (.t 64), (.c (.int .i64 4))]), (some (61, false))⟩, 13, true, []⟩, ⟨⟨(some 66), (.pick (.t 61) (.c (.bool true)) (.t 65)), none⟩, 14, false, []⟩, ⟨⟨(some 67), (.mov (.t 66)), none⟩, 15, false, []⟩, ⟨⟨(some 69), (.bsl 2 [(.int .i64 0), (.int .i64 0)] [(0, 1, (.c (.int .i64 0))), (1, 1, (.c (.int .i64 1)))]), (some (67, false))⟩, 17, false, []⟩, ⟨⟨(some 68), (.call (.c (.func (.func 42) #[] #[])) []), (some (67, false))⟩, 16, true, []⟩, ⟨⟨(some 70), (.call (.c (.func (.func 33) #[] #[])) [(.t 68), (.t 69), (.c (.slice none 0 0)), (.c (.int .i64 3))]), (some (67, false))⟩, 18, true, []⟩, ⟨⟨(some 71), (.not (.t 70)), (some (67, false))⟩, 19, false, []⟩, ⟨⟨(some 72), (.pick (.t 67) (.c (.bool true)) (.t 71)), none⟩, 20, false, []⟩, ⟨⟨(some 73), (.mov (.t 72)), none⟩, 21, false, []⟩, ⟨⟨(some 75), (.bsl 1 [(.int .i64 0)] [(0, 1, (.c (.int .i64 0)))]), (some (73, false))⟩, 23, false, []⟩, ⟨⟨(some 74), (.call (.c (.func (.func 42) #[] #[])) []), (some (73, false))⟩, 22, true, []⟩, ⟨⟨(some 76), (.call (.c (.func (.func 33) #[] #[])) [(.t 74), (.t 75), (.c (.slice none 0 0)), (.c (.int .i64 3))]), (some (73, false))⟩, 24, true, []⟩, ⟨⟨(some 77), (.pick (.t 73) (.c (.bool true)) (.t 76)), none⟩, 25, false, []⟩, ⟨⟨(some 78), (.mov (.t 77)), none⟩, 26, false, []⟩, ⟨⟨(some 79), (.mov (.t 5)), (some (78, false))⟩, 27, false, []⟩, ⟨⟨(some 80), (.bin .neq (.t 79) (.c (.int .i64 0))), (some (78, false))⟩, 28, false, []⟩, ⟨⟨(some 81), (.pick (.t 78) (.c (.bool true)) (.t 80)), none⟩, 29, false, []⟩, ⟨⟨(some 82), (.mov (.t 81)), none⟩, 30, false, []⟩, ⟨⟨(some 83), (.mov (.t 4)), (some (82, false))⟩, 31, false, []⟩, ⟨⟨(some 84), (.len (.t 83)), (some (82, false))⟩, 32, false, []⟩, ⟨⟨(some 85), (.bin .neq (.t 84) (.c (.int .i64 3))), (some (82, false))⟩, 33, false, []⟩, ⟨⟨(some 86), (.pick (.t 82) (.c (.bool true)) (.t 85)), none⟩, 34, false, []⟩, ⟨⟨(some 87), (.mov (.t 86)), none⟩, 35, false, []⟩, ⟨⟨(some 88), (.mov (.t 4)), (some (87, false))⟩, 36, false, []⟩, ⟨⟨(some 89), (.isl 1 (.t 88) (.c (.int .i64 0))), (some (87, false))⟩, 37, false, []⟩, ⟨⟨(some 90), (.ld false 1 (.t 89)), (some (87, false))⟩, 38, false, []⟩, ⟨⟨(some 91), (.bsl 2 [(.int .i64 0), (.int .i64 0)] [(0, 1, (.c (.int .i64 20))), (1, 1, (.c (.int .i64 10)))]), (some (87, false))⟩, 39, false, []⟩, ⟨⟨(some 92), (.call (.c (.func (.func 22) #[] #[])) [(.t 90), (.t 91)]), (some (87, false))⟩, 40, true, []⟩, ⟨⟨(some 93), (.not (.t 92)), (some (87, false))⟩, 41, false, []⟩, ⟨⟨(some 94), (.pick (.t 87) (.c (.bool true)) (.t 93)), none⟩, 42, false, []⟩, ⟨⟨(some 95), (.mov (.t 94)), none⟩, 43, false, []⟩, ⟨⟨(some 96), (.mov (.t 4)), (some (95, false))⟩, 44, false, []⟩, ⟨⟨(some 97), (.isl 1 (.t 96) (.c (.int .i64 1))), (some (95, false))⟩, 45, false, []⟩, ⟨⟨(some 98), (.ld false 1 (.t 97)), (some (95, false))⟩, 46, false, []⟩, ⟨⟨(some 99), (.len (.t 98)), (some (95, false))⟩, 47, false, []⟩, ⟨⟨(some 100), (.mov (.t 4)), (some (95, false))⟩, 48, false, []⟩, ⟨⟨(some 101), (.isl 1 (.t 100) (.c (.int .i64 2))), (some (95, false))⟩, 49, false, []⟩, ⟨⟨(some 102), (.ld false 1 (.t 101)), (some (95, false))⟩, 50, false, []⟩, ⟨⟨(some 103), (.len (.t 102)), (some (95, false))⟩, 51, false, []⟩, ⟨⟨(some 104), (.bin .add (.t 99) (.t 103)), (some (95, false))⟩, 52, false, []⟩, ⟨⟨(some 105), (.bin .neq (.t 104) (.c (.int .i64 0))), (some (95, false))⟩, 53, false, []⟩, ⟨⟨(some 106), (.pick (.t 95) (.c (.bool true)) (.t 105)), none⟩, 54, false, []⟩, ⟨⟨(some 107), (.mov (.t 106)), none⟩, 55, false, []⟩, ⟨⟨(some 108), (.mov (.t 7)), (some (107, false))⟩, 56, false, []⟩, ⟨⟨(some 109), (.bin .neq (.t 108) (.c (.int .i64 0))), (some (107, false))⟩, 57, false, []⟩, ⟨⟨(some 110), (.pick (.t 107) (.c (.bool true)) (.t 109)), none⟩, 58, false, []⟩, ⟨⟨(some 111), (.mov (.t 110)), none⟩, 59, false, []⟩, ⟨⟨(some 112), (.mov (.t 6)), (some (111, false))⟩, 60, false, []⟩, ⟨⟨(some 113), (.bsl 1 [(.int .i64 0)] [(0, 1, (.c (.int .i64 2)))]), (some (111, false))⟩, 61, false, []⟩, ⟨⟨(some 114), (.call (.c (.func (.func 22) #[] #[])) [(.t 112), (.t 113)]), (some (111, false))⟩, 62, true, []⟩, ⟨⟨(some 115), (.not (.t 114)), (some (111, false))⟩, 63, false, []⟩, ⟨⟨(some 116), (.pick (.t 111) (.c (.bool true)) (.t 115)), none⟩, 64, false, []⟩, ⟨⟨(some 117), (.mov (.t 116)), none⟩, 65, false, []⟩, ⟨⟨(some 118), (.mov (.t 9)), (some (117, false))⟩, 66, false, []⟩, ⟨⟨(some 119), (.bin .neq (.t 118) (.c (.int .i64 0))), (some (117, false))⟩, 67, false, []⟩, ⟨⟨(some 120), (.pick (.t 117) (.c (.bool true)) (.t 119)), none⟩, 68, false, []⟩, ⟨⟨(some 121), (.mov (.t 120)), none⟩, 69, false, []⟩, ⟨⟨(some 122), (.mov (.t 8)), (some (121, false))⟩, 70, false, []⟩, ⟨⟨(some 123), (.bsl 1 [(.int .i64 0)] [(0, 1, (.c (.int .i64 4)))]), (some (121, false))⟩, 71, false, []⟩, ⟨⟨(some 124), (.call (.c (.func (.func 22) #[] #[])) [(.t 122), (.t 123)]), (some (121, false))⟩, 72, true, []⟩, ⟨⟨(some 125), (.not (.t 124)), (some (121, false))⟩, 73, false, []⟩, ⟨⟨(some 126), (.pick (.t 121) (.c (.bool true)) (.t 125)), none⟩, 74, false, []⟩, ⟨⟨(some 127), (.mov (.t 126)), none⟩, 75, false, []⟩, ⟨⟨(some 128), (.mov (.t 11)), (some (127, false))⟩, 76, false, []⟩, ⟨⟨(some 129), (.bin .neq (.t 128) (.c (.int .i64 0))), (some (127, false))⟩, 77, false, []⟩, ⟨⟨(some 130), (.pick (.t 127) (.c (.bool true)) (.t 129)), none⟩, 78, false, []⟩, ⟨⟨(some 131), (.mov (.t 130)), none⟩, 79, false, []⟩, ⟨⟨(some 132), (.mov (.t 10)), (some (131, false))⟩, 80, false, []⟩, ⟨⟨(some 133), (.len (.t 132)), (some (131, false))⟩, 81, false, []⟩, ⟨⟨(some 134), (.bin .neq (.t 133) (.c (.int .i64 0))), (some (131, false))⟩, 82, false, []⟩, ⟨⟨(some 135), (.pick (.t 131) (.c (.bool true)) (.t 134)), none⟩, 83, false, []⟩])
          (.cond (.t 135)
           (.seq
            (.region [⟨(some 0), (.mov (.c (.bool false))), none⟩])
            .ret)
           .skip))
         (.seq
          (.region [⟨(some 137), (.call (.c (.func (.func 42) #[] #[])) []), none⟩, ⟨(some 138), (.bsl 2 [(.int .i64 0), (.int .i64 0)] [(0, 1, (.c (.int .i64 0))), (1, 1, (.c (.int .i64 3)))]), none⟩, ⟨(some 139), (.bsl 1 [(.int .i64 0)] [(0, 1, (.c (.int .i64 1)))]), none⟩, ⟨(some 140), (.bsl 1 [(.int .i64 0)] [(0, 1, (.c (.int .i64 2)))]), none⟩, ⟨(some 141), (.bsl 3 [(.slice none 0 0), (.slice none 0 0), (.slice none 0 0)] [(0, 1, (.t 138)), (1, 1, (.t 139)), (2, 1, (.t 140))]), none⟩, ⟨(some 142), (.bsl 5 [(.int .i64 0), (.int .i64 0), (.int .i64 0), (.int .i64 0), (.int .i64 0)] [(0, 1, (.c (.int .i64 40))), (1, 1, (.c (.int .i64 20))), (2, 1, (.c (.int .i64 40))), (3, 1, (.c (.int .i64 30))), (4, 1, (.c (.int .i64 10)))]), none⟩, ⟨(some 143), (.call (.c (.func (.func 36) #[] #[])) [(.t 137), (.t 141), (.t 142)]), none⟩, ⟨(some 136), (.mov (.t 143)), none⟩, ⟨(some 144), (.ext (.t 136) 0), none⟩, ⟨(some 145), (.ext (.t 136) 1), none⟩, ⟨(some 3), (.mov (.t 145)), none⟩])
          (.seq
           (.region [⟨(some 147), (.call (.c (.func (.func 42) #[] #[])) []), none⟩, ⟨(some 148), (.bsl 3 [(.int .i64 0), (.int .i64 0), (.int .i64 0)] [(0, 1, (.c (.int .i64 0))), (1, 1, (.c (.int .i64 1))), (2, 1, (.c (.int .i64 3)))]), none⟩, ⟨(some 149), (.bsl 1 [(.int .i64 0)] [(0, 1, (.c (.int .i64 2)))]), none⟩, ⟨(some 150), (.bsl 1 [(.int .i64 0)] [(0, 1, (.c (.int .i64 4)))]), none⟩, ⟨(some 151), (.bsl 3 [(.slice none 0 0), (.slice none 0 0), (.slice none 0 0)] [(0, 1, (.t 148)), (1, 1, (.t 149)), (2, 1, (.t 150))]), none⟩, ⟨(some 152), (.bsl 4 [(.int .i64 0), (.int .i64 0), (.int .i64 0), (.int .i64 0)] [(0, 1, (.c (.int .i64 40))), (1, 1, (.c (.int .i64 20))), (2, 1, (.c (.int .i64 40))), (3, 1, (.c (.int .i64 30)))]), none⟩, ⟨(some 153), (.call (.c (.func (.func 36) #[] #[])) [(.t 147), (.t 151), (.t 152)]), none⟩, ⟨(some 146), (.mov (.t 153)), none⟩, ⟨(some 154), (.ext (.t 146) 0), none⟩, ⟨(some 155), (.ext (.t 146) 1), none⟩, ⟨(some 5), (.mov (.t 155)), none⟩])
           (.seq
            (.region [⟨(some 157), (.call (.c (.func (.func 42) #[] #[])) []), none⟩, ⟨(some 158), (.bsl 3 [(.int .i64 0), (.int .i64 0), (.int .i64 0)] [(0, 1, (.c (.int .i64 0))), (1, 1, (.c (.int .i64 1))), (2, 1, (.c (.int .i64 3)))]), none⟩, ⟨(some 159), (.bsl 1 [(.int .i64 0)] [(0, 1, (.c (.int .i64 2)))]), none⟩, ⟨(some 160), (.bsl 1 [(.int .i64 0)] [(0, 1, (.c (.int .i64 4)))]), none⟩, ⟨(some 161), (.bsl 3 [(.slice none 0 0), (.slice none 0 0), (.slice none 0 0)] [(0, 1, (.t 158)), (1, 1, (.t 159)), (2, 1, (.t 160))]), none⟩, ⟨(some 162), (.bsl 5 [(.int .i64 0), (.int .i64 0), (.int .i64 0), (.int .i64 0), (.int .i64 0)] [(0, 1, (.c (.int .i64 40))), (1, 1, (.c (.int .i64 31))), (2, 1, (.c (.int .i64 40))), (3, 1, (.c (.int .i64 30))), (4, 1, (.c (.int .i64 10)))]), none⟩, ⟨(some 163), (.call (.c (.func (.func 36) #[] #[])) [(.t 157), (.t 161), (.t 162)]), none⟩, ⟨(some 156), (.mov (.t 163)), none⟩, ⟨(some 164), (.ext (.t 156) 0), none⟩, ⟨(some 165), (.ext (.t 156) 1), none⟩, ⟨(some 7), (.mov (.t 165)), none⟩])
            (.seq
             (.region [⟨(some 167), (.call (.c (.func (.func 42) #[] #[])) []), none⟩, ⟨(some 168), (.bsl 2 [(.int .i64 0), (.int .i64 0)] [(0, 1, (.c (.int .i64 1))), (1, 1, (.c (.int .i64 1)))]), none⟩, ⟨(some 169), (.call (.c (.func (.func 39) #[] #[])) [(.t 167), (.t 168)]), none⟩, ⟨(some 166), (.mov (.t 169)), none⟩, ⟨(some 170), (.ext (.t 166) 0), none⟩, ⟨(some 171), (.ext (.t 166) 1), none⟩, ⟨(some 9), (.mov (.t 171)), none⟩])
             (.seq
              (.region [⟨(some 173), (.call (.c (.func (.func 42) #[] #[])) []), none⟩, ⟨(some 174), (.bsl 3 [(.int .i64 0), (.int .i64 0), (.int .i64 0)] [(0, 1, (.c (.int .i64 1))), (1, 1, (.c (.int .i64 13))), (2, 1, (.c (.int .i64 0)))]), none⟩, ⟨(some 175), (.call (.c (.func (.func 39) #[] #[])) [(.t 173), (.t 174)]), none⟩, ⟨(some 172), (.mov (.t 175)), none⟩, ⟨(some 176), (.ext (.t 172) 0), none⟩, ⟨(some 177), (.ext (.t 172) 1), none⟩, ⟨(some 11), (.mov (.t 177)), none⟩])
              (.seq
               (.region [⟨(some 178), (.call (.c (.func (.func 42) #[] #[])) []), none⟩, ⟨(some 179), (.call (.c (.func (.func 42) #[] #[])) []), none⟩, ⟨(some 180), (.call (.c (.func (.func 42) #[] #[])) []), none⟩, ⟨(some 12), (.new [(.int .i64 0), (.int .i64 0), (.slice none 0 0), (.slice none 0 0)]), none⟩, ⟨(some 13), (.new [(.int .i64 0), (.int .i64 0), (.slice none 0 0), (.slice none 0 0)]), none⟩, ⟨(some 14), (.new [(.int .i64 0), (.int .i64 0), (.slice none 0 0), (.slice none 0 0)]), none⟩, ⟨none, (.st 4 (.t 12) (.t 178)), none⟩, ⟨none, (.st 4 (.t 13) (.t 179)), none⟩, ⟨none, (.st 4 (.t 14) (.t 180)), none⟩])
               (.seq
                (.region [⟨(some 181), (.mks 6 48 [(.int .i64 0), (.int .i64 0), (.int .i64 0), (.int .i64 0), (.int .i64 0), (.int .i64 0)] (.c (.int .i64 13)) (.c (.int .i64 13))), none⟩, ⟨(some 182), (.fa 3 (.t 12)), none⟩, ⟨none, (.st 1 (.t 182) (.t 181)), none⟩])
                (.seq
                 (.region [⟨(some 183), (.fa 3 (.t 13)), none⟩, ⟨(some 184), (.ld false 1 (.t 183)), none⟩, ⟨(some 185), (.isl 6 (.t 184) (.c (.int .i64 0))), none⟩, ⟨(some 186), (.fa 3 (.t 185)), none⟩, ⟨none, (.st 1 (.t 186) (.c (.int .i64 0))), none⟩])
                 (.seq
                  (.region [⟨(some 187), (.fa 2 (.t 14)), none⟩, ⟨(some 188), (.ld false 1 (.t 187)), none⟩, ⟨(some 189), (.isl 1 (.t 188) (.c (.int .i64 1))), none⟩, ⟨(some 190), (.ld false 1 (.t 189)), none⟩, ⟨(some 191), (.isl 1 (.t 190) (.c (.int .i64 1))), none⟩, ⟨none, (.st 1 (.t 191) (.c (.int .i64 1))), none⟩])
                  (.seq
                   (.region [⟨(some 192), (.bsl 1 [(.int .i64 0)] [(0, 1, (.c (.int .i64 0)))]), none⟩, ⟨(some 193), (.bsl 1 [(.slice none 0 0)] [(0, 1, (.t 192))]), none⟩, ⟨(some 194), (.bld [(.int .i64 0), (.int .i64 0), (.slice none 0 0), (.slice none 0 0)] [(0, 1, (.c (.int .i64 1))), (2, 1, (.t 193))]), none⟩, ⟨(some 15), (.new [(.int .i64 0), (.int .i64 0), (.slice none 0 0), (.slice none 0 0)]), none⟩, ⟨none, (.st 4 (.t 15) (.t 194)), none⟩])
                   (.seq
                    (.region [⟨(some 196), (.ld true 4 (.t 15)), none⟩, ⟨(some 197), (.call (.c (.func (.func 26) #[] #[])) [(.t 196)]), none⟩, ⟨(some 195), (.mov (.t 197)), none⟩, ⟨(some 198), (.ext (.t 195) 0), none⟩, ⟨(some 199), (.ext (.t 195) 1), none⟩, ⟨(some 16), (.mov (.t 198)), none⟩, ⟨(some 17), (.mov (.t 199)), none⟩])
                    (.seq
                     (.region [⟨(some 200), (.mov (.t 3)), none⟩, ⟨(some 201), (.bin .eql (.t 200) (.c (.int .i64 2))), none⟩, ⟨(some 202), (.mov (.t 201)), none⟩, ⟨(some 203), (.mov (.t 5)), (some (202, true))⟩, ⟨(some 204), (.bin .eql (.t 203) (.c (.int .i64 2))), (some (202, true))⟩, ⟨(some 205), (.pick (.t 202) (.t 204) (.c (.bool false))), none⟩, ⟨(some 206), (.mov (.t 205)), none⟩, ⟨(some 207), (.mov (.t 7)), (some (206, true))⟩, ⟨(some 208), (.bin .eql (.t 207) (.c (.int .i64 2))), (some (206, true))⟩, ⟨(some 209), (.pick (.t 206) (.t 208) (.c (.bool false))), none⟩, ⟨(some 210), (.mov (.t 209)), none⟩, ⟨(some 211), (.mov (.t 9)), (some (210, true))⟩, ⟨(some 212), (.bin .eql (.t 211) (.c (.int .i64 2))), (some (210, true))⟩, ⟨(some 213), (.pick (.t 210) (.t 212) (.c (.bool false))), none⟩, ⟨(some 214), (.mov (.t 213)), none⟩, ⟨(some 215), (.mov (.t 11)), (some (214, true))⟩, ⟨(some 216), (.bin .eql (.t 215) (.c (.int .i64 2))), (some (214, true))⟩, ⟨(some 217), (.pick (.t 214) (.t 216) (.c (.bool false))), none⟩, ⟨(some 218), (.mov (.t 217)), none⟩, ⟨(some 219), (.ld true 4 (.t 12)), (some (218, true))⟩, ⟨(some 220), (.call (.c (.func (.func 18) #[] #[])) [(.t 219)]), (some (218, true))⟩, ⟨(some 221), (.bin .eql (.t 220) (.c (.int .i64 3))), (some (218, true))⟩, ⟨(some 222), (.pick (.t 218) (.t 221) (.c (.bool false))), none⟩, ⟨(some 223), (.mov (.t 222)), none⟩, ⟨(some 224), (.ld true 4 (.t 13)), (some (223, true))⟩, ⟨(some 225), (.call (.c (.func (.func 18) #[] #[])) [(.t 224)]), (some (223, true))⟩, ⟨(some 226), (.bin .eql (.t 225) (.c (.int .i64 1))), (some (223, true))⟩, ⟨(some 227), (.pick (.t 223) (.t 226) (.c (.bool false))), none⟩, ⟨(some 228), (.mov (.t 227)), none⟩, ⟨(some 229), (.ld true 4 (.t 14)), (some (228, true))⟩, ⟨(some 230), (.call (.c (.func (.func 18) #[] #[])) [(.t 229)]), (some (228, true))⟩, ⟨(some 231), (.bin .eql (.t 230) (.c (.int .i64 1))), (some (228, true))⟩, ⟨(some 232), (.pick (.t 228) (.t 231) (.c (.bool false))), none⟩, ⟨(some 233), (.mov (.t 232)), none⟩, ⟨(some 234), (.bld [(.int .i64 0), (.int .i64 0), (.slice none 0 0), (.slice none 0 0)] []), (some (233, true))⟩, ⟨(some 235), (.call (.c (.func (.func 18) #[] #[])) [(.t 234)]), (some (233, true))⟩, ⟨(some 236), (.bin .eql (.t 235) (.c (.int .i64 1))), (some (233, true))⟩, ⟨(some 237), (.pick (.t 233) (.t 236) (.c (.bool false))), none⟩, ⟨(some 238), (.mov (.t 237)), none⟩, ⟨(some 239), (.mov (.t 17)), (some (238, true))⟩, ⟨(some 240), (.bin .eql (.t 239) (.c (.int .i64 0))), (some (238, true))⟩, ⟨(some 241), (.pick (.t 238) (.t 240) (.c (.bool false))), none⟩, ⟨(some 242), (.mov (.t 241)), none⟩, ⟨(some 243), (.mov (.t 16)), (some (242, true))⟩, ⟨(some 244), (.len (.t 243)), (some (242, true))⟩, ⟨(some 245), (.bin .eql (.t 244) (.c (.int .i64 0))), (some (242, true))⟩, ⟨(some 246), (.pick (.t 242) (.t 245) (.c (.bool false))), none⟩, ⟨(some 247), (.mov (.t 246)), none⟩, ⟨(some 248), (.ld true 4 (.t 15)), (some (247, true))⟩, ⟨(some 249), (.call (.c (.func (.func 27) #[] #[])) [(.t 248), (.c (.slice none 0 0))]), (some (247, true))⟩, ⟨(some 250), (.pick (.t 247) (.t 249) (.c (.bool false))), none⟩, ⟨(some 251), (.mov (.t 250)), none⟩, ⟨(some 252), (.ld true 4 (.t 15)), (some (251, true))⟩, ⟨(some 253), (.call (.c (.func (.func 33) #[] #[])) [(.t 252), (.c (.slice none 0 0)), (.c (.slice none 0 0)), (.c (.int .i64 0))]), (some (251, true))⟩, ⟨(some 254), (.pick (.t 251) (.t 253) (.c (.bool false))), none⟩, ⟨(some 255), (.mov (.t 254)), none⟩, ⟨(some 256), (.call (.c (.func (.func 42) #[] #[])) []), (some (255, true))⟩, ⟨(some 257), (.bsl 3 [(.int .i64 0), (.int .i64 0), (.int .i64 0)] [(0, 1, (.c (.int .i64 0))), (1, 1, (.c (.int .i64 1))), (2, 1, (.c (.int .i64 3)))]), (some (255, true))⟩, ⟨(some 258), (.bsl 1 [(.int .i64 0)] [(0, 1, (.c (.int .i64 2)))]), (some (255, true))⟩, ⟨(some 259), (.bsl 2 [(.slice none 0 0), (.slice none 0 0)] [(0, 1, (.t 257)), (1, 1, (.t 258))]), (some (255, true))⟩, ⟨(some 260), (.call (.c (.func (.func 27) #[] #[])) [(.t 256), (.t 259)]), (some (255, true))⟩, ⟨(some 261), (.not (.t 260)), (some (255, true))⟩, ⟨(some 262), (.pick (.t 255) (.t 261) (.c (.bool false))), none⟩, ⟨(some 263), (.mov (.t 262)), none⟩, ⟨(some 264), (.call (.c (.func (.func 42) #[] #[])) []), (some (263, true))⟩, ⟨(some 265), (.bsl 3 [(.int .i64 0), (.int .i64 0), (.int .i64 0)] [(0, 1, (.c (.int .i64 0))), (1, 1, (.c (.int .i64 1))), (2, 1, (.c (.int .i64 3)))]), (some (263, true))⟩, ⟨(some 266), (.bsl 1 [(.int .i64 0)] [(0, 1, (.c (.int .i64 2)))]), (some (263, true))⟩, ⟨(some 267), (.bsl 1 [(.int .i64 0)] [(0, 1, (.c (.int .i64 4)))]), (some (263, true))⟩, ⟨(some 268), (.bsl 0 [] []), (some (263, true))⟩, ⟨(some 269), (.bsl 4 [(.slice none 0 0), (.slice none 0 0), (.slice none 0 0), (.slice none 0 0)] [(0, 1, (.t 265)), (1, 1, (.t 266)), (2, 1, (.t 267)), (3, 1, (.t 268))]), (some (263, true))⟩, ⟨(some 270), (.call (.c (.func (.func 27) #[] #[])) [(.t 264), (.t 269)]), (some (263, true))⟩, ⟨(some 271), (.not (.t 270)), (some (263, true))⟩, ⟨(some 272), (.pick (.t 263) (.t 271) (.c (.bool false))), none⟩, ⟨(some 273), (.mov (.t 272)), none⟩, ⟨(some 274), (.call (.c (.func (.func 17) #[] #[])) []), (some (273, true))⟩, ⟨(some 275), (.pick (.t 273) (.t 274) (.c (.bool false))), none⟩, ⟨(some 0), (.mov (.t 275)), none⟩])
                     .ret)))))))))))))))))))
def r8 : List AOp := [(.mov (.t 0))]
theorem ok8 : FnOk Try.prog 8 Try.f8.ntmps a8 r8 := ⟨Try.f8, Try.func8, by kernel_rfl, by kernel_rfl, by kernel_rfl, fun asv w => by simp⟩

/-- layover/layoverlaw01.only -/
def a70 : ACode :=
  (.seq
   (.region [⟨(some 2), (.box (.t 0)), none⟩, ⟨(some 4), (.new [(.int .i64 0), (.int .i64 0), (.slice none 0 0), (.slice none 0 0)]), none⟩])
   (.seq
    (.region [⟨(some 7), (.ld true 4 (.t 2)), none⟩, ⟨(some 5), (.new [(.int .i64 0), (.int .i64 0), (.slice none 0 0), (.slice none 0 0)]), none⟩, ⟨none, (.st 4 (.t 5) (.t 7)), none⟩])
    (.seq
     (.region [⟨(some 8), (.fa 3 (.t 5)), none⟩, ⟨none, (.st 1 (.t 8) (.c (.slice none 0 0))), none⟩])
     (.seq
      (.seq
       (.region [⟨(some 6), (.mov (.c (.int .i64 0))), none⟩])
       (.block 0
        (.loop
         (.seq
          (.seq
           (.region [⟨(some 9), (.mov (.t 6)), none⟩, ⟨(some 10), (.mov (.t 1)), none⟩, ⟨(some 11), (.len (.t 10)), none⟩, ⟨(some 12), (.bin .lss (.t 9) (.t 11)), none⟩])
           (.cond (.t 12)
            .skip
            (.exit 0)))
          (.seq
           (.block 1
            (.draw 14 [⟨⟨(some 15), (.fa 3 (.t 5)), none⟩, 0, false, []⟩, ⟨⟨(some 16), (.ld false 1 (.t 15)), none⟩, 1, false, []⟩, ⟨⟨(some 17), (.fa 3 (.t 2)), none⟩, 2, false, []⟩, ⟨⟨(some 18), (.ld false 1 (.t 17)), none⟩, 3, false, []⟩, ⟨⟨(some 19), (.mov (.t 1)), none⟩, 4, false, []⟩, ⟨⟨(some 20), (.mov (.t 6)), none⟩, 5, false, []⟩, ⟨⟨(some 21), (.isl 1 (.t 19) (.t 20)), none⟩, 6, false, []⟩, ⟨⟨(some 22), (.ld false 1 (.t 21)), none⟩, 7, false, []⟩, ⟨⟨(some 23), (.isl 6 (.t 18) (.t 22)), none⟩, 8, false, []⟩, ⟨⟨(some 24), (.ld true 6 (.t 23)), none⟩, 9, false, []⟩, ⟨⟨(some 25), (.bsl 1 [(.int .i64 0), (.int .i64 0), (.int .i64 0), (.int .i64 0), (.int .i64 0), (.int .i64 0)] [(0, 6, (.t 24))]), none⟩, 10, false, []⟩, ⟨⟨(some 26), (.app 6 48 (.t 16) (.t 25)), none⟩, 11, true, []⟩, ⟨⟨(some 27), (.fa 3 (.t 5)), none⟩, 12, false, []⟩, ⟨⟨none, (.st 1 (.t 27) (.t 26)), none⟩, 13, true, []⟩]))
           (.region [⟨(some 13), (.mov (.t 6)), none⟩, ⟨(some 14), (.bin .add (.t 13) (.c (.int .i64 1))), none⟩, ⟨(some 6), (.mov (.t 14)), none⟩]))))))
      (.seq
       (.region [⟨(some 28), (.ld true 4 (.t 5)), none⟩, ⟨none, (.st 4 (.t 4) (.t 28)), none⟩])
       .ret)))))
def r70 : List AOp := [(.ld true 4 (.t 4))]
theorem ok70 : FnOk Try.prog 70 Try.f70.ntmps a70 r70 := ⟨Try.f70, Try.func70, by kernel_rfl, by kernel_rfl, by kernel_rfl, fun asv w => by simp⟩

/-- layover/layoverlaw01.fewest -/
def a45 : ACode :=
  (.seq
   (.region [⟨(some 2), (.box (.t 0)), none⟩, ⟨(some 4), (.new [(.int .i64 0), (.int .i64 0), (.int .i64 0)]), none⟩, ⟨(some 5), (.mov (.c (.bool false))), none⟩])
   (.seq
    (.region [⟨(some 6), (.new [(.int .i64 0), (.int .i64 0), (.int .i64 0)]), none⟩])
    (.seq
     (.seq
      (.region [⟨(some 7), (.mov (.c (.int .i64 0))), none⟩])
      (.block 0
       (.loop
        (.seq
         (.seq
          (.region [⟨(some 10), (.mov (.t 7)), none⟩, ⟨(some 11), (.bin .lss (.t 10) (.c (.int .i64 3))), none⟩])
          (.cond (.t 11)
           .skip
           (.exit 0)))
         (.seq
          (.block 1
           (.seq
            (.draw 13 [⟨⟨(some 15), (.ld true 4 (.t 2)), none⟩, 0, false, []⟩, ⟨⟨(some 16), (.ld true 4 (.t 2)), none⟩, 1, false, []⟩, ⟨⟨(some 17), (.mov (.t 7)), none⟩, 2, false, []⟩, ⟨⟨(some 18), (.mov (.t 1)), none⟩, 3, false, []⟩, ⟨⟨(some 19), (.call (.c (.func (.func 31) #[] #[])) [(.t 16), (.t 17), (.t 18)]), none⟩, 4, true, [0]⟩, ⟨⟨(some 20), (.call (.c (.func (.func 70) #[] #[])) [(.t 15), (.t 19)]), none⟩, 5, true, []⟩, ⟨⟨(some 21), (.call (.c (.func (.func 19) #[] #[])) [(.t 20)]), none⟩, 6, true, []⟩, ⟨⟨(some 22), (.call (.c (.func (.func 26) #[] #[])) [(.t 21)]), none⟩, 7, true, []⟩, ⟨⟨(some 14), (.mov (.t 22)), none⟩, 8, false, []⟩, ⟨⟨(some 23), (.ext (.t 14) 0), none⟩, 9, false, []⟩, ⟨⟨(some 24), (.ext (.t 14) 1), none⟩, 10, false, []⟩, ⟨⟨(some 8), (.mov (.t 23)), none⟩, 11, false, []⟩, ⟨⟨(some 9), (.mov (.t 24)), none⟩, 12, false, []⟩])
            (.seq
             (.seq
              (.region [⟨(some 25), (.mov (.t 9)), none⟩, ⟨(some 26), (.bin .neq (.t 25) (.c (.int .i64 0))), none⟩])
              (.cond (.t 26)
               (.seq
                (.region [⟨(some 27), (.ld true 3 (.t 6)), none⟩, ⟨none, (.st 3 (.t 4) (.t 27)), none⟩, ⟨(some 5), (.mov (.c (.bool false))), none⟩])
                .ret)
               .skip))
             (.region [⟨(some 28), (.mov (.t 7)), none⟩, ⟨(some 29), (.mov (.t 8)), none⟩, ⟨(some 30), (.len (.t 29)), none⟩, ⟨(some 31), (.iar 3 1 (.t 6) (.t 28)), none⟩, ⟨none, (.st 1 (.t 31) (.t 30)), none⟩]))))
          (.region [⟨(some 12), (.mov (.t 7)), none⟩, ⟨(some 13), (.bin .add (.t 12) (.c (.int .i64 1))), none⟩, ⟨(some 7), (.mov (.t 13)), none⟩]))))))
     (.seq
      (.region [⟨(some 32), (.ld true 3 (.t 6)), none⟩, ⟨none, (.st 3 (.t 4) (.t 32)), none⟩, ⟨(some 5), (.mov (.c (.bool true))), none⟩])
      .ret))))
def r45 : List AOp := [(.ld true 3 (.t 4)), (.mov (.t 5))]
theorem ok45 : FnOk Try.prog 45 Try.f45.ntmps a45 r45 := ⟨Try.f45, Try.func45, by kernel_rfl, by kernel_rfl, by kernel_rfl, fun asv w => by simp⟩

end Go.Proofs.Ytnbkclhjpekkcaa

/-
  Timetables in which the same trips follow each other, and slices of trips that are appended to an empty one.
-/
namespace Go.Proofs.Ytnbkclhjpekkcaa
open Go Go.Ab

section
variable {T X : Tab} (hn : X.trips.length = T.trips.length) (hm : ∀ i j, X.mayN i j = T.mayN i j)
include hn hm
theorem same_followers : X.followers = T.followers := by
  unfold Tab.followers
  rw [hn]
  congr 1; funext i; congr 2; funext j; exact hm i j
omit hm in
theorem same_num (x : Int) : X.num x = T.num x := by simp only [Tab.num, hn]
theorem same_cut (bs : List (List Int)) : isCutL X bs = isCutL T bs := by
  have h1 : ∀ b d k, tripStep X b d k = tripStep T b d k := fun b d k => by simp only [tripStep, hm]
  have h2 : blockStep X = blockStep T := by
    funext d b
    have : X.num = T.num := funext (same_num hn)
    have h3 : tripStep X b = tripStep T b := by funext d k; exact h1 b d k
    simp only [blockStep, this, h3]
  simp only [isCutL, h2, hn]
theorem same_most : X.most = T.most := by simp only [Tab.most, same_followers hn hm, hn]
end

theorem trips_one (xs : List Tr) : (xs.flatMap Tr.cells).all one = true := by
  simp only [List.all_eq_true, List.mem_flatMap]
  rintro v ⟨x, _, hv⟩
  simp only [Tr.cells, List.mem_cons, List.not_mem_nil, or_false] at hv
  rcases hv with rfl | rfl | rfl | rfl | rfl | rfl <;> rfl
theorem trips_cells (xs : List Tr) : (xs.flatMap Tr.cells).length = xs.length * 6 := by
  induction xs with
  | nil => rfl
  | cons x xs ih => simp only [List.flatMap_cons, List.length_append, ih, List.length_cons]; simp [Tr.cells]; omega

/-- A slice of trips is appended to an empty one. -/
theorem fapp_clone {A : Heap} {s : Value} {xs : List Tr} {m n nx : Nat} {R : Value → Heap → Prop} (hm : A.get m = .cells true [] 0) (hs : TripsAt A s xs) (hl : xs.length ≤ 2 ^ 20) (_hnx : n < nx)
    (K : ∀ cap B, xs.length ≤ cap → B.get n = .cells true (xs.flatMap Tr.cells) (cap * 6) → B.next = nx → (∀ q, q ≠ n → q ≠ m → B.get q = A.get q) → R (.slice (some ⟨n, 0, none⟩) xs.length cap) B) : @fapp (baseOf A 6 (.slice (some ⟨m, 0, none⟩) 0 0)) (slCells A 6 s) 6 48 A n nx ⟨R⟩ := by
  refine ⟨0, [], some m, 0, xs.length, xs.flatMap Tr.cells, by simp [baseOf, hm], hs.1.1, trips_one xs, by omega, ?_⟩
  rw [if_neg (by simp)]
  intro cap hcap
  have := K cap (appHeap A n nx (some m) (xs.flatMap Tr.cells) (cap * 6)) (by omega) (by simp [appHeap]) rfl (fun q h1 h2 => by simp [appHeap, h1, h2])
  simpa using this

/-- A trip that starts later. -/
def Tr.later (d : Int) (x : Tr) : Tr := { x with start := x.start + d }
def laterTo (d : Int) (xs : List Tr) (m : Nat) : List Tr := (xs.take m).map (Tr.later d) ++ xs.drop m
theorem laterTo_length {d : Int} {xs : List Tr} {m : Nat} : (laterTo d xs m).length = xs.length := by simp [laterTo]; omega
theorem laterTo_zero {d : Int} {xs : List Tr} : laterTo d xs 0 = xs := by simp [laterTo]
theorem laterTo_all {d : Int} {xs : List Tr} : laterTo d xs xs.length = xs.map (Tr.later d) := by simp [laterTo]
theorem laterTo_split {d : Int} {xs : List Tr} {m : Nat} (hm : m < xs.length) : laterTo d xs m = (xs.take m).map (Tr.later d) ++ xs[m] :: xs.drop (m + 1) := by
  simp only [laterTo]; rw [List.drop_eq_getElem_cons hm]
theorem laterTo_next {d : Int} {xs : List Tr} {m : Nat} (hm : m < xs.length) : laterTo d xs (m + 1) = (xs.take m).map (Tr.later d) ++ xs[m].later d :: xs.drop (m + 1) := by
  simp only [laterTo]; rw [List.take_succ_eq_append_getElem hm]; simp only [List.map_append, List.map_cons, List.map_nil, List.append_assoc, List.singleton_append]
theorem laterTo_at {d : Int} {xs : List Tr} {m : Nat} (hm : m < xs.length) : ((laterTo d xs m).flatMap Tr.cells)[m * 6 + 2]? = some (.int .i64 xs[m].start) := by
  have hl : (((xs.take m).map (Tr.later d)).flatMap Tr.cells).length = m * 6 := by rw [trips_cells]; simp; omega
  rw [laterTo_split hm, List.flatMap_append, List.getElem?_append_right (by omega), hl, List.flatMap_cons]
  simp [Tr.cells]
theorem laterTo_wr {d : Int} {xs : List Tr} {m : Nat} (hm : m < xs.length) : wrL ((laterTo d xs m).flatMap Tr.cells) (m * 6 + 2) [.int .i64 (xs[m].start + d)] = (laterTo d xs (m + 1)).flatMap Tr.cells := by
  have hl : (((xs.take m).map (Tr.later d)).flatMap Tr.cells).length = m * 6 := by rw [trips_cells]; simp; omega
  rw [laterTo_split hm, laterTo_next hm, List.flatMap_append, List.flatMap_append, List.flatMap_cons, List.flatMap_cons]
  generalize ((xs.take m).map (Tr.later d)).flatMap Tr.cells = A at hl
  have h1 : A.take (m * 6 + 2) = A := List.take_of_length_le (by omega)
  have h2 : A.drop (m * 6 + 3) = [] := List.drop_of_length_le (by omega)
  have e1 : m * 6 + 2 - m * 6 = 2 := by omega
  have e2 : m * 6 + 3 - m * 6 = 3 := by omega
  have e3 : m * 6 + 2 + [Value.int .i64 (xs[m].start + d)].length = m * 6 + 3 := rfl
  simp only [wrL, Tr.cells, Tr.later]
  rw [e3, List.take_append, List.drop_append, h1, h2, hl, e1, e2]
  simp

def laterT (T : Tab) (d : Int) : Tab := { T with trips := T.trips.map (Tr.later d) }
theorem laterT_len {T : Tab} {d : Int} : (laterT T d).trips.length = T.trips.length := by simp [laterT]
theorem laterT_may {T : Tab} {d : Int} (i j : Nat) : (laterT T d).mayN i j = T.mayN i j := by
  simp only [Tab.mayN, laterT, List.getElem?_map]
  cases T.trips[i]? with
  | none => rfl
  | some x =>
    cases T.trips[j]? with
    | none => rfl
    | some y =>
      simp only [Option.map_some]
      have he : (x.later d = y.later d) ↔ x = y := by
        constructor
        · intro h
          cases x; cases y
          simp only [Tr.later, Tr.mk.injEq] at h ⊢
          omega
        · rintro rfl; rfl
      have hw : ∀ m, Tab.wait { T with trips := T.trips.map (Tr.later d) } (x.later d) (y.later d) m = T.wait x y m := by
        intro m
        simp only [Tab.wait, Tab.ready, Tab.road, Tr.later]
        omega
      simp only [Tab.may, he, hw]
      rfl
theorem laterT_thin {T : Tab} {d : Int} : thin (laterT T d) = thin T := by simp only [thin, laterT, List.length_map]; rfl

end Go.Proofs.Ytnbkclhjpekkcaa

/-
  What RunLater answers.
-/
namespace Go.Proofs.Ytnbkclhjpekkcaa
open Go Go.Ab

theorem runLater_of {e s : Value} {T : Tab} {by_ : Int} {H : Heap} (h : TabAt H e s T) (h01 : 0 ≤ by_ ∧ by_ < 65536) : AFun Try.prog 14 [tabV T e s, .int .u16 by_] H (fun v B => v = .bool true ∧ Ge H B) := by
  obtain ⟨h0, h1⟩ := h01
  refine AFun.mk ok14 hm (Nat.le_of_ble_eq_true rfl) ?_
  have g0 : Ge H (H.new (.cells true [.int .i64 T.places, .int .i64 T.layover, e, s] 4)) := Ge.new _ _
  have he := h.empty.one
  have hs := h.trips.one
  simp [a14, r14]
  refine fcall_fun (readyS_spec (h.ge g0)) ?_
  rintro _ H1 ⟨rfl, g1⟩
  have G1 := g0.trans g1
  have n1 := g1.next
  simp at n1
  have b1 := g1.got (n := H.next) (by simp) rfl
  simp at b1
  cases hrd : readyT T
  · simp
    refine fcall_fun (awake_spec _) ?_
    rintro _ B ⟨rfl, gB⟩
    simp
    exact G1.trans gB
  have hrd2 : thin T = true ∧ checkT T = 0 := by simpa [readyT] using hrd
  obtain ⟨hth, hc⟩ := hrd2
  have hT := checkT_zero.1 hc
  have hfew := hT.few
  have q0 : H.next ≠ H1.next := by omega
  have q1 : H.next ≠ H1.next + 1 := by omega
  simp [b1, he, hs, q0, q1]
  have gN : Ge H1 ((H1.new (.cells true [.int .i64 0, .int .i64 0, .slice none 0 0, .slice none 0 0] 4)).set H1.next (.cells true [.int .i64 T.places, .int .i64 T.layover, e, s] 4)) := Ge.setNew (Ge.new _ _) (Nat.le_refl _) _
  refine fapp_clone (m := H1.next + 1) (xs := T.trips) (by simp) (h.trips.ge ((G1.trans gN).newOf _)) (by omega) (by omega) fun cap A0 hcap hA2 hAn hAk => ?_
  have GA : Ge H A0 := by
    refine ⟨by omega, fun n hn => ?_⟩
    have e1 : n ≠ H1.next := by omega
    have e2 : n ≠ H1.next + 1 := by omega
    have e3 : n ≠ H1.next + 2 := by omega
    rw [hAk n e3 e2]
    simp [e1, e2]
    exact G1.get n hn
  have ka0 : A0.get H.next = .cells true [.int .i64 T.places, .int .i64 T.layover, e, s] 4 := by
    have e3 : H.next ≠ H1.next + 2 := by omega
    rw [hAk _ e3 q1]
    simp [q0, q1, b1]
  have ka1 : A0.get H1.next = .cells true [.int .i64 T.places, .int .i64 T.layover, e, s] 4 := by
    rw [hAk _ (by omega) (by omega)]
    simp
  simp [ka1]
  have hd := Int.emod_nonneg by_ (b := 500) (by omega)
  have hd2 := Int.emod_lt_of_pos by_ (b := 500) (by omega)
  have htm : by_.tmod 500 = by_ % 500 := Int.tmod_eq_emod_of_nonneg h0
  refine floop_intro (fun z => z.d = [] ∧ Ge H z.H ∧ H1.next + 3 ≤ z.H.next ∧ z.t 1 = .int .u16 by_ ∧ z.t 2 = .pointer (some ⟨H.next, 0, none⟩) ∧ z.t 5 = .pointer (some ⟨H1.next, 0, none⟩) ∧ z.H.get H.next = .cells true [.int .i64 T.places, .int .i64 T.layover, e, s] 4 ∧
    z.H.get H1.next = .cells true [.int .i64 T.places, .int .i64 T.layover, e, .slice (some ⟨H1.next + 2, 0, none⟩) T.trips.length cap] 4 ∧ ∃ i : Nat, i ≤ T.trips.length ∧ z.t 6 = .int .i64 i ∧ z.H.get (H1.next + 2) = .cells true ((laterTo (by_ % 500) T.trips i).flatMap Tr.cells) (cap * 6)) (fun z => T.trips.length - (intOf (z.t 6)).toNat) ?_ ?_
  · refine ⟨rfl, Ge.setNew GA (by omega) _, by simp; omega, by simp, by simp, by simp, by simp [q0, ka0], by simp, 0, by simp, by simp, ?_⟩
    simp [laterTo_zero, hA2]
  rintro ⟨t, _, A⟩ ⟨rfl, gA, hnA, t1, t2, t5, k0, k1, i, hi, t6, k2⟩
  dsimp only at gA hnA t1 t2 t5 k0 k1 t6 k2
  simp [t5, t6, k1]
  refine fcond_intro (fun hci => ?_) (fun hci => ?_)
  · have hi' : i < T.trips.length := by simpa using hci
    have hx := hT.trip (List.getElem_mem hi')
    have hI : ∀ cap, islV 6 (.slice (some ⟨H1.next + 2, 0, none⟩) T.trips.length cap) (.int .i64 i) = some (.pointer (some ⟨H1.next + 2, i * 6, none⟩)) := fun cap => by
      rw [islV_in (by omega) (by omega)]; simp
    have hlen : i * 6 + 2 + 1 ≤ ((laterTo (by_ % 500) T.trips i).flatMap Tr.cells).length := by rw [trips_cells, laterTo_length]; omega
    have hat := laterTo_at (d := by_ % 500) hi'
    have hwr := laterTo_wr (d := by_ % 500) hi'
    generalize (laterTo (by_ % 500) T.trips i).flatMap Tr.cells = cs at k2 hlen hat hwr
    generalize hcs : (laterTo (by_ % 500) T.trips (i + 1)).flatMap Tr.cells = cs' at hwr
    have hw := wrap_i64 (n := by_) (by omega) (by omega)
    simp [t1, t5, t6, k1, hI, k2, hat, hw, binI_rem, htm, add_in (x := T.trips[i].start) (y := by_ % 500) (by omega) (by omega), hlen, hwr, add_in (x := i) (y := 1) (by omega) (by omega)]
    have e0 : H.next ≠ H1.next + 2 := by omega
    refine ⟨⟨Ge.setNew gA (by omega) _, by omega, t2, by simp [e0, k0], i + 1, by omega, by omega, by rw [hcs]⟩, by omega⟩
  have hi' : i = T.trips.length := by simp at hci; omega
  subst hi'
  rw [laterTo_all] at k2
  have tX : TabAt A e (.slice (some ⟨H1.next + 2, 0, none⟩) T.trips.length cap) (laterT T (by_ % 500)) := by
    refine ⟨h.empty.ge gA, ⟨⟨?_, ?_⟩, ?_⟩⟩
    · have hl := trips_cells (T.trips.map (Tr.later (by_ % 500)))
      simp only [laterT]
      generalize (T.trips.map (Tr.later (by_ % 500))).flatMap Tr.cells = cs at k2 hl
      simp at hl
      simp only [slCells, k2, List.length_map]
      simp [rdL, hl]
      rw [List.take_of_length_le (by omega)]
    · intro a n c e'; simp at e'; rw [← e'.1]; simp; omega
    · simp [laterT]; omega
  have hnX := laterT_len (T := T) (d := by_ % 500)
  have hmX := laterT_may (T := T) (d := by_ % 500)
  have hthX := laterT_thin (T := T) (d := by_ % 500)
  have hvX : ∀ s', tabV (laterT T (by_ % 500)) e s' = tabV T e s' := fun _ => rfl
  have hpX : (laterT T (by_ % 500)).places = T.places := rfl
  have hlX : (laterT T (by_ % 500)).layover = T.layover := rfl
  generalize laterT T (by_ % 500) = X at tX hnX hmX hthX hvX hpX hlX
  simp [t5, k1]
  generalize hsx : Value.slice (some { block := H1.next + 2, off := 0 }) T.trips.length cap = sx at tX k1
  have hvx : ∀ B : Heap, AFun Try.prog 47 [.agg #[.int .i64 T.places, .int .i64 T.layover, e, sx]] B = AFun Try.prog 47 [tabV X e sx] B := fun B => by rw [hvX]
  have fx := fault_spec tX
  rw [hvX] at fx
  refine fcall_fun fx ?_
  rintro _ B1 ⟨rfl, gB1⟩
  have K1 := gA.trans gB1
  have m1 := gB1.next
  have k01 := gB1.got (by omega) k0
  have k11 := gB1.got (by omega) k1
  have tX1 := tX.ge gB1
  by_cases hcX : checkT X = 0
  case neg =>
    simp [hcX]
    refine fcall_fun (awake_spec _) ?_
    rintro _ B ⟨rfl, gB⟩
    simp
    exact K1.trans gB
  have hTX := checkT_zero.1 hcX
  have tabX : ∀ B : Heap, Ge A B → AFun Try.prog 19 [.agg #[.int .i64 T.places, .int .i64 T.layover, e, sx]] B (fun r B' => (∃ e' s', r = tabV X e' s' ∧ TabAt B' e' s' X) ∧ Ge B B') := fun B gB => by
    have := table_spec (tX.ge gB) (by rw [hthX]; exact hth)
    rwa [hvX] at this
  simp [hcX, t2, k01]
  refine fcall_fun (table_spec (h.ge K1) hth) ?_
  rintro _ B2 ⟨⟨e2, s2, rfl, u2⟩, gB2⟩
  have K2 := K1.trans gB2
  simp
  refine fcall_fun (follows_spec u2) ?_
  rintro _ B3 ⟨gB3, _, hfl⟩
  obtain ⟨fv, rfl, hfv⟩ := hfl hc
  have K3 := K2.trans gB3
  have m2 := gB2.next
  have m3 := gB3.next
  have k13 := gB3.got (by omega) (gB2.got (by omega) k11)
  have k03 := gB3.got (by omega) (gB2.got (by omega) k01)
  simp [t5, k13]
  refine fcall_fun (tabX _ ((gB1.trans gB2).trans gB3)) ?_
  rintro _ B4 ⟨⟨e4, s4, rfl, u4⟩, gB4⟩
  have K4 := K3.trans gB4
  have m4 := gB4.next
  simp
  refine fcall_fun (follows_spec u4) ?_
  rintro _ B5 ⟨gB5, _, hfl⟩
  obtain ⟨gv, rfl, hgv⟩ := hfl hcX
  rw [same_followers hnX hmX] at hgv
  have K5 := K4.trans gB5
  have m5 := gB5.next
  have k15 := gB5.got (by omega) (gB4.got (by omega) k13)
  have k05 := gB5.got (by omega) (gB4.got (by omega) k03)
  simp [t2, k05]
  refine fcall_fun (table_spec (h.ge K5) hth) ?_
  rintro _ B6 ⟨⟨e6, s6, rfl, u6⟩, gB6⟩
  have K6 := K5.trans gB6
  have m6 := gB6.next
  simp
  refine fcall_fun (cut_spec u6) ?_
  rintro _ B7 ⟨gB7, _, hfl⟩
  obtain ⟨cv, rfl, hcv⟩ := hfl hc
  have K7 := K6.trans gB7
  have m7 := gB7.next
  have k17 := gB7.got (by omega) (gB6.got (by omega) k15)
  simp [t5, k17]
  refine fcall_fun (tabX _ (((((gB1.trans gB2).trans gB3).trans gB4).trans gB5).trans (gB6.trans gB7))) ?_
  rintro _ B8 ⟨⟨e8, s8, rfl, u8⟩, gB8⟩
  have K8 := K7.trans gB8
  have m8 := gB8.next
  simp
  refine fcall_fun (cut_spec u8) ?_
  rintro _ B9 ⟨gB9, _, hfl⟩
  obtain ⟨dv, rfl, hdv⟩ := hfl hcX
  have K9 := K8.trans gB9
  have m9 := gB9.next
  have k19 := gB9.got (by omega) (gB8.got (by omega) k17)
  have z1 := cutL_size hT
  have z2 := cutL_size hTX
  rw [same_most hnX hmX, hnX] at z2
  have zz : (cutL T).length = (cutL X).length := by omega
  have zi : ((cutL T).length : Int) = (cutL X).length := by omega
  have l1 : (T.followers).length = T.trips.length := by simp [Tab.followers]
  simp [hfv.lenV, hgv.lenV, hcv.lenV, hdv.lenV, zi]
  have hfv9 := ((((((hfv.ge gB4).ge gB5).ge gB6).ge gB7).ge gB8).ge gB9)
  have hgv9 := ((((hgv.ge gB6).ge gB7).ge gB8).ge gB9)
  have hcv9 := (hcv.ge gB8).ge gB9
  refine floop_intro (fun z => z.d = [] ∧ Ge B9 z.H ∧ z.t 5 = .pointer (some ⟨H1.next, 0, none⟩) ∧ z.t 7 = fv ∧ z.t 9 = gv ∧ z.t 11 = cv ∧ ∃ i : Nat, i ≤ T.trips.length ∧ z.t 15 = .int .i64 i) (fun z => T.trips.length - (intOf (z.t 15)).toNat) ?_ ?_
  · exact ⟨rfl, by simp, by simp [t5], by simp, by simp, by simp, 0, by simp, by simp⟩
  rintro ⟨w, _, C⟩ ⟨rfl, gC, w5, w7, w9, w11, j, hj, w15⟩
  dsimp only at gC w5 w7 w9 w11 w15
  simp [w7, w15, hfv.lenV, l1]
  refine fcond_intro (fun hci => ?_) (fun hci => ?_)
  · have hj' : j < T.trips.length := by simpa using hci
    obtain ⟨p1, u1, e1, e2, e3⟩ := hfv9.atGe (gC.grow 10) (i := j) (by omega)
    obtain ⟨p2, u2', e4, e5, e6⟩ := hgv9.atGe (gC.grow 10) (i := j) (by omega)
    simp [w7, w9, w15, e1, e2, e4, e5]
    refine fcall_fun (ints_spec (e3.ge (gC.grow 10)) (e6.ge (gC.grow 10))) ?_
    rintro _ D ⟨rfl, gD⟩
    simp
    have := gC.next
    have gD' : Ge C D := Ge.trans (Ge.more _ 10) gD
    simp [w15, add_in (x := j) (y := 1) (by omega) (by omega)]
    exact ⟨⟨gC.trans gD', w5, w7, w9, w11, j + 1, by omega, by omega⟩, by omega⟩
  · simp [w5, w11, gC.got (by omega) k19]
    have gAC : Ge A C := (((((((gB1.trans gB2).trans gB3).trans gB4).trans gB5).trans gB6).trans gB7).trans (gB8.trans gB9)).trans gC
    have KC : Ge H C := K9.trans gC
    obtain ⟨c1, c2⟩ := cut_small hfew (cutL_good hT)
    refine fcall_fun (tabX _ gAC) ?_
    rintro _ D1 ⟨⟨e10, s10, rfl, u10⟩, gD1⟩
    simp [w11]
    refine fcall_fun (rows_spec (hcv9.ge (gC.trans gD1)) (by omega) (fun l hl => by have := c2 l hl; omega)) ?_
    rintro r D2 ⟨hr, gD2⟩
    simp
    refine fcall_fun (proveCut_spec (u10.ge gD2) (hr.rows (by omega))) ?_
    rintro _ D3 ⟨rfl, gD3⟩
    have hg : isCutL X (cutL T) = true := by rw [same_cut hnX hmX]; exact cutL_good hT
    simp [hcX, hg]
    refine fcall_fun (awake_spec _) ?_
    rintro _ D4 ⟨rfl, gD4⟩
    simp
    exact KC.trans ((gD1.trans gD2).trans (gD3.trans gD4))

end Go.Proofs.Ytnbkclhjpekkcaa
