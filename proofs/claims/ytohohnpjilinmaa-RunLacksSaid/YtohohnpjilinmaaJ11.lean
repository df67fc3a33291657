/-
  Joined texts of a calculus of abstract memory, and of contracts of the program's functions.
-/
import Derived.Test.YtohohnpjilinmaaJ10
import Derived.Test.YtohohnpjilinmaaChecked
import Derived.KernelRfl
/-
  Contracts of what asks whether a list rises.
-/
namespace Go.Proofs.Ytohohnpjilinmaa
open Go Go.Ab

/-- A test that may turn memory of its own. -/
theorem every_int_state {H : Heap} {v pv : Value} {xs : List Int} {I : Nat → Heap → Prop} {F : Heap → Prop} (h0 : I 0 H) (hI : ∀ i A, I i A → IntsAt A v xs)
    (hp : ∀ i (hi : i < xs.length) A, I i A → ACall Try.prog pv [.int .i64 xs[i]] A (fun r B => ∃ b, r = .bool b ∧ (b = true → I (i + 1) B) ∧ (b = false → F B))) : AFun Try.prog 65 [v, pv] H (fun r B => (r = .bool true ∧ I xs.length B) ∨ (r = .bool false ∧ F B)) := by
  refine AFun.mk ok65 hm (Nat.le_of_ble_eq_true rfl) ?_
  have hv := hI 0 H h0
  have h62 := hv.2
  simp [a65, r65, hv.lenV]
  refine floop_intro (fun s => s.d = [] ∧ s.t 1 = pv ∧ s.t 7 = v ∧ s.t 8 = .int .i64 xs.length ∧ ∃ i : Nat, i ≤ xs.length ∧ s.t 9 = .int .i64 i ∧ I i s.H) (fun s => xs.length - (intOf (s.t 9)).toNat) ?_ ?_
  · exact ⟨rfl, by simp, by simp, by simp, 0, by simp, by simp, h0⟩
  · rintro ⟨t, _, A⟩ ⟨rfl, h1, h7, h8, i, hi, h9, hIi⟩
    dsimp only at h1 h7 h8 h9 hIi
    simp [h8, h9]
    refine fcond_intro (fun hc => ?_) (fun hc => ?_)
    · have hi' : i < xs.length := by simpa using hc
      obtain ⟨q, e1, e2⟩ := (hI i A hIi).at hi'
      simp [h1, h7, h9, e1, e2]
      refine fcall_intro ((hp i hi' A hIi).mono ?_)
      rintro _ B ⟨b, rfl, k1, k2⟩
      cases b
      · simp [k2 rfl]
      · simp [h9, add_in (x := i) (y := 1) (by omega) (by omega)]
        exact ⟨⟨h1, h7, h8, i + 1, by omega, by omega, k1 rfl⟩, by omega⟩
    · have : i = xs.length := by simp at hc; omega
      subst this
      simp [hIi]

def prevOf (xs : List Int) (i : Nat) : Int := if i = 0 then -1 else xs[i - 1]?.getD 0
def risAt (T : Tab) (xs : List Int) (i : Nat) : Bool := decide (prevOf xs i < xs[i]?.getD 0) && T.num (xs[i]?.getD 0)
def risL (T : Tab) (xs : List Int) : Bool := (List.range xs.length).all (risAt T xs)

theorem rising_step {e s f : Value} {T : Tab} {H : Heap} {x last : Int} {nl ns : Nat} (_h : TabAt H e s T) (hnl : nl < H.next) (hl : H.get nl = .cells true [.int .i64 last] 1) (hs : H.get ns = .cells true [.int .i64 T.places, .int .i64 T.layover, e, s, .func (.func 74) #[] #[], f] 6) (hne : ns ≠ nl)
    (hlo : ∀ A : Heap, (∀ n, n ≠ nl → A.get n = H.get n) → A.next = H.next → TabAt A e s T) :
    AFun Try.prog 89 [.int .i64 x, .pointer (some ⟨nl, 0, none⟩), .pointer (some ⟨ns, 0, none⟩)] H (fun r B => r = .bool (decide (last < x) && T.num x) ∧ H.next ≤ B.next ∧ B.get nl = .cells true [.int .i64 x] 1 ∧ ∀ n, n < H.next → n ≠ nl → B.get n = H.get n) := by
  refine AFun.mk ok89 hm (Nat.le_of_ble_eq_true rfl) ?_
  simp [a89, r89, hl]
  refine fcond_intro (fun hc => ?_) (fun hc => ?_)
  · simp at hc
    simp [hc, hne, hs]
    refine fcall_fun (validNumber_spec (x := x) (hlo _ (fun n hn => by simp [hn]) rfl)) ?_
    rintro _ B ⟨rfl, gB⟩
    have nB := gB.next
    have kl := gB.got (n := nl) (by simpa using hnl) rfl
    simp at kl nB
    simp [hc, Tab.num, kl, nB]
    intro n hn hne'
    rw [gB.get n (by simpa using hn)]
    simp [hne']
  · have hc' : ¬ last < x := by simpa using hc
    simp [hc']
    intro n _ hn
    simp [hn]

theorem isRising_spec {e s f v : Value} {T : Tab} {xs : List Int} {H : Heap} (h : TabAt H e s T) (hv : IntsAt H v xs) : AFun Try.prog 81 [svcV T e s f, v] H (fun r B => r = .bool (risL T xs) ∧ Ge H B) := by
  refine AFun.mk ok81 hm (Nat.le_of_ble_eq_true rfl) ?_
  simp [a81, r81]
  have hE : Ge H (((H.new (.cells true [.int .i64 T.places, .int .i64 T.layover, e, s, .func (.func 74) #[] #[], f] 6)).new (.cells true [.int .i64 0] 1)).set (H.next + 1) (.cells true [.int .i64 (-1)] 1)) := Ge.setNew ((Ge.new _ _).newOf _) (by omega) _
  refine fcall_fun (every_int_state (xs := xs) (I := fun i A => Ge H A ∧ H.next + 2 ≤ A.next ∧ A.get H.next = .cells true [.int .i64 T.places, .int .i64 T.layover, e, s, .func (.func 74) #[] #[], f] 6 ∧ A.get (H.next + 1) = .cells true [.int .i64 (prevOf xs i)] 1 ∧ ∀ k, k < i → risAt T xs k = true) (F := fun A => Ge H A ∧ risL T xs = false) ?_ ?_ ?_) ?_
  · exact ⟨hE, by simp, by simp, by simp [prevOf], fun k hk => by omega⟩
  · exact fun i A hI => hv.ge hI.1
  · rintro i hi A ⟨g, hn, k0, k1, hall⟩
    have hcall := rising_step (x := xs[i]) (last := prevOf xs i) (nl := H.next + 1) (ns := H.next) (f := f) (h.ge g) (by omega) k1 k0 (by omega) (fun B hB hBn => h.ge ⟨by have := g.next; omega, fun n hn2 => by rw [hB n (by omega), g.get n hn2]⟩)
    refine (ACall.of_fun (xs := #[]) (us := #[.pointer (some ⟨H.next + 1, 0, none⟩), .pointer (some ⟨H.next, 0, none⟩)]) (args := [.int .i64 xs[i]]) (by simpa using hcall)).mono ?_
    rintro _ B ⟨rfl, q1, q2, q3⟩
    have hat : risAt T xs i = (decide (prevOf xs i < xs[i]) && T.num xs[i]) := by simp [risAt, hi]
    have gB : Ge H B := ⟨by have := g.next; omega, fun n hn2 => by rw [q3 n (by omega) (by omega), g.get n hn2]⟩
    refine ⟨risAt T xs i, by rw [hat], fun hb => ⟨gB, by omega, by rw [q3 _ (by omega) (by omega), k0], ?_, lt_succ_all hall hb⟩, fun hb => ⟨gB, all_range_false hi hb⟩⟩
    rw [q2]; simp [prevOf, hi]
  · rintro r B (⟨rfl, g, _, _, _, hall⟩ | ⟨rfl, g, hf⟩)
    · have : risL T xs = true := by simpa [risL] using hall
      simp [this, g]
    · simp [hf, g]

/-- What a list that rises is. -/
theorem risL_ok {T : Tab} (_hfew : T.trips.length ≤ 12) {xs : List Int} (h : risL T xs = true) : xs.Pairwise (· < ·) ∧ ∀ x ∈ xs, T.num x = true := by
  have hat : ∀ i (hi : i < xs.length), prevOf xs i < xs[i] ∧ T.num xs[i] = true := by
    intro i hi
    have := List.all_eq_true.1 h i (List.mem_range.2 hi)
    simpa [risAt, hi] using this
  refine ⟨?_, fun x hx => ?_⟩
  · rw [List.pairwise_iff_getElem]
    intro i j hi hj hij
    induction j with
    | zero => omega
    | succ j ih =>
      have h1 := (hat (j + 1) hj).1
      simp [prevOf, (by omega : j < xs.length)] at h1
      by_cases e : i = j
      · subst e; exact h1
      · have := ih (by omega) (by omega); omega
  · obtain ⟨i, hi, rfl⟩ := List.getElem_of_mem hx
    exact (hat i hi).2

theorem risL_length {T : Tab} (hfew : T.trips.length ≤ 12) {xs : List Int} (h : risL T xs = true) : xs.length ≤ T.trips.length := by
  obtain ⟨h1, h2⟩ := risL_ok hfew h
  have hnd : xs.Nodup := h1.imp fun hab => by omega
  have := flat_cnt hfew hnd h2 (fun _ => true)
  rw [List.countP_eq_length_filter, List.filter_eq_self.2 (fun _ _ => rfl)] at this
  exact Nat.le_trans this cntN_le

theorem pickL_at {xs : List Int} (hx : ∀ x ∈ xs, 0 ≤ x ∧ x < 12) {i : Nat} (hi : i < 12) : (pickL xs)[i]?.getD false = decide ((i : Int) ∈ xs) := by
  have key : ∀ m, m ≤ xs.length → (pickTo xs m)[i]?.getD false = decide ((i : Int) ∈ xs.take m) := by
    intro m
    induction m with
    | zero => intro _; simp only [pickTo, List.take_zero, List.foldl_nil, List.getElem?_replicate]; simp [hi]
    | succ m ih =>
      intro hm
      have hml : m < xs.length := by omega
      have hb := hx _ (List.getElem_mem hml)
      rw [pickTo_succ hml, List.take_succ_eq_append_getElem hml]
      by_cases e : xs[m].toNat = i
      · subst e
        have : ((xs[m].toNat : Nat) : Int) = xs[m] := by omega
        have hl := pickTo_length (xs := xs) m
        rw [List.getElem?_set_self (by omega), this]
        simp only [List.mem_append, List.mem_singleton, or_true, decide_true]
        rfl
      · rw [List.getElem?_set_ne e, ih (by omega)]
        have : ¬ (i : Int) = xs[m] := by omega
        simp only [List.mem_append, List.mem_singleton, this, or_false]
  have := key xs.length (Nat.le_refl _)
  rw [List.take_length] at this
  exact this

end Go.Proofs.Ytohohnpjilinmaa

/-
  Contracts of isCover, of ProveCover and of Cover.
-/
namespace Go.Proofs.Ytohohnpjilinmaa
open Go Go.Ab

/-- A pair of trips against two lists. -/
def pairOk (T : Tab) (a b : List Int) (i j : Nat) : Bool := !T.mayN i j || (pickL a)[i]?.getD false || (pickL b)[j]?.getD false
def allPairs (T : Tab) (a b : List Int) : Bool := (List.range T.trips.length).all fun i => (List.range T.trips.length).all fun j => pairOk T a b i j
def isCovL (T : Tab) (a b : List Int) : Bool := risL T a && risL T b && allPairs T a b

structure CInv (T : Tab) (a b : List Int) (A0 B : Heap) (r : ALoop) (i j : Nat) : Prop where
  next : A0.next + 2 ≤ B.next
  keep : ∀ n, n < A0.next → B.get n = A0.get n
  dfr : B.get A0.next = .dfr
  loop : B.get (A0.next + 1) = .loop r
  ok : ∀ i' j', i' < T.trips.length → j' < T.trips.length → (i' < i ∨ (i' = i ∧ j' < j)) → pairOk T a b i' j' = true

structure CBad (T : Tab) (a b : List Int) (A0 B : Heap) (b6 : Nat) (r : ALoop) : Prop where
  next : A0.next + 2 ≤ B.next
  keep : ∀ n, n < A0.next → n ≠ b6 → B.get n = A0.get n
  dfr : B.get A0.next = .dfr
  loop : B.get (A0.next + 1) = .loop { r with state := .done, pending := some .ret }
  res : B.get b6 = .cells true [.bool false] 1
  bad : allPairs T a b = false

theorem allPairs_bad {T : Tab} {a b : List Int} {i j : Nat} (hi : i < T.trips.length) (hj : j < T.trips.length) (h : pairOk T a b i j = false) : allPairs T a b = false :=
  all_range_false hi (all_range_false hj h)

theorem cover_round {T : Tab} {a b : List Int} {A0 A : Heap} {b6 b7 b8 dn i j : Nat} {r : ALoop} {t : Nat → Value} {fn : FuncId}
    (hr : r = { state := .ready, pending := none, fn, t, N := 39, params := #[27, 28], assign := c60x0, body := c60y0, defers := dn })
    (h6 : t 6 = .pointer (some ⟨b6, 0, none⟩)) (h7 : t 7 = .pointer (some ⟨b7, 0, none⟩)) (h8 : t 8 = .pointer (some ⟨b8, 0, none⟩)) (l6 : b6 < A0.next) (l7 : b7 < A0.next) (l8 : b8 < A0.next)
    (k6 : A0.get b6 = .cells true [.bool false] 1) (k7 : A0.get b7 = .cells true ((pickL a).map .bool) 12) (k8 : A0.get b8 = .cells true ((pickL b).map .bool) 12)
    (hfew : T.trips.length ≤ 12) (hI : CInv T a b A0 A r i j) (hi : i < T.trips.length) (hj : j < T.trips.length) (hmay : T.mayN i j = true) :
    ACall Try.prog (.func (.yield (A0.next + 1)) #[] #[]) [.int .i64 i, .int .i64 j] A (fun v B => ∃ k, v = .bool k ∧ (k = true → CInv T a b A0 B r i (j + 1)) ∧ (k = false → CBad T a b A0 B b6 r)) := by
  have hnx := hI.next
  have q6 := (hI.keep b6 l6).trans k6
  have q7 := (hI.keep b7 l7).trans k7
  have q8 := (hI.keep b8 l8).trans k8
  have la : (pickL a).length = 12 := pickTo_length _
  have lb : (pickL b).length = 12 := pickTo_length _
  have n6 : b6 ≠ A0.next + 1 := by omega
  have n7 : b7 ≠ A0.next + 1 := by omega
  have n8 : b8 ≠ A0.next + 1 := by omega
  have m6 : A0.next + 1 ≠ b6 := by omega
  refine ACall.of_yield (P := Try.prog) (D := vdrawD Try.prog) (CD := cdraw Try.prog 39) hI.loop (by rw [hr]; rfl) (by rw [hr]; intro p hp; simp at hp; rcases hp with rfl | rfl <;> simp) (by rw [hr]; exact ok60x0) (by rw [hr]; exact ok60y0) (by rw [hr]; exact draw_sound hm) ?_
  subst hr
  have hI1 : ∀ (q x : Nat), x < 12 → iarV 12 1 (.pointer (some ⟨q, 0, none⟩)) (.int .i64 x) = some (.pointer (some ⟨q, x, none⟩)) := fun q x hx => by
    rw [iarV_in (by omega) (by omega)]; simp
  have hi12 : i < 12 := by omega
  have hj12 : j < 12 := by omega
  simp [a60x0, tround, hI.loop]
  simp [a60y0, h7, hI1 _ i hi12, q7, la, hi12, n7]
  have hpa : (pickL a)[i]?.getD false = (pickL a)[i]'(by omega) := by simp [la, hi12]
  have hpb : (pickL b)[j]?.getD false = (pickL b)[j]'(by omega) := by simp [lb, hj12]
  have hok : pairOk T a b i j = ((pickL a)[i]'(by omega) || (pickL b)[j]'(by omega)) := by simp only [pairOk, hmay, hpa, hpb]; rfl
  have fine : ∀ B : Heap, A.next ≤ B.next → (∀ n, n < A0.next → B.get n = A.get n) → B.get A0.next = A.get A0.next → B.get (A0.next + 1) = .loop { state := .ready, pending := none, fn, t, N := 39, params := #[27, 28], assign := c60x0, body := c60y0, defers := dn } → pairOk T a b i j = true → CInv T a b A0 B { state := .ready, pending := none, fn, t, N := 39, params := #[27, 28], assign := c60x0, body := c60y0, defers := dn } i (j + 1) := by
    intro B h1 h2 h3 h4 h5
    refine ⟨by omega, fun n hn => (h2 n hn).trans (hI.keep n hn), h3.trans hI.dfr, h4, fun i' j' hi' hj' hlt => ?_⟩
    by_cases e : i' = i ∧ j' = j
    · obtain ⟨rfl, rfl⟩ := e; exact h5
    · exact hI.ok i' j' hi' hj' (by omega)
  have nd : A0.next ≠ A0.next + 1 := by omega
  generalize (pickL a)[i]'(by omega) = va at hok
  cases va
  case true =>
    simp
    refine fine _ (by simp) (fun n hn => ?_) (by simp) (by simp) (by rw [hok]; rfl)
    have : n ≠ A0.next + 1 := by omega
    simp [this]
  simp [h8, hI1 _ j hj12, q8, lb, hj12, n8]
  generalize (pickL b)[j]'(by omega) = vb at hok
  cases vb
  case true =>
    simp
    refine fine _ (by simp) (fun n hn => ?_) (by simp) (by simp) (by rw [hok]; rfl)
    have : n ≠ A0.next + 1 := by omega
    simp [this]
  simp [h6, q6, n6, m6]
  refine ⟨by simp; omega, fun n hn hn6 => ?_, ?_, by simp, by simp [n6], allPairs_bad hi hj (by rw [hok]; rfl)⟩
  · have : n ≠ A0.next + 1 := by omega
    simp [this, hn6, hI.keep n hn]
  · have : A0.next ≠ b6 := by omega
    simp [this, hI.dfr]

theorem cover_range {T : Tab} (hT : Valid T) {a b : List Int} {H A0 : Heap} {b6 b7 b8 nb cb : Nat} {rb : Bool} {t : Nat → Value} {e s f : Value} {Q : APost} (h : TabAt H e s T) (g : Ge H A0)
    (h6 : t 6 = .pointer (some ⟨b6, 0, none⟩)) (h7 : t 7 = .pointer (some ⟨b7, 0, none⟩)) (h8 : t 8 = .pointer (some ⟨b8, 0, none⟩)) (h26 : t 26 = .func (.func 88) #[] #[.pointer (some ⟨nb, 0, none⟩)]) (l6 : b6 < A0.next) (l7 : b7 < A0.next) (l8 : b8 < A0.next) (lb : nb < A0.next)
    (k6 : A0.get b6 = .cells true [.bool false] 1) (k7 : A0.get b7 = .cells true ((pickL a).map .bool) 12) (k8 : A0.get b8 = .cells true ((pickL b).map .bool) 12)
    (hbx : A0.get nb = .cells rb [.int .i64 T.places, .int .i64 T.layover, e, s, .func (.func 74) #[] #[], f] cb)
    (hK1 : ∀ B : Heap, A0.next + 2 ≤ B.next → (∀ n, n < A0.next → B.get n = A0.get n) → B.get A0.next = .dfr → allPairs T a b = true → Q .normal ⟨t, [A0.next], B⟩)
    (hK2 : ∀ B : Heap, A0.next + 2 ≤ B.next → (∀ n, n < A0.next → n ≠ b6 → B.get n = A0.get n) → B.get A0.next = .dfr → B.get b6 = .cells true [.bool false] 1 → allPairs T a b = false → Q .ret ⟨t, [A0.next], B⟩) :
    arange Try.prog 39 none (.t 26) #[27, 28] c60x0 c60y0 Q ⟨t, [], A0⟩ := by
  refine ⟨88, #[], #[.pointer (some ⟨nb, 0, none⟩)], h26, fun fn => ?_⟩
  refine (pairs_spec hT (I := fun i j A => CInv T a b A0 A { state := .ready, pending := none, fn, t, N := 39, params := #[27, 28], assign := c60x0, body := c60y0, defers := A0.next } i j) (F := fun B => CBad T a b A0 B b6 { state := .ready, pending := none, fn, t, N := 39, params := #[27, 28], assign := c60x0, body := c60y0, defers := A0.next }) ?_ ?_ ?_ ?_ ?_ ?_).mono ?_
  · refine ⟨by simp, fun n hn => ?_, by simp, by simp, fun _ _ _ _ h => by omega⟩
    have e1 : n ≠ A0.next + 1 := by omega
    simp [Nat.ne_of_lt hn, e1]
  · intro i j A B hI gg
    have hx := hI.next
    exact ⟨Nat.le_trans hx gg.next, fun n hn => (gg.get n (by omega)).trans (hI.keep n hn), gg.got (by omega) hI.dfr, gg.got (by omega) hI.loop, hI.ok⟩
  · intro i j A hI
    have hx := hI.next
    refine ⟨by omega, rb, cb, e, s, f, (hI.keep nb lb).trans hbx, ?_⟩
    exact h.ge ⟨by have := g.next; omega, fun n hn => by have := g.next; rw [hI.keep n (by omega), g.get n hn]⟩
  · intro i j A hI hi hj hmay
    exact cover_round rfl h6 h7 h8 l6 l7 l8 k6 k7 k8 hT.few hI hi hj hmay
  · intro i j A hI hmay
    refine ⟨hI.next, hI.keep, hI.dfr, hI.loop, fun i' j' hi' hj' hlt => ?_⟩
    by_cases e : i' = i ∧ j' = j
    · obtain ⟨rfl, rfl⟩ := e
      simp [pairOk, hmay]
    · exact hI.ok i' j' hi' hj' (by omega)
  · intro i A hI
    exact ⟨hI.next, hI.keep, hI.dfr, hI.loop, fun i' j' hi' hj' hlt => hI.ok i' j' hi' hj' (by omega)⟩
  · rintro v B (hI | hF)
    · have hx := hI.next
      refine ⟨_, hI.loop, by simp, ?_⟩
      refine hK1 _ (by simpa using hx) (fun n hn => ?_) ?_ ?_
      · have e1 : n ≠ A0.next + 1 := by omega
        simp [e1, hI.keep n hn]
      · simp [hI.dfr]
      · simp only [allPairs, List.all_eq_true, List.mem_range]
        exact fun i' hi' j' hj' => hI.ok i' j' hi' hj' (.inl hi')
    · have hx := hF.next
      refine ⟨_, hF.loop, by simp, ?_⟩
      refine hK2 _ (by simpa using hx) (fun n hn hne => ?_) ?_ ?_ hF.bad
      · have e1 : n ≠ A0.next + 1 := by omega
        simp [e1, hF.keep n hn hne]
      · simp [hF.dfr]
      · have e1 : b6 ≠ A0.next + 1 := by omega
        simp [e1, hF.res]

theorem isCover_spec {e s f va vb : Value} {T : Tab} {a b : List Int} {H : Heap} (h : TabAt H e s T) (hT : Valid T) (ha : IntsAt H va a) (hb : IntsAt H vb b) :
    AFun Try.prog 60 [svcV T e s f, va, vb] H (fun r B => r = .bool (isCovL T a b) ∧ Ge H B) := by
  refine AFun.mk ok60 hm (Nat.le_of_ble_eq_true rfl) ?_
  have hfew := hT.few
  simp [a60, r60]
  have g0 : Ge H ((H.new (.cells true [.int .i64 T.places, .int .i64 T.layover, e, s, .func (.func 74) #[] #[], f] 6)).new (.cells true [.bool false] 1)) := (Ge.new _ _).newOf _
  refine fcall_fun (isRising_spec (h.ge g0) (ha.ge g0)) ?_
  rintro _ H1 ⟨rfl, g1⟩
  have G1 := g0.trans g1
  have n1 := g1.next
  simp at n1
  have k0 := g1.got (n := H.next) (by simp) rfl
  have k1 := g1.got (n := H.next + 1) (by simp) rfl
  simp at k0 k1
  have false1 : ∀ B : Heap, Ge H B → H.next + 2 ≤ B.next → B.get (H.next + 1) = .cells true [.bool false] 1 → Ge H (B.set (H.next + 1) (.cells true [.bool false] 1)) := fun B g _ _ => Ge.setNew g (by omega) _
  cases hra : risL T a
  · simp [k1, isCovL, hra]
    exact Ge.setNew G1 (by omega) _
  simp [k0]
  refine fcall_fun (isRising_spec (h.ge G1) (hb.ge G1)) ?_
  rintro _ H2 ⟨rfl, g2⟩
  have G2 := G1.trans g2
  have n2 := g2.next
  have k20 := g2.got (by omega) k0
  have k21 := g2.got (by omega) k1
  cases hrb : risL T b
  · simp [k21, isCovL, hra, hrb]
    exact Ge.setNew G2 (by omega) _
  obtain ⟨_, a2⟩ := risL_ok hfew hra
  obtain ⟨_, b2⟩ := risL_ok hfew hrb
  have bnd : ∀ x : Int, T.num x = true → 0 ≤ x ∧ x < 12 := fun x hx => by have := num_lt hfew hx; omega
  simp
  refine fcall_fun (choose_spec (ha.ge G2) fun x hx => bnd x (a2 x hx)) ?_
  rintro _ H3 ⟨rfl, g3⟩
  have G3 := G2.trans g3
  simp
  refine fcall_fun (choose_spec (hb.ge G3) fun x hx => bnd x (b2 x hx)) ?_
  rintro _ H4 ⟨rfl, g4⟩
  have G4 := G3.trans g4
  have n3 := g3.next
  have n4 := g4.next
  have k40 := g4.got (by omega) (g3.got (by omega) k20)
  have k41 := g4.got (by omega) (g3.got (by omega) k21)
  have la : (pickL a).length = 12 := pickTo_length _
  have lb : (pickL b).length = 12 := pickTo_length _
  have q0 : H.next ≠ H4.next := by omega
  have q01 : H.next ≠ H4.next + 1 := by omega
  have q1 : H.next + 1 ≠ H4.next := by omega
  have q11 : H.next + 1 ≠ H4.next + 1 := by omega
  have hfa : (chA (pickL a)).size = 12 := by rw [chA_size, la]
  have hfb : (chA (pickL b)).size = 12 := by rw [chA_size, lb]
  have hta : (chA (pickL a)).toList = (pickL a).map .bool := chA_toList _
  have htb : (chA (pickL b)).toList = (pickL b).map .bool := chA_toList _
  simp [hfa, hfb, hta, htb, la, lb, Function.comp_def, q0, q01, k40]
  refine fcall_fun pairsOf_spec ?_
  rintro _ _ ⟨rfl, rfl⟩
  simp
  have hm : (pickL a).map .bool = (pickL a).map Value.bool := rfl
  refine frange_intro (cover_range (a := a) (b := b) (b6 := H.next + 1) (b7 := H4.next) (b8 := H4.next + 1) (nb := H4.next + 2) (cb := 6) (rb := true) (f := f) hT (h.ge G4) (Ge.newOf (Ge.setNew (Ge.setNew (Ge.newOf (Ge.new _ _) _) (by omega) _) (by omega) _) _) (by simp) (by simp) (by simp) (by simp) (by simp; omega) (by simp) (by simp) (by simp) ?_ ?_ ?_ ?_ ?_ ?_)
  · have e1 : H.next + 1 ≠ H4.next + 2 := by omega
    simp [q0, q01, q1, k41]
  · simp
  · simp
  · simp
  · intro B c1 c2 c3 c4
    simp at c1 c2 c3
    have b1 := c2 (H.next + 1) (by omega)
    have e1 : H.next + 1 ≠ H4.next + 2 := by omega
    simp [q0, q01, q1, k41] at b1
    have gB : Ge H B := by
      refine ⟨by have := G4.next; omega, fun n hn => ?_⟩
      have := G4.next
      have r0 : n ≠ H4.next := by omega
      have r1 : ∀ k, n ≠ H4.next + k := fun k => by omega
      rw [c2 n (by omega)]
      simp [r0, r1]
      exact G4.get n hn
    have e2 : H4.next + 2 ≠ H.next := by omega
    have e3 : H.next ≠ H4.next + 2 := by omega
    simp [b1, c3, e2, e3]
    have := G4.next
    exact ⟨by simp [isCovL, hra, hrb, c4], Ge.setNew (Ge.setNew gB (by omega) _) (by omega) _⟩
  · intro B c1 c2 c3 c4 c5
    simp at c1 c2 c3
    have gB : Ge H B := by
      refine ⟨by have := G4.next; omega, fun n hn => ?_⟩
      have := G4.next
      have r0 : n ≠ H4.next := by omega
      have r1 : ∀ k, n ≠ H4.next + k := fun k => by omega
      rw [c2 n (by omega) (by omega)]
      simp [r0, r1]
      exact G4.get n hn
    have e1 : H.next ≠ H4.next + 2 := by omega
    simp [c3, c4, e1]
    have := G4.next
    exact ⟨by simp [isCovL, hra, hrb, c5], Ge.setNew gB (by omega) _⟩

end Go.Proofs.Ytohohnpjilinmaa

/-
  Contracts of ProveCover and of Cover, and what a cover is.
-/
namespace Go.Proofs.Ytohohnpjilinmaa
open Go Go.Ab

theorem risL_of {T : Tab} {xs : List Int} (hp : xs.Pairwise (· < ·)) (hn : ∀ x ∈ xs, T.num x = true) : risL T xs = true := by
  simp only [risL, List.all_eq_true, List.mem_range]
  intro i hi
  have h1 := hn _ (List.getElem_mem hi)
  simp only [risAt, prevOf, hi, List.getElem?_eq_getElem, Option.getD_some, h1, Bool.and_true, decide_eq_true_eq]
  by_cases e : i = 0
  · subst e
    simp only [Tab.num, decide_eq_true_eq, Bool.and_eq_true] at h1
    simp
    omega
  · have h2 : i - 1 < xs.length := by omega
    have := List.pairwise_iff_getElem.1 hp (i - 1) i h2 hi (by omega)
    simpa [e, h2] using this

theorem numsOf_mem {n : Nat} {f : Nat → Bool} {x : Int} : x ∈ numsOf n f ↔ ∃ k : Nat, k < n ∧ f k = true ∧ x = (k : Int) := by
  simp only [numsOf, List.mem_map, List.mem_filter, List.mem_range]
  constructor
  · rintro ⟨k, ⟨h1, h2⟩, rfl⟩; exact ⟨k, h1, h2, rfl⟩
  · rintro ⟨k, h1, h2, rfl⟩; exact ⟨k, ⟨h1, h2⟩, rfl⟩

theorem numsOf_rise {n : Nat} {f : Nat → Bool} : (numsOf n f).Pairwise (· < ·) := by
  simp only [numsOf, List.pairwise_map]
  refine (List.pairwise_lt_range.filter f).imp ?_
  intro a b hab
  show (a : Int) < (b : Int)
  omega

theorem covL_of {T : Tab} (hfew : T.trips.length ≤ 12) {f g : Nat → Bool} (hc : Cov T.mayN T.trips.length f g) : isCovL T (numsOf T.trips.length f) (numsOf T.trips.length g) = true := by
  have hnum : ∀ f : Nat → Bool, ∀ x ∈ numsOf T.trips.length f, T.num x = true := by
    intro f x hx
    obtain ⟨k, h1, _, rfl⟩ := numsOf_mem.1 hx
    simp [Tab.num]; omega
  have hb : ∀ f : Nat → Bool, ∀ x ∈ numsOf T.trips.length f, 0 ≤ x ∧ x < 12 := fun f x hx => by
    have := num_lt hfew (hnum f x hx); omega
  simp only [isCovL, risL_of numsOf_rise (hnum f), risL_of numsOf_rise (hnum g), Bool.true_and, allPairs, List.all_eq_true, List.mem_range]
  intro i hi j hj
  simp only [pairOk, pickL_at (hb f) (Nat.lt_of_lt_of_le hi hfew), pickL_at (hb g) (Nat.lt_of_lt_of_le hj hfew)]
  cases hm : T.mayN i j
  · rfl
  · rcases hc i j hi hj hm with h | h
    · have : (i : Int) ∈ numsOf T.trips.length f := numsOf_mem.2 ⟨i, hi, h, rfl⟩
      simp [this]
    · have : (j : Int) ∈ numsOf T.trips.length g := numsOf_mem.2 ⟨j, hj, h, rfl⟩
      simp [this]

theorem cov_of {T : Tab} (hfew : T.trips.length ≤ 12) {a b : List Int} (h : isCovL T a b = true) : Cov T.mayN T.trips.length (fun i => decide ((i : Int) ∈ a)) (fun i => decide ((i : Int) ∈ b)) := by
  simp only [isCovL, Bool.and_eq_true] at h
  obtain ⟨⟨h1, h2⟩, h3⟩ := h
  have hb : ∀ xs : List Int, risL T xs = true → ∀ x ∈ xs, 0 ≤ x ∧ x < 12 := fun xs hr x hx => by
    have := num_lt hfew ((risL_ok hfew hr).2 x hx); omega
  intro i j hi hj hm
  simp only [allPairs, List.all_eq_true, List.mem_range] at h3
  have := h3 i hi j hj
  simp only [pairOk, pickL_at (hb a h1) (Nat.lt_of_lt_of_le hi hfew), pickL_at (hb b h2) (Nat.lt_of_lt_of_le hj hfew), hm] at this
  simpa using this

theorem cnt_mem {n : Nat} {xs : List Int} : cntN n (fun i => decide ((i : Int) ∈ xs)) ≤ xs.length := by
  induction xs with
  | nil => simp [cntN]
  | cons x xs ih =>
    have h1 : cntN n (fun i => decide ((i : Int) ∈ x :: xs)) ≤ cntN n (fun i => decide ((i : Int) = x)) + cntN n (fun i => decide ((i : Int) ∈ xs)) := by
      rw [cntN_split (f := fun i => decide ((i : Int) ∈ x :: xs)) (fun i => decide ((i : Int) = x))]
      refine Nat.add_le_add (cntN_mono fun k _ hk => ?_) (cntN_mono fun k _ hk => ?_)
      · simp at hk; simp [hk]
      · simp at hk; simp [hk.1.resolve_left hk.2]
    have h2 : cntN n (fun i => decide ((i : Int) = x)) ≤ 1 := by
      refine Nat.le_trans (cntN_inj (m := 1) (g := fun _ => true) (fun _ => 0) (fun _ _ _ => ⟨by omega, rfl⟩) (fun j k _ _ hj hk _ => ?_)) cntN_le
      simp at hj hk; omega
    simp only [List.length_cons]
    omega

/-- A cover proves no more buses than any cutting has. -/
theorem cov_le {T : Tab} (hfew : T.trips.length ≤ 12) {a b : List Int} (h : isCovL T a b = true) {bs : List (List Int)} (hb : isCutL T bs = true) : T.trips.length ≤ bs.length + a.length + b.length := by
  have h1 := cut_ge hfew hb (cov_of hfew h)
  have h2 := cnt_mem (n := T.trips.length) (xs := a)
  have h3 := cnt_mem (n := T.trips.length) (xs := b)
  omega

theorem isCovL_len {T : Tab} (hfew : T.trips.length ≤ 12) {a b : List Int} (h : isCovL T a b = true) : a.length ≤ T.trips.length ∧ b.length ≤ T.trips.length := by
  simp only [isCovL, Bool.and_eq_true] at h
  exact ⟨risL_length hfew h.1.1, risL_length hfew h.1.2⟩

def proves (T : Tab) (a b : List Int) (buses : Int) : Bool := decide (checkT T = 0) && isCovL T a b && decide (buses ≤ (T.trips.length : Int) - a.length - b.length)

theorem proveCover_spec {e s va vb : Value} {T : Tab} {H : Heap} {a b : List Int} {buses : Int} (h : TabAt H e s T) (ha : IntsAt H va a) (hb : IntsAt H vb b) :
    AFun Try.prog 33 [tabV T e s, va, vb, .int .i64 buses] H (fun v B => v = .bool (proves T a b buses) ∧ Ge H B) := by
  refine AFun.mk ok33 hm (Nat.le_of_ble_eq_true rfl) ?_
  have hl := h.trips.lenV
  have hs := h.trips.one
  simp [a33, r33]
  refine fcall_fun (checkTable_spec (h.ge (by simp))) ?_
  rintro _ H1 ⟨rfl, g1⟩
  have G1 : Ge H H1 := Ge.trans (by simp) g1
  have b1 := g1.got (n := H.next) (by simp) rfl
  simp at b1
  have n1 := g1.next
  simp at n1
  by_cases hc : checkT T = 0
  · have hT := checkT_zero.1 hc
    have hfew := hT.few
    simp [hc, b1]
    refine fcall_fun (newService_spec (h.ge G1) hT) ?_
    rintro _ H2 ⟨f, rfl, g2, _⟩
    have G2 := G1.trans g2
    simp [hc]
    refine fcall_fun (isCover_spec (h.ge G2) hT (ha.ge G2) (hb.ge G2)) ?_
    rintro _ H3 ⟨rfl, g3⟩
    have b3 := g3.got (by have := g2.next; omega) (g2.got (by omega) b1)
    cases hcv : isCovL T a b
    · simp [hc, proves, hcv, G2.trans g3]
    · obtain ⟨l1, l2⟩ := isCovL_len hfew hcv
      simp [hc, b3, hl, ha.lenV, hb.lenV, sub_in (x := T.trips.length) (y := a.length) (by omega) (by omega), sub_in (x := (T.trips.length : Int) - a.length) (y := b.length) (by omega) (by omega), proves, hcv, G2.trans g3]
  · simp [hc, proves, G1]

end Go.Proofs.Ytohohnpjilinmaa

/-
  The contract of Cover.
-/
namespace Go.Proofs.Ytohohnpjilinmaa
open Go Go.Ab

theorem coverAll_spec {e s : Value} {T : Tab} {H : Heap} (h : TabAt H e s T) : AFun Try.prog 32 [tabV T e s] H (fun r H' => Ge H H' ∧ (checkT T ≠ 0 → r = .tuple #[.slice none 0 0, .slice none 0 0, .int .i64 (checkT T)]) ∧
    (checkT T = 0 → ∃ va vb a b, r = .tuple #[va, vb, .int .i64 0] ∧ IntsAt H' va a ∧ IntsAt H' vb b ∧ isCovL T a b = true ∧ a.length + b.length = T.most)) := by
  refine AFun.mk ok32 hm (Nat.le_of_ble_eq_true rfl) ?_
  simp [a32, r32]
  refine fcall_fun (checkTable_spec (h.ge (by simp))) ?_
  rintro _ H1 ⟨rfl, g1⟩
  have G1 : Ge H H1 := Ge.trans (by simp) g1
  have b1 := g1.got (n := H.next) (by simp) rfl
  simp at b1
  simp
  refine fcond_intro (fun hc => ?_) (fun hc => ?_)
  · simp at hc
    simp [hc, G1]
  · simp at hc
    have hT := checkT_zero.1 hc
    have he := h.empty.one
    have hs := h.trips.one
    simp [b1]
    refine fcall_fun (newService_spec (h.ge G1) hT) ?_
    rintro _ H2 ⟨f, rfl, g2, hr⟩
    have hf1 := hr.one
    have hF := followers_ok hT.few
    simp [he, hs, hf1]
    have G2 : Ge H ((H2.new (.cells true [.int .i64 0, .int .i64 0, .slice none 0 0, .slice none 0 0, .nilFunc, .slice none 0 0] 6)).set H2.next (.cells true [.int .i64 T.places, .int .i64 T.layover, e, s, .func (.func 74) #[] #[], f] 6)) := Ge.setNew ((G1.trans g2).newOf _) (G1.trans g2).next _
    have G3 : Ge H2 ((H2.new (.cells true [.int .i64 0, .int .i64 0, .slice none 0 0, .slice none 0 0, .nilFunc, .slice none 0 0] 6)).set H2.next (.cells true [.int .i64 T.places, .int .i64 T.layover, e, s, .func (.func 74) #[] #[], f] 6)) := Ge.setNew (Ge.new _ _) (Nat.le_refl _) _
    refine fcall_fun (allTrips_spec ((h.ge G2).ge (Ge.more _ 11)) hT.few) ?_
    rintro _ H3 ⟨rfl, g3⟩
    have k3 := g3.got (n := H2.next) (by simp) (by simp; rfl)
    simp [k3]
    have G4 := (G2.grow 11).trans g3
    have G5 := (G3.grow 11).trans g3
    refine fcall_fun (join_spec (h.ge G4) hF (upTo_length _) (hr.ge G5)) ?_
    rintro _ H4 ⟨rfl, g4⟩
    have k4 := g4.got (n := H2.next) (by have := g3.next; simp at this; omega) k3
    simp [k4]
    refine fcall_fun (cover_spec (h.ge (G4.trans g4)) hT (hr.ge (G5.trans g4))) ?_
    rintro v H5 ⟨g5, fr, wa, hS, va, vb, rfl, hva, hvb⟩
    obtain ⟨c1, c2⟩ := hS.cov hT
    have o1 := IntsAt.one hva
    have o2 := IntsAt.one hvb
    simp [hc]
    exact ⟨(G4.trans g4).trans g5, va, vb, ⟨rfl, rfl⟩, aheadL T.trips.length fr, hva, behindL T.trips.length wa, hvb, covL_of hT.few c1, by rw [← c2, ← numsOf_length, ← numsOf_length]; rfl⟩

end Go.Proofs.Ytohohnpjilinmaa

/-
  What RunFewer answers.
-/
namespace Go.Proofs.Ytohohnpjilinmaa
open Go Go.Ab

theorem runFewer_of {e s bv av cv : Value} {T : Tab} {blocks : List (List Int)} {xs ys : List Int} {H : Heap} (h : TabAt H e s T) (hb : RowsAt H bv blocks) (ha : IntsAt H av xs) (hy : IntsAt H cv ys) : AFun Try.prog 10 [tabV T e s, bv, av, cv] H (fun v B => v = .bool true ∧ Ge H B) := by
  refine AFun.mk ok10 hm (Nat.le_of_ble_eq_true rfl) ?_
  have g0 : Ge H (H.new (.cells true [.int .i64 T.places, .int .i64 T.layover, e, s] 4)) := Ge.new _ _
  simp [a10, r10]
  refine fcall_fun (readyS_spec (h.ge g0)) ?_
  rintro _ H1 ⟨rfl, g1⟩
  have G1 := g0.trans g1
  have n1 := g1.next
  simp at n1
  have b1 := g1.got (n := H.next) (by simp) rfl
  simp at b1
  cases hrd : readyT T
  · simp
    refine fcall_fun (awake_spec _) ?_
    rintro _ B ⟨rfl, gB⟩
    simp
    exact G1.trans gB
  have hrd2 : thin T = true ∧ checkT T = 0 := by simpa [readyT] using hrd
  obtain ⟨hth, hc⟩ := hrd2
  have hT := checkT_zero.1 hc
  have hfew := hT.few
  simp
  refine fcall_fun (short_spec (hb.ge G1)) ?_
  rintro _ H2 ⟨rfl, g2⟩
  have G2 := G1.trans g2
  have n2 := g2.next
  have b2 := g2.got (by omega) b1
  have hse : (decide (blocks.length ≤ 15) && blocks.all fun l => decide (l.length ≤ 15)) = shortL blocks := rfl
  rw [hse]
  cases hsh : shortL blocks
  · simp
    refine fcall_fun (awake_spec _) ?_
    rintro _ B ⟨rfl, gB⟩
    simp
    exact G2.trans gB
  obtain ⟨s1, s2⟩ := shortL_at hsh
  simp [ha.lenV]
  by_cases hx : 15 < (xs.length : Int)
  · simp [hx]
    refine fcall_fun (awake_spec _) ?_
    rintro _ B ⟨rfl, gB⟩
    simp
    exact G2.trans gB
  by_cases hz : 15 < (ys.length : Int)
  · simp [hx, hz, hy.lenV]
    refine fcall_fun (awake_spec _) ?_
    rintro _ B ⟨rfl, gB⟩
    simp
    exact G2.trans gB
  simp [hx, hz, b2, hy.lenV]
  refine fcall_fun (table_spec (h.ge G2) hth) ?_
  rintro _ H3 ⟨⟨e3, s3, rfl, t3⟩, g3⟩
  have G3 := G2.trans g3
  have n3 := g3.next
  simp
  refine fcall_fun (cut_spec t3) ?_
  rintro _ H4 ⟨g4, _, hcut⟩
  obtain ⟨cuv, rfl, hcv⟩ := hcut hc
  have G4 := G3.trans g4
  have n4 := g4.next
  have b4 := g4.got (by omega) (g3.got (by omega) b2)
  have hgood := cutL_good hT
  have hsize := cutL_size hT
  obtain ⟨c1, c2⟩ := cut_small hfew hgood
  simp [b4]
  refine fcall_fun (table_spec (h.ge G4) hth) ?_
  rintro _ H5 ⟨⟨e5, s5, rfl, t5⟩, g5⟩
  have G5 := G4.trans g5
  have n5 := g5.next
  simp
  refine fcall_fun (coverAll_spec t5) ?_
  rintro _ H6 ⟨g6, _, hcov⟩
  obtain ⟨va, vb, a, b, rfl, hva, hvb, hok, hab⟩ := hcov hc
  have G6 := G5.trans g6
  have n6 := g6.next
  have b6 := g6.got (by omega) (g5.got (by omega) b4)
  obtain ⟨l1, l2⟩ := isCovL_len hfew hok
  simp [b6]
  refine fcall_fun (table_spec (h.ge G6) hth) ?_
  rintro _ H7 ⟨⟨e7, s7, rfl, t7⟩, g7⟩
  have G7 := G6.trans g7
  have n7 := g7.next
  simp
  have hcv7 := ((hcv.ge g5).ge g6).ge g7
  refine fcall_fun (rows_spec hcv7 (by omega) (fun l hl => by have := c2 l hl; omega)) ?_
  rintro r8 H8 ⟨hr8, g8⟩
  have G8 := G7.trans g8
  have n8 := g8.next
  simp
  refine fcall_fun (proveCut_spec (t7.ge g8) (hr8.rows (by omega))) ?_
  rintro _ H9 ⟨rfl, g9⟩
  have G9 := G8.trans g9
  have n9 := g9.next
  have b9 := g9.got (by omega) (g8.got (by omega) (g7.got (by omega) b6))
  simp [hc, hgood, b9]
  refine fcall_fun (table_spec (h.ge G9) hth) ?_
  rintro _ H10 ⟨⟨e10, s10, rfl, t10⟩, g10⟩
  have G10 := G9.trans g10
  have n10 := g10.next
  have g610 := ((g7.trans g8).trans g9).trans g10
  simp
  refine fcall_fun (list_spec (hva.ge g610) (by omega)) ?_
  rintro r11 H11 ⟨hr11, g11⟩
  have G11 := G10.trans g11
  have n11 := g11.next
  simp
  refine fcall_fun (list_spec (hvb.ge (g610.trans g11)) (by omega)) ?_
  rintro r12 H12 ⟨hr12, g12⟩
  have G12 := G11.trans g12
  have n12 := g12.next
  simp [hcv.lenV]
  have i11 : IntsAt H12 r11 a := ⟨by simpa using (hr11.ge g12).slr, by omega⟩
  have i12 : IntsAt H12 r12 b := ⟨by simpa using hr12.slr, by omega⟩
  refine fcall_fun (proveCover_spec ((t10.ge g11).ge g12) i11 i12) ?_
  rintro _ H13 ⟨rfl, g13⟩
  have G13 := G12.trans g13
  have n13 := g13.next
  have b13 := g13.got (by omega) (g12.got (by omega) (g11.got (by omega) (g10.got (by omega) b9)))
  have hpr : proves T a b (cutL T).length = true := by
    simp only [proves, hc, hok, decide_true, Bool.true_and, decide_eq_true_eq]
    omega
  simp [hpr, b13]
  refine fcall_fun (table_spec (h.ge G13) hth) ?_
  rintro _ H14 ⟨⟨e14, s14, rfl, t14⟩, g14⟩
  have G14 := G13.trans g14
  have n14 := g14.next
  simp
  refine fcall_fun (rows_spec (hb.ge G14) (by omega) (fun l hl => by have := s2 l hl; omega)) ?_
  rintro r15 H15 ⟨hr15, g15⟩
  have G15 := G14.trans g15
  have n15 := g15.next
  simp
  refine fcall_fun (proveCut_spec (t14.ge g15) (hr15.rows (by omega))) ?_
  rintro _ H16 ⟨rfl, g16⟩
  have G16 := G15.trans g16
  have n16 := g16.next
  have b16 := g16.got (by omega) (g15.got (by omega) (g14.got (by omega) b13))
  have hless : isCutL T blocks = true → ¬ (blocks.length : Int) < (cutL T).length := fun hi => by
    have := cutL_least hT hi; omega
  have fin : ∀ (D : Heap) (ed sd rv sv : Value), Ge H D → TabAt D ed sd T → IntsAt D rv xs → IntsAt D sv ys → AFun Try.prog 33 [tabV T ed sd, rv, sv, .int .i64 ((cutL T).length + 1)] D (fun v B => v = .bool false ∧ Ge H B) := by
    intro D ed sd rv sv gD tD hr hs
    refine (proveCover_spec tD hr hs).mono ?_
    rintro v B ⟨rfl, gB⟩
    refine ⟨?_, gD.trans gB⟩
    cases hcv : isCovL T xs ys
    · simp [proves, hcv]
    · have := cov_le hfew hcv hgood
      simp only [proves, hc, hcv, decide_true, Bool.true_and]
      simp
      omega
  cases hcx : isCutL T blocks
  all_goals first
  | (have hl := hless hcx; simp [hc, b16, hb.lenV, hcv.lenV, hl])
  | simp [hc, b16]
  all_goals refine fcall_fun (table_spec (h.ge G16) hth) ?_
  all_goals rintro _ H17 ⟨⟨e17, s17, rfl, t17⟩, g17⟩
  all_goals have G17 := G16.trans g17
  all_goals simp
  all_goals refine fcall_fun (list_spec (ha.ge G17) (by omega)) ?_
  all_goals rintro r18 H18 ⟨hr18, g18⟩
  all_goals have G18 := G17.trans g18
  all_goals simp
  all_goals refine fcall_fun (list_spec (hy.ge G18) (by omega)) ?_
  all_goals rintro r19 H19 ⟨hr19, g19⟩
  all_goals have G19 := G18.trans g19
  all_goals simp [hcv.lenV, add_in (x := (cutL T).length) (y := 1) (by omega) (by omega)]
  all_goals refine fcall_fun (fin H19 _ _ _ _ G19 ((t17.ge g18).ge g19) ⟨by simpa using (hr18.ge g19).slr, by omega⟩ ⟨by simpa using hr19.slr, by omega⟩) ?_
  all_goals rintro _ B ⟨rfl, gB⟩
  all_goals simp
  all_goals refine fcall_fun (awake_spec _) ?_
  all_goals rintro _ C ⟨rfl, gC⟩
  all_goals simp
  all_goals exact gB.trans gC

end Go.Proofs.Ytohohnpjilinmaa

/-
  The code of functions of the package, as the calculus has it.
-/
namespace Go.Proofs.Ytohohnpjilinmaa
open Go Go.Ab

/-- layover/layoverref01.Buses -/
def a30 : ACode :=
  (.seq
   (.region [⟨(some 2), (.box (.t 0)), none⟩, ⟨(some 4), (.mov (.c (.int .i64 0))), none⟩])
   (.seq
    (.draw 8 [⟨⟨(some 5), (.ld true 4 (.t 2)), none⟩, 0, false, []⟩, ⟨⟨(some 6), (.mov (.t 1)), none⟩, 1, false, []⟩, ⟨⟨(some 7), (.fa 3 (.t 2)), none⟩, 2, false, []⟩, ⟨⟨(some 8), (.ld false 1 (.t 7)), none⟩, 3, false, []⟩, ⟨⟨(some 9), (.len (.t 8)), none⟩, 4, false, []⟩, ⟨⟨(some 10), (.mks 1 1 [(.bool false)] (.t 9) (.t 9)), none⟩, 5, false, []⟩, ⟨⟨(some 11), (.call (.c (.func (.func 58) #[] #[])) [(.t 5), (.t 6), (.c (.int .i64 0)), (.t 10)]), none⟩, 6, true, []⟩, ⟨⟨(some 4), (.mov (.t 11)), none⟩, 7, false, []⟩])
    .ret))
def r30 : List AOp := [(.mov (.t 4))]
theorem ok30 : FnOk Try.prog 30 Try.f30.ntmps a30 r30 := ⟨Try.f30, Try.func30, by kernel_rfl, by kernel_rfl, by kernel_rfl, fun asv w => by simp⟩

/-- layover/layoverref01.All -/
def a31 : ACode :=
  (.seq
   (.region [⟨(some 3), (.box (.t 0)), none⟩, ⟨(some 6), (.mov (.c (.slice none 0 0))), none⟩])
   (.seq
    (.region [⟨(some 7), (.mov (.c (.slice none 0 0))), none⟩])
    (.seq
     (.seq
      (.region [⟨(some 8), (.mov (.c (.int .i64 0))), none⟩])
      (.block 0
       (.loop
        (.seq
         (.seq
          (.region [⟨(some 11), (.mov (.t 8)), none⟩, ⟨(some 12), (.fa 3 (.t 3)), none⟩, ⟨(some 13), (.ld false 1 (.t 12)), none⟩, ⟨(some 14), (.len (.t 13)), none⟩, ⟨(some 15), (.bin .lss (.t 11) (.t 14)), none⟩])
          (.cond (.t 15)
           .skip
           (.exit 0)))
         (.seq
          (.block 1
           (.seq
            (.region [⟨(some 18), (.mov (.t 1)), none⟩, ⟨(some 19), (.bin .lss (.t 18) (.c (.int .i64 0))), none⟩, ⟨(some 20), (.mov (.t 19)), none⟩, ⟨(some 21), (.fa 3 (.t 3)), (some (20, false))⟩, ⟨(some 22), (.ld false 1 (.t 21)), (some (20, false))⟩, ⟨(some 23), (.mov (.t 8)), (some (20, false))⟩, ⟨(some 24), (.isl 6 (.t 22) (.t 23)), (some (20, false))⟩, ⟨(some 25), (.fa 5 (.t 24)), (some (20, false))⟩, ⟨(some 26), (.ld false 1 (.t 25)), (some (20, false))⟩, ⟨(some 27), (.mov (.t 1)), (some (20, false))⟩, ⟨(some 28), (.bin .eql (.t 26) (.t 27)), (some (20, false))⟩, ⟨(some 29), (.pick (.t 20) (.c (.bool true)) (.t 28)), none⟩, ⟨(some 9), (.mov (.t 29)), none⟩])
            (.seq
             (.seq
              (.region [⟨(some 10), (.mov (.c (.int .i64 0))), none⟩])
              (.block 2
               (.loop
                (.seq
                 (.seq
                  (.region [⟨(some 30), (.mov (.t 10)), none⟩, ⟨(some 31), (.mov (.t 2)), none⟩, ⟨(some 32), (.len (.t 31)), none⟩, ⟨(some 33), (.bin .lss (.t 30) (.t 32)), none⟩])
                  (.cond (.t 33)
                   .skip
                   (.exit 2)))
                 (.seq
                  (.block 3
                   (.region [⟨(some 36), (.mov (.t 9)), none⟩, ⟨(some 37), (.mov (.t 36)), none⟩, ⟨(some 38), (.mov (.t 2)), (some (37, true))⟩, ⟨(some 39), (.mov (.t 10)), (some (37, true))⟩, ⟨(some 40), (.isl 1 (.t 38) (.t 39)), (some (37, true))⟩, ⟨(some 41), (.ld false 1 (.t 40)), (some (37, true))⟩, ⟨(some 42), (.mov (.t 8)), (some (37, true))⟩, ⟨(some 43), (.bin .neq (.t 41) (.t 42)), (some (37, true))⟩, ⟨(some 44), (.pick (.t 37) (.t 43) (.c (.bool false))), none⟩, ⟨(some 9), (.mov (.t 44)), none⟩]))
                  (.region [⟨(some 34), (.mov (.t 10)), none⟩, ⟨(some 35), (.bin .add (.t 34) (.c (.int .i64 1))), none⟩, ⟨(some 10), (.mov (.t 35)), none⟩]))))))
             (.seq
              (.region [⟨(some 45), (.mov (.t 9)), none⟩])
              (.cond (.t 45)
               (.region [⟨(some 46), (.mov (.t 7)), none⟩, ⟨(some 47), (.mov (.t 8)), none⟩, ⟨(some 48), (.bsl 1 [(.int .i64 0)] [(0, 1, (.t 47))]), none⟩, ⟨(some 49), (.app 1 8 (.t 46) (.t 48)), none⟩, ⟨(some 7), (.mov (.t 49)), none⟩])
               .skip)))))
          (.region [⟨(some 16), (.mov (.t 8)), none⟩, ⟨(some 17), (.bin .add (.t 16) (.c (.int .i64 1))), none⟩, ⟨(some 8), (.mov (.t 17)), none⟩]))))))
     (.seq
      (.region [⟨(some 50), (.mov (.t 7)), none⟩, ⟨(some 6), (.mov (.t 50)), none⟩])
      .ret))))
def r31 : List AOp := [(.mov (.t 6))]
theorem ok31 : FnOk Try.prog 31 Try.f31.ntmps a31 r31 := ⟨Try.f31, Try.func31, by kernel_rfl, by kernel_rfl, by kernel_rfl, fun asv w => by simp⟩

/-- layover/layoverref01.Fewest -/
def a58 : ACode :=
  (.seq
   (.region [⟨(some 4), (.box (.t 0)), none⟩, ⟨(some 8), (.mov (.c (.int .i64 0))), none⟩])
   (.seq
    (.seq
     (.region [⟨(some 12), (.mov (.t 2)), none⟩, ⟨(some 13), (.mov (.t 1)), none⟩, ⟨(some 14), (.len (.t 13)), none⟩, ⟨(some 15), (.bin .eql (.t 12) (.t 14)), none⟩])
     (.cond (.t 15)
      (.seq
       (.region [⟨(some 8), (.mov (.c (.int .i64 0))), none⟩])
       .ret)
      .skip))
    (.seq
     (.region [⟨(some 16), (.ld true 4 (.t 4)), none⟩, ⟨(some 17), (.mov (.t 1)), none⟩, ⟨(some 18), (.mov (.t 2)), none⟩, ⟨(some 19), (.bin .add (.t 18) (.c (.int .i64 1))), none⟩, ⟨(some 20), (.mov (.t 3)), none⟩, ⟨(some 21), (.call (.c (.func (.func 58) #[] #[])) [(.t 16), (.t 17), (.t 19), (.t 20)]), none⟩, ⟨(some 22), (.bin .add (.c (.int .i64 1)) (.t 21)), none⟩, ⟨(some 9), (.mov (.t 22)), none⟩])
     (.seq
      (.seq
       (.region [⟨(some 10), (.mov (.c (.int .i64 0))), none⟩])
       (.block 0
        (.loop
         (.seq
          (.seq
           (.region [⟨(some 23), (.mov (.t 10)), none⟩, ⟨(some 24), (.mov (.t 1)), none⟩, ⟨(some 25), (.len (.t 24)), none⟩, ⟨(some 26), (.bin .lss (.t 23) (.t 25)), none⟩])
           (.cond (.t 26)
            .skip
            (.exit 0)))
          (.seq
           (.block 1
            (.seq
             (.region [⟨(some 29), (.mov (.t 1)), none⟩, ⟨(some 30), (.mov (.t 10)), none⟩, ⟨(some 31), (.isl 1 (.t 29) (.t 30)), none⟩, ⟨(some 32), (.ld false 1 (.t 31)), none⟩, ⟨(some 11), (.mov (.t 32)), none⟩])
             (.seq
              (.draw 14 [⟨⟨(some 33), (.mov (.t 3)), none⟩, 0, false, []⟩, ⟨⟨(some 34), (.mov (.t 11)), none⟩, 1, false, []⟩, ⟨⟨(some 35), (.isl 1 (.t 33) (.t 34)), none⟩, 2, false, []⟩, ⟨⟨(some 36), (.ld false 1 (.t 35)), none⟩, 3, false, []⟩, ⟨⟨(some 37), (.not (.t 36)), none⟩, 4, false, []⟩, ⟨⟨(some 38), (.mov (.t 37)), none⟩, 5, false, []⟩, ⟨⟨(some 39), (.ld true 4 (.t 4)), (some (38, true))⟩, 6, false, []⟩, ⟨⟨(some 40), (.mov (.t 1)), (some (38, true))⟩, 7, false, []⟩, ⟨⟨(some 41), (.mov (.t 2)), (some (38, true))⟩, 8, false, []⟩, ⟨⟨(some 42), (.isl 1 (.t 40) (.t 41)), (some (38, true))⟩, 9, false, []⟩, ⟨⟨(some 43), (.ld false 1 (.t 42)), (some (38, true))⟩, 10, false, []⟩, ⟨⟨(some 44), (.mov (.t 11)), (some (38, true))⟩, 11, false, []⟩, ⟨⟨(some 45), (.call (.c (.func (.func 52) #[] #[])) [(.t 39), (.t 43), (.t 44)]), (some (38, true))⟩, 12, true, []⟩, ⟨⟨(some 46), (.pick (.t 38) (.t 45) (.c (.bool false))), none⟩, 13, false, []⟩])
              (.cond (.t 46)
               (.seq
                (.region [⟨(some 47), (.mov (.t 3)), none⟩, ⟨(some 48), (.mov (.t 11)), none⟩, ⟨(some 49), (.isl 1 (.t 47) (.t 48)), none⟩, ⟨none, (.st 1 (.t 49) (.c (.bool true))), none⟩])
                (.seq
                 (.region [⟨(some 50), (.mov (.t 9)), none⟩, ⟨(some 51), (.ld true 4 (.t 4)), none⟩, ⟨(some 52), (.mov (.t 1)), none⟩, ⟨(some 53), (.mov (.t 2)), none⟩, ⟨(some 54), (.bin .add (.t 53) (.c (.int .i64 1))), none⟩, ⟨(some 55), (.mov (.t 3)), none⟩, ⟨(some 56), (.call (.c (.func (.func 58) #[] #[])) [(.t 51), (.t 52), (.t 54), (.t 55)]), none⟩, ⟨(some 57), (.gen 62 ⟨(some 57), (.call ⟨.builtin .min, #[(.tmp 50), (.tmp 56)], #[3, 3]⟩), 3, "ref.go:96", #[{ on := 0, ground := Go.Ground.data }, { on := 6, ground := Go.Ground.data }], none⟩), none⟩, ⟨(some 9), (.mov (.t 57)), none⟩])
                 (.region [⟨(some 58), (.mov (.t 3)), none⟩, ⟨(some 59), (.mov (.t 11)), none⟩, ⟨(some 60), (.isl 1 (.t 58) (.t 59)), none⟩, ⟨none, (.st 1 (.t 60) (.c (.bool false))), none⟩])))
               .skip))))
           (.region [⟨(some 27), (.mov (.t 10)), none⟩, ⟨(some 28), (.bin .add (.t 27) (.c (.int .i64 1))), none⟩, ⟨(some 10), (.mov (.t 28)), none⟩]))))))
      (.seq
       (.region [⟨(some 61), (.mov (.t 9)), none⟩, ⟨(some 8), (.mov (.t 61)), none⟩])
       .ret)))))
def r58 : List AOp := [(.mov (.t 8))]
theorem ok58 : FnOk Try.prog 58 Try.f58.ntmps a58 r58 := ⟨Try.f58, Try.func58, by kernel_rfl, by kernel_rfl, by kernel_rfl, fun asv w => by simp⟩

/-- layover/layoverlaw01.Few -/
def a24 : ACode :=
  (.seq
   (.region [⟨(some 1), (.box (.t 0)), none⟩, ⟨(some 2), (.mov (.c (.bool false))), none⟩])
   (.seq
    (.region [⟨(some 3), (.ld true 4 (.t 1)), none⟩, ⟨(some 4), (.call (.c (.func (.func 16) #[] #[])) [(.t 3)]), none⟩, ⟨(some 5), (.mov (.t 4)), none⟩, ⟨(some 6), (.ld true 4 (.t 1)), (some (5, true))⟩, ⟨(some 7), (.call (.c (.func (.func 47) #[] #[])) [(.t 6)]), (some (5, true))⟩, ⟨(some 8), (.bin .neq (.t 7) (.c (.int .i64 0))), (some (5, true))⟩, ⟨(some 9), (.mov (.t 8)), (some (5, true))⟩, ⟨(some 10), (.fa 3 (.t 1)), (some (9, false))⟩, ⟨(some 11), (.ld false 1 (.t 10)), (some (9, false))⟩, ⟨(some 12), (.len (.t 11)), (some (9, false))⟩, ⟨(some 13), (.bin .leq (.t 12) (.c (.int .i64 7))), (some (9, false))⟩, ⟨(some 14), (.pick (.t 9) (.c (.bool true)) (.t 13)), (some (5, true))⟩, ⟨(some 15), (.pick (.t 5) (.t 14) (.c (.bool false))), none⟩, ⟨(some 2), (.mov (.t 15)), none⟩])
    .ret))
def r24 : List AOp := [(.mov (.t 2))]
theorem ok24 : FnOk Try.prog 24 Try.f24.ntmps a24 r24 := ⟨Try.f24, Try.func24, by kernel_rfl, by kernel_rfl, by kernel_rfl, fun asv w => by simp⟩

/-- layover/layoverlaw01.RunCuts -/
def a4 : ACode :=
  (.seq
   (.region [⟨(some 2), (.box (.t 0)), none⟩, ⟨(some 4), (.mov (.c (.bool false))), none⟩])
   (.seq
    (.seq
     (.region [⟨(some 9), (.ld true 4 (.t 2)), none⟩, ⟨(some 10), (.call (.c (.func (.func 24) #[] #[])) [(.t 9)]), none⟩, ⟨(some 11), (.not (.t 10)), none⟩, ⟨(some 12), (.mov (.t 11)), none⟩, ⟨(some 13), (.mov (.t 1)), (some (12, false))⟩, ⟨(some 14), (.call (.c (.func (.func 25) #[] #[])) [(.t 13)]), (some (12, false))⟩, ⟨(some 15), (.not (.t 14)), (some (12, false))⟩, ⟨(some 16), (.pick (.t 12) (.c (.bool true)) (.t 15)), none⟩])
     (.cond (.t 16)
      (.seq
       (.region [⟨(some 17), (.call (.c (.func (.func 17) #[] #[])) []), none⟩, ⟨(some 4), (.mov (.t 17)), none⟩])
       .ret)
      .skip))
    (.seq
     (.region [⟨(some 19), (.ld true 4 (.t 2)), none⟩, ⟨(some 20), (.call (.c (.func (.func 19) #[] #[])) [(.t 19)]), none⟩, ⟨(some 21), (.call (.c (.func (.func 26) #[] #[])) [(.t 20)]), none⟩, ⟨(some 18), (.mov (.t 21)), none⟩, ⟨(some 22), (.ext (.t 18) 0), none⟩, ⟨(some 23), (.ext (.t 18) 1), none⟩, ⟨(some 5), (.mov (.t 22)), none⟩, ⟨(some 6), (.mov (.t 23)), none⟩])
     (.seq
      (.region [⟨(some 24), (.ld true 4 (.t 2)), none⟩, ⟨(some 25), (.call (.c (.func (.func 19) #[] #[])) [(.t 24)]), none⟩, ⟨(some 26), (.mov (.t 1)), none⟩, ⟨(some 27), (.call (.c (.func (.func 28) #[] #[])) [(.t 26)]), none⟩, ⟨(some 28), (.call (.c (.func (.func 27) #[] #[])) [(.t 25), (.t 27)]), none⟩, ⟨(some 7), (.mov (.t 28)), none⟩])
      (.seq
       (.seq
        (.region [⟨(some 29), (.ld true 4 (.t 2)), none⟩, ⟨(some 30), (.call (.c (.func (.func 21) #[] #[])) [(.t 29)]), none⟩, ⟨(some 8), (.mov (.t 30)), none⟩])
        (.seq
         (.region [⟨(some 31), (.mov (.t 8)), none⟩, ⟨(some 32), (.bin .neq (.t 31) (.c (.int .i64 0))), none⟩])
         (.cond (.t 32)
          (.seq
           (.region [⟨(some 33), (.mov (.t 6)), none⟩, ⟨(some 34), (.mov (.t 8)), none⟩, ⟨(some 35), (.bin .eql (.t 33) (.t 34)), none⟩, ⟨(some 36), (.mov (.t 35)), none⟩, ⟨(some 37), (.mov (.t 5)), (some (36, true))⟩, ⟨(some 38), (.len (.t 37)), (some (36, true))⟩, ⟨(some 39), (.bin .eql (.t 38) (.c (.int .i64 0))), (some (36, true))⟩, ⟨(some 40), (.pick (.t 36) (.t 39) (.c (.bool false))), none⟩, ⟨(some 41), (.mov (.t 40)), none⟩, ⟨(some 42), (.mov (.t 7)), (some (41, true))⟩, ⟨(some 43), (.not (.t 42)), (some (41, true))⟩, ⟨(some 44), (.pick (.t 41) (.t 43) (.c (.bool false))), none⟩, ⟨(some 45), (.mov (.t 44)), none⟩, ⟨(some 46), (.call (.c (.func (.func 17) #[] #[])) []), (some (45, true))⟩, ⟨(some 47), (.pick (.t 45) (.t 46) (.c (.bool false))), none⟩, ⟨(some 4), (.mov (.t 47)), none⟩])
           .ret)
          .skip)))
       (.seq
        (.draw 27 [⟨⟨(some 48), (.mov (.t 6)), none⟩, 0, false, []⟩, ⟨⟨(some 49), (.bin .eql (.t 48) (.c (.int .i64 0))), none⟩, 1, false, []⟩, ⟨⟨(some 50), (.mov (.t 49)), none⟩, 2, false, []⟩, ⟨⟨(some 51), (.ld true 4 (.t 2)), (some (50, true))⟩, 3, false, []⟩, ⟨⟨(some 52), (.mov (.t 5)), (some (50, true))⟩, 4, false, []⟩, ⟨⟨(some 53), (.call (.c (.func (.func 29) #[] #[])) [(.t 51), (.t 52)]), (some (50, true))⟩, 5, true, []⟩, ⟨⟨(some 54), (.pick (.t 50) (.t 53) (.c (.bool false))), none⟩, 6, false, []⟩, ⟨⟨(some 55), (.mov (.t 54)), none⟩, 7, false, []⟩, ⟨⟨(some 56), (.mov (.t 5)), (some (55, true))⟩, 8, false, []⟩, ⟨⟨(some 57), (.len (.t 56)), (some (55, true))⟩, 9, false, []⟩, ⟨⟨(some 58), (.ld true 4 (.t 2)), (some (55, true))⟩, 10, false, []⟩, ⟨⟨(some 59), (.ld true 4 (.t 2)), (some (55, true))⟩, 11, false, []⟩, ⟨⟨(some 60), (.call (.c (.func (.func 31) #[] #[])) [(.t 59), (.c (.int .i64 (-1))), (.c (.slice none 0 0))]), (some (55, true))⟩, 12, true, [10]⟩, ⟨⟨(some 61), (.call (.c (.func (.func 30) #[] #[])) [(.t 58), (.t 60)]), (some (55, true))⟩, 13, true, []⟩, ⟨⟨(some 62), (.bin .eql (.t 57) (.t 61)), (some (55, true))⟩, 14, false, []⟩, ⟨⟨(some 63), (.pick (.t 55) (.t 62) (.c (.bool false))), none⟩, 15, false, []⟩, ⟨⟨(some 64), (.mov (.t 63)), none⟩, 16, false, []⟩, ⟨⟨(some 65), (.mov (.t 7)), (some (64, true))⟩, 17, false, []⟩, ⟨⟨(some 66), (.ld true 4 (.t 2)), (some (64, true))⟩, 18, false, []⟩, ⟨⟨(some 67), (.mov (.t 1)), (some (64, true))⟩, 19, false, []⟩, ⟨⟨(some 68), (.call (.c (.func (.func 29) #[] #[])) [(.t 66), (.t 67)]), (some (64, true))⟩, 20, true, []⟩, ⟨⟨(some 69), (.gen 74 ⟨(some 69), (.binOp .eql 4 (.tmp 65) (.tmp 68) 4), 4, "law.go:111", #[{ on := 17, ground := Go.Ground.data }, { on := 20, ground := Go.Ground.data }, { on := 16, ground := Go.Ground.guard }], (some (16, true))⟩), (some (64, true))⟩, 21, false, []⟩, ⟨⟨(some 70), (.pick (.t 64) (.t 69) (.c (.bool false))), none⟩, 22, false, []⟩, ⟨⟨(some 71), (.mov (.t 70)), none⟩, 23, false, []⟩, ⟨⟨(some 72), (.call (.c (.func (.func 17) #[] #[])) []), (some (71, true))⟩, 24, true, []⟩, ⟨⟨(some 73), (.pick (.t 71) (.t 72) (.c (.bool false))), none⟩, 25, false, []⟩, ⟨⟨(some 4), (.mov (.t 73)), none⟩, 26, false, []⟩])
        .ret))))))
def r4 : List AOp := [(.mov (.t 4))]
theorem ok4 : FnOk Try.prog 4 Try.f4.ntmps a4 r4 := ⟨Try.f4, Try.func4, by kernel_rfl, by kernel_rfl, by kernel_rfl, fun asv w => by simp⟩

/-- layover/layoverref01.IsCover -/
def a35 : ACode :=
  (.seq
   (.region [⟨(some 3), (.box (.t 0)), none⟩, ⟨(some 6), (.mov (.c (.bool false))), none⟩])
   (.seq
    (.seq
     (.region [⟨(some 9), (.ld true 4 (.t 3)), none⟩, ⟨(some 10), (.mov (.t 1)), none⟩, ⟨(some 11), (.call (.c (.func (.func 46) #[] #[])) [(.t 9), (.t 10)]), none⟩, ⟨(some 12), (.not (.t 11)), none⟩, ⟨(some 13), (.mov (.t 12)), none⟩, ⟨(some 14), (.ld true 4 (.t 3)), (some (13, false))⟩, ⟨(some 15), (.mov (.t 2)), (some (13, false))⟩, ⟨(some 16), (.call (.c (.func (.func 46) #[] #[])) [(.t 14), (.t 15)]), (some (13, false))⟩, ⟨(some 17), (.not (.t 16)), (some (13, false))⟩, ⟨(some 18), (.pick (.t 13) (.c (.bool true)) (.t 17)), none⟩])
     (.cond (.t 18)
      (.seq
       (.region [⟨(some 6), (.mov (.c (.bool false))), none⟩])
       .ret)
      .skip))
    (.seq
     (.seq
      (.region [⟨(some 7), (.mov (.c (.int .i64 0))), none⟩])
      (.block 0
       (.loop
        (.seq
         (.seq
          (.region [⟨(some 19), (.mov (.t 7)), none⟩, ⟨(some 20), (.fa 3 (.t 3)), none⟩, ⟨(some 21), (.ld false 1 (.t 20)), none⟩, ⟨(some 22), (.len (.t 21)), none⟩, ⟨(some 23), (.bin .lss (.t 19) (.t 22)), none⟩])
          (.cond (.t 23)
           .skip
           (.exit 0)))
         (.seq
          (.block 1
           (.seq
            (.region [⟨(some 8), (.mov (.c (.int .i64 0))), none⟩])
            (.block 2
             (.loop
              (.seq
               (.seq
                (.region [⟨(some 26), (.mov (.t 8)), none⟩, ⟨(some 27), (.fa 3 (.t 3)), none⟩, ⟨(some 28), (.ld false 1 (.t 27)), none⟩, ⟨(some 29), (.len (.t 28)), none⟩, ⟨(some 30), (.bin .lss (.t 26) (.t 29)), none⟩])
                (.cond (.t 30)
                 .skip
                 (.exit 2)))
               (.seq
                (.block 3
                 (.seq
                  (.region [⟨(some 33), (.ld true 4 (.t 3)), none⟩, ⟨(some 34), (.mov (.t 7)), none⟩, ⟨(some 35), (.mov (.t 8)), none⟩, ⟨(some 36), (.call (.c (.func (.func 52) #[] #[])) [(.t 33), (.t 34), (.t 35)]), none⟩, ⟨(some 37), (.mov (.t 36)), none⟩, ⟨(some 38), (.mov (.t 1)), (some (37, true))⟩, ⟨(some 39), (.mov (.t 7)), (some (37, true))⟩, ⟨(some 40), (.call (.c (.func (.func 61) #[] #[])) [(.t 38), (.t 39)]), (some (37, true))⟩, ⟨(some 41), (.not (.t 40)), (some (37, true))⟩, ⟨(some 42), (.pick (.t 37) (.t 41) (.c (.bool false))), none⟩, ⟨(some 43), (.mov (.t 42)), none⟩, ⟨(some 44), (.mov (.t 2)), (some (43, true))⟩, ⟨(some 45), (.mov (.t 8)), (some (43, true))⟩, ⟨(some 46), (.call (.c (.func (.func 61) #[] #[])) [(.t 44), (.t 45)]), (some (43, true))⟩, ⟨(some 47), (.not (.t 46)), (some (43, true))⟩, ⟨(some 48), (.pick (.t 43) (.t 47) (.c (.bool false))), none⟩])
                  (.cond (.t 48)
                   (.seq
                    (.region [⟨(some 6), (.mov (.c (.bool false))), none⟩])
                    .ret)
                   .skip)))
                (.region [⟨(some 31), (.mov (.t 8)), none⟩, ⟨(some 32), (.bin .add (.t 31) (.c (.int .i64 1))), none⟩, ⟨(some 8), (.mov (.t 32)), none⟩])))))))
          (.region [⟨(some 24), (.mov (.t 7)), none⟩, ⟨(some 25), (.bin .add (.t 24) (.c (.int .i64 1))), none⟩, ⟨(some 7), (.mov (.t 25)), none⟩]))))))
     (.seq
      (.region [⟨(some 6), (.mov (.c (.bool true))), none⟩])
      .ret))))
def r35 : List AOp := [(.mov (.t 6))]
theorem ok35 : FnOk Try.prog 35 Try.f35.ntmps a35 r35 := ⟨Try.f35, Try.func35, by kernel_rfl, by kernel_rfl, by kernel_rfl, fun asv w => by simp⟩

/-- layover/layoverref01.Rising -/
def a46 : ACode :=
  (.seq
   (.region [⟨(some 2), (.box (.t 0)), none⟩, ⟨(some 4), (.mov (.c (.bool false))), none⟩])
   (.seq
    (.seq
     (.region [⟨(some 5), (.mov (.c (.int .i64 0))), none⟩])
     (.block 0
      (.loop
       (.seq
        (.seq
         (.region [⟨(some 6), (.mov (.t 5)), none⟩, ⟨(some 7), (.mov (.t 1)), none⟩, ⟨(some 8), (.len (.t 7)), none⟩, ⟨(some 9), (.bin .lss (.t 6) (.t 8)), none⟩])
         (.cond (.t 9)
          .skip
          (.exit 0)))
        (.seq
         (.block 1
          (.seq
           (.draw 26 [⟨⟨(some 12), (.mov (.t 1)), none⟩, 0, false, []⟩, ⟨⟨(some 13), (.mov (.t 5)), none⟩, 1, false, []⟩, ⟨⟨(some 14), (.isl 1 (.t 12) (.t 13)), none⟩, 2, false, []⟩, ⟨⟨(some 15), (.ld false 1 (.t 14)), none⟩, 3, false, []⟩, ⟨⟨(some 16), (.fa 3 (.t 2)), none⟩, 4, false, []⟩, ⟨⟨(some 17), (.ld false 1 (.t 16)), none⟩, 5, false, []⟩, ⟨⟨(some 18), (.len (.t 17)), none⟩, 6, false, []⟩, ⟨⟨(some 19), (.bin .sub (.t 18) (.c (.int .i64 1))), none⟩, 7, false, []⟩, ⟨⟨(some 20), (.call (.c (.func (.func 57) #[] #[])) [(.t 15), (.c (.int .i64 0)), (.t 19)]), none⟩, 8, true, []⟩, ⟨⟨(some 21), (.not (.t 20)), none⟩, 9, false, []⟩, ⟨⟨(some 22), (.mov (.t 21)), none⟩, 10, false, []⟩, ⟨⟨(some 23), (.mov (.t 5)), (some (22, false))⟩, 11, false, []⟩, ⟨⟨(some 24), (.bin .gtr (.t 23) (.c (.int .i64 0))), (some (22, false))⟩, 12, false, []⟩, ⟨⟨(some 25), (.mov (.t 24)), (some (22, false))⟩, 13, false, []⟩, ⟨⟨(some 26), (.mov (.t 1)), (some (25, true))⟩, 14, false, []⟩, ⟨⟨(some 27), (.mov (.t 5)), (some (25, true))⟩, 15, false, []⟩, ⟨⟨(some 28), (.isl 1 (.t 26) (.t 27)), (some (25, true))⟩, 16, false, []⟩, ⟨⟨(some 29), (.ld false 1 (.t 28)), (some (25, true))⟩, 17, false, []⟩, ⟨⟨(some 30), (.mov (.t 1)), (some (25, true))⟩, 18, false, []⟩, ⟨⟨(some 31), (.mov (.t 5)), (some (25, true))⟩, 19, false, []⟩, ⟨⟨(some 32), (.bin .sub (.t 31) (.c (.int .i64 1))), (some (25, true))⟩, 20, false, []⟩, ⟨⟨(some 33), (.isl 1 (.t 30) (.t 32)), (some (25, true))⟩, 21, false, []⟩, ⟨⟨(some 34), (.ld false 1 (.t 33)), (some (25, true))⟩, 22, false, []⟩, ⟨⟨(some 35), (.bin .leq (.t 29) (.t 34)), (some (25, true))⟩, 23, false, []⟩, ⟨⟨(some 36), (.pick (.t 25) (.t 35) (.c (.bool false))), (some (22, false))⟩, 24, false, []⟩, ⟨⟨(some 37), (.pick (.t 22) (.c (.bool true)) (.t 36)), none⟩, 25, false, []⟩])
           (.cond (.t 37)
            (.seq
             (.region [⟨(some 4), (.mov (.c (.bool false))), none⟩])
             .ret)
            .skip)))
         (.region [⟨(some 10), (.mov (.t 5)), none⟩, ⟨(some 11), (.bin .add (.t 10) (.c (.int .i64 1))), none⟩, ⟨(some 5), (.mov (.t 11)), none⟩]))))))
    (.seq
     (.region [⟨(some 4), (.mov (.c (.bool true))), none⟩])
     .ret)))
def r46 : List AOp := [(.mov (.t 4))]
theorem ok46 : FnOk Try.prog 46 Try.f46.ntmps a46 r46 := ⟨Try.f46, Try.func46, by kernel_rfl, by kernel_rfl, by kernel_rfl, fun asv w => by simp⟩

/-- layover/layoverlaw01.RunCovers -/
def a5 : ACode :=
  (.seq
   (.region [⟨(some 4), (.box (.t 0)), none⟩, ⟨(some 8), (.mov (.c (.bool false))), none⟩])
   (.seq
    (.seq
     (.region [⟨(some 14), (.ld true 4 (.t 4)), none⟩, ⟨(some 15), (.call (.c (.func (.func 24) #[] #[])) [(.t 14)]), none⟩, ⟨(some 16), (.not (.t 15)), none⟩, ⟨(some 17), (.mov (.t 16)), none⟩, ⟨(some 18), (.mov (.t 1)), (some (17, false))⟩, ⟨(some 19), (.len (.t 18)), (some (17, false))⟩, ⟨(some 20), (.bin .gtr (.t 19) (.c (.int .i64 15))), (some (17, false))⟩, ⟨(some 21), (.pick (.t 17) (.c (.bool true)) (.t 20)), none⟩, ⟨(some 22), (.mov (.t 21)), none⟩, ⟨(some 23), (.mov (.t 2)), (some (22, false))⟩, ⟨(some 24), (.len (.t 23)), (some (22, false))⟩, ⟨(some 25), (.bin .gtr (.t 24) (.c (.int .i64 15))), (some (22, false))⟩, ⟨(some 26), (.pick (.t 22) (.c (.bool true)) (.t 25)), none⟩])
     (.cond (.t 26)
      (.seq
       (.region [⟨(some 27), (.call (.c (.func (.func 17) #[] #[])) []), none⟩, ⟨(some 8), (.mov (.t 27)), none⟩])
       .ret)
      .skip))
    (.seq
     (.region [⟨(some 29), (.ld true 4 (.t 4)), none⟩, ⟨(some 30), (.call (.c (.func (.func 19) #[] #[])) [(.t 29)]), none⟩, ⟨(some 31), (.call (.c (.func (.func 32) #[] #[])) [(.t 30)]), none⟩, ⟨(some 28), (.mov (.t 31)), none⟩, ⟨(some 32), (.ext (.t 28) 0), none⟩, ⟨(some 33), (.ext (.t 28) 1), none⟩, ⟨(some 34), (.ext (.t 28) 2), none⟩, ⟨(some 9), (.mov (.t 32)), none⟩, ⟨(some 10), (.mov (.t 33)), none⟩, ⟨(some 11), (.mov (.t 34)), none⟩])
     (.seq
      (.region [⟨(some 35), (.ld true 4 (.t 4)), none⟩, ⟨(some 36), (.call (.c (.func (.func 19) #[] #[])) [(.t 35)]), none⟩, ⟨(some 37), (.mov (.t 1)), none⟩, ⟨(some 38), (.call (.c (.func (.func 34) #[] #[])) [(.t 37)]), none⟩, ⟨(some 39), (.mov (.t 2)), none⟩, ⟨(some 40), (.call (.c (.func (.func 34) #[] #[])) [(.t 39)]), none⟩, ⟨(some 41), (.mov (.t 3)), none⟩, ⟨(some 42), (.call (.c (.func (.func 33) #[] #[])) [(.t 36), (.t 38), (.t 40), (.t 41)]), none⟩, ⟨(some 12), (.mov (.t 42)), none⟩])
      (.seq
       (.seq
        (.region [⟨(some 43), (.ld true 4 (.t 4)), none⟩, ⟨(some 44), (.call (.c (.func (.func 21) #[] #[])) [(.t 43)]), none⟩, ⟨(some 13), (.mov (.t 44)), none⟩])
        (.seq
         (.region [⟨(some 45), (.mov (.t 13)), none⟩, ⟨(some 46), (.bin .neq (.t 45) (.c (.int .i64 0))), none⟩])
         (.cond (.t 46)
          (.seq
           (.region [⟨(some 47), (.mov (.t 11)), none⟩, ⟨(some 48), (.mov (.t 13)), none⟩, ⟨(some 49), (.bin .eql (.t 47) (.t 48)), none⟩, ⟨(some 50), (.mov (.t 49)), none⟩, ⟨(some 51), (.mov (.t 9)), (some (50, true))⟩, ⟨(some 52), (.len (.t 51)), (some (50, true))⟩, ⟨(some 53), (.mov (.t 10)), (some (50, true))⟩, ⟨(some 54), (.len (.t 53)), (some (50, true))⟩, ⟨(some 55), (.bin .add (.t 52) (.t 54)), (some (50, true))⟩, ⟨(some 56), (.bin .eql (.t 55) (.c (.int .i64 0))), (some (50, true))⟩, ⟨(some 57), (.pick (.t 50) (.t 56) (.c (.bool false))), none⟩, ⟨(some 58), (.mov (.t 57)), none⟩, ⟨(some 59), (.mov (.t 12)), (some (58, true))⟩, ⟨(some 60), (.not (.t 59)), (some (58, true))⟩, ⟨(some 61), (.pick (.t 58) (.t 60) (.c (.bool false))), none⟩, ⟨(some 62), (.mov (.t 61)), none⟩, ⟨(some 63), (.call (.c (.func (.func 17) #[] #[])) []), (some (62, true))⟩, ⟨(some 64), (.pick (.t 62) (.t 63) (.c (.bool false))), none⟩, ⟨(some 8), (.mov (.t 64)), none⟩])
           .ret)
          .skip)))
       (.seq
        (.seq
         (.region [⟨(some 65), (.mov (.t 12)), none⟩, ⟨(some 66), (.ld true 4 (.t 4)), none⟩, ⟨(some 67), (.mov (.t 1)), none⟩, ⟨(some 68), (.mov (.t 2)), none⟩, ⟨(some 69), (.call (.c (.func (.func 35) #[] #[])) [(.t 66), (.t 67), (.t 68)]), none⟩, ⟨(some 70), (.mov (.t 69)), none⟩, ⟨(some 71), (.mov (.t 3)), (some (70, true))⟩, ⟨(some 72), (.fa 3 (.t 4)), (some (70, true))⟩, ⟨(some 73), (.ld false 1 (.t 72)), (some (70, true))⟩, ⟨(some 74), (.len (.t 73)), (some (70, true))⟩, ⟨(some 75), (.mov (.t 1)), (some (70, true))⟩, ⟨(some 76), (.len (.t 75)), (some (70, true))⟩, ⟨(some 77), (.bin .sub (.t 74) (.t 76)), (some (70, true))⟩, ⟨(some 78), (.mov (.t 2)), (some (70, true))⟩, ⟨(some 79), (.len (.t 78)), (some (70, true))⟩, ⟨(some 80), (.bin .sub (.t 77) (.t 79)), (some (70, true))⟩, ⟨(some 81), (.bin .leq (.t 71) (.t 80)), (some (70, true))⟩, ⟨(some 82), (.pick (.t 70) (.t 81) (.c (.bool false))), none⟩, ⟨(some 83), (.gen 111 ⟨(some 83), (.binOp .neq 4 (.tmp 65) (.tmp 82) 4), 4, "law.go:124", #[{ on := 0, ground := Go.Ground.data }, { on := 17, ground := Go.Ground.data }], none⟩), none⟩])
         (.cond (.t 83)
          (.seq
           (.region [⟨(some 8), (.mov (.c (.bool false))), none⟩])
           .ret)
          .skip))
        (.seq
         (.draw 28 [⟨⟨(some 84), (.mov (.t 11)), none⟩, 0, false, []⟩, ⟨⟨(some 85), (.bin .eql (.t 84) (.c (.int .i64 0))), none⟩, 1, false, []⟩, ⟨⟨(some 86), (.mov (.t 85)), none⟩, 2, false, []⟩, ⟨⟨(some 87), (.ld true 4 (.t 4)), (some (86, true))⟩, 3, false, []⟩, ⟨⟨(some 88), (.mov (.t 9)), (some (86, true))⟩, 4, false, []⟩, ⟨⟨(some 89), (.mov (.t 10)), (some (86, true))⟩, 5, false, []⟩, ⟨⟨(some 90), (.call (.c (.func (.func 35) #[] #[])) [(.t 87), (.t 88), (.t 89)]), (some (86, true))⟩, 6, true, []⟩, ⟨⟨(some 91), (.pick (.t 86) (.t 90) (.c (.bool false))), none⟩, 7, false, []⟩, ⟨⟨(some 92), (.mov (.t 91)), none⟩, 8, false, []⟩, ⟨⟨(some 93), (.fa 3 (.t 4)), (some (92, true))⟩, 9, false, []⟩, ⟨⟨(some 94), (.ld false 1 (.t 93)), (some (92, true))⟩, 10, false, []⟩, ⟨⟨(some 95), (.len (.t 94)), (some (92, true))⟩, 11, false, []⟩, ⟨⟨(some 96), (.mov (.t 9)), (some (92, true))⟩, 12, false, []⟩, ⟨⟨(some 97), (.len (.t 96)), (some (92, true))⟩, 13, false, []⟩, ⟨⟨(some 98), (.bin .sub (.t 95) (.t 97)), (some (92, true))⟩, 14, false, []⟩, ⟨⟨(some 99), (.mov (.t 10)), (some (92, true))⟩, 15, false, []⟩, ⟨⟨(some 100), (.len (.t 99)), (some (92, true))⟩, 16, false, []⟩, ⟨⟨(some 101), (.bin .sub (.t 98) (.t 100)), (some (92, true))⟩, 17, false, []⟩, ⟨⟨(some 102), (.ld true 4 (.t 4)), (some (92, true))⟩, 18, false, []⟩, ⟨⟨(some 103), (.ld true 4 (.t 4)), (some (92, true))⟩, 19, false, []⟩, ⟨⟨(some 104), (.call (.c (.func (.func 31) #[] #[])) [(.t 103), (.c (.int .i64 (-1))), (.c (.slice none 0 0))]), (some (92, true))⟩, 20, true, [18, 10]⟩, ⟨⟨(some 105), (.call (.c (.func (.func 30) #[] #[])) [(.t 102), (.t 104)]), (some (92, true))⟩, 21, true, [10]⟩, ⟨⟨(some 106), (.bin .eql (.t 101) (.t 105)), (some (92, true))⟩, 22, false, []⟩, ⟨⟨(some 107), (.pick (.t 92) (.t 106) (.c (.bool false))), none⟩, 23, false, []⟩, ⟨⟨(some 108), (.mov (.t 107)), none⟩, 24, false, []⟩, ⟨⟨(some 109), (.call (.c (.func (.func 17) #[] #[])) []), (some (108, true))⟩, 25, true, []⟩, ⟨⟨(some 110), (.pick (.t 108) (.t 109) (.c (.bool false))), none⟩, 26, false, []⟩, ⟨⟨(some 8), (.mov (.t 110)), none⟩, 27, false, []⟩])
         .ret)))))))
def r5 : List AOp := [(.mov (.t 8))]
theorem ok5 : FnOk Try.prog 5 Try.f5.ntmps a5 r5 := ⟨Try.f5, Try.func5, by kernel_rfl, by kernel_rfl, by kernel_rfl, fun asv w => by simp⟩

end Go.Proofs.Ytohohnpjilinmaa
