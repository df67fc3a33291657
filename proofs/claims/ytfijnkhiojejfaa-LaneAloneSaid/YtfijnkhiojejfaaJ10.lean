/-
  Joined texts of a calculus of abstract memory, of the program's code in it, and of contracts.
-/
import Derived.Test.YtfijnkhiojejfaaJ9
namespace Go.Proofs.Ytfijnkhiojejfaa
open Go Go.Ab

def scanF (bef : Int → Bool) (x : Int) : List Int → Bool
  | [] => false
  | o :: r => if o = x then false else if bef o then true else scanF bef x r
theorem scanF_drop {bef : Int → Bool} {x : Int} {G : List Int} {i : Nat} (hi : i < G.length) : scanF bef x (G.drop i) = if G[i] = x then false else if bef G[i] then true else scanF bef x (G.drop (i + 1)) := by
  rw [List.drop_eq_getElem_cons hi]; rfl
def hindB (s : Nat → Int × Int) (x o : Int) : Bool := befB (s x.toNat) (s o.toNat)
def shB (Y : Yd) (s : Nat → Int × Int) (d : Nat → Bool) (x : Int) : Bool := scanF (hindB s x) x (goL Y d)

structure ShI (A0 B : Heap) (q6 : Nat) (r : ALoop) : Prop where
  next : A0.next + 2 ≤ B.next
  keep : ∀ n, n < A0.next → n ≠ q6 → B.get n = A0.get n
  dfr : B.get A0.next = .dfr
  loop : B.get (A0.next + 1) = .loop r
structure ShF (A0 B : Heap) (q6 : Nat) (r : ALoop) (res : Bool) : Prop where
  next : A0.next + 2 ≤ B.next
  keep : ∀ n, n < A0.next → n ≠ q6 → B.get n = A0.get n
  dfr : B.get A0.next = .dfr
  loop : B.get (A0.next + 1) = .loop { r with state := .done, pending := some (.exit 0) }
  q6 : B.get q6 = .cells true [.bool res] 1
theorem ShI.ge {A0 A B : Heap} {q6 : Nat} {r : ALoop} (h : ShI A0 A q6 r) (g : Ge A B) : ShI A0 B q6 r := by
  have hn := h.next
  exact ⟨Nat.le_trans hn g.next, fun n h1 h2 => (g.get n (by omega)).trans (h.keep n h1 h2), g.got (by omega) h.dfr, g.got (by omega) h.loop⟩

set_option maxHeartbeats 1000000 in
theorem sh_round {Y : Yd} {r b : Value} {s : Nat → Int × Int} {d : Nat → Bool} {A0 A : Heap} {n2 n3 n5 q6 dn i c2 c3 c5 : Nat} {w2 w3 w5 : Bool} {R : ALoop} {t : Nat → Value} {fn : FuncId} {x : Int}
    (hR : R = { state := .ready, pending := none, fn, t, N := 28, params := #[15], assign := c77x0, body := c77y0, defers := dn })
    (h2 : t 2 = .pointer (some ⟨n2, 0, none⟩)) (h3 : t 3 = .pointer (some ⟨n3, 0, none⟩)) (h5 : t 5 = .pointer (some ⟨n5, 0, none⟩)) (h6 : t 6 = .pointer (some ⟨q6, 0, none⟩)) (l2 : n2 < A0.next) (l3 : n3 < A0.next) (l5 : n5 < A0.next) (l6 : q6 < A0.next) (d2 : n2 ≠ q6) (d3 : n3 ≠ q6) (d5 : n5 ≠ q6)
    (k2 : A0.get n2 = .cells w2 (nightC Y r b s d) c2) (k3 : A0.get n3 = .cells w3 [.int .i64 x] c3) (k5 : A0.get n5 = .cells w5 [.func (.func 79) #[standV (s x.toNat)] #[]] c5) (h8 : Y.buses.length ≤ 8)
    (hI : ShI A0 A q6 R) (hq : A.get q6 = .cells true [.bool false] 1) (hi : i < (goL Y d).length) (hsc : shB Y s d x = scanF (hindB s x) x ((goL Y d).drop i)) :
    ACall Try.prog (.func (.yield (A0.next + 1)) #[] #[]) [.int .i64 (goL Y d)[i]] A (fun v B => ∃ k, v = .bool k ∧ A.next ≤ B.next ∧ (∀ n, A0.next + 2 ≤ n → n < A.next → B.get n = A.get n) ∧ (k = true → ShI A0 B q6 R ∧ B.get q6 = .cells true [.bool false] 1 ∧ shB Y s d x = scanF (hindB s x) x ((goL Y d).drop (i + 1))) ∧ (k = false → ShF A0 B q6 R (shB Y s d x))) := by
  have hnx := hI.next
  have q2 := (hI.keep n2 l2 d2).trans k2
  have q3 := (hI.keep n3 l3 d3).trans k3
  have q5 := (hI.keep n5 l5 d5).trans k5
  have e2 : n2 ≠ A0.next + 1 := by omega
  have e3 : n3 ≠ A0.next + 1 := by omega
  have e5 : n5 ≠ A0.next + 1 := by omega
  have e6 : q6 ≠ A0.next + 1 := by omega
  have e61 : A0.next + 1 ≠ q6 := by omega
  have hst := scanF_drop (bef := hindB s x) (x := x) hi
  have hg : isBusB Y (goL Y d)[i] = true := (goL_mem.1 (List.getElem_mem hi)).1
  obtain ⟨y0, y1, _⟩ := isBus_at hg
  generalize hy : (goL Y d)[i] = y at hst hg y0 y1
  refine ACall.of_yield (P := Try.prog) (D := vdrawD Try.prog) (CD := cdraw Try.prog 28) hI.loop (by rw [hR]; rfl) (by rw [hR]; intro p hp; simp at hp; subst hp; simp) (by rw [hR]; exact ok77x0) (by rw [hR]; exact ok77y0) (by rw [hR]; exact draw_sound hm) ?_
  subst hR
  simp [a77x0, tround, hI.loop]
  simp [a77y0, h3, q3, e3]
  by_cases hyx : y = x
  · rw [if_pos hyx] at hst
    simp [hyx]
    refine ⟨fun n h1 h2 => ?_, ⟨by simp; omega, fun n h1 h2 => ?_, by simp [hI.dfr], by simp, by simp [e6, hq, hsc, hst]⟩⟩
    · have e : n ≠ A0.next + 1 := by omega
      simp [e]
    · have e : n ≠ A0.next + 1 := by omega
      rw [← hI.keep n h1 h2]
      simp [e]
  rw [if_neg hyx] at hst
  have i1 : iarV 8 2 (.pointer (some ⟨n2, 3, none⟩)) (.int .i64 y) = some (.pointer (some ⟨n2, 3 + y.toNat * 2, none⟩)) := by
    rw [iarV_in y0 (by omega)]
  have st1 := nightC_stand Y r b s d y.toNat (by omega)
  simp [hyx, h5, h2, q5, q2, e5, e2, i1, st1]
  refine fcall_intro ((ACall.of_fun (before_stand_spec (s x.toNat) (s y.toNat) _)).mono ?_)
  rintro _ B ⟨rfl, gB⟩
  have hb : befB (s x.toNat) (s y.toNat) = hindB s x y := rfl
  rw [hb]
  have nB := gB.next
  simp at nB
  have kB : ∀ n, n < A.next → n ≠ A0.next + 1 → B.get n = A.get n := fun n h1 h2 => by
    rw [gB.get n (by simp; omega)]; simp [h2]
  have bl : B.get (A0.next + 1) = .loop { state := .busy, pending := none, fn, t, N := 28, params := #[15], assign := c77x0, body := c77y0, defers := dn } := gB.got (by simp; omega) (by simp)
  have bd := (kB A0.next (by omega) (by omega)).trans hI.dfr
  have bq := (kB q6 (by omega) e6).trans hq
  cases hh : hindB s x y
  · rw [hh] at hst
    simp [bl]
    refine ⟨by omega, fun n h1 h2 => ?_, ⟨by simp; omega, fun n h1 h2 => ?_, by simp [bd], by simp⟩, by simp [e6, bq], by rw [hsc, hst]; rfl⟩
    · have e : n ≠ A0.next + 1 := by omega
      simp [e]; exact kB n h2 e
    · have e : n ≠ A0.next + 1 := by omega
      have k1 := kB n (by omega) e
      simp [e, k1]; exact hI.keep n h1 h2
  · rw [hh] at hst
    simp [h6, bq, bl, e61]
    have e0q : A0.next ≠ q6 := by omega
    refine ⟨by omega, fun n h1 h2 => ?_, ⟨by simp; omega, fun n h1 h2 => ?_, by simp [bd, e0q], by simp, by simp [e6, hsc, hst]⟩⟩
    · have e : n ≠ A0.next + 1 := by omega
      have e' : n ≠ q6 := by omega
      simp [e, e']; exact kB n h2 e
    · have e : n ≠ A0.next + 1 := by omega
      have k1 := kB n (by omega) e
      simp [e, h2, k1]; exact hI.keep n h1 h2

theorem sh_range {Y : Yd} {r b : Value} {s : Nat → Int × Int} {d : Nat → Bool} {H A0 : Heap} {n2 n3 n5 q6 nb c2 c3 c5 cb : Nat} {w2 w3 w5 wb : Bool} {t : Nat → Value} {x : Int} {Q : APost} (h : YardAt H r b Y) (g : Ge H A0)
    (h2 : t 2 = .pointer (some ⟨n2, 0, none⟩)) (h3 : t 3 = .pointer (some ⟨n3, 0, none⟩)) (h5 : t 5 = .pointer (some ⟨n5, 0, none⟩)) (h6 : t 6 = .pointer (some ⟨q6, 0, none⟩)) (h14 : t 14 = .func (.func 95) #[] #[.pointer (some ⟨nb, 0, none⟩)])
    (l2 : n2 < A0.next) (l3 : n3 < A0.next) (l5 : n5 < A0.next) (l6 : q6 < A0.next) (lb : nb < A0.next) (_h6h : H.next ≤ q6) (d2 : n2 ≠ q6) (d3 : n3 ≠ q6) (d5 : n5 ≠ q6) (db : nb ≠ q6)
    (k2 : A0.get n2 = .cells w2 (nightC Y r b s d) c2) (k3 : A0.get n3 = .cells w3 [.int .i64 x] c3) (k5 : A0.get n5 = .cells w5 [.func (.func 79) #[standV (s x.toNat)] #[]] c5) (kb : A0.get nb = .cells wb (nightC Y r b s d) cb) (k6 : A0.get q6 = .cells true [.bool false] 1) (h8 : Y.buses.length ≤ 8)
    (hQ1 : ∀ B, A0.next + 2 ≤ B.next → (∀ n, n < A0.next → n ≠ q6 → B.get n = A0.get n) → B.get A0.next = .dfr → B.get q6 = .cells true [.bool (shB Y s d x)] 1 → Q .normal ⟨t, [A0.next], B⟩)
    (hQ2 : ∀ B, A0.next + 2 ≤ B.next → (∀ n, n < A0.next → n ≠ q6 → B.get n = A0.get n) → B.get A0.next = .dfr → B.get q6 = .cells true [.bool (shB Y s d x)] 1 → Q (.exit 0) ⟨t, [A0.next], B⟩) :
    arange Try.prog 28 none (.t 14) #[15] c77x0 c77y0 Q ⟨t, [], A0⟩ := by
  refine ⟨95, #[], #[.pointer (some ⟨nb, 0, none⟩)], h14, fun fn => ?_⟩
  have ng := g.next
  have e6 : q6 ≠ A0.next + 1 := by omega
  have e7 : q6 ≠ A0.next := by omega
  have gN : Ge A0 ((A0.new .dfr).new (.loop { state := .ready, pending := none, fn, t, N := 28, params := #[15], assign := c77x0, body := c77y0, defers := A0.next })) := (Ge.new _ _).newOf _
  refine (goOut_spec (Y := Y) (s := s) (d := d) (c := cb) (w := wb) (I := fun L i A => ShI A0 A q6 { state := .ready, pending := none, fn, t, N := 28, params := #[15], assign := c77x0, body := c77y0, defers := A0.next } ∧ A.get q6 = .cells true [.bool false] 1 ∧ shB Y s d x = scanF (hindB s x) x ((goL Y d).drop i))
    (F := fun B => ShF A0 B q6 { state := .ready, pending := none, fn, t, N := 28, params := #[15], assign := c77x0, body := c77y0, defers := A0.next } (shB Y s d x)) (h.ge (g.trans gN)) h8 (gN.got lb kb) (by simp; omega) ?_ ?_ ?_ ?_).mono ?_
  · intro A gA
    have nA := gA.next
    simp at nA
    refine ⟨⟨nA, fun n h1 h2 => ?_, gA.got (by simp) (by simp), gA.got (by simp) (by simp)⟩, gA.got (by simp; omega) (gN.got l6 k6), rfl⟩
    rw [gA.get n (by simp; omega)]; exact gN.get n h1
  · rintro L i A B ⟨h1, h2, h3⟩ gg
    have := h1.next
    exact ⟨h1.ge gg, gg.got (by omega) h2, h3⟩
  · rintro L i A ⟨h1, _⟩
    exact (h1.keep nb lb db).trans kb
  · rintro L i A hi hL1 hL2 ⟨h1, h2', h3'⟩
    refine (sh_round rfl h2 h3 h5 h6 l2 l3 l5 l6 d2 d3 d5 k2 k3 k5 h8 h1 h2' hi h3').mono ?_
    rintro v B ⟨k, rfl, q1, q2, q3, q4⟩
    exact ⟨k, rfl, q1, fun n a1 a2 => q2 n (by simpa using a1) (by omega), q3, q4⟩
  · rintro v B (⟨L, _, _, h1, h2', h3'⟩ | hF)
    · have hx := h1.next
      rw [List.drop_length] at h3'
      refine ⟨_, h1.loop, by simp, ?_⟩
      refine hQ1 _ (by simpa using hx) (fun n a1 a2 => ?_) ?_ ?_
      · have e1 : n ≠ A0.next + 1 := by omega
        simp [e1, h1.keep n a1 a2]
      · simp [h1.dfr]
      · simp [e6, h2', h3', scanF]
    · have hx := hF.next
      refine ⟨_, hF.loop, by simp, ?_⟩
      refine hQ2 _ (by simpa using hx) (fun n a1 a2 => ?_) ?_ ?_
      · have e1 : n ≠ A0.next + 1 := by omega
        simp [e1, hF.keep n a1 a2]
      · simp [hF.dfr]
      · simp [e6, hF.q6]

set_option maxHeartbeats 1000000 in
theorem isShunted_spec {Y : Yd} {r b : Value} {s : Nat → Int × Int} {d : Nat → Bool} {H : Heap} {x : Int} (h : YardAt H r b Y) (h8 : Y.buses.length ≤ 8) (h0 : 0 ≤ x) (hx8 : x < 8) :
    AFun Try.prog 77 [nightV Y r b s d, .int .i64 x] H (fun v B => v = .bool (shB Y s d x) ∧ Ge H B) := by
  refine AFun.mk ok77 hm (Nat.le_of_ble_eq_true rfl) ?_
  have i1 : iarV 8 2 (.pointer (some ⟨H.next, 3, none⟩)) (.int .i64 x) = some (.pointer (some ⟨H.next, 3 + x.toNat * 2, none⟩)) := by
    rw [iarV_in h0 (by omega)]
  have st1 := nightC_stand Y r b s d x.toNat (by omega)
  simp [a77, r77, i1, st1, nightC_rd]
  refine fcall_fun (goingOut_spec _ _) ?_
  rintro _ _ ⟨rfl, rfl⟩
  simp
  refine frange_intro ?_
  have fin : ∀ (t : Nat → Value) (B : Heap), t 6 = .pointer (some ⟨H.next + 3, 0, none⟩) → H.next + 7 ≤ B.next → (∀ n, n < H.next + 5 → n ≠ H.next + 3 → n < H.next → B.get n = H.get n) → B.get (H.next + 5) = .dfr → B.get (H.next + 3) = .cells true [.bool (shB Y s d x)] 1 →
      vc Try.prog 28 none (vdrawD Try.prog) ((ACode.region [⟨some 27, .ld false 1 (.t 6), none⟩, ⟨some 4, .mov (.t 27), none⟩]).seq .ret) (bodyQ Try.prog [AOp.mov (.t 4)] fun v B => v = .bool (shB Y s d x) ∧ Ge H B) ⟨t, [H.next + 5], B⟩ := fun t B h6 h1 h2 h3 h4 => by
    simp [h6, h4, h3]
    refine ⟨by simp; omega, fun n hn => ?_⟩
    have e : n ≠ H.next + 5 := by omega
    simp [e]
    exact h2 n (by omega) (by omega) hn
  have gA : Ge H (((((((H.new (.cells true (nightC Y r b s d) 27)).new (.cells true [.int .i64 x] 1)).new (.cells true [.nilFunc] 1)).set (H.next + 2) (.cells true [.func (.func 79) #[standV (s x.toNat)] #[]] 1)).new (.cells true [.bool false] 1)).set (H.next + 3) (.cells true [.bool false] 1)).new (.cells true (nightC Y r b s d) 27)) :=
    (((((((Ge.new _ _).newOf _).newOf _).setNew (by omega) _).newOf _).setNew (by omega) _).newOf _)
  refine sh_range (Y := Y) (s := s) (d := d) (x := x) (n2 := H.next) (n3 := H.next + 1) (n5 := H.next + 2) (q6 := H.next + 3) (nb := H.next + 4) (c2 := 27) (c3 := 1) (c5 := 1) (cb := 27) (w2 := true) (w3 := true) (w5 := true) (wb := true) h gA (by simp) (by simp) (by simp) (by simp) (by simp) (by simp) (by simp) (by simp) (by simp) (by simp) (by omega) (by omega) (by omega) (by omega) (by omega) (by simp) (by simp) (by simp) (by simp) (by simp) h8 ?_ ?_
  · intro B k1 k2 k3 k4
    simp only [Heap.new_next, Heap.set_next] at k1 k3
    rw [blockQ_normal, thenQ_normal]
    refine fin _ B (by simp) (by omega) (fun n a1 a2 a3 => ?_) k3 k4
    rw [k2 n (by show n < H.next + 5; omega) a2]
    exact gA.get n a3
  · intro B k1 k2 k3 k4
    simp only [Heap.new_next, Heap.set_next] at k1 k3
    rw [blockQ_exit_same, thenQ_normal]
    refine fin _ B (by simp) (by omega) (fun n a1 a2 a3 => ?_) k3 k4
    rw [k2 n (by show n < H.next + 5; omega) a2]
    exact gA.get n a3

def thoseL (Y : Yd) (p : Int → Bool) : List Int := (busesL Y).filter p
set_option maxHeartbeats 1000000 in
theorem those_spec {Y : Yd} {r b pv : Value} {s : Nat → Int × Int} {d : Nat → Bool} {H : Heap} {p : Int → Bool} (h : YardAt H r b Y) (h8 : Y.buses.length ≤ 8)
    (hp : ∀ x A, isBusB Y x = true → Ge H A → ACall Try.prog pv [.int .i64 x] A (fun r B => r = .bool (p x) ∧ Ge A B)) :
    AFun Try.prog 76 [nightV Y r b s d, pv] H (fun v B => OwnSl B H.next v ((thoseL Y p).map (.int .i64)) ∧ Ge H B) := by
  refine AFun.mk ok76 hm (Nat.le_of_ble_eq_true rfl) ?_
  simp [a76, r76, nightC_b, h.buses.lenV]
  refine floop_intro (fun z => z.d = [] ∧ Ge H z.H ∧ z.t 1 = pv ∧ z.t 11 = .int .i64 Y.buses.length ∧ ∃ i : Nat, i ≤ Y.buses.length ∧ z.t 12 = .int .i64 i ∧ OwnSl z.H H.next (z.t 5) ((((busesL Y).take i).filter p).map (.int .i64))) (fun z => Y.buses.length - (intOf (z.t 12)).toNat) ?_ ?_
  · refine ⟨rfl, (Ge.new _ _).newOf _, by simp, by simp, 0, by simp, by simp, .inr ⟨H.next + 1, 0, 0, by simp, by omega, by simp, by simp, by simp, Nat.le_refl _⟩⟩
  rintro ⟨t, _, A⟩ ⟨rfl, g, t1, t11, i, hi, t12, own⟩
  dsimp only at g t1 t11 t12 own
  have ng := g.next
  simp [t11, t12]
  refine fcond_intro (fun hc => ?_) (fun hc => ?_)
  case refine_2 =>
    have h1 : i = Y.buses.length := by simp at hc; omega
    subst h1
    rw [← busesL_len, List.take_length] at own
    simp
    exact ⟨own, g⟩
  have hi' : i < Y.buses.length := by simpa using hc
  have hb : isBusB Y (i : Int) = true := by simp [isBusB, inB]; omega
  have hll : (((busesL Y).take i).filter p).length ≤ 8 := by
    have := List.length_filter_le p ((busesL Y).take i)
    rw [List.length_take] at this; omega
  simp [t1, t12]
  refine fcall_intro ((hp i A hb g).mono ?_)
  rintro _ B ⟨rfl, gB⟩
  have oB := own.ge gB
  have gHB := g.trans gB
  have nB := gHB.next
  cases hpi : p (i : Int)
  · simp [t12, add_in (x := i) (y := 1) (by omega) (by omega)]
    refine ⟨⟨gHB, t1, t11, i + 1, by omega, by omega, ?_⟩, by omega⟩
    rw [busesL_take hi', List.filter_append]
    simpa [hpi] using oB
  · simp
    have gX := Ge.new B (.cells true [.int .i64 (i : Int)] 1)
    have oX := oB.ge gX
    have xX : (B.new (.cells true [.int .i64 (i : Int)] 1)).get B.next = .cells true [.int .i64 (i : Int)] 1 := by simp
    refine fapp_own oX (slCells_new xX) rfl (by simp only [List.length_map]; omega) (by omega) (by simp) (by simp) (by simp; omega) ?_
    rintro u C o1 s1 n1 k1
    have gC : Ge H C := oX.geApp (Nat.le_refl _) (gHB.trans gX) (by omega) (by simp; omega) k1
    simp [t12, add_in (x := i) (y := 1) (by omega) (by omega)]
    refine ⟨⟨gC, t1, t11, i + 1, by omega, by omega, ?_⟩, by omega⟩
    rw [busesL_take hi', List.filter_append]
    simp only [List.filter_cons, List.filter_nil, hpi, if_true, List.map_append]
    exact o1

def shuntsL (Y : Yd) (s : Nat → Int × Int) (d : Nat → Bool) : List Int := thoseL Y (shB Y s d)
theorem shunts61_spec {Y : Yd} {r b : Value} {s : Nat → Int × Int} {d : Nat → Bool} {H : Heap} (h : YardAt H r b Y) (h8 : Y.buses.length ≤ 8) : AFun Try.prog 61 [nightV Y r b s d] H (fun v B => OwnSl B H.next v ((shuntsL Y s d).map (.int .i64)) ∧ Ge H B) := by
  refine AFun.mk ok61 hm (Nat.le_of_ble_eq_true rfl) ?_
  simp [a61, r61, nightC_rd]
  have g0 := Ge.new H (.cells true (nightC Y r b s d) 27)
  refine fcall_fun (those_spec (p := shB Y s d) (h.ge g0) h8 fun x A hx gA => ?_) ?_
  · obtain ⟨x0, x1, _⟩ := isBus_at hx
    exact ACall.of_fun (isShunted_spec (h.ge (g0.trans gA)) h8 x0 (by omega))
  rintro v B ⟨oB, gB⟩
  simp
  exact ⟨oB.lower (by simp), g0.trans gB⟩

def standsOf (ls os : List Int) : Nat → Int × Int := standF ls (placeTo os os.length)
theorem checkN_zero {Y : Yd} {ls os bs : List Int} (h : checkN Y ls os bs = 0) : checkY Y = 0 ∧ lanesB Y ls = true ∧ possB Y os = true ∧ brokenB Y bs = true := by
  unfold checkN at h
  split at h
  · rename_i h0
    split at h
    · rename_i h1
      rw [Bool.and_eq_true, Bool.and_eq_true] at h1
      exact ⟨h0, h1.1, h1.2.1, h1.2.2⟩
    · omega
  · rename_i h0; exact absurd h h0
theorem lanesB_len {Y : Yd} {ls : List Int} (h : lanesB Y ls = true) : ls.length = Y.buses.length := by
  simp [lanesB] at h; exact h.1
theorem possB_in {Y : Yd} {os : List Int} (h : possB Y os = true) : os.length = Y.buses.length ∧ (∀ x ∈ os, isBusB Y x = true) ∧ os.Nodup := by
  simp [possB, distB] at h
  exact ⟨h.1, h.2.1, h.2.2.1⟩
theorem brokenB_in {Y : Yd} {bs : List Int} (h : brokenB Y bs = true) : ∀ x ∈ bs, isBusB Y x = true := by
  simp [brokenB] at h; exact h.2.1

set_option maxHeartbeats 1000000 in
theorem shunts_spec {Y : Yd} {r b v u w : Value} {H : Heap} {ls os bs : List Int} (h : YardAt H r b Y) (hv : IntsAt H v ls) (hu : IntsAt H u os) (hw : IntsAt H w bs) :
    AFun Try.prog 24 [yardV Y r b, v, u, w] H (fun z B => ∃ q, z = .tuple #[q, .int .i64 (checkN Y ls os bs)] ∧ Ge H B ∧ (checkN Y ls os bs ≠ 0 → q = .slice none 0 0) ∧ (checkN Y ls os bs = 0 → OwnSl B H.next q ((shuntsL Y (standsOf ls os) (inF bs)).map (.int .i64)))) := by
  refine AFun.mk ok24 hm (Nat.le_of_ble_eq_true rfl) ?_
  have hb := h.buses.one
  have hr := h.room.one
  have g0 : Ge H (H.new (.cells true [r, b, .int .i64 Y.broken] 3)) := Ge.new _ _
  simp [a24, r24]
  refine fcall_fun (checkNight_spec (ls := ls) (os := os) (bs := bs) (h.ge g0) (hv.ge g0) (hu.ge g0) (hw.ge g0)) ?_
  rintro _ H1 ⟨rfl, g1⟩
  have G1 := g0.trans g1
  have k1 := g1.got (n := H.next) (by simp) rfl
  have n1 := g1.next
  simp at k1 n1
  by_cases hc : checkN Y ls os bs = 0
  case neg => simp [hc, G1]
  obtain ⟨c1, c2, c3, c4⟩ := checkN_zero hc
  obtain ⟨f1, f2, _⟩ := okY_facts c1
  have hll := lanesB_len c2
  obtain ⟨hol, hom, _⟩ := possB_in c3
  have hbm := brokenB_in c4
  have lt8 : ∀ x, isBusB Y x = true → 0 ≤ x ∧ x < 8 := fun x hx => by
    obtain ⟨x0, x1, _⟩ := isBus_at hx
    omega
  simp [hc, k1]
  have gX : Ge H1 (⟨H1.get, H1.next + 10⟩ : Heap) := Ge.grow_le (by omega) (Ge.refl _)
  have GX := G1.trans gX
  refine fcall_fun (placesIn_spec (xs := os) (hu.ge GX) fun x hx => lt8 x (hom x hx)) ?_
  rintro _ H2 ⟨rfl, g2⟩
  have G2 := GX.trans g2
  have k2 := g2.got (n := H.next) (by simp; omega) (by simpa using k1)
  simp [k2]
  refine fcall_fun (choose_spec (xs := bs) (hw.ge G2) fun x hx => lt8 x (hbm x hx)) ?_
  rintro _ H3 ⟨rfl, g3⟩
  have G3 := G2.trans g3
  have k3 := g3.got (n := H.next) (by have := g2.next; simp at this; omega) k2
  simp [k3]
  refine fcall_fun (newNight_spec (ls := ls) (h.ge G3) (hv.ge G3) (by omega)) ?_
  rintro _ H4 ⟨rfl, g4⟩
  have G4 := G3.trans g4
  simp
  refine fcall_fun (shunts61_spec (h.ge G4) f2) ?_
  rintro q H5 ⟨o5, g5⟩
  simp
  exact ⟨q, ⟨rfl, hc.symm⟩, G4.trans g5, fun e => absurd hc e, fun _ => o5.lower (by have := G4.next; omega)⟩

end Go.Proofs.Ytfijnkhiojejfaa


namespace Go.Proofs.Ytfijnkhiojejfaa
open Go Go.Ab

theorem BssAt.turn {H : Heap} {r b : Value} {Y : Yd} (h : YardAt H r b Y) {x : Int} (hx : isBusB Y x = true) : ∃ n o, islV 3 b (.int .i64 x) = some (.pointer (some ⟨n, o, none⟩)) ∧ ∀ A, Ge H A → ldA (A.get n) false 1 (o + 2) = some (.int .i64 (turnF Y x)) := by
  obtain ⟨n, o, e1, _, e2⟩ := BssAt.atB h hx
  exact ⟨n, o, e1, fun A g => (e2 A g).2.2.2⟩

end Go.Proofs.Ytfijnkhiojejfaa


namespace Go.Proofs.Ytfijnkhiojejfaa
open Go Go.Ab

def walkF (ls : Int → Int) (x : Int) (g : List Int) : List Int → List Int
  | [] => []
  | o :: r => if o = x then [] else if ls o = ls x ∧ o ∉ g then o :: walkF ls x (g ++ [o]) r else walkF ls x g r
def mornF (ls : Int → Int) (os : List Int) (g : List Int) : List Int → List (List Int)
  | [] => []
  | x :: r => walkF ls x g os :: mornF ls os (g ++ walkF ls x g os ++ [x]) r
def laneF (ls : List Int) (x : Int) : Int := ls[x.toNat]?.getD 0

structure MoAt (B : Heap) (nO N : Nat) (vs : List Value) (gv : Value) (G : List Int) (M : Nat → List Int) : Prop where
  len : vs.length = N
  next : nO < B.next
  out : ∃ cc, B.get nO = .cells true vs cc ∧ N ≤ cc
  own : OwnSl B (nO + 1) gv (G.map (.int .i64))
  row : ∀ k (h : k < vs.length), OwnSl B (nO + 1) vs[k] ((M k).map (.int .i64))
  sep : ∀ k (h : k < vs.length) m, slName vs[k] = some m → slName gv ≠ some m
  dis : ∀ k (h : k < vs.length) j (h' : j < vs.length), k ≠ j → ∀ m, slName vs[k] = some m → slName vs[j] ≠ some m

section
variable {nO N : Nat} {vs : List Value} {gv : Value} {G : List Int} {M : Nat → List Int}
theorem MoAt.keep {A B : Heap} (h : MoAt A nO N vs gv G M) (g : GeX B.next A B) : MoAt B nO N vs gv G M := by
  have := g.next
  obtain ⟨cc, c1, c2⟩ := h.out
  have hn := h.next
  refine ⟨h.len, by omega, ⟨cc, by rw [g.get nO hn (by omega)]; exact c1, c2⟩, h.own.keep g.next fun n e => g.get n (h.own.names e).2 (by have := (h.own.names e).2; omega), fun k hk => (h.row k hk).keep g.next fun n e => g.get n ((h.row k hk).names e).2 (by have := ((h.row k hk).names e).2; omega), h.sep, h.dis⟩
theorem MoAt.ge {A B : Heap} (h : MoAt A nO N vs gv G M) (g : Ge A B) : MoAt B nO N vs gv G M :=
  h.keep (GeX.of g)

theorem MoAt.grow {A B : Heap} {n : Nat} {w : Value} {o : Int} {i : Nat} (h : MoAt A nO N vs gv G M) (hi : i < vs.length) (own : OwnSl B (nO + 1) w ((M i ++ [o]).map (.int .i64))) (s : slName w = some n) (hn : A.next ≤ n) (nx : A.next ≤ B.next) (k : ∀ m, m ≠ n → slName vs[i] ≠ some m → B.get m = A.get m) :
    ∃ cc, B.get nO = .cells true vs cc ∧ MoAt (B.set nO (.cells true (vs.set i w) cc)) nO N (vs.set i w) gv G (updF M i (M i ++ [o])) := by
  obtain ⟨cc, c1, c2⟩ := h.out
  have hnO := h.next
  have hni : slName vs[i] ≠ some nO := fun e => by have := ((h.row i hi).names e).1; omega
  have hl := h.len
  have hnw := (own.names s)
  refine ⟨cc, by rw [k nO (by omega) hni]; exact c1, by simpa using hl, by simp; omega, ⟨cc, by simp, c2⟩, ?_, ?_, ?_, ?_⟩
  · refine h.own.keep (by simpa using nx) fun m e => ?_
    have hm := h.own.names e
    have : m ≠ nO := by omega
    simp [this]
    exact k m (by omega) fun e2 => h.sep i hi m e2 e
  · intro j hj
    simp at hj
    by_cases e : j = i
    · subst e
      simp [updF]
      rw [List.map_append] at own
      refine own.keep (by simp) fun m e => ?_
      have : m ≠ nO := by have := (own.names e).1; omega
      simp [this]
    · have e' := Ne.symm e
      rw [List.getElem_set_ne e']
      simp [updF, e]
      refine (h.row j hj).keep (by simpa using nx) fun m e2 => ?_
      have hm := (h.row j hj).names e2
      have : m ≠ nO := by omega
      simp [this]
      exact k m (by omega) fun e3 => h.dis i hi j hj e' m e3 e2
  · intro j hj m e
    simp at hj
    by_cases e1 : j = i
    · subst e1
      simp at e
      rw [s] at e; cases e
      exact fun e2 => by have := (h.own.names e2).2; omega
    · rw [List.getElem_set_ne (Ne.symm e1)] at e
      exact h.sep j hj m e
  · intro j hj l hl jl m e
    simp at hj hl
    by_cases e1 : j = i
    · subst e1
      simp at e
      rw [s] at e; cases e
      rw [List.getElem_set_ne jl]
      exact fun e2 => by have := ((h.row l (by simpa using hl)).names e2).2; omega
    · rw [List.getElem_set_ne (Ne.symm e1)] at e
      by_cases e3 : l = i
      · subst e3
        simp
        rw [s]
        intro e4; cases e4
        have := ((h.row j (by simpa using hj)).names e).2; omega
      · rw [List.getElem_set_ne (Ne.symm e3)]
        exact h.dis j (by simpa using hj) l (by simpa using hl) jl m e

theorem MoAt.gone {A B : Heap} {n : Nat} {w : Value} {o : Int} (h : MoAt A nO N vs gv G M) (own : OwnSl B (nO + 1) w ((G ++ [o]).map (.int .i64))) (s : slName w = some n) (hn : A.next ≤ n) (nx : A.next ≤ B.next) (k : ∀ m, m ≠ n → slName gv ≠ some m → B.get m = A.get m) :
    MoAt B nO N vs w (G ++ [o]) M := by
  obtain ⟨cc, c1, c2⟩ := h.out
  have hnO := h.next
  refine ⟨h.len, by omega, ⟨cc, by rw [k nO (by omega) fun e => by have := (h.own.names e).1; omega]; exact c1, c2⟩, own, fun j hj => (h.row j hj).keep nx fun m e => k m (by have := ((h.row j hj).names e).2; omega) (h.sep j hj m e), fun j hj m e => ?_, h.dis⟩
  rw [s]; intro e2; cases e2
  have := ((h.row j hj).names e).2; omega

end
theorem st_cells {H : Heap} {n cc : Nat} {vs : List Value} {j : Nat} {u : Value} (hj : j < vs.length) (hu : u.cells.toList = [u]) (ho : one u = true) : stA H n j 1 u (.cells true vs cc) = some (H.set n (.cells true (vs.set j u) cc)) := by
  rw [stA_cells, if_pos ⟨by rw [← Array.length_toList, hu]; rfl, by omega, by rw [hu]; simp [ho]⟩, hu, wrL_one _ _ _ hj]
theorem IntsAt.atB {H : Heap} {v : Value} {ls : List Int} {Y : Yd} {x : Int} (h : IntsAt H v ls) (hl : ls.length = Y.buses.length) (hx : isBusB Y x = true) : ∃ p, islV 1 v (.int .i64 x) = some p ∧ ∀ A, Ge H A → ldV A false 1 p = some (.int .i64 (laneF ls x)) := by
  obtain ⟨y0, y1, _⟩ := isBus_at hx
  obtain ⟨p, e, f⟩ := IntsAt.atAll h (i := x.toNat) (by omega)
  rw [show ((x.toNat : Nat) : Int) = x by omega] at e
  refine ⟨p, e, fun A g => (f A g).trans ?_⟩
  simp [laneF, List.getElem?_eq_getElem (show x.toNat < ls.length by omega)]

theorem filter_range (p : Int → Bool) (i : Nat) : ((List.range (i + 1)).map fun k : Nat => (k : Int)).filter p = ((List.range i).map fun k : Nat => (k : Int)).filter p ++ if p (i : Int) = true then [(i : Int)] else [] := by
  rw [List.range_succ, List.map_append, List.filter_append]; simp [List.filter_cons]

def shuntR (M : List (List Int)) (c : Int) : Bool := decide (c ∈ M.flatten)

end Go.Proofs.Ytfijnkhiojejfaa


namespace Go.Proofs.Ytfijnkhiojejfaa
open Go Go.Ab

theorem walkF_mem {ls : Int → Int} {x c : Int} : ∀ (os g : List Int), c ∈ walkF ls x g os ↔ c ∉ g ∧ ls c = ls x ∧ c ∈ os.takeWhile fun o => decide (o ≠ x)
  | [], g => by simp [walkF]
  | o :: r, g => by
    simp only [walkF]
    by_cases ho : o = x
    · simp [ho]
    · rw [if_neg ho, List.takeWhile_cons, if_pos (show decide (o ≠ x) = true by simp [ho])]
      by_cases h : ls o = ls x ∧ o ∉ g
      · rw [if_pos h, List.mem_cons, walkF_mem r, List.mem_cons]
        simp only [List.mem_append, List.mem_singleton, not_or]
        constructor
        · rintro (rfl | ⟨⟨a, b⟩, d, e⟩)
          · exact ⟨h.2, h.1, .inl rfl⟩
          · exact ⟨a, d, .inr e⟩
        · rintro ⟨a, d, e⟩
          by_cases hc : c = o
          · exact .inl hc
          · exact .inr ⟨⟨a, hc⟩, d, e.resolve_left hc⟩
      · rw [if_neg h, walkF_mem r, List.mem_cons]
        constructor
        · rintro ⟨a, d, e⟩; exact ⟨a, d, .inr e⟩
        · rintro ⟨a, d, rfl | e⟩
          · exact absurd ⟨d, a⟩ h
          · exact ⟨a, d, e⟩

theorem tw_ne {c x : Int} : ∀ os : List Int, c ∈ (os.takeWhile fun y => decide (y ≠ x)) → c ≠ x
  | [] => fun h => by simp at h
  | o :: r => by
    intro h
    rw [List.takeWhile_cons] at h
    by_cases ho : o = x
    · simp [ho] at h
    · rw [if_pos (by simp [ho])] at h
      rcases List.mem_cons.1 h with e | e
      · rw [e]; exact ho
      · exact tw_ne r e
theorem nodup_inj {os : List Int} (hn : os.Nodup) {i j : Nat} (hi : i < os.length) (hj : j < os.length) (e : os[i] = os[j]) : i = j := by
  have h := List.pairwise_iff_getElem.1 (List.nodup_iff_pairwise_ne.1 hn)
  rcases Nat.lt_trichotomy i j with l | l | l
  · exact absurd e (h i j hi hj l)
  · exact l
  · exact absurd e.symm (h j i hj hi l)

theorem morn_mem {ls : Int → Int} {os : List Int} {c : Int} : ∀ (T g : List Int), c ∈ (mornF ls os g T).flatten ↔ c ∉ g ∧ scanF (fun o => decide (ls c = ls o ∧ c ∈ os.takeWhile fun y => decide (y ≠ o))) c T = true
  | [], g => by simp [mornF, scanF]
  | x :: r, g => by
    rw [mornF, List.flatten_cons, List.mem_append, morn_mem r, walkF_mem, scanF]
    simp only [List.mem_append, List.mem_singleton, not_or, walkF_mem]
    by_cases hx : x = c
    · subst hx
      rw [if_pos rfl]
      constructor
      · rintro (⟨_, _, h⟩ | ⟨⟨_, h⟩, _⟩)
        · exact absurd rfl (tw_ne _ h)
        · exact absurd rfl h
      · rintro ⟨_, h⟩; cases h
    · rw [if_neg hx]
      by_cases hp : ls c = ls x ∧ c ∈ os.takeWhile fun y => decide (y ≠ x)
      · rw [if_pos (decide_eq_true hp)]
        constructor
        · rintro (⟨a, _⟩ | ⟨⟨⟨a, _⟩, _⟩, _⟩) <;> exact ⟨a, rfl⟩
        · rintro ⟨a, _⟩; exact .inl ⟨a, hp⟩
      · rw [if_neg (by simpa using hp)]
        constructor
        · rintro (⟨a, b⟩ | ⟨⟨⟨a, _⟩, _⟩, b⟩)
          · exact absurd b hp
          · exact ⟨a, b⟩
        · rintro ⟨a, b⟩
          exact .inr ⟨⟨⟨a, fun e => hp e.2⟩, fun e => hx e.symm⟩, b⟩

theorem scanF_congr {p q : Int → Bool} {x : Int} : ∀ (T : List Int), (∀ o ∈ T, p o = q o) → scanF p x T = scanF q x T
  | [], _ => rfl
  | o :: r, h => by
    rw [scanF, scanF, h o (by simp), scanF_congr r fun y hy => h y (by simp [hy])]

theorem placeTo_at {os : List Int} (hn : os.Nodup) (h0 : ∀ x ∈ os, 0 ≤ x) : ∀ n, n ≤ os.length → ∀ i (h : i < os.length), i < n → placeTo os n os[i].toNat = i
  | 0, _, i, h, hi => by omega
  | n + 1, hle, i, h, hi => by
    simp only [placeTo]
    rw [List.getElem?_eq_getElem (by omega)]
    have hi0 := h0 _ (List.getElem_mem h)
    by_cases e : n = i
    · subst e; rw [if_pos (by simp; omega)]
    · rw [if_neg, placeTo_at hn h0 n (by omega) i h (by omega)]
      intro e2
      simp only [Option.some.injEq] at e2
      have : os[n] = os[i] := by omega
      exact e (nodup_inj hn _ _ this)

theorem take_until {os : List Int} (hn : os.Nodup) {i j : Nat} (hi : i < os.length) (hj : j < os.length) : os[i] ∈ (os.takeWhile fun y => decide (y ≠ os[j])) ↔ i < j := by
  induction os generalizing i j with
  | nil => simp at hi
  | cons o r ih =>
    have hn' := List.nodup_cons.1 hn
    match i, j with
    | 0, 0 => simp
    | 0, j + 1 =>
      simp only [List.getElem_cons_zero, List.getElem_cons_succ]
      rw [List.takeWhile_cons, if_pos]
      · simp
      · simp; intro e; exact hn'.1 (e ▸ List.getElem_mem (by simpa using hj))
    | i + 1, 0 => simp
    | i + 1, j + 1 =>
      simp only [List.getElem_cons_succ]
      have h1 : i < r.length := by simpa using hi
      have h2 : j < r.length := by simpa using hj
      rw [List.takeWhile_cons, if_pos]
      · rw [List.mem_cons, ih hn'.2 h1 h2]
        constructor
        · rintro (e | e)
          · exact absurd (e ▸ List.getElem_mem h1) hn'.1
          · omega
        · intro h; exact .inr (by omega)
      · simp; intro e; exact hn'.1 (e ▸ List.getElem_mem h2)

theorem order_all {Y : Yd} {os : List Int} (hl : os.length = Y.buses.length) (hb : ∀ x ∈ os, isBusB Y x = true) (hn : os.Nodup) {c : Int} (hc : isBusB Y c = true) : c ∈ os := by
  apply Classical.byContradiction
  intro h
  have h1 : (c :: os).Nodup := List.nodup_cons.2 ⟨h, hn⟩
  have h2 : (c :: os) ⊆ busesL Y := fun x hx => by
    rcases List.mem_cons.1 hx with e | e
    · exact busesL_mem.2 (e ▸ hc)
    · exact busesL_mem.2 (hb x e)
  have := List.Nodup.length_le_of_subset h1 h2
  simp [busesL] at this; omega

theorem shunts_same {Y : Yd} {ls os : List Int} {d : Nat → Bool} (hl : ls.length = Y.buses.length) (ho : os.length = Y.buses.length) (hb : ∀ x ∈ os, isBusB Y x = true) (hn : os.Nodup) :
    thoseL Y (shuntR (mornF (laneF ls) os [] (goL Y d))) = shuntsL Y (standsOf ls os) d := by
  unfold shuntsL thoseL
  refine List.filter_congr fun c hc => ?_
  have hcb := busesL_mem.1 hc
  unfold shB
  rw [Bool.eq_iff_iff, shuntR, decide_eq_true_eq, morn_mem]
  simp only [List.not_mem_nil, not_false_eq_true, true_and]
  rw [scanF_congr]
  intro o ho'
  have hob := (goL_mem.1 ho').1
  obtain ⟨i, hi, ei⟩ := List.getElem_of_mem (order_all ho hb hn hcb)
  obtain ⟨j, hj, ej⟩ := List.getElem_of_mem (order_all ho hb hn hob)
  obtain ⟨c0, c1, _⟩ := isBus_at hcb
  obtain ⟨o0, o1, _⟩ := isBus_at hob
  have h0 : ∀ x ∈ os, 0 ≤ x := fun x hx => (isBus_at (hb x hx)).1
  have p1 := placeTo_at hn h0 os.length (Nat.le_refl _) i hi hi
  have p2 := placeTo_at hn h0 os.length (Nat.le_refl _) j hj hj
  rw [ei] at p1
  rw [ej] at p2
  have hiff := take_until hn hi hj
  rw [ei, ej] at hiff
  have s1 : standsOf ls os c.toNat = (laneF ls c, (i : Int)) := by
    simp only [standsOf, standF, laneF]; rw [if_pos (by omega), p1]
  have s2 : standsOf ls os o.toNat = (laneF ls o, (j : Int)) := by
    simp only [standsOf, standF, laneF]; rw [if_pos (by omega), p2]
  have hs : hindB (standsOf ls os) c o = (decide (laneF ls c = laneF ls o) && decide (i < j)) := by
    unfold hindB
    rw [s1, s2]
    simp [befB]
  rw [hs, Bool.eq_iff_iff]
  simp only [decide_eq_true_eq, Bool.and_eq_true]
  exact and_congr Iff.rfl hiff

end Go.Proofs.Ytfijnkhiojejfaa


namespace Go.Proofs.Ytfijnkhiojejfaa
open Go Go.Ab

theorem mul_in {x y : Int} (h0 : -(2 ^ 63) ≤ x * y) (h1 : x * y < 2 ^ 63) : binI .mul (.int .i64 x) (.int .i64 y) = some (.int .i64 (x * y)) := by
  have : binI .mul (.int .i64 x) (.int .i64 y) = some (.int .i64 (IntKind.i64.wrap (x * y))) := by simp [binI]
  rw [this, wrap_i64 h0 h1]
theorem quo_in {x y : Int} (h0 : 0 ≤ x) (hx : x < 2 ^ 62) (hy : 0 < y) : binI BinOp.quo (.int .i64 x) (.int .i64 y) = some (.int .i64 (x / y)) := by
  have e : x.tdiv y = x / y := Int.tdiv_eq_ediv_of_nonneg h0
  have h1 : 0 ≤ x / y := Int.ediv_nonneg h0 (by omega)
  have h2 : x / y ≤ x := Int.ediv_le_self _ h0
  have hne : y ≠ 0 := by omega
  have : binI BinOp.quo (.int .i64 x) (.int .i64 y) = some (.int .i64 (IntKind.i64.wrap (x.tdiv y))) := by simp [binI, hne]
  rw [this, e, wrap_i64 (by omega) (by omega)]
theorem rem_in {x y : Int} (h0 : 0 ≤ x) (hy : 0 < y) : binI BinOp.rem (.int .i64 x) (.int .i64 y) = some (.int .i64 (x % y)) := by
  obtain ⟨a, rfl⟩ := Int.eq_ofNat_of_zero_le h0
  obtain ⟨c, rfl⟩ := Int.eq_ofNat_of_zero_le (Int.le_of_lt hy)
  exact rem_int (by omega)
theorem WordsAt.ge {H H' : Heap} {v : Value} {ws : List Int} (h : WordsAt H v ws) (g : Ge H H') : WordsAt H' v ws := ⟨h.1.ge g, h.2⟩
theorem WordsAt.lenV {H : Heap} {v : Value} {ws : List Int} (h : WordsAt H v ws) : Go.Ab.lenV v = some (.int .i64 ws.length) := h.1.lenV
theorem WordsAt.one {H : Heap} {v : Value} {ws : List Int} (h : WordsAt H v ws) : Go.Ab.one v = true := SlR.one h.1
theorem WordsAt.at {H : Heap} {v : Value} {ws : List Int} (h : WordsAt H v ws) {i : Nat} (hi : i < ws.length) : ∃ p, islV 1 v (.int .i64 i) = some p ∧ ldV H false 1 p = some (.int .u16 ws[i]) := by
  obtain ⟨p, e, f⟩ := h.1.at1 (k := .i64) hi
  exact ⟨p, e, f.trans (by simp [hi])⟩
def wordF (ws : List Int) (k : Nat) : Int := ws[k % ws.length]?.getD 0
theorem wordF_in {ws : List Int} (h : ∀ x ∈ ws, 0 ≤ x ∧ x < 2 ^ 16) (k : Nat) : 0 ≤ wordF ws k ∧ wordF ws k < 65536 := by
  unfold wordF
  cases e : ws[k % ws.length]? with
  | none => simp
  | some x =>
    have := h x (List.mem_of_getElem? e)
    simp; omega

theorem word_spec {H : Heap} {v : Value} {ws : List Int} {k : Nat} (h : WordsAt H v ws) (_hk : k < 2 ^ 62) : AFun Try.prog 70 [v, .int .i64 k] H (fun r B => r = .int .i64 (wordF ws k) ∧ B = H) := by
  refine AFun.mk ok70 hm (Nat.le_of_ble_eq_true rfl) ?_
  simp [a70, r70, h.lenV]
  by_cases h0 : ws.length = 0
  · have : ws = [] := List.length_eq_zero_iff.1 h0
    subst this
    simp [wordF]
  have h1 : k % ws.length < ws.length := Nat.mod_lt _ (by omega)
  obtain ⟨p, e1, e2⟩ := h.at h1
  have h2 := wordF_in h.2.2 k
  have h3 : wordF ws k = ws[k % ws.length] := by simp [wordF, h1]
  have h4 : ¬ ws = [] := fun e => h0 (by rw [e]; rfl)
  simp [h4, h.lenV]
  rw [rem_int (by omega)]
  rw [Int.natCast_emod] at e1
  simp [e1, e2, h3]
  rw [← h3]
  exact wrap_i64 (by omega) (by omega)

set_option maxHeartbeats 1000000 in
theorem down_spec {Y : Yd} {r b v : Value} {H : Heap} {ws : List Int} (h : YardAt H r b Y) (hv : WordsAt H v ws) (h8 : Y.buses.length ≤ 12) (h0 : 0 ≤ Y.broken) :
    AFun Try.prog 43 [yardV Y r b, v] H (fun w B => ∃ bs, OwnSl B H.next w (bs.map (.int .i64)) ∧ brokenB Y bs = true ∧ Ge H B) := by
  refine AFun.mk ok43 hm (Nat.le_of_ble_eq_true rfl) ?_
  have hb := h.buses.one
  have hr := h.room.one
  have g0 : Ge H (H.new (.cells true [r, b, .int .i64 Y.broken] 3)) := Ge.new _ _
  simp [a43, r43]
  refine floop_intro (fun z => z.d = [] ∧ Ge H z.H ∧ H.next < z.H.next ∧ z.t 1 = v ∧ z.t 2 = .pointer (some ⟨H.next, 0, none⟩) ∧ z.H.get H.next = .cells true [r, b, .int .i64 Y.broken] 3 ∧ ∃ (i : Nat) (L : List Int), i ≤ Y.buses.length ∧ z.t 6 = .int .i64 i ∧ OwnSl z.H (H.next + 1) (z.t 5) (L.map (.int .i64)) ∧ L.length ≤ i ∧ (L.length : Int) ≤ Y.broken ∧
      L.Pairwise (fun x y => x < y) ∧ ∀ x ∈ L, 0 ≤ x ∧ x < i) (fun z => Y.buses.length - (intOf (z.t 6)).toNat) ?_ ?_
  · exact ⟨rfl, g0, by simp, by simp, by simp, by simp, 0, [], by simp, by simp, .inl ⟨by simp, rfl⟩, by simp, by simpa using h0, by simp, fun x => by simp⟩
  rintro ⟨t, _, A⟩ ⟨rfl, g, nA, t1, t2, a2, i, L, hi, t6, own, hLl, hLb, hLp, hLm⟩
  dsimp only at g nA t1 t2 a2 t6 own
  simp [t2, t6, a2, h.buses.lenV]
  refine fcond_intro (fun hc => ?_) (fun hc => ?_)
  case refine_2 =>
    have h1 : i = Y.buses.length := by simp at hc; omega
    subst h1
    simp
    refine ⟨L, own.lower (by omega), ?_, g⟩
    simp [brokenB, risB, hLb, hLp]
    intro x hx
    have := hLm x hx
    simp [isBusB, inB]; omega
  have hi' : i < Y.buses.length := by simpa using hc
  have hl5 := own.lenV
  rw [List.length_map] at hl5
  simp [hl5, t2, a2]
  by_cases hlt : (L.length : Int) < Y.broken
  case neg =>
    simp [hlt, t6, add_in (x := i) (y := 1) (by omega) (by omega)]
    exact ⟨⟨g, nA, t1, t2, a2, i + 1, by omega, by omega, L, own, by omega, hLb, hLp, fun x hx => by have := hLm x hx; omega⟩, by omega⟩
  have em : binI BinOp.mul (.int .i64 3) (.int .i64 (i : Int)) = some (.int .i64 ((3 * i : Nat) : Int)) := by
    rw [mul_in (by omega) (by omega)]; rfl
  have ea : binI BinOp.add (.int .i64 (3 * (i : Int))) (.int .i64 2) = some (.int .i64 ((3 * i + 2 : Nat) : Int)) := by
    rw [add_in (by omega) (by omega)]; rfl
  simp at em
  simp [hlt, t1, t6, em, ea]
  refine fcall_fun (word_spec (k := 3 * i + 2) (hv.ge g) (by omega)) ?_
  rintro _ A1 ⟨rfl, eA⟩
  rw [eA]
  have hw := wordF_in hv.2.2 (3 * i + 2)
  obtain ⟨wn, hwn⟩ : ∃ wn : Nat, wordF ws (3 * i + 2) = (wn : Int) := ⟨(wordF ws (3 * i + 2)).toNat, by omega⟩
  rw [hwn]
  have er : binI BinOp.rem (.int .i64 (wn : Int)) (.int .i64 4) = some (.int .i64 ((wn % 4 : Nat) : Int)) := rem_int (c := 4) (by omega)
  simp [hlt, er]
  refine fcond_intro (fun hc => ?_) (fun hc => ?_)
  case refine_2 =>
    simp [t6, add_in (x := i) (y := 1) (by omega) (by omega)]
    exact ⟨⟨g, nA, t1, t2, a2, i + 1, by omega, by omega, L, own, by omega, hLb, hLp, fun x hx => by have := hLm x hx; omega⟩, by omega⟩
  simp [t6]
  have gX := Ge.new A (.cells true [.int .i64 (i : Int)] 1)
  have xX : (A.new (.cells true [.int .i64 (i : Int)] 1)).get A.next = .cells true [.int .i64 (i : Int)] 1 := by simp
  have oX := own.ge gX
  refine fapp_own oX (slCells_new xX) rfl (by rw [List.length_map]; omega) (by omega) (by simp) (by simp) (by simp; omega) ?_
  rintro u B o1 s1 n1 k1
  have gB : Ge H B := oX.geApp (by omega) (g.trans gX) (by omega) (by simp; omega) k1
  have b2 : B.get H.next = .cells true [r, b, .int .i64 Y.broken] 3 := by
    rw [k1 _ (by omega) (fun e => by have := (oX.names e).1; omega)]
    exact gX.got nA a2
  simp [t6, add_in (x := i) (y := 1) (by omega) (by omega)]
  refine ⟨⟨gB, by omega, t1, t2, b2, i + 1, by omega, by omega, L ++ [(i : Int)], by rw [List.map_append]; exact o1, by simp; omega, by simp; omega, ?_, fun x hx => ?_⟩, by omega⟩
  · rw [List.pairwise_append]
    exact ⟨hLp, by simp, fun x hx y hy => by simp at hy; subst hy; exact (hLm x hx).2⟩
  · rcases List.mem_append.1 hx with hx | hx
    · have := hLm x hx; omega
    · simp at hx; omega

def fstV (p : Int × Int) : Value := .int .i64 p.1
def sndV (p : Int × Int) : Value := .int .i64 p.2
theorem swap_map {g : Int × Int → Value} {m : List (Int × Int)} {k : Nat} (hj : k + 1 < m.length) : ((m.map g).set (k + 1) (g m[k])).set k (g m[k + 1]) = (swapL m k).map g := by
  rw [swapL_eq hj, List.map_set, List.map_set]

structure CamI (Y : Yd) (i : Nat) (m : List (Int × Int)) : Prop where
  len : m.length = i
  sorted : m.Pairwise fun p q => p.2 ≤ q.2
  nodup : (m.map (·.1)).Nodup
  mem : ∀ p ∈ m, 0 ≤ p.1 ∧ p.1 < i ∧ 2 * (bAt Y p.1).lo ≤ p.2 ∧ p.2 ≤ 2 * (bAt Y p.1).hi + 1

def ltP (p q : Int × Int) : Bool := decide (p.2 < q.2)
theorem cam_next {Y : Yd} {i : Nat} {m R : List (Int × Int)} {key : Int} (h : CamI Y i m) (hk : 2 * (bAt Y (i : Int)).lo ≤ key ∧ key ≤ 2 * (bAt Y (i : Int)).hi + 1) (hp : R.Perm (m ++ [((i : Int), key)])) (hs : R = sink ltP (m ++ [((i : Int), key)]) i) : CamI Y (i + 1) R := by
  have hl := h.len
  refine ⟨by rw [hp.length_eq]; simp [hl], ?_, ?_, fun p hpm => ?_⟩
  · have h1 : SortedTo (fun p : Int × Int => p.2) (sink ltP (m ++ [((i : Int), key)]) i) i := sink_next (fun _ _ => rfl) fun k hk' a b y z hab hb ha hb' => by
      rw [List.getElem?_append_left (by omega)] at ha hb'
      obtain ⟨a1, rfl⟩ := List.getElem?_eq_some_iff.1 ha
      obtain ⟨b1, rfl⟩ := List.getElem?_eq_some_iff.1 hb'
      exact List.pairwise_iff_getElem.1 h.sorted a b a1 b1 hab
    rw [← hs] at h1
    rw [List.pairwise_iff_getElem]
    intro a b ha hb hab
    have hl' : R.length = i + 1 := by rw [hp.length_eq]; simp [hl]
    exact h1 a b _ _ hab (by omega) (List.getElem?_eq_getElem ha) (List.getElem?_eq_getElem hb)
  · rw [(hp.map (·.1)).nodup_iff, List.map_append, List.nodup_append]
    refine ⟨h.nodup, by simp, fun a ha b hb => ?_⟩
    simp at hb ha
    obtain ⟨x, hx⟩ := ha
    have := (h.mem _ hx).2.1
    simp at this
    omega
  · rcases List.mem_append.1 (hp.mem_iff.1 hpm) with hm' | hm'
    · obtain ⟨a, b, c⟩ := h.mem p hm'
      exact ⟨a, by omega, c⟩
    · simp at hm'; subst hm'
      exact ⟨by simp, by simp; omega, hk⟩

set_option maxHeartbeats 4000000 in
theorem came_spec {Y : Yd} {r b v : Value} {H : Heap} {ws : List Int} (h : YardAt H r b Y) (hv : WordsAt H v ws) (hok : checkY Y = 0) :
    AFun Try.prog 42 [yardV Y r b, v] H (fun w B => ∃ os, OwnSl B H.next w (os.map (.int .i64)) ∧ possB Y os = true ∧ Ge H B) := by
  refine AFun.mk ok42 hm (Nat.le_of_ble_eq_true rfl) ?_
  obtain ⟨_, h8, _, _, hbus, _, _, _⟩ := okY_facts hok
  have hb := h.buses.one
  have hr := h.room.one
  have g0 : Ge H (H.new (.cells true [r, b, .int .i64 Y.broken] 3)) := Ge.new _ _
  simp [a42, r42]
  refine floop_intro (fun z => z.d = [] ∧ Ge H z.H ∧ H.next < z.H.next ∧ z.t 1 = v ∧ z.t 2 = .pointer (some ⟨H.next, 0, none⟩) ∧ z.H.get H.next = .cells true [r, b, .int .i64 Y.broken] 3 ∧ ∃ (i : Nat) (m : List (Int × Int)), i ≤ Y.buses.length ∧ z.t 7 = .int .i64 i ∧ OwnSl z.H (H.next + 1) (z.t 5) (m.map fstV) ∧ OwnSl z.H (H.next + 1) (z.t 6) (m.map sndV) ∧ (∀ q, slName (z.t 5) = some q → slName (z.t 6) ≠ some q) ∧ CamI Y i m) (fun z => Y.buses.length - (intOf (z.t 7)).toNat) ?_ ?_
  · exact ⟨rfl, g0, by simp, by simp, by simp, by simp, 0, [], by simp, by simp, .inl ⟨by simp, rfl⟩, .inl ⟨by simp, rfl⟩, fun q e => by simp [slName] at e, rfl, by simp, by simp, by simp⟩
  rintro ⟨t, _, A⟩ ⟨rfl, g, nA, t1, t2, a2, i, m, hi, t7, own5, own6, hsep, hm0⟩
  dsimp only at g nA t1 t2 a2 t7 own5 own6 hsep
  simp [t2, t7, a2, h.buses.lenV]
  refine fcond_intro (fun hc => ?_) (fun hc => ?_)
  case refine_2 =>
    have h1 : i = Y.buses.length := by simp at hc; omega
    subst h1
    simp
    refine ⟨m.map (·.1), ?_, ?_, g⟩
    · rw [List.map_map]; exact own5.lower (by omega)
    · have hl := hm0.len
      simp only [possB, distB, Bool.and_eq_true, decide_eq_true_eq, List.all_eq_true]
      refine ⟨by rw [List.length_map, hl], fun x hx => ?_, hm0.nodup, ?_⟩
      · obtain ⟨p, hp, rfl⟩ := List.mem_map.1 hx
        obtain ⟨c1, c2, _⟩ := hm0.mem p hp
        simp [isBusB, inB]; omega
      · rw [List.pairwise_map]
        refine List.Pairwise.imp_of_mem (fun {p q} hp hq hpq => ?_) hm0.sorted
        obtain ⟨_, _, c3, _⟩ := hm0.mem p hp
        obtain ⟨_, _, _, c4⟩ := hm0.mem q hq
        unfold mayB
        omega
  have hi' : i < Y.buses.length := by simpa using hc
  obtain ⟨n, o, f1, _, f2⟩ := BssAt.at h.buses hi'
  obtain ⟨f3, _⟩ := f2 A g
  obtain ⟨b1, b2, b3, _, _⟩ := hbus _ (List.getElem_mem hi')
  have hbA : bAt Y (i : Int) = Y.buses[i] := by simp [bAt, hi']
  rw [← hbA] at f3 b1 b2 b3
  simp [t2, t7, a2, f1, f3, busV]
  generalize hZ : (Heap.set _ _ _ : Heap) = Z
  have nZ : Z.next = A.next + 1 := by rw [← hZ]; rfl
  have gZ : Ge A Z := by rw [← hZ]; exact (Ge.new _ _).setNew (by omega) _
  have aZ : Z.get A.next = .cells true [.int .i64 (bAt Y (i : Int)).lo, .int .i64 (bAt Y (i : Int)).hi, .int .i64 (bAt Y (i : Int)).turn] 3 := by rw [← hZ]; simp
  clear hZ
  rw [t1]
  refine fcall_fun (word_spec (k := i) (hv.ge (g.trans gZ)) (by omega)) ?_
  rintro _ A1 ⟨rfl, eA⟩
  rw [eA]
  obtain ⟨w1, w2⟩ := wordF_in hv.2.2 i
  generalize wordF ws i = w at w1 w2 ⊢
  generalize hloE : (bAt Y (i : Int)).lo = lo at *
  generalize hhiE : (bAt Y (i : Int)).hi = hi' at *
  have q1 : binI BinOp.quo (.int .i64 w) (.int .i64 3) = some (.int .i64 (w / 3)) := quo_in w1 (by omega) (by omega)
  have q2 := sub_in (x := hi') (y := lo) (by omega) (by omega)
  have q3 := add_in (x := hi' - lo) (y := 1) (by omega) (by omega)
  have q4 : binI BinOp.rem (.int .i64 (w / 3)) (.int .i64 (hi' - lo + 1)) = some (.int .i64 (w / 3 % (hi' - lo + 1))) := rem_in (by omega) (by omega)
  have q5a : 0 ≤ w / 3 % (hi' - lo + 1) := Int.emod_nonneg _ (by omega)
  have q5b : w / 3 % (hi' - lo + 1) < hi' - lo + 1 := Int.emod_lt_of_pos _ (by omega)
  have q5 := add_in (x := lo) (y := w / 3 % (hi' - lo + 1)) (by omega) (by omega)
  have q6 : binI BinOp.rem (.int .i64 w) (.int .i64 3) = some (.int .i64 (w % 3)) := rem_in w1 (by omega)
  have gZ2 : Ge Z (⟨Z.get, Z.next + 13⟩ : Heap) := Ge.grow_le (by omega) (Ge.refl _)
  simp [aZ, q1, q2, q3, q4, q5, q6]
  refine fcond_intro (fun hc1 => ?_) (fun hc1 => ?_)
  · have hX : lo ≤ lo ∧ lo ≤ hi' := by omega
    have m1 := mul_in (x := 2) (y := lo) (by omega) (by omega)
    have m2 := mul_in (x := 2) (y := (i : Int)) (by omega) (by omega)
    have m3 : binI BinOp.add (.int .i64 (2 * (i : Int))) (.int .i64 1) = some (.int .i64 ((2 * i + 1 : Nat) : Int)) := by
      rw [add_in (by omega) (by omega)]; rfl
    simp [aZ, t7, hc1]
    have gW := gZ2.trans (Ge.new (⟨Z.get, Z.next + 13⟩ : Heap) (.cells true [.int .i64 (i : Int)] 1))
    have nW : ((⟨Z.get, Z.next + 13⟩ : Heap).new (.cells true [.int .i64 (i : Int)] 1)).next = Z.next + 14 := rfl
    have xW : ((⟨Z.get, Z.next + 13⟩ : Heap).new (.cells true [.int .i64 (i : Int)] 1)).get (Z.next + 13) = .cells true [.int .i64 (i : Int)] 1 := by simp
    generalize ((⟨Z.get, Z.next + 13⟩ : Heap).new (.cells true [.int .i64 (i : Int)] 1)) = W at *
    have gAW := gZ.trans gW
    have oW := own5.ge gAW
    refine fapp_own oW (slCells_new xW) rfl (by rw [List.length_map, hm0.len]; omega) (by omega) (by omega) (by omega) (by omega) ?_
    rintro u5 B5 o5 s5 n5 k5
    have gB5 : Ge H B5 := oW.geApp (by omega) (g.trans gAW) (by omega) (by omega) k5
    have own6' : OwnSl B5 (H.next + 1) (t 6) (m.map sndV) := (own6.ge gAW).keep (by omega) fun q e => k5 q (by have := (own6.names e).2; have := gAW.next; omega) fun e2 => hsep q e2 e
    have b2 : B5.get H.next = .cells true [r, b, .int .i64 Y.broken] 3 := by
      rw [k5 _ (by have := gAW.next; omega) (fun e => by have := (oW.names e).1; omega)]
      exact gAW.got nA a2
    simp [t1, t7, m1, m2, m3]
    refine fcall_fun (word_spec (k := 2 * i + 1) (hv.ge gB5) (by omega)) ?_
    rintro _ B6 ⟨rfl, eB⟩
    rw [eB]
    obtain ⟨v1, v2⟩ := wordF_in hv.2.2 (2 * i + 1)
    generalize wordF ws (2 * i + 1) = ww at v1 v2 ⊢
    have m4 : binI BinOp.rem (.int .i64 ww) (.int .i64 2) = some (.int .i64 (ww % 2)) := rem_in v1 (by omega)
    have m5 := add_in (x := 2 * lo) (y := ww % 2) (by omega) (by omega)
    obtain ⟨key, hkey⟩ : ∃ key : Int, key = 2 * lo + ww % 2 := ⟨_, rfl⟩
    rw [← hkey] at m5
    have hk1 : 2 * lo ≤ key ∧ key ≤ 2 * hi' + 1 := by omega
    simp [m4, m5]
    have gV := Ge.new B5 (.cells true [.int .i64 key] 1)
    have nV : (B5.new (.cells true [.int .i64 key] 1)).next = B5.next + 1 := rfl
    have xV : (B5.new (.cells true [.int .i64 key] 1)).get B5.next = .cells true [.int .i64 key] 1 := by simp
    generalize (B5.new (.cells true [.int .i64 key] 1)) = V at *
    have oV := own6'.ge gV
    refine fapp_own oV (slCells_new xV) rfl (by rw [List.length_map, hm0.len]; omega) (by omega) (by omega) (by omega) (by omega) ?_
    rintro u6 B o6 s6 n6 k6
    have gB : Ge H B := oV.geApp (by omega) (gB5.trans gV) (by omega) (by omega) k6
    have o5' : OwnSl B (H.next + 1) u5 (m.map fstV ++ [.int .i64 (i : Int)]) := (o5.ge gV).keep (by omega) fun q e => k6 q (by have := (o5.names e).2; omega) fun e2 => by
      have q1 := (own6.names e2).2
      rw [s5] at e
      have q2 := gAW.next
      cases e; omega
    have c2 : B.get H.next = .cells true [r, b, .int .i64 Y.broken] 3 := by
      rw [k6 _ (by have := gAW.next; omega) (fun e => by have := (oV.names e).1; omega)]
      exact gV.got (by have := gAW.next; omega) b2
    clear o5
    rw [show m.map fstV ++ [.int .i64 (i : Int)] = (m ++ [((i : Int), key)]).map fstV by simp [fstV]] at o5'
    rw [show m.map sndV ++ [.int .i64 key] = (m ++ [((i : Int), key)]).map sndV by simp [sndV]] at o6
    rcases o5' with ⟨_, h0⟩ | ⟨p5, r5, z5, e5, h52, h53, h54, h55, h56⟩
    · simp at h0
    rcases o6 with ⟨_, h0⟩ | ⟨p6, r6, z6, e6, h62, h63, h64, h65, h66⟩
    · simp at h0
    have hml : m.length = i := hm0.len
    rw [List.length_map, List.length_append, List.length_singleton, hml] at e5 e6 h55 h65
    subst e5 e6
    simp [slName] at s5 s6
    simp
    have hnn := gAW.next
    have hnb := gB5.next
    have hbA' : 2 * (bAt Y (i : Int)).lo ≤ key ∧ key ≤ 2 * (bAt Y (i : Int)).hi + 1 := by rw [← hloE, ← hhiE] at hk1; exact hk1
    refine floop_intro (fun z => z.d = [] ∧ Ge H z.H ∧ B.next ≤ z.H.next ∧ z.t 1 = v ∧ z.t 2 = .pointer (some ⟨H.next, 0, none⟩) ∧ z.t 7 = .int .i64 i ∧ z.t 5 = .slice (some ⟨p5, 0, none⟩) (i + 1) r5 ∧ z.t 6 = .slice (some ⟨p6, 0, none⟩) (i + 1) r6 ∧ z.H.get H.next = .cells true [r, b, .int .i64 Y.broken] 3 ∧
      ∃ k : Nat, k ≤ i ∧ z.t 11 = .int .i64 k ∧ ∃ M : List (Int × Int), M.Perm (m ++ [((i : Int), key)]) ∧ sink ltP M k = sink ltP (m ++ [((i : Int), key)]) i ∧ z.H.get p5 = .cells true (M.map fstV) z5 ∧ z.H.get p6 = .cells true (M.map sndV) z6) (fun z => (intOf (z.t 11)).toNat) ?_ ?_
    · exact ⟨rfl, gB, Nat.le_refl _, by simp [t1], by simp [t2], by simp [t7], by simp, by simp, c2, i, Nat.le_refl _, by simp [t7], m ++ [((i : Int), key)], .refl _, rfl, h54, h64⟩
    have t7o := t7
    clear t1 t2 t7 own5 own6 own6' oW oV
    rintro ⟨t', _, C⟩ ⟨rfl, gC, nC, t1, t2, t7, t5, t6, c2', k, hk, t11, M, hper, hsink, c5, c6⟩
    dsimp only at gC nC t1 t2 t7 t5 t6 c2' t11 c5 c6
    have hMl : M.length = i + 1 := by rw [hper.length_eq]; simp [hml]
    have gC14 : Ge H (⟨C.get, C.next + 14⟩ : Heap) := Ge.grow_le (by have := gC.next; omega) (Ge.refl _) |> fun x => ⟨by have := gC.next; simp; omega, fun q hq => gC.get q hq⟩
    have hfin : sink ltP M k = M → ∃ m', CamI Y (i + 1) m' ∧ OwnSl (⟨C.get, C.next + 14⟩ : Heap) (H.next + 1) (.slice (some ⟨p5, 0, none⟩) (i + 1) r5) (m'.map fstV) ∧ OwnSl (⟨C.get, C.next + 14⟩ : Heap) (H.next + 1) (.slice (some ⟨p6, 0, none⟩) (i + 1) r6) (m'.map sndV) := fun e => by
      refine ⟨M, cam_next hm0 hbA' hper (by rw [← hsink, e]), .inr ⟨p5, r5, z5, by rw [List.length_map, hMl], h52, by simp; omega, c5, by rw [List.length_map, hMl]; exact h55, h56⟩, .inr ⟨p6, r6, z6, by rw [List.length_map, hMl], h62, by simp; omega, c6, by rw [List.length_map, hMl]; exact h65, h66⟩⟩
    by_cases hk0 : k = 0
    · obtain ⟨m', f1', f2', f3'⟩ := hfin (by rw [hk0]; rfl)
      have hk2 : ¬ 0 < k := by omega
      simp [t11, hk2, t7, add_in (x := i) (y := 1) (by omega) (by omega)]
      refine ⟨⟨gC14, by have := gC.next; omega, t1, t2, c2', i + 1, by omega, by omega, m', by rw [t5]; exact f2', by rw [t6]; exact f3', fun q e => by rw [t5] at e; rw [t6]; simp [slName] at e ⊢; omega, f1'⟩, by rw [t7o]; simp; omega⟩
    obtain ⟨k, rfl⟩ : ∃ k', k = k' + 1 := ⟨k - 1, by omega⟩
    have hk2 : (0 : Int) < (k : Int) + 1 := by omega
    have hm1 : k + 1 < M.length := by omega
    have hm2 : k < M.length := by omega
    have iI : ∀ (p q y : Nat), y < i + 1 → islV 1 (.slice (some ⟨p, 0, none⟩) (i + 1) q) (.int .i64 (y : Int)) = some (.pointer (some ⟨p, y, none⟩)) := fun p q y hy => by
      rw [islV_in (by omega) (by omega)]; simp
    have iI1 : ∀ (p q : Nat), islV 1 (.slice (some ⟨p, 0, none⟩) (i + 1) q) (.int .i64 ((k : Int) + 1)) = some (.pointer (some ⟨p, k + 1, none⟩)) := fun p q => by
      have := iI p q (k + 1) (by omega); simpa using this
    have iI0 : ∀ (p q : Nat), islV 1 (.slice (some ⟨p, 0, none⟩) (i + 1) q) (.int .i64 (k : Int)) = some (.pointer (some ⟨p, k, none⟩)) := fun p q => iI p q k (by omega)
    have l61 : ldA (C.get p6) false 1 (k + 1) = some (.int .i64 M[k + 1].2) := by rw [c6, ldA_one]; simp [hm1, sndV]
    have l60 : ldA (C.get p6) false 1 k = some (.int .i64 M[k].2) := by rw [c6, ldA_one]; simp [hm2, sndV]
    have l51 : ldA (C.get p5) false 1 (k + 1) = some (.int .i64 M[k + 1].1) := by rw [c5, ldA_one]; simp [hm1, fstV]
    have l50 : ldA (C.get p5) false 1 k = some (.int .i64 M[k].1) := by rw [c5, ldA_one]; simp [hm2, fstV]
    have sK := sub_in (x := (k : Int) + 1) (y := 1) (by omega) (by omega)
    simp [t11, hk2, t6, iI1, iI0, l61, l60, sK]
    by_cases hlt2 : M[k + 1].2 < M[k].2
    case neg =>
      obtain ⟨m', f1', f2', f3'⟩ := hfin (sink_stop hm1 (by simp [ltP]; omega))
      simp [hlt2, t7, add_in (x := i) (y := 1) (by omega) (by omega)]
      refine ⟨⟨gC14, by have := gC.next; omega, t1, t2, c2', i + 1, by omega, by omega, m', by rw [t5]; exact f2', by rw [t6]; exact f3', fun q e => by rw [t5] at e; rw [t6]; simp [slName] at e ⊢; omega, f1'⟩, by rw [t7o]; simp; omega⟩
    simp [hlt2, t11, t5, iI1, iI0, l51, l50, sK]
    have hp56 : p5 ≠ p6 := by omega
    have hp65 : p6 ≠ p5 := Ne.symm hp56
    have hpn5 : H.next ≠ p5 := by omega
    have hpn6 : H.next ≠ p6 := by omega
    have sw5 : ((M.map fstV).set (k + 1) (.int .i64 M[k].1)).set k (.int .i64 M[k + 1].1) = (swapL M k).map fstV := swap_map hm1
    have sw6 : ((M.map sndV).set (k + 1) (.int .i64 M[k].2)).set k (.int .i64 M[k + 1].2) = (swapL M k).map sndV := swap_map hm1
    rw [c5, st_cells (by rw [List.length_map]; exact hm1) rfl rfl]
    simp [iI0, -stA_cells]
    rw [st_cells (by rw [List.length_set, List.length_map]; exact hm2) rfl rfl, sw5]
    simp [t6, t11, iI1, iI0, hp65, l61, l60, sK, -stA_cells]
    rw [c6, st_cells (by rw [List.length_map]; exact hm1) rfl rfl]
    simp [iI0, -stA_cells]
    rw [st_cells (by rw [List.length_set, List.length_map]; exact hm2) rfl rfl, sw6]
    simp [t11, sK]
    refine ⟨⟨by have := gC.next; simp; omega, fun q hq => ?_⟩, by omega, t1, t2, t7, t5, t6, by rw [if_neg hpn6, if_neg hpn6, if_neg hpn5, if_neg hpn5]; exact c2', k, by omega, rfl, swapL M k, (swapL_perm M k).trans hper, ?_, by rw [if_neg hp56, if_neg hp56], rfl⟩
    · have e1 : q ≠ p5 := by omega
      have e2 : q ≠ p6 := by omega
      simp [e1, e2]
      exact gC.get q hq
    · rw [← hsink, sink_go hm1]
      simp [ltP]; omega
  simp at hc1
  simp [hc1]
  refine fcond_intro (fun hc2 => ?_) (fun hc2 => ?_)
  · have hX : lo ≤ hi' ∧ hi' ≤ hi' := by omega
    have m1 := mul_in (x := 2) (y := hi') (by omega) (by omega)
    have m2 := mul_in (x := 2) (y := (i : Int)) (by omega) (by omega)
    have m3 : binI BinOp.add (.int .i64 (2 * (i : Int))) (.int .i64 1) = some (.int .i64 ((2 * i + 1 : Nat) : Int)) := by
      rw [add_in (by omega) (by omega)]; rfl
    simp [aZ, t7, hc2]
    have gW := gZ2.trans (Ge.new (⟨Z.get, Z.next + 13⟩ : Heap) (.cells true [.int .i64 (i : Int)] 1))
    have nW : ((⟨Z.get, Z.next + 13⟩ : Heap).new (.cells true [.int .i64 (i : Int)] 1)).next = Z.next + 14 := rfl
    have xW : ((⟨Z.get, Z.next + 13⟩ : Heap).new (.cells true [.int .i64 (i : Int)] 1)).get (Z.next + 13) = .cells true [.int .i64 (i : Int)] 1 := by simp
    generalize ((⟨Z.get, Z.next + 13⟩ : Heap).new (.cells true [.int .i64 (i : Int)] 1)) = W at *
    have gAW := gZ.trans gW
    have oW := own5.ge gAW
    refine fapp_own oW (slCells_new xW) rfl (by rw [List.length_map, hm0.len]; omega) (by omega) (by omega) (by omega) (by omega) ?_
    rintro u5 B5 o5 s5 n5 k5
    have gB5 : Ge H B5 := oW.geApp (by omega) (g.trans gAW) (by omega) (by omega) k5
    have own6' : OwnSl B5 (H.next + 1) (t 6) (m.map sndV) := (own6.ge gAW).keep (by omega) fun q e => k5 q (by have := (own6.names e).2; have := gAW.next; omega) fun e2 => hsep q e2 e
    have b2 : B5.get H.next = .cells true [r, b, .int .i64 Y.broken] 3 := by
      rw [k5 _ (by have := gAW.next; omega) (fun e => by have := (oW.names e).1; omega)]
      exact gAW.got nA a2
    simp [t1, t7, m1, m2, m3]
    refine fcall_fun (word_spec (k := 2 * i + 1) (hv.ge gB5) (by omega)) ?_
    rintro _ B6 ⟨rfl, eB⟩
    rw [eB]
    obtain ⟨v1, v2⟩ := wordF_in hv.2.2 (2 * i + 1)
    generalize wordF ws (2 * i + 1) = ww at v1 v2 ⊢
    have m4 : binI BinOp.rem (.int .i64 ww) (.int .i64 2) = some (.int .i64 (ww % 2)) := rem_in v1 (by omega)
    have m5 := add_in (x := 2 * hi') (y := ww % 2) (by omega) (by omega)
    obtain ⟨key, hkey⟩ : ∃ key : Int, key = 2 * hi' + ww % 2 := ⟨_, rfl⟩
    rw [← hkey] at m5
    have hk1 : 2 * lo ≤ key ∧ key ≤ 2 * hi' + 1 := by omega
    simp [m4, m5]
    have gV := Ge.new B5 (.cells true [.int .i64 key] 1)
    have nV : (B5.new (.cells true [.int .i64 key] 1)).next = B5.next + 1 := rfl
    have xV : (B5.new (.cells true [.int .i64 key] 1)).get B5.next = .cells true [.int .i64 key] 1 := by simp
    generalize (B5.new (.cells true [.int .i64 key] 1)) = V at *
    have oV := own6'.ge gV
    refine fapp_own oV (slCells_new xV) rfl (by rw [List.length_map, hm0.len]; omega) (by omega) (by omega) (by omega) (by omega) ?_
    rintro u6 B o6 s6 n6 k6
    have gB : Ge H B := oV.geApp (by omega) (gB5.trans gV) (by omega) (by omega) k6
    have o5' : OwnSl B (H.next + 1) u5 (m.map fstV ++ [.int .i64 (i : Int)]) := (o5.ge gV).keep (by omega) fun q e => k6 q (by have := (o5.names e).2; omega) fun e2 => by
      have q1 := (own6.names e2).2
      rw [s5] at e
      have q2 := gAW.next
      cases e; omega
    have c2 : B.get H.next = .cells true [r, b, .int .i64 Y.broken] 3 := by
      rw [k6 _ (by have := gAW.next; omega) (fun e => by have := (oV.names e).1; omega)]
      exact gV.got (by have := gAW.next; omega) b2
    clear o5
    rw [show m.map fstV ++ [.int .i64 (i : Int)] = (m ++ [((i : Int), key)]).map fstV by simp [fstV]] at o5'
    rw [show m.map sndV ++ [.int .i64 key] = (m ++ [((i : Int), key)]).map sndV by simp [sndV]] at o6
    rcases o5' with ⟨_, h0⟩ | ⟨p5, r5, z5, e5, h52, h53, h54, h55, h56⟩
    · simp at h0
    rcases o6 with ⟨_, h0⟩ | ⟨p6, r6, z6, e6, h62, h63, h64, h65, h66⟩
    · simp at h0
    have hml : m.length = i := hm0.len
    rw [List.length_map, List.length_append, List.length_singleton, hml] at e5 e6 h55 h65
    subst e5 e6
    simp [slName] at s5 s6
    simp
    have hnn := gAW.next
    have hnb := gB5.next
    have hbA' : 2 * (bAt Y (i : Int)).lo ≤ key ∧ key ≤ 2 * (bAt Y (i : Int)).hi + 1 := by rw [← hloE, ← hhiE] at hk1; exact hk1
    refine floop_intro (fun z => z.d = [] ∧ Ge H z.H ∧ B.next ≤ z.H.next ∧ z.t 1 = v ∧ z.t 2 = .pointer (some ⟨H.next, 0, none⟩) ∧ z.t 7 = .int .i64 i ∧ z.t 5 = .slice (some ⟨p5, 0, none⟩) (i + 1) r5 ∧ z.t 6 = .slice (some ⟨p6, 0, none⟩) (i + 1) r6 ∧ z.H.get H.next = .cells true [r, b, .int .i64 Y.broken] 3 ∧
      ∃ k : Nat, k ≤ i ∧ z.t 11 = .int .i64 k ∧ ∃ M : List (Int × Int), M.Perm (m ++ [((i : Int), key)]) ∧ sink ltP M k = sink ltP (m ++ [((i : Int), key)]) i ∧ z.H.get p5 = .cells true (M.map fstV) z5 ∧ z.H.get p6 = .cells true (M.map sndV) z6) (fun z => (intOf (z.t 11)).toNat) ?_ ?_
    · exact ⟨rfl, gB, Nat.le_refl _, by simp [t1], by simp [t2], by simp [t7], by simp, by simp, c2, i, Nat.le_refl _, by simp [t7], m ++ [((i : Int), key)], .refl _, rfl, h54, h64⟩
    have t7o := t7
    clear t1 t2 t7 own5 own6 own6' oW oV
    rintro ⟨t', _, C⟩ ⟨rfl, gC, nC, t1, t2, t7, t5, t6, c2', k, hk, t11, M, hper, hsink, c5, c6⟩
    dsimp only at gC nC t1 t2 t7 t5 t6 c2' t11 c5 c6
    have hMl : M.length = i + 1 := by rw [hper.length_eq]; simp [hml]
    have gC14 : Ge H (⟨C.get, C.next + 14⟩ : Heap) := Ge.grow_le (by have := gC.next; omega) (Ge.refl _) |> fun x => ⟨by have := gC.next; simp; omega, fun q hq => gC.get q hq⟩
    have hfin : sink ltP M k = M → ∃ m', CamI Y (i + 1) m' ∧ OwnSl (⟨C.get, C.next + 14⟩ : Heap) (H.next + 1) (.slice (some ⟨p5, 0, none⟩) (i + 1) r5) (m'.map fstV) ∧ OwnSl (⟨C.get, C.next + 14⟩ : Heap) (H.next + 1) (.slice (some ⟨p6, 0, none⟩) (i + 1) r6) (m'.map sndV) := fun e => by
      refine ⟨M, cam_next hm0 hbA' hper (by rw [← hsink, e]), .inr ⟨p5, r5, z5, by rw [List.length_map, hMl], h52, by simp; omega, c5, by rw [List.length_map, hMl]; exact h55, h56⟩, .inr ⟨p6, r6, z6, by rw [List.length_map, hMl], h62, by simp; omega, c6, by rw [List.length_map, hMl]; exact h65, h66⟩⟩
    by_cases hk0 : k = 0
    · obtain ⟨m', f1', f2', f3'⟩ := hfin (by rw [hk0]; rfl)
      have hk2 : ¬ 0 < k := by omega
      simp [t11, hk2, t7, add_in (x := i) (y := 1) (by omega) (by omega)]
      refine ⟨⟨gC14, by have := gC.next; omega, t1, t2, c2', i + 1, by omega, by omega, m', by rw [t5]; exact f2', by rw [t6]; exact f3', fun q e => by rw [t5] at e; rw [t6]; simp [slName] at e ⊢; omega, f1'⟩, by rw [t7o]; simp; omega⟩
    obtain ⟨k, rfl⟩ : ∃ k', k = k' + 1 := ⟨k - 1, by omega⟩
    have hk2 : (0 : Int) < (k : Int) + 1 := by omega
    have hm1 : k + 1 < M.length := by omega
    have hm2 : k < M.length := by omega
    have iI : ∀ (p q y : Nat), y < i + 1 → islV 1 (.slice (some ⟨p, 0, none⟩) (i + 1) q) (.int .i64 (y : Int)) = some (.pointer (some ⟨p, y, none⟩)) := fun p q y hy => by
      rw [islV_in (by omega) (by omega)]; simp
    have iI1 : ∀ (p q : Nat), islV 1 (.slice (some ⟨p, 0, none⟩) (i + 1) q) (.int .i64 ((k : Int) + 1)) = some (.pointer (some ⟨p, k + 1, none⟩)) := fun p q => by
      have := iI p q (k + 1) (by omega); simpa using this
    have iI0 : ∀ (p q : Nat), islV 1 (.slice (some ⟨p, 0, none⟩) (i + 1) q) (.int .i64 (k : Int)) = some (.pointer (some ⟨p, k, none⟩)) := fun p q => iI p q k (by omega)
    have l61 : ldA (C.get p6) false 1 (k + 1) = some (.int .i64 M[k + 1].2) := by rw [c6, ldA_one]; simp [hm1, sndV]
    have l60 : ldA (C.get p6) false 1 k = some (.int .i64 M[k].2) := by rw [c6, ldA_one]; simp [hm2, sndV]
    have l51 : ldA (C.get p5) false 1 (k + 1) = some (.int .i64 M[k + 1].1) := by rw [c5, ldA_one]; simp [hm1, fstV]
    have l50 : ldA (C.get p5) false 1 k = some (.int .i64 M[k].1) := by rw [c5, ldA_one]; simp [hm2, fstV]
    have sK := sub_in (x := (k : Int) + 1) (y := 1) (by omega) (by omega)
    simp [t11, hk2, t6, iI1, iI0, l61, l60, sK]
    by_cases hlt2 : M[k + 1].2 < M[k].2
    case neg =>
      obtain ⟨m', f1', f2', f3'⟩ := hfin (sink_stop hm1 (by simp [ltP]; omega))
      simp [hlt2, t7, add_in (x := i) (y := 1) (by omega) (by omega)]
      refine ⟨⟨gC14, by have := gC.next; omega, t1, t2, c2', i + 1, by omega, by omega, m', by rw [t5]; exact f2', by rw [t6]; exact f3', fun q e => by rw [t5] at e; rw [t6]; simp [slName] at e ⊢; omega, f1'⟩, by rw [t7o]; simp; omega⟩
    simp [hlt2, t11, t5, iI1, iI0, l51, l50, sK]
    have hp56 : p5 ≠ p6 := by omega
    have hp65 : p6 ≠ p5 := Ne.symm hp56
    have hpn5 : H.next ≠ p5 := by omega
    have hpn6 : H.next ≠ p6 := by omega
    have sw5 : ((M.map fstV).set (k + 1) (.int .i64 M[k].1)).set k (.int .i64 M[k + 1].1) = (swapL M k).map fstV := swap_map hm1
    have sw6 : ((M.map sndV).set (k + 1) (.int .i64 M[k].2)).set k (.int .i64 M[k + 1].2) = (swapL M k).map sndV := swap_map hm1
    rw [c5, st_cells (by rw [List.length_map]; exact hm1) rfl rfl]
    simp [iI0, -stA_cells]
    rw [st_cells (by rw [List.length_set, List.length_map]; exact hm2) rfl rfl, sw5]
    simp [t6, t11, iI1, iI0, hp65, l61, l60, sK, -stA_cells]
    rw [c6, st_cells (by rw [List.length_map]; exact hm1) rfl rfl]
    simp [iI0, -stA_cells]
    rw [st_cells (by rw [List.length_set, List.length_map]; exact hm2) rfl rfl, sw6]
    simp [t11, sK]
    refine ⟨⟨by have := gC.next; simp; omega, fun q hq => ?_⟩, by omega, t1, t2, t7, t5, t6, by rw [if_neg hpn6, if_neg hpn6, if_neg hpn5, if_neg hpn5]; exact c2', k, by omega, rfl, swapL M k, (swapL_perm M k).trans hper, ?_, by rw [if_neg hp56, if_neg hp56], rfl⟩
    · have e1 : q ≠ p5 := by omega
      have e2 : q ≠ p6 := by omega
      simp [e1, e2]
      exact gC.get q hq
    · rw [← hsink, sink_go hm1]
      simp [ltP]; omega
  · have hX : lo ≤ (lo + w / 3 % (hi' - lo + 1)) ∧ (lo + w / 3 % (hi' - lo + 1)) ≤ hi' := by omega
    have m1 := mul_in (x := 2) (y := (lo + w / 3 % (hi' - lo + 1))) (by omega) (by omega)
    have m2 := mul_in (x := 2) (y := (i : Int)) (by omega) (by omega)
    have m3 : binI BinOp.add (.int .i64 (2 * (i : Int))) (.int .i64 1) = some (.int .i64 ((2 * i + 1 : Nat) : Int)) := by
      rw [add_in (by omega) (by omega)]; rfl
    simp [t7, hc2]
    have gW := gZ2.trans (Ge.new (⟨Z.get, Z.next + 13⟩ : Heap) (.cells true [.int .i64 (i : Int)] 1))
    have nW : ((⟨Z.get, Z.next + 13⟩ : Heap).new (.cells true [.int .i64 (i : Int)] 1)).next = Z.next + 14 := rfl
    have xW : ((⟨Z.get, Z.next + 13⟩ : Heap).new (.cells true [.int .i64 (i : Int)] 1)).get (Z.next + 13) = .cells true [.int .i64 (i : Int)] 1 := by simp
    generalize ((⟨Z.get, Z.next + 13⟩ : Heap).new (.cells true [.int .i64 (i : Int)] 1)) = W at *
    have gAW := gZ.trans gW
    have oW := own5.ge gAW
    refine fapp_own oW (slCells_new xW) rfl (by rw [List.length_map, hm0.len]; omega) (by omega) (by omega) (by omega) (by omega) ?_
    rintro u5 B5 o5 s5 n5 k5
    have gB5 : Ge H B5 := oW.geApp (by omega) (g.trans gAW) (by omega) (by omega) k5
    have own6' : OwnSl B5 (H.next + 1) (t 6) (m.map sndV) := (own6.ge gAW).keep (by omega) fun q e => k5 q (by have := (own6.names e).2; have := gAW.next; omega) fun e2 => hsep q e2 e
    have b2 : B5.get H.next = .cells true [r, b, .int .i64 Y.broken] 3 := by
      rw [k5 _ (by have := gAW.next; omega) (fun e => by have := (oW.names e).1; omega)]
      exact gAW.got nA a2
    simp [t1, t7, m1, m2, m3]
    refine fcall_fun (word_spec (k := 2 * i + 1) (hv.ge gB5) (by omega)) ?_
    rintro _ B6 ⟨rfl, eB⟩
    rw [eB]
    obtain ⟨v1, v2⟩ := wordF_in hv.2.2 (2 * i + 1)
    generalize wordF ws (2 * i + 1) = ww at v1 v2 ⊢
    have m4 : binI BinOp.rem (.int .i64 ww) (.int .i64 2) = some (.int .i64 (ww % 2)) := rem_in v1 (by omega)
    have m5 := add_in (x := 2 * (lo + w / 3 % (hi' - lo + 1))) (y := ww % 2) (by omega) (by omega)
    obtain ⟨key, hkey⟩ : ∃ key : Int, key = 2 * (lo + w / 3 % (hi' - lo + 1)) + ww % 2 := ⟨_, rfl⟩
    rw [← hkey] at m5
    have hk1 : 2 * lo ≤ key ∧ key ≤ 2 * hi' + 1 := by omega
    simp [m4, m5]
    have gV := Ge.new B5 (.cells true [.int .i64 key] 1)
    have nV : (B5.new (.cells true [.int .i64 key] 1)).next = B5.next + 1 := rfl
    have xV : (B5.new (.cells true [.int .i64 key] 1)).get B5.next = .cells true [.int .i64 key] 1 := by simp
    generalize (B5.new (.cells true [.int .i64 key] 1)) = V at *
    have oV := own6'.ge gV
    refine fapp_own oV (slCells_new xV) rfl (by rw [List.length_map, hm0.len]; omega) (by omega) (by omega) (by omega) (by omega) ?_
    rintro u6 B o6 s6 n6 k6
    have gB : Ge H B := oV.geApp (by omega) (gB5.trans gV) (by omega) (by omega) k6
    have o5' : OwnSl B (H.next + 1) u5 (m.map fstV ++ [.int .i64 (i : Int)]) := (o5.ge gV).keep (by omega) fun q e => k6 q (by have := (o5.names e).2; omega) fun e2 => by
      have q1 := (own6.names e2).2
      rw [s5] at e
      have q2 := gAW.next
      cases e; omega
    have c2 : B.get H.next = .cells true [r, b, .int .i64 Y.broken] 3 := by
      rw [k6 _ (by have := gAW.next; omega) (fun e => by have := (oV.names e).1; omega)]
      exact gV.got (by have := gAW.next; omega) b2
    clear o5
    rw [show m.map fstV ++ [.int .i64 (i : Int)] = (m ++ [((i : Int), key)]).map fstV by simp [fstV]] at o5'
    rw [show m.map sndV ++ [.int .i64 key] = (m ++ [((i : Int), key)]).map sndV by simp [sndV]] at o6
    rcases o5' with ⟨_, h0⟩ | ⟨p5, r5, z5, e5, h52, h53, h54, h55, h56⟩
    · simp at h0
    rcases o6 with ⟨_, h0⟩ | ⟨p6, r6, z6, e6, h62, h63, h64, h65, h66⟩
    · simp at h0
    have hml : m.length = i := hm0.len
    rw [List.length_map, List.length_append, List.length_singleton, hml] at e5 e6 h55 h65
    subst e5 e6
    simp [slName] at s5 s6
    simp
    have hnn := gAW.next
    have hnb := gB5.next
    have hbA' : 2 * (bAt Y (i : Int)).lo ≤ key ∧ key ≤ 2 * (bAt Y (i : Int)).hi + 1 := by rw [← hloE, ← hhiE] at hk1; exact hk1
    refine floop_intro (fun z => z.d = [] ∧ Ge H z.H ∧ B.next ≤ z.H.next ∧ z.t 1 = v ∧ z.t 2 = .pointer (some ⟨H.next, 0, none⟩) ∧ z.t 7 = .int .i64 i ∧ z.t 5 = .slice (some ⟨p5, 0, none⟩) (i + 1) r5 ∧ z.t 6 = .slice (some ⟨p6, 0, none⟩) (i + 1) r6 ∧ z.H.get H.next = .cells true [r, b, .int .i64 Y.broken] 3 ∧
      ∃ k : Nat, k ≤ i ∧ z.t 11 = .int .i64 k ∧ ∃ M : List (Int × Int), M.Perm (m ++ [((i : Int), key)]) ∧ sink ltP M k = sink ltP (m ++ [((i : Int), key)]) i ∧ z.H.get p5 = .cells true (M.map fstV) z5 ∧ z.H.get p6 = .cells true (M.map sndV) z6) (fun z => (intOf (z.t 11)).toNat) ?_ ?_
    · exact ⟨rfl, gB, Nat.le_refl _, by simp [t1], by simp [t2], by simp [t7], by simp, by simp, c2, i, Nat.le_refl _, by simp [t7], m ++ [((i : Int), key)], .refl _, rfl, h54, h64⟩
    have t7o := t7
    clear t1 t2 t7 own5 own6 own6' oW oV
    rintro ⟨t', _, C⟩ ⟨rfl, gC, nC, t1, t2, t7, t5, t6, c2', k, hk, t11, M, hper, hsink, c5, c6⟩
    dsimp only at gC nC t1 t2 t7 t5 t6 c2' t11 c5 c6
    have hMl : M.length = i + 1 := by rw [hper.length_eq]; simp [hml]
    have gC14 : Ge H (⟨C.get, C.next + 14⟩ : Heap) := Ge.grow_le (by have := gC.next; omega) (Ge.refl _) |> fun x => ⟨by have := gC.next; simp; omega, fun q hq => gC.get q hq⟩
    have hfin : sink ltP M k = M → ∃ m', CamI Y (i + 1) m' ∧ OwnSl (⟨C.get, C.next + 14⟩ : Heap) (H.next + 1) (.slice (some ⟨p5, 0, none⟩) (i + 1) r5) (m'.map fstV) ∧ OwnSl (⟨C.get, C.next + 14⟩ : Heap) (H.next + 1) (.slice (some ⟨p6, 0, none⟩) (i + 1) r6) (m'.map sndV) := fun e => by
      refine ⟨M, cam_next hm0 hbA' hper (by rw [← hsink, e]), .inr ⟨p5, r5, z5, by rw [List.length_map, hMl], h52, by simp; omega, c5, by rw [List.length_map, hMl]; exact h55, h56⟩, .inr ⟨p6, r6, z6, by rw [List.length_map, hMl], h62, by simp; omega, c6, by rw [List.length_map, hMl]; exact h65, h66⟩⟩
    by_cases hk0 : k = 0
    · obtain ⟨m', f1', f2', f3'⟩ := hfin (by rw [hk0]; rfl)
      have hk2 : ¬ 0 < k := by omega
      simp [t11, hk2, t7, add_in (x := i) (y := 1) (by omega) (by omega)]
      refine ⟨⟨gC14, by have := gC.next; omega, t1, t2, c2', i + 1, by omega, by omega, m', by rw [t5]; exact f2', by rw [t6]; exact f3', fun q e => by rw [t5] at e; rw [t6]; simp [slName] at e ⊢; omega, f1'⟩, by rw [t7o]; simp; omega⟩
    obtain ⟨k, rfl⟩ : ∃ k', k = k' + 1 := ⟨k - 1, by omega⟩
    have hk2 : (0 : Int) < (k : Int) + 1 := by omega
    have hm1 : k + 1 < M.length := by omega
    have hm2 : k < M.length := by omega
    have iI : ∀ (p q y : Nat), y < i + 1 → islV 1 (.slice (some ⟨p, 0, none⟩) (i + 1) q) (.int .i64 (y : Int)) = some (.pointer (some ⟨p, y, none⟩)) := fun p q y hy => by
      rw [islV_in (by omega) (by omega)]; simp
    have iI1 : ∀ (p q : Nat), islV 1 (.slice (some ⟨p, 0, none⟩) (i + 1) q) (.int .i64 ((k : Int) + 1)) = some (.pointer (some ⟨p, k + 1, none⟩)) := fun p q => by
      have := iI p q (k + 1) (by omega); simpa using this
    have iI0 : ∀ (p q : Nat), islV 1 (.slice (some ⟨p, 0, none⟩) (i + 1) q) (.int .i64 (k : Int)) = some (.pointer (some ⟨p, k, none⟩)) := fun p q => iI p q k (by omega)
    have l61 : ldA (C.get p6) false 1 (k + 1) = some (.int .i64 M[k + 1].2) := by rw [c6, ldA_one]; simp [hm1, sndV]
    have l60 : ldA (C.get p6) false 1 k = some (.int .i64 M[k].2) := by rw [c6, ldA_one]; simp [hm2, sndV]
    have l51 : ldA (C.get p5) false 1 (k + 1) = some (.int .i64 M[k + 1].1) := by rw [c5, ldA_one]; simp [hm1, fstV]
    have l50 : ldA (C.get p5) false 1 k = some (.int .i64 M[k].1) := by rw [c5, ldA_one]; simp [hm2, fstV]
    have sK := sub_in (x := (k : Int) + 1) (y := 1) (by omega) (by omega)
    simp [t11, hk2, t6, iI1, iI0, l61, l60, sK]
    by_cases hlt2 : M[k + 1].2 < M[k].2
    case neg =>
      obtain ⟨m', f1', f2', f3'⟩ := hfin (sink_stop hm1 (by simp [ltP]; omega))
      simp [hlt2, t7, add_in (x := i) (y := 1) (by omega) (by omega)]
      refine ⟨⟨gC14, by have := gC.next; omega, t1, t2, c2', i + 1, by omega, by omega, m', by rw [t5]; exact f2', by rw [t6]; exact f3', fun q e => by rw [t5] at e; rw [t6]; simp [slName] at e ⊢; omega, f1'⟩, by rw [t7o]; simp; omega⟩
    simp [hlt2, t11, t5, iI1, iI0, l51, l50, sK]
    have hp56 : p5 ≠ p6 := by omega
    have hp65 : p6 ≠ p5 := Ne.symm hp56
    have hpn5 : H.next ≠ p5 := by omega
    have hpn6 : H.next ≠ p6 := by omega
    have sw5 : ((M.map fstV).set (k + 1) (.int .i64 M[k].1)).set k (.int .i64 M[k + 1].1) = (swapL M k).map fstV := swap_map hm1
    have sw6 : ((M.map sndV).set (k + 1) (.int .i64 M[k].2)).set k (.int .i64 M[k + 1].2) = (swapL M k).map sndV := swap_map hm1
    rw [c5, st_cells (by rw [List.length_map]; exact hm1) rfl rfl]
    simp [iI0, -stA_cells]
    rw [st_cells (by rw [List.length_set, List.length_map]; exact hm2) rfl rfl, sw5]
    simp [t6, t11, iI1, iI0, hp65, l61, l60, sK, -stA_cells]
    rw [c6, st_cells (by rw [List.length_map]; exact hm1) rfl rfl]
    simp [iI0, -stA_cells]
    rw [st_cells (by rw [List.length_set, List.length_map]; exact hm2) rfl rfl, sw6]
    simp [t11, sK]
    refine ⟨⟨by have := gC.next; simp; omega, fun q hq => ?_⟩, by omega, t1, t2, t7, t5, t6, by rw [if_neg hpn6, if_neg hpn6, if_neg hpn5, if_neg hpn5]; exact c2', k, by omega, rfl, swapL M k, (swapL_perm M k).trans hper, ?_, by rw [if_neg hp56, if_neg hp56], rfl⟩
    · have e1 : q ≠ p5 := by omega
      have e2 : q ≠ p6 := by omega
      simp [e1, e2]
      exact gC.get q hq
    · rw [← hsink, sink_go hm1]
      simp [ltP]; omega

end Go.Proofs.Ytfijnkhiojejfaa


namespace Go.Proofs.Ytfijnkhiojejfaa
open Go Go.Ab

theorem ready_spec {Y : Yd} {r b : Value} {H : Heap} (h : YardAt H r b Y) : AFun Try.prog 41 [yardV Y r b] H (fun v B => v = .bool (decide (Y.room.length ≤ 6 ∧ Y.buses.length ≤ 12) && decide (checkY Y = 0)) ∧ Ge H B) := by
  refine AFun.mk ok41 hm (Nat.le_of_ble_eq_true rfl) ?_
  have hb := h.buses.one
  have hr := h.room.one
  have g0 : Ge H (H.new (.cells true [r, b, .int .i64 Y.broken] 3)) := Ge.new _ _
  simp [a41, r41]
  refine fcall_fun (thin_spec (h.ge g0)) ?_
  rintro _ H1 ⟨rfl, g1⟩
  have G1 := g0.trans g1
  have k1 := g1.got (n := H.next) (by simp) rfl
  simp at k1
  have hd : decide (Y.room.length ≤ 6 ∧ Y.buses.length ≤ 12) = (decide (Y.room.length ≤ 6) && decide (Y.buses.length ≤ 12)) := by simp
  rw [← hd]
  by_cases ht : Y.room.length ≤ 6 ∧ Y.buses.length ≤ 12
  case neg => simp [ht, G1]
  simp [ht, k1]
  refine fcall_fun (refFault_spec (h.ge G1)) ?_
  rintro _ H2 ⟨rfl, g2⟩
  simp [G1.trans g2]
  exact fun _ => ht

theorem place_spec {H : Heap} {v : Value} {xs : List Int} {x : Int} (hv : IntsAt H v xs) (hl : xs.length < 2 ^ 62) : AFun Try.prog 47 [v, .int .i64 x] H (fun w B => (∃ p : Int, w = .int .i64 p ∧ (p = -1 ∧ x ∉ xs ∨ ∃ i : Nat, p = i ∧ xs[i]? = some x ∧ ∀ j, j < i → xs[j]? ≠ some x)) ∧ B = H) := by
  refine AFun.mk ok47 hm (Nat.le_of_ble_eq_true rfl) ?_
  simp [a47, r47]
  refine floop_intro (fun z => z.d = [] ∧ z.H = H ∧ z.t 0 = v ∧ z.t 1 = .int .i64 x ∧ ∃ i : Nat, i ≤ xs.length ∧ z.t 5 = .int .i64 i ∧ ∀ j, j < i → xs[j]? ≠ some x) (fun z => xs.length - (intOf (z.t 5)).toNat) ?_ ?_
  · exact ⟨rfl, rfl, by simp, by simp, 0, by simp, by simp, by simp⟩
  rintro ⟨t, _, A⟩ ⟨rfl, hA, t0, t1, i, hi, t5, hall⟩
  dsimp only at hA t0 t1 t5
  subst hA
  simp [t0, t5, hv.lenV]
  by_cases hil : i < xs.length
  case neg =>
    have h1 : i = xs.length := by omega
    subst h1
    simp
    intro hm
    obtain ⟨j, hj, e⟩ := List.getElem_of_mem hm
    exact absurd (by rw [List.getElem?_eq_getElem hj, e]) (hall j hj)
  obtain ⟨p, e1, e2⟩ := IntsAt.atAll hv hil
  simp [hil, t0, t5, e1, e2 A (Ge.refl _), t1]
  by_cases he : xs[i] = x
  · simp [he, t5]
    exact ⟨i, rfl, by rw [List.getElem?_eq_getElem hil, he], hall⟩
  · simp [he, t5, add_in (x := i) (y := 1) (by omega) (by omega)]
    refine ⟨⟨t0, t1, i + 1, by omega, by omega, fun j hj => ?_⟩, by omega⟩
    by_cases e : j = i
    · subst e; rw [List.getElem?_eq_getElem hil]; simpa using he
    · exact hall j (by omega)

set_option maxHeartbeats 4000000 in
theorem parked_spec {Y : Yd} {r b v : Value} {H : Heap} {ws : List Int} (h : YardAt H r b Y) (hv : WordsAt H v ws) (hok : checkY Y = 0) :
    AFun Try.prog 44 [yardV Y r b, v] H (fun w B => ∃ u is, w = .tuple #[u, .bool is] ∧ Ge H B ∧ (is = false → u = .slice none 0 0) ∧ (is = true → ∃ ls, OwnSl B H.next u (ls.map (.int .i64)) ∧ lanesB Y ls = true)) := by
  refine AFun.mk ok44 hm (Nat.le_of_ble_eq_true rfl) ?_
  obtain ⟨hr3, h8, hrn, _, _, _, _, _⟩ := okY_facts hok
  have hR0 : 0 < Y.room.length := List.length_pos_iff.2 hrn
  have hb := h.buses.one
  have hr := h.room.one
  have g0 : Ge H (H.new (.cells true [r, b, .int .i64 Y.broken] 3)) := Ge.new _ _
  simp [a44, r44, h.room.lenV]
  rw [mksV_at (by omega) (by omega)]
  simp
  refine floop_intro (fun z => z.d = [] ∧ Ge H z.H ∧ H.next + 2 ≤ z.H.next ∧ z.t 1 = v ∧ z.t 2 = .pointer (some ⟨H.next, 0, none⟩) ∧ z.t 7 = .slice (some ⟨H.next + 1, 0, none⟩) Y.room.length Y.room.length ∧ z.H.get H.next = .cells true [r, b, .int .i64 Y.broken] 3 ∧
    ∃ (i : Nat) (L hs : List Int), i ≤ Y.buses.length ∧ z.t 8 = .int .i64 i ∧ OwnSl z.H (H.next + 2) (z.t 6) (L.map (.int .i64)) ∧ L.length = i ∧ z.H.get (H.next + 1) = .cells true (hs.map (.int .i64)) Y.room.length ∧ hs.length = Y.room.length ∧ (∀ x ∈ L, isLaneB Y x = true) ∧ (∀ l : Nat, l < Y.room.length → hs[l]? = some (L.count (l : Int) : Int) ∧ (L.count (l : Int) : Int) ≤ Y.room[l]?.getD 0)) (fun z => Y.buses.length - (intOf (z.t 8)).toNat) ?_ ?_
  · refine ⟨rfl, g0.trans (Ge.new _ _), by simp, by simp, by simp, by simp, by simp, 0, [], List.replicate Y.room.length 0, by simp, by simp, .inl ⟨by simp, rfl⟩, rfl, ?_, by simp, by simp, fun l hl => ⟨by simp [hl], by simpa using okY_pos hok l⟩⟩
    simp [zrep_int]
  rintro ⟨t, _, A⟩ ⟨rfl, g, nA, t1, t2, t7, a2, i, L, hs, hi, t8, own, hLl, a1, hhs, hLm, hcnt⟩
  dsimp only at g nA t1 t2 t7 a2 t8 own a1
  simp [t2, t8, a2, h.buses.lenV]
  refine fcond_intro (fun hc => ?_) (fun hc => ?_)
  case refine_2 =>
    have h1 : i = Y.buses.length := by simp at hc; omega
    simp
    refine ⟨g, L, own.lower (by omega), ?_⟩
    simp only [lanesB, Bool.and_eq_true, decide_eq_true_eq, List.all_eq_true]
    exact ⟨by rw [hLl, h1], hLm, fun l hl => (hcnt l (List.mem_range.1 hl)).2⟩
  have hi' : i < Y.buses.length := by simpa using hc
  have m1 := mul_in (x := 5) (y := (i : Int)) (by omega) (by omega)
  have m2 : binI BinOp.add (.int .i64 (5 * (i : Int))) (.int .i64 1) = some (.int .i64 ((5 * i + 1 : Nat) : Int)) := by
    rw [add_in (by omega) (by omega)]; rfl
  simp [t1, t2, t8, a2, m1, m2, h.room.lenV]
  have g10 : Ge A (⟨A.get, A.next + 10⟩ : Heap) := Ge.grow_le (by omega) (Ge.refl _)
  have w0 := word_spec (k := 5 * i + 1) (hv.ge (g.trans g10)) (by omega)
  simp at w0
  refine fcall_fun w0 ?_
  rintro _ A1 ⟨rfl, eA⟩
  rw [eA]
  obtain ⟨w1, w2⟩ := wordF_in hv.2.2 (5 * i + 1)
  generalize wordF ws (5 * i + 1) = w at w1 w2 ⊢
  have q1 : binI BinOp.rem (.int .i64 w) (.int .i64 (Y.room.length : Int)) = some (.int .i64 (w % (Y.room.length : Int))) := rem_in w1 (by omega)
  have q2 : 0 ≤ w % (Y.room.length : Int) := Int.emod_nonneg _ (by omega)
  have q3 : w % (Y.room.length : Int) < Y.room.length := Int.emod_lt_of_pos _ (by omega)
  simp [a2, q1]
  obtain ⟨l0, hl0⟩ : ∃ l0 : Nat, w % (Y.room.length : Int) = (l0 : Int) := ⟨(w % (Y.room.length : Int)).toNat, by omega⟩
  rw [hl0] at q2 q3 ⊢
  have iH : ∀ l : Nat, l < Y.room.length → islV 1 (.slice (some ⟨H.next + 1, 0, none⟩) Y.room.length Y.room.length) (.int .i64 (l : Int)) = some (.pointer (some ⟨H.next + 1, l, none⟩)) := fun l hl => by
    rw [islV_in (by omega) (by omega)]; simp
  have hH : ∀ l : Nat, l < Y.room.length → ∀ c, ldA (.cells true (hs.map (.int .i64)) c) false 1 l = some (.int .i64 (L.count (l : Int))) := fun l hl c => by
    rw [ldA_one, List.getElem?_map, (hcnt l hl).1]; rfl
  refine floop_intro (fun z => z.d = [] ∧ Ge A z.H ∧ z.t 1 = v ∧ z.t 2 = .pointer (some ⟨H.next, 0, none⟩) ∧ z.t 6 = t 6 ∧ z.t 7 = .slice (some ⟨H.next + 1, 0, none⟩) Y.room.length Y.room.length ∧ z.t 8 = .int .i64 i ∧ ∃ n l : Nat, n ≤ Y.room.length ∧ z.t 10 = .int .i64 n ∧ l < Y.room.length ∧ z.t 9 = .int .i64 l) (fun z => Y.room.length - (intOf (z.t 10)).toNat) ?_ ?_
  · exact ⟨rfl, g10, by simp [t1], by simp [t2], by simp, by simp [t7], by simp [t8], 0, l0, by simp, by simp, by omega, by simp⟩
  have t8o := t8
  clear t1 t2 t7 t8
  rintro ⟨t', _, B⟩ ⟨rfl, gB, t1, t2, t6, t7, t8, n, l, hn, t10, hl, t9⟩
  dsimp only at gB t1 t2 t6 t7 t8 t10 t9
  have b2 := gB.got (n := H.next) (by omega) a2
  have b1 := gB.got (n := H.next + 1) (by omega) a1
  obtain ⟨p, e1, e2⟩ := IntsAt.atAll h.room hl
  have g17 : Ge H (⟨B.get, B.next + 17⟩ : Heap) := (g.trans gB).trans (Ge.grow_le (by omega) (Ge.refl _))
  have gB17 : Ge A (⟨B.get, B.next + 17⟩ : Heap) := gB.trans (Ge.grow_le (by omega) (Ge.refl _))
  have gB27 : Ge A (⟨B.get, B.next + 17 + 10⟩ : Heap) := gB.trans (Ge.grow_le (by omega) (Ge.refl _))
  have hrm : Y.room[l]?.getD 0 = Y.room[l] := by simp [hl]
  by_cases hgo : n < Y.room.length ∧ Y.room[l] ≤ (L.count (l : Int) : Int)
  · simp [t10, t2, b2, h.room.lenV, hgo.1, t7, t9, iH l hl, b1, hH l hl, e1, e2 _ g17, hgo.2]
    rw [add_in (x := (l : Int)) (y := 1) (by omega) (by omega)]
    have r1 : binI BinOp.rem (.int .i64 ((l : Int) + 1)) (.int .i64 (Y.room.length : Int)) = some (.int .i64 (((l + 1) % Y.room.length : Nat) : Int)) := rem_int (a := l + 1) (by omega)
    have r2 : (l + 1) % Y.room.length < Y.room.length := Nat.mod_lt _ hR0
    simp [t2, b2, h.room.lenV, r1, t10, add_in (x := n) (y := 1) (by omega) (by omega)]
    refine ⟨⟨gB17, t1, t6, t7, t8, n + 1, by omega, by omega, (l + 1) % Y.room.length, r2, by simp⟩, by omega⟩
  have g27 : Ge H (⟨B.get, B.next + 17 + 10⟩ : Heap) := g.trans gB27
  have cle := (hcnt l hl).2
  rw [hrm] at cle
  have hcl : L.count (l : Int) ≤ L.length := List.count_le_length
  have sadd := add_in (x := (L.count (l : Int) : Int)) (y := 1) (by omega) (by omega)
  by_cases hfull : Y.room[l] ≤ (L.count (l : Int) : Int)
  · have hn1 : ¬ n < Y.room.length := fun e => hgo ⟨e, hfull⟩
    simp [hn1, t10, t2, b2, h.room.lenV, t7, t9, iH l hl, b1, hH l hl, e1, e2 _ g27, hfull]
    exact g27
  by_cases hn1 : n < Y.room.length
  · simp [hn1, t10, t2, b2, h.room.lenV, t7, t9, iH l hl, b1, hH l hl, e1, e2 _ g17, e2 _ g27, hfull, sadd]
    rw [if_pos (by omega), wrL_one _ _ _ (by rw [List.length_map]; omega), ← List.map_set]
    simp [t9]
    generalize hS : (Heap.set _ _ _ : Heap) = S
    have nS : S.next = B.next + 27 := by rw [← hS]; rfl
    have aS : S.get (H.next + 1) = .cells true ((hs.set l ((L.count (l : Int) : Int) + 1)).map (.int .i64)) Y.room.length := by rw [← hS]; simp
    have kS : ∀ q, q ≠ H.next + 1 → S.get q = B.get q := fun q hq => by rw [← hS]; simp [hq]
    clear hS
    have nB := gB.next
    have gS : Ge H S := ⟨by have := g.next; omega, fun q hq => (kS q (by omega)).trans ((g.trans gB).get q hq)⟩
    have oS : OwnSl S (H.next + 2) (t' 6) (L.map (.int .i64)) := by
      rw [t6]
      exact (own.ge gB).keep (by omega) fun q e => kS q (by have := (own.names e).1; omega)
    have gX := Ge.new S (.cells true [.int .i64 (l : Int)] 1)
    have nX : (S.new (.cells true [.int .i64 (l : Int)] 1)).next = S.next + 1 := rfl
    have xX : (S.new (.cells true [.int .i64 (l : Int)] 1)).get (B.next + 27) = .cells true [.int .i64 (l : Int)] 1 := by rw [← nS]; simp
    generalize (S.new (.cells true [.int .i64 (l : Int)] 1)) = X at *
    have oX := oS.ge gX
    refine fapp_own oX (slCells_new xX) rfl (by rw [List.length_map]; omega) (by omega) (by omega) (by omega) (by omega) ?_
    rintro u E o1 s1 n1 k1
    have gE : Ge H E := oX.geApp (by omega) (gS.trans gX) (by omega) (by omega) k1
    have kE : ∀ q, q < H.next + 2 → E.get q = S.get q := fun q hq => by
      rw [k1 q (by omega) (fun e => by have := (oX.names e).1; omega)]
      exact gX.get q (by omega)
    simp [t8, add_in (x := i) (y := 1) (by omega) (by omega)]
    refine ⟨⟨gE, by omega, t1, t2, t7, by rw [kE _ (by omega), kS _ (by omega)]; exact b2, i + 1, by omega, by omega, L ++ [(l : Int)], by rw [List.map_append]; exact o1, by simp [hLl], hs.set l ((L.count (l : Int) : Int) + 1), by rw [kE _ (by omega)]; exact aS, by simp [hhs], fun x hx => ?_, fun l' hl' => ?_⟩, by rw [t8o]; simp; omega⟩
    · rcases List.mem_append.1 hx with hx | hx
      · exact hLm x hx
      · simp at hx; subst hx; simp [isLaneB, inB]; omega
    · obtain ⟨c1, c2⟩ := hcnt l' hl'
      by_cases e : l' = l
      · subst e
        rw [List.getElem?_set_self (by omega), List.count_append]
        simp [hrm]
        omega
      · have e2 : ¬ (l : Int) = (l' : Int) := by omega
        rw [List.getElem?_set_ne (Ne.symm e), List.count_append, c1]
        simp [e2]
        exact c2
  · simp [hn1, t10, t2, b2, h.room.lenV, t7, t9, iH l hl, b1, hH l hl, e1, e2 _ g27, hfull, sadd]
    rw [if_pos (by omega), wrL_one _ _ _ (by rw [List.length_map]; omega), ← List.map_set]
    simp [t9]
    generalize hS : (Heap.set _ _ _ : Heap) = S
    have nS : S.next = B.next + 27 := by rw [← hS]; rfl
    have aS : S.get (H.next + 1) = .cells true ((hs.set l ((L.count (l : Int) : Int) + 1)).map (.int .i64)) Y.room.length := by rw [← hS]; simp
    have kS : ∀ q, q ≠ H.next + 1 → S.get q = B.get q := fun q hq => by rw [← hS]; simp [hq]
    clear hS
    have nB := gB.next
    have gS : Ge H S := ⟨by have := g.next; omega, fun q hq => (kS q (by omega)).trans ((g.trans gB).get q hq)⟩
    have oS : OwnSl S (H.next + 2) (t' 6) (L.map (.int .i64)) := by
      rw [t6]
      exact (own.ge gB).keep (by omega) fun q e => kS q (by have := (own.names e).1; omega)
    have gX := Ge.new S (.cells true [.int .i64 (l : Int)] 1)
    have nX : (S.new (.cells true [.int .i64 (l : Int)] 1)).next = S.next + 1 := rfl
    have xX : (S.new (.cells true [.int .i64 (l : Int)] 1)).get (B.next + 27) = .cells true [.int .i64 (l : Int)] 1 := by rw [← nS]; simp
    generalize (S.new (.cells true [.int .i64 (l : Int)] 1)) = X at *
    have oX := oS.ge gX
    refine fapp_own oX (slCells_new xX) rfl (by rw [List.length_map]; omega) (by omega) (by omega) (by omega) (by omega) ?_
    rintro u E o1 s1 n1 k1
    have gE : Ge H E := oX.geApp (by omega) (gS.trans gX) (by omega) (by omega) k1
    have kE : ∀ q, q < H.next + 2 → E.get q = S.get q := fun q hq => by
      rw [k1 q (by omega) (fun e => by have := (oX.names e).1; omega)]
      exact gX.get q (by omega)
    simp [t8, add_in (x := i) (y := 1) (by omega) (by omega)]
    refine ⟨⟨gE, by omega, t1, t2, t7, by rw [kE _ (by omega), kS _ (by omega)]; exact b2, i + 1, by omega, by omega, L ++ [(l : Int)], by rw [List.map_append]; exact o1, by simp [hLl], hs.set l ((L.count (l : Int) : Int) + 1), by rw [kE _ (by omega)]; exact aS, by simp [hhs], fun x hx => ?_, fun l' hl' => ?_⟩, by rw [t8o]; simp; omega⟩
    · rcases List.mem_append.1 hx with hx | hx
      · exact hLm x hx
      · simp at hx; subst hx; simp [isLaneB, inB]; omega
    · obtain ⟨c1, c2⟩ := hcnt l' hl'
      by_cases e : l' = l
      · subst e
        rw [List.getElem?_set_self (by omega), List.count_append]
        simp [hrm]
        omega
      · have e2 : ¬ (l : Int) = (l' : Int) := by omega
        rw [List.getElem?_set_ne (Ne.symm e), List.count_append, c1]
        simp [e2]
        exact c2

end Go.Proofs.Ytfijnkhiojejfaa

