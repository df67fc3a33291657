/-
  Joined texts of a calculus of abstract memory, of the program's code in it, and of contracts.
-/
import Derived.Test.YtjbbcpeidnkjlaaDoorJ11
namespace Go.Proofs.YtjbbcpeidnkjlaaDoor
open Go Go.Ab

abbrev chC (c : Ch) : List Value := [.int .u64 c.first, .int .i64 c.n, .int .i64 c.pay, .bool c.ok]
abbrev chV (c : Ch) : Value := .agg #[.int .u64 c.first, .int .i64 c.n, .int .i64 c.pay, .bool c.ok]

theorem better_spec (c o : Ch) (H : Heap) : AFun Tryd.prog 105 [chV c, chV o] H (fun r B => r = .bool (better c o) ∧ Ge H B) := by
  refine AFun.mk ok105 hm (Nat.le_of_ble_eq_true rfl) ?_
  have G : Ge H ((H.new (.cells true (chC c) 4)).new (.cells true (chC o) 4)) := (Ge.new _ _).newOf _
  simp [a105, r105]
  unfold better
  cases hc : c.ok
  · simp [hc]
  cases ho : o.ok
  · simp [hc, ho]
  simp [hc, ho]
  by_cases hn : (c.n : Int) = (o.n : Int)
  · have hn' : c.n = o.n := by omega
    simp [hn, hn']
  · have hn' : ¬ c.n = o.n := by omega
    simp [hn, hn']

theorem choose_bounds {L : List Nat} {pay : Nat → Int} (hL : SetsOk L) (hp : ∀ d ∈ L, 0 ≤ pay d ∧ pay d ≤ 100000) : ∀ (m : Nat), (choose L pay m).n ≤ m ∧ 0 ≤ (choose L pay m).pay ∧ (choose L pay m).pay ≤ 100000 * (choose L pay m).n := by
  intro m
  induction m using Nat.strongRecOn with
  | _ m ih =>
    by_cases h0 : m = 0
    · subst h0; rw [choose_zero]; simp
    rcases choose_made (pay := pay) hL h0 with e | ⟨_, d, hd, hs, _, e⟩
    · rw [e]; simp [noCh]
    · have hdL := (List.mem_filter.1 hd).1
      have hlt := sub_less (hL d hdL).1 hs
      obtain ⟨i1, i2, i3⟩ := ih _ hlt
      have hpd := hp d hdL
      rw [e]
      simp only [nextC]
      omega

structure Sit (A : Heap) (L : List Nat) (pay : Nat → Int) (n1 n2 n3 n4 mk mb mp : Nat) : Prop where
  c1 : A.get n1 = .cells true [.map (some mk)] 1
  c2 : A.get n2 = .cells true [.map (some mb)] 1
  c3 : A.get n3 = .cells true [.func (.func 104) #[] #[.pointer (some ⟨n1, 0, none⟩), .pointer (some ⟨n2, 0, none⟩), .pointer (some ⟨n3, 0, none⟩), .pointer (some ⟨n4, 0, none⟩)]] 1
  c4 : A.get n4 = .cells true [.map (some mp)] 1
  lt : n1 < A.next ∧ n2 < A.next ∧ n3 < A.next ∧ n4 < A.next ∧ mk < A.next ∧ mb < A.next ∧ mp < A.next
  ne : n1 ≠ mk ∧ n2 ≠ mk ∧ n3 ≠ mk ∧ n4 ≠ mk ∧ mb ≠ mk ∧ mp ≠ mk
  pays : ∃ f, MapFn A mp f ∧ ∀ d ∈ L, f d = some (.int .i64 (pay d))
  begs : ∃ f, MapFn A mb f ∧ ∀ i, i < 10 → SlR A 1 ((f (2 ^ i)).getD (.slice none 0 0)) (L.filter fun d => low d == i).length ((L.filter fun d => low d == i).map bitsV)

theorem Sit.keep {A B : Heap} {L : List Nat} {pay : Nat → Int} {n1 n2 n3 n4 mk mb mp : Nat} (h : Sit A L pay n1 n2 n3 n4 mk mb mp) (hm : ∃ es c, A.get mk = .map es c) (g : GeX mk A B) : Sit B L pay n1 n2 n3 n4 mk mb mp := by
  obtain ⟨c1, c2, c3, c4, ⟨l1, l2, l3, l4, l5, l6, l7⟩, ⟨e1, e2, e3, e4, e5, e6⟩, ⟨fp, p1, p2⟩, ⟨fb, b1, b2⟩⟩ := h
  have gn := g.next
  exact ⟨(g.get _ l1 e1).trans c1, (g.get _ l2 e2).trans c2, (g.get _ l3 e3).trans c3, (g.get _ l4 e4).trans c4, ⟨by omega, by omega, by omega, by omega, by omega, by omega, by omega⟩, ⟨e1, e2, e3, e4, e5, e6⟩,
    ⟨fp, p1.keep (g.get _ l7 e6), p2⟩, ⟨fb, b1.keep (g.get _ l6 e5), fun i hi => (b2 i hi).geX hm g⟩⟩

structure KnownC (A : Heap) (L : List Nat) (pay : Nat → Int) (mk : Nat) (f : Nat → Option Value) : Prop where
  map : MapFn A mk f
  zero : f 0 = some (chV ⟨0, 0, 0, true⟩)
  val : ∀ k v, f k = some v → v = chV (choose L pay k) ∧ ((choose L pay k).first ≠ 0 → (f (diffN k (choose L pay k).first)).isSome = true)
theorem KnownC.keep {A B : Heap} {L : List Nat} {pay : Nat → Int} {mk : Nat} {f : Nat → Option Value} (h : KnownC A L pay mk f) (e : B.get mk = A.get mk) : KnownC B L pay mk f := ⟨h.map.keep e, h.zero, h.val⟩

theorem flat_ch0 : flat (.agg #[.int .u64 0, .int .i64 0, .int .i64 0, .bool false]) = true := by simp [flat, flat1]
theorem flat_nil : flat (.slice none 0 0) = true := by simp [flat, flat1]

section
variable {L : List Nat} {pay : Nat → Int} {n1 n2 n3 n4 mk mb mp : Nat}
theorem chooseF_spec (hL : SetsOk L) (hpay : ∀ d ∈ L, 0 ≤ pay d ∧ pay d ≤ 100000) (hlen : L.length ≤ 1024) : ∀ (m : Nat), m < 1024 → ∀ (H : Heap) (f : Nat → Option Value), Sit H L pay n1 n2 n3 n4 mk mb mp → KnownC H L pay mk f →
    AFun Tryd.prog 104 [bitsV m, .pointer (some ⟨n1, 0, none⟩), .pointer (some ⟨n2, 0, none⟩), .pointer (some ⟨n3, 0, none⟩), .pointer (some ⟨n4, 0, none⟩)] H
      (fun r B => r = chV (choose L pay m) ∧ GeX mk H B ∧ ∃ f', KnownC B L pay mk f' ∧ (∀ k, (f k).isSome = true → (f' k).isSome = true) ∧ (f' m).isSome = true) := by
  intro m
  induction m using Nat.strongRecOn with
  | _ m ih =>
    intro hm10 H f hS hK
    refine AFun.mk ok104 hm (Nat.le_of_ble_eq_true rfl) ?_
    have hlk : ∀ A : Heap, A.get mk = H.get mk → lkpH Tryd.prog 102 (.agg #[.int .u64 0, .int .i64 0, .int .i64 0, .bool false]) A (bitsV m) (.map (some mk)) = some (.tuple #[(f m).getD (.agg #[.int .u64 0, .int .i64 0, .int .i64 0, .bool false]), .bool (f m).isSome]) :=
      fun A hA => (hK.map.keep hA).lkp flat_ch0 m
    obtain ⟨l1, l2, l3, l4, l5, l6, l7⟩ := hS.lt
    have z1 : n1 ≠ H.next := by omega
    have zk : mk ≠ H.next := by omega
    simp [a104, r104, z1, hS.c1]
    rw [hlk _ (by simp [zk])]
    cases hf : f m with
    | some v =>
      obtain ⟨rfl, hcl⟩ := hK.val m v hf
      simp
      refine ⟨GeX.of ?_, f, hK.keep ?_, fun k hk => hk, by rw [hf]; rfl⟩
      · exact (((Ge.new _ _).newOf _).setNew (by simp) _).setNew (by simp) _
      · have zk1 : mk ≠ H.next + 1 := by omega
        simp [zk, zk1]
    | none =>
      have h0 : m ≠ 0 := fun e => by rw [e, hK.zero] at hf; cases hf
      have z20 : n2 ≠ H.next := by omega
      have z21 : n2 ≠ H.next + 1 := by omega
      have z22 : n2 ≠ H.next + 2 := by omega
      simp [z20, z21, z22, hS.c2]
      refine fcall_fun (lowest_spec h0 hm10 _) ?_
      rintro _ B ⟨rfl, hB⟩
      obtain ⟨fb, b1, b2⟩ := hS.begs
      have hlow := low_facts h0 hm10
      have gB : Ge H B := by
        rw [hB]
        refine Ge.grow_le (by omega) ?_
        exact ((((Ge.new _ _).newOf _).setNew (by simp) _).newOf _)
      have nB : B.next = H.next + 9 := by rw [hB]
      have k6 : B.get H.next = .cells true [.int .u64 0, .int .i64 0, .int .i64 0, .bool false] 4 := by rw [hB]; simp
      have k9 : B.get (H.next + 2) = .cells true [.int .u64 0, .int .i64 0, .int .i64 0, .bool false] 4 := by rw [hB]; simp
      have hl1 := (b1.ge gB l6).lk1 flat_nil (2 ^ low m)
      have hslH := b2 (low m) hlow.2.1
      generalize hv : (fb (2 ^ low m)).getD (.slice none 0 0) = v at hl1 hslH
      clear hB
      have hLmL : ∀ d ∈ L.filter (fun d => low d == low m), d ∈ L ∧ low d = low m := fun d hd => by
        obtain ⟨h1, h2⟩ := List.mem_filter.1 hd
        exact ⟨h1, by simpa using h2⟩
      have hLml : (L.filter (fun d => low d == low m)).length ≤ 1024 := Nat.le_trans (List.length_filter_le _ _) hlen
      have hstep := choose_step (pay := pay) hL h0
      have hmk := hK.map.isMap
      simp [hl1, hslH.lenV, z20, z21, z22, (gB.got l2 hS.c2)]
      generalize hLm : L.filter (fun d => low d == low m) = Lm at *
      have zk1 : mk ≠ H.next + 1 := by omega
      have zk2 : mk ≠ H.next + 2 := by omega
      obtain ⟨q1, q2, q3, q4, q5, q6⟩ := hS.ne
      refine floop_intro (fun z => z.d = [] ∧ GeX mk H z.H ∧ H.next + 3 ≤ z.H.next ∧ z.t 0 = bitsV m ∧ z.t 1 = .pointer (some ⟨n1, 0, none⟩) ∧ z.t 2 = .pointer (some ⟨n2, 0, none⟩) ∧ z.t 3 = .pointer (some ⟨n3, 0, none⟩) ∧ z.t 4 = .pointer (some ⟨n4, 0, none⟩) ∧ z.t 6 = .pointer (some ⟨H.next, 0, none⟩) ∧ z.t 9 = .pointer (some ⟨H.next + 2, 0, none⟩) ∧ z.t 25 = v ∧ z.t 26 = .int .i64 (Lm.length : Int) ∧ z.H.get H.next = .cells true [.int .u64 0, .int .i64 0, .int .i64 0, .bool false] 4 ∧
        ∃ (i : Nat) (fz : Nat → Option Value), i ≤ Lm.length ∧ z.t 27 = .int .i64 (i : Int) ∧ z.H.get (H.next + 2) = .cells true (chC ((Lm.take i).foldl (stepC (choose L pay) pay m) noCh)) 4 ∧ KnownC z.H L pay mk fz ∧ (∀ k, (f k).isSome = true → (fz k).isSome = true) ∧ (((Lm.take i).foldl (stepC (choose L pay) pay m) noCh).first ≠ 0 → (fz (diffN m ((Lm.take i).foldl (stepC (choose L pay) pay m) noCh).first)).isSome = true)) (fun z => Lm.length - (intOf (z.t 27)).toNat) ?_ ?_
      · refine ⟨rfl, GeX.of gB, (by show H.next + 3 ≤ B.next; omega), by simp, by simp, by simp, by simp, by simp, by simp, by simp, by simp, by simp, k6, 0, f, by omega, by simp, ?_, hK.keep (gB.get _ l5), fun k hk => hk, fun h => absurd rfl h⟩
        exact k9
      clear hl1 gB nB k6 k9
      rintro ⟨t, _, A⟩ ⟨rfl, gX, hn, t0, t1, t2, t3, t4, t6, t9, t25, t26, k6, i, fz, hi, t27, k9, hKz, hmono, hcl⟩
      dsimp only at gX hn t0 t1 t2 t3 t4 t6 t9 t25 t26 k6 t27 k9 hKz
      have SA := hS.keep hmk gX
      have hsl := hslH.geX hmk gX
      simp [t26, t27]
      refine fcond_intro (fun hc => ?_) (fun hc => ?_)
      case refine_2 =>
        have hiL : i = Lm.length := by simp at hc; omega
        rw [hiL, List.take_length, ← hstep] at k9 hcl
        obtain ⟨x, hx1, hx2⟩ := hKz.map.put m (chV (choose L pay m))
        have w1 : H.next ≠ mk := by omega
        have w2 : H.next + 2 ≠ mk := by omega
        have w3 : H.next + 2 ≠ H.next := by omega
        simp [t0, t1, t6, t9, SA.c1, k9, hx1, w1, w2, w3, k6]
        refine ⟨⟨by simp; omega, fun n hn hne => ?_⟩, putF fz m (chV (choose L pay m)), ⟨hx2 _ (by simp [zk]), ?_, ?_⟩, ?_, ?_⟩
        · have e1 : n ≠ H.next := by omega
          simp [e1, hne, gX.get n hn hne]
        · simp only [putF, Ne.symm h0, if_false]; exact hKz.zero
        · intro k u hu
          unfold putF at hu
          by_cases hk : k = m
          · subst hk
            rw [if_pos rfl] at hu
            refine ⟨(Option.some.inj hu).symm, fun hne => ?_⟩
            unfold putF
            split
            · rfl
            · exact hcl hne
          · rw [if_neg hk] at hu
            refine ⟨(hKz.val k u hu).1, fun hne => ?_⟩
            unfold putF
            split
            · rfl
            · exact (hKz.val k u hu).2 hne
        · intro k hk
          unfold putF
          split
          · rfl
          · exact hmono k hk
        · simp [putF]
      have h1 : i < Lm.length := by simpa using hc
      obtain ⟨q, e1, e2⟩ := hsl.at1 (k := .i64) (i := i) (by simpa using h1)
      have e3 : (Lm.map bitsV)[i]? = some (bitsV Lm[i]) := by simp [h1]
      rw [e3] at e2
      obtain ⟨hdL, hdlow⟩ := hLmL Lm[i] (List.getElem_mem h1)
      have hd0 := hL _ hdL
      have hfold : (Lm.take (i + 1)).foldl (stepC (choose L pay) pay m) noCh = stepC (choose L pay) pay m ((Lm.take i).foldl (stepC (choose L pay) pay m) noCh) Lm[i] := by
        rw [List.take_succ_eq_append_getElem h1, List.foldl_append]; rfl
      generalize hbest : (Lm.take i).foldl (stepC (choose L pay) pay m) noCh = best at *
      generalize hnext : (Lm.take (i + 1)).foldl (stepC (choose L pay) pay m) noCh = after at *
      generalize Lm[i] = d at *
      simp [t25, t27, e1, e2, t0]
      rw [aval_diff (a := d) (b := m) (by simp) (by simp) (by decide) (by decide) (by omega) (by omega)]
      by_cases hs : diffN d m = 0
      case neg =>
        have hab : after = best := by rw [hfold, stepC, if_pos hs]
        simp [hs, t27, add_in (x := i) (y := 1) (by omega) (by omega)]
        exact ⟨⟨gX, hn, t0, t1, t2, t3, t4, t6, t9, t25, t26, k6, i + 1, by omega, by omega, by rw [hnext, hab]; simpa using k9, fz, hKz, hmono, by rw [hnext, hab]; exact hcl⟩, by omega⟩
      have hlt := sub_less hd0.1 hs
      simp [hs, t0, t3, SA.c3]
      rw [aval_diff (a := m) (b := d) (by simp) (by simp) (by decide) (by decide) (by omega) (by omega)]
      simp
      refine fcall_intro ((ACall.of_fun (R := fun r B => r = chV (choose L pay (diffN m d)) ∧ GeX mk A B ∧ ∃ f', KnownC B L pay mk f' ∧ (∀ k, (fz k).isSome = true → (f' k).isSome = true) ∧ (f' (diffN m d)).isSome = true) (by simpa using ih (diffN m d) hlt (by omega) A fz SA hKz)).mono ?_)
      rintro _ C ⟨rfl, gC, f2, hK2, mono2, hsome⟩
      have SC := SA.keep hKz.map.isMap gC
      have nC := gC.next
      have k6C := (gC.get H.next (by omega) (Ne.symm zk)).trans k6
      have k9C := (gC.get (H.next + 2) (by omega) (Ne.symm zk2)).trans k9
      obtain ⟨fp, hfp1, hfp2⟩ := SC.pays
      have hlp : ∀ X : Heap, X.get mp = C.get mp → lk1H Tryd.prog 102 (.int .i64 0) X (bitsV d) (.map (some mp)) = some (.int .i64 (pay d)) := fun X hX => by
        rw [(hfp1.keep hX).lk1 (by simp [flat, flat1]), hfp2 d hdL]; rfl
      obtain ⟨r1, r2, r3⟩ := choose_bounds hL hpay (diffN m d)
      have hpd := hpay d hdL
      have hnc : nextC (choose L pay (diffN m d)) d (pay d) = ⟨d, (choose L pay (diffN m d)).n + 1, (choose L pay (diffN m d)).pay + pay d, (choose L pay (diffN m d)).ok⟩ := rfl
      have hst : after = if better (nextC (choose L pay (diffN m d)) d (pay d)) best then nextC (choose L pay (diffN m d)) d (pay d) else best := by rw [hfold, stepC, if_neg (by simp [hs])]
      generalize choose L pay (diffN m d) = r at *
      have y4 : n4 ≠ C.next := by omega
      have yp : mp ≠ C.next := by omega
      have yk : mk ≠ C.next := by omega
      have yk1 : mk ≠ C.next + 1 := by omega
      have y9 : H.next + 2 ≠ C.next := by omega
      have y91 : H.next + 2 ≠ C.next + 1 := by omega
      have y6 : H.next ≠ C.next := by omega
      have y61 : H.next ≠ C.next + 1 := by omega
      simp [t4, t9, y4, SC.c4, add_in (x := (r.n : Int)) (y := 1) (by omega) (by omega)]
      rw [hlp _ (by simp [yp])]
      simp [t9, y9, y91, k9C, add_in (x := r.pay) (y := pay d) (by omega) (by omega)]
      have hb := fun X : Heap => better_spec (nextC r d (pay d)) best X
      rw [hnc] at hb hst
      refine fcall_fun (hb _) ?_
      rintro _ D ⟨rfl, gD⟩
      have gCD := Ge.trans (((((Ge.new C _).setNew (Nat.le_refl _) _).newOf _).setNew (by simp) _)) gD
      have nD := gD.next
      simp at nD
      have k13 := gD.got (n := C.next + 1) (by simp) rfl
      simp at k13
      have k6D := gCD.got (n := H.next) (by omega) k6C
      have k9D := gCD.got (n := H.next + 2) (by omega) k9C
      have hKD := hK2.keep (gCD.get mk (by omega))
      have gXD : GeX mk H D := (gX.trans gC).trans (GeX.of gCD)
      have hmonoD : ∀ k, (f k).isSome = true → (f2 k).isSome = true := fun k hk => mono2 k (hmono k hk)
      have w1 : H.next + 2 ≠ mk := by omega
      have w3 : H.next ≠ H.next + 2 := by omega
      have w4 : mk ≠ H.next + 2 := by omega
      cases hbt : better ⟨d, r.n + 1, r.pay + pay d, r.ok⟩ best
      · rw [hbt] at hst
        simp only [Bool.false_eq_true, if_false] at hst
        simp [t27, add_in (x := i) (y := 1) (by omega) (by omega)]
        exact ⟨⟨gXD, by omega, t0, t1, t2, t3, t4, t6, t9, t25, t26, k6D, i + 1, by omega, by omega, by rw [hnext, hst]; simpa using k9D, f2, hKD, hmonoD, by rw [hnext, hst]; exact fun h => mono2 _ (hcl h)⟩, by omega⟩
      · rw [hbt] at hst
        simp only [if_true] at hst
        simp [t9, t27, k9D, k13, add_in (x := i) (y := 1) (by omega) (by omega)]
        refine ⟨⟨⟨by have := gXD.next; simp; omega, fun n hn hne => ?_⟩, by omega, t0, t1, t2, t3, t4, t6, t25, t26, by simp [w3, k6D], i + 1, by omega, by omega, ?_, f2, hKD.keep (by simp [w4]), hmonoD, ?_⟩, by omega⟩
        · have e1 : n ≠ H.next + 2 := by omega
          simp [e1, gXD.get n hn hne]
        · rw [hnext, hst]; simp
        · rw [hnext, hst]; exact fun _ => hsome
end

end Go.Proofs.YtjbbcpeidnkjlaaDoor


namespace Go.Proofs.YtjbbcpeidnkjlaaDoor
open Go Go.Ab

theorem sub_bits {a : Nat} {z : Int} (hz : z = 1) (h0 : 1 ≤ a) (h : a < 2 ^ 64) : binI BinOp.sub (bitsV a) (.int .u64 z) = some (bitsV (a - 1)) := by
  have e : binI BinOp.sub (bitsV a) (.int .u64 z) = some (.int .u64 (IntKind.u64.wrap ((a : Int) - z))) := rfl
  have e2 : (a : Int) - z = ((a - 1 : Nat) : Int) := by omega
  rw [e, e2, wrap_u64 (by omega)]
theorem add_bits {a : Nat} {z : Int} (hz : z = 1) (h : a + 1 < 2 ^ 64) : binI BinOp.add (bitsV a) (.int .u64 z) = some (bitsV (a + 1)) := by
  have e : binI BinOp.add (bitsV a) (.int .u64 z) = some (.int .u64 (IntKind.u64.wrap ((a : Int) + z))) := rfl
  have e2 : (a : Int) + z = ((a + 1 : Nat) : Int) := by omega
  rw [e, e2, wrap_u64 h]

abbrev segN (D : Dy) : Nat := (segPs D).length
theorem segN_le {D : Dy} (hV : Valid D) : segN D ≤ 10 := by have := hV.segs; rw [← segPs_length] at this; exact this
theorem pow_segN {D : Dy} (hV : Valid D) : 1 ≤ 2 ^ segN D ∧ 2 ^ segN D ≤ 1024 := ⟨Nat.one_le_two_pow, Nat.pow_le_pow_right (n := 2) (by omega) (segN_le hV)⟩

section
variable {D : Dy} {K : List (List (Int × Int))} {b w s k q : Value} {H : Heap}
theorem all_spec (hP : PlanAt H b w s k q D K) (hV : Valid D) : AFun Tryd.prog 98 [planV D b w s k q] H (fun r B => r = bitsV (2 ^ segN D - 1) ∧ Ge H B) := by
  refine AFun.mk ok98 hm (Nat.le_of_ble_eq_true rfl) ?_
  have hb := hP.day.blocks.one
  have hw := hP.day.walk.one
  have hs := hP.segs.one
  have hk := hP.known.one
  have hq : one q = true := SlR.one hP.quest
  have h10 := segN_le hV
  obtain ⟨hp1, hp2⟩ := pow_segN hV
  simp [a98, r98, hb, hw, hs, hk, hq, hP.segs.lenV]
  refine fcall_fun (setOf_spec (segN D) (by omega) _) ?_
  rintro _ _ ⟨rfl, rfl⟩
  simp [sub_bits rfl hp1 (by omega)]

def passL (p : Nat → Bool) (i : Nat) : List Nat := (List.range' 1 (i - 1)).filter p
theorem passL_step {p : Nat → Bool} {i : Nat} (h : 1 ≤ i) : passL p (i + 1) = if p i then passL p i ++ [i] else passL p i := by
  unfold passL
  obtain ⟨j, rfl⟩ : ∃ j, i = j + 1 := ⟨i - 1, by omega⟩
  simp only [Nat.add_sub_cancel]
  rw [List.range'_concat, List.filter_append]
  rw [show 1 + 1 * j = j + 1 by omega]
  cases hp : p (j + 1) <;> simp [hp]
theorem passL_length {p : Nat → Bool} {i : Nat} : (passL p i).length ≤ i := by
  unfold passL
  have := List.length_filter_le p (List.range' 1 (i - 1))
  simp at this
  omega
theorem passL_mem {p : Nat → Bool} {i d : Nat} : d ∈ passL p i ↔ (1 ≤ d ∧ d < i) ∧ p d = true := by
  unfold passL
  rw [List.mem_filter, List.mem_range']
  constructor
  · rintro ⟨⟨j, h1, rfl⟩, h2⟩; exact ⟨by omega, h2⟩
  · rintro ⟨h1, h2⟩; exact ⟨⟨d - 1, by omega, by omega⟩, h2⟩

theorem dutiesThat_spec {p : Nat → Bool} {pv : Value} (hP : PlanAt H b w s k q D K) (hV : Valid D) (hp : ∀ A m, Ge H A → m ≠ 0 → m < 2 ^ segN D → ACall Tryd.prog pv [bitsV m] A (fun r B => r = .bool (p m) ∧ Ge A B)) :
    AFun Tryd.prog 119 [planV D b w s k q, pv] H (fun r B => OwnSl B H.next r ((passL p (2 ^ segN D)).map bitsV) ∧ Ge H B) := by
  refine AFun.mk ok119 hm (Nat.le_of_ble_eq_true rfl) ?_
  have hb := hP.day.blocks.one
  have hw := hP.day.walk.one
  have hs := hP.segs.one
  have hk := hP.known.one
  have hq : one q = true := SlR.one hP.quest
  obtain ⟨hp1, hp2⟩ := pow_segN hV
  simp [a119, r119, hb, hw, hs, hk, hq]
  refine floop_intro (fun z => z.d = [] ∧ Ge H z.H ∧ H.next < z.H.next ∧ z.t 1 = pv ∧ z.t 2 = .pointer (some ⟨H.next, 0, none⟩) ∧ z.H.get H.next = .cells true (planV D b w s k q).cells.toList 13 ∧ ∃ i : Nat, 1 ≤ i ∧ i ≤ 2 ^ segN D ∧ z.t 6 = bitsV i ∧ OwnSl z.H (H.next + 1) (z.t 5) ((passL p i).map bitsV)) (fun z => 2 ^ segN D - (intOf (z.t 6)).toNat) ?_ ?_
  · exact ⟨rfl, by simp, by simp, by simp, by simp, by simp [Value.cells], 1, by omega, hp1, by simp, .inl ⟨by simp, by simp [passL]⟩⟩
  rintro ⟨t, _, A⟩ ⟨rfl, g, hn, t1, t2, kd, i, hi1, hi, t6, o5⟩
  dsimp only at g hn t1 t2 kd t6 o5
  simp [Value.cells] at kd
  generalize t5 : t 5 = v5 at o5
  simp [t1, t2, t6, kd]
  refine fcall_fun (all_spec (hP.ge g) hV) ?_
  rintro _ A1 ⟨rfl, gA⟩
  have g1 := gA
  have n1 := g1.next
  simp [t6]
  by_cases hc : i ≤ 2 ^ segN D - 1
  case neg =>
    have e : i = 2 ^ segN D := by omega
    subst e
    simp [hc, t5]
    exact ⟨(o5.ge gA).lower (by omega), g.trans gA⟩
  simp [hc, t1, t6]
  refine fcall_intro ((hp A1 i (g.trans gA) (by omega) (by omega)).mono ?_)
  rintro _ A2 ⟨rfl, g2⟩
  have G2 := gA.trans g2
  have n2 := g2.next
  have kd2 := G2.got hn kd
  have hstep := passL_step (p := p) hi1
  have hadd := add_bits (a := i) (z := 1) rfl (by omega)
  cases hpi : p i
  · simp [t6, hadd]
    rw [hpi] at hstep
    simp only [Bool.false_eq_true, if_false] at hstep
    exact ⟨⟨g.trans G2, by omega, t1, t2, by simpa [Value.cells] using kd2, i + 1, by omega, by omega, rfl, by rw [hstep, t5]; exact o5.ge G2⟩, by omega⟩
  · rw [hpi] at hstep
    simp only [if_true] at hstep
    simp [t5, t6]
    have hlen := passL_length (p := p) (i := i)
    refine fapp_own (lo := H.next + 1) (x := bitsV i) ((o5.ge G2).ge (Ge.new _ _)) (slCells_new (rw := true) (c := 1) (by simp)) rfl (by simp; omega) (by omega) (by simp) (by omega) (by simp; omega) fun u3 C k3 k4 k5 k6 => ?_
    have h5n : ∀ m, slName v5 = some m → H.next + 1 ≤ m := fun m hm => (o5.names hm).1
    have gC : Ge H C := ⟨by have := g.next; omega, fun n hn => by
      have f0 := g.next
      have f3 : n ≠ A2.next := by omega
      rw [k6 n (by omega) (fun e => by have := h5n n e; omega)]; simp [f3]
      rw [G2.get n (by omega)]; exact g.get n hn⟩
    have kC : C.get H.next = A2.get H.next := (k6 H.next (by omega) (fun e => by have := h5n _ e; omega)).trans (by rw [Heap.new_get, if_neg (by omega)])
    simp [t6, hadd]
    refine ⟨⟨gC, by omega, t1, t2, by simpa [Value.cells] using kC.trans kd2, i + 1, by omega, by omega, rfl, ?_⟩, by omega⟩
    rw [hstep, List.map_append]
    exact k3

def legalN (D : Dy) (K : List (List (Int × Int))) (m : Nat) : Bool := legalB D K (piecesL D m)
def legalL (D : Dy) (K : List (List (Int × Int))) : List Nat := passL (legalN D K) (2 ^ segN D)

theorem legalDuties_spec (hP : PlanAt H b w s k q D K) (hV : Valid D) (hK : KOk D K) :
    AFun Tryd.prog 99 [planV D b w s k q] H (fun r B => OwnSl B H.next r ((legalL D K).map bitsV) ∧ Ge H B) := by
  refine AFun.mk ok99 hm (Nat.le_of_ble_eq_true rfl) ?_
  have hb := hP.day.blocks.one
  have hw := hP.day.walk.one
  have hs := hP.segs.one
  have hk := hP.known.one
  have hq : one q = true := SlR.one hP.quest
  simp [a99, r99, hb, hw, hs, hk, hq]
  have G0 : Ge H (H.new (.cells true (planCells D b w s k q) 13)) := Ge.new _ _
  refine fcall_fun (dutiesThat_spec (p := legalN D K) (hP.ge G0) hV fun A m gA h0 hlt => ?_) ?_
  · refine ACall.of_fun ?_
    exact isLegal_spec (hP.ge (G0.trans gA)) hV hK hlt h0
  rintro r B ⟨o, g⟩
  simp
  exact ⟨o.lower (by simp), G0.trans g⟩

end

end Go.Proofs.YtjbbcpeidnkjlaaDoor


namespace Go.Proofs.YtjbbcpeidnkjlaaDoor
open Go Go.Ab

section
variable {P : Program} {t : Nat → Value} {H : Heap} {N x y : Nat} {d : Option Tmp} {T U ty : TypeId} {pos : String} {af : Array Edge} {g : Option (Nat × Bool)}
theorem wrap_i64n {p : Nat} (h : p < 2 ^ 62) : IntKind.i64.wrap (p : Int) = (p : Int) := wrap_i64 (by omega) (by omega)
end

def bitsI (l : List Nat) : List Int := l.map fun (x : Nat) => (x : Int)
def setR (n m : Nat) : List Int := bitsI (bitsFrom n m 0)
theorem bitsUp {m j : Nat} : bitsFrom (j + 1) m 0 = if m.testBit j then bitsFrom j m 0 ++ [j] else bitsFrom j m 0 := by
  unfold bitsFrom
  simp only [Nat.sub_zero]
  rw [List.range'_concat, List.filter_append]
  simp only [Nat.zero_add, Nat.one_mul]
  cases hp : m.testBit j <;> simp [hp]
theorem setR_step {m j : Nat} : setR (j + 1) m = if m.testBit j then setR j m ++ [(j : Int)] else setR j m := by
  unfold setR
  rw [bitsUp]
  cases hp : m.testBit j <;> simp [bitsI]
theorem setR_length {n m : Nat} : (setR n m).length ≤ n := by
  have := List.length_filter_le (fun x => m.testBit x) (List.range' 0 (n - 0))
  simpa [setR, bitsI, bitsFrom] using this
end Go.Proofs.YtjbbcpeidnkjlaaDoor


namespace Go.Proofs.YtjbbcpeidnkjlaaDoor
open Go Go.Ab

theorem setR_mem {n m : Nat} {x : Int} : x ∈ setR n m ↔ ∃ s : Nat, x = (s : Int) ∧ s < n ∧ m.testBit s = true := by
  unfold setR bitsI
  rw [List.mem_map]
  constructor
  · rintro ⟨s, hs, rfl⟩; exact ⟨s, rfl, bitsFrom_mem.1 hs⟩
  · rintro ⟨s, rfl, hs⟩; exact ⟨s, bitsFrom_mem.2 hs, rfl⟩
theorem setR_has {n m s : Nat} : (s : Int) ∈ setR n m ↔ s < n ∧ m.testBit s = true := by
  rw [setR_mem]
  constructor
  · rintro ⟨s', h, h2⟩
    have : s = s' := by omega
    subst this; exact h2
  · exact fun h => ⟨s, rfl, h⟩
theorem bit_lt {m n i : Nat} (hm : m < 2 ^ n) (hi : m.testBit i = true) : i < n := by
  refine Nat.lt_of_not_le fun hle => ?_
  have : m < 2 ^ i := Nat.lt_of_lt_of_le hm (Nat.pow_le_pow_right (n := 2) (by omega) hle)
  rw [Nat.testBit_lt_two_pow this] at hi
  cases hi
theorem setR_mask {n m : Nat} (h : m < 2 ^ n) : maskL (setR n m) = m := by
  refine Nat.eq_of_testBit_eq fun i => ?_
  rw [maskL_bit, Bool.eq_iff_iff, List.any_eq_true]
  constructor
  · rintro ⟨x, hx, he⟩
    obtain ⟨s, rfl, _, hs⟩ := setR_mem.1 hx
    have : s = i := by simpa using he
    rw [← this]; exact hs
  · intro hi
    exact ⟨(i : Int), setR_has.2 ⟨bit_lt h hi, hi⟩, by simp⟩
theorem rise_duty {n : Nat} {l : List Nat} (h : l.Pairwise (· < ·)) (hb : ∀ x ∈ l, x < n) (h0 : l ≠ []) : isDutyB n (bitsI l) = true := by
  unfold isDutyB riseB
  have hl : (bitsI l).length = l.length := by simp [bitsI]
  rw [Bool.and_eq_true, List.all_eq_true, decide_eq_true_eq]
  refine ⟨fun j hj => ?_, by rw [hl]; exact List.length_pos_iff.2 h0⟩
  rw [List.mem_range, hl] at hj
  have e1 : (bitsI l)[j]?.getD 0 = (l[j] : Int) := by simp [bitsI, hj]
  have hlt := hb l[j] (List.getElem_mem hj)
  unfold riseAt
  rw [e1, Bool.and_eq_true, decide_eq_true_eq, decide_eq_true_eq]
  refine ⟨?_, by omega⟩
  unfold lastAt
  by_cases hj0 : j = 0
  · simp [hj0]
  have hj1 : j - 1 < l.length := by omega
  have e2 : (bitsI l)[j - 1]?.getD 0 = (l[j - 1] : Int) := by simp [bitsI, hj1]
  rw [if_neg hj0, e2]
  have := List.pairwise_iff_getElem.1 h (j - 1) j hj1 hj (by omega)
  omega
theorem setR_duty {n m : Nat} (h0 : m ≠ 0) (h : m < 2 ^ n) : isDutyB n (setR n m) = true := by
  refine rise_duty bitsFrom_rise (fun x hx => (bitsFrom_mem.1 hx).1) fun e => h0 ?_
  refine Nat.eq_of_testBit_eq fun i => ?_
  rw [Nat.zero_testBit]
  cases hi : m.testBit i
  · rfl
  · have := bitsFrom_mem.2 ⟨bit_lt h hi, hi⟩
    rw [e] at this; cases this

end Go.Proofs.YtjbbcpeidnkjlaaDoor


namespace Go.Proofs.YtjbbcpeidnkjlaaDoor
open Go Go.Ab

theorem own_S {A : Heap} {lo : Nat} {u : Value} {l : List Int} (h : OwnSl A lo u (l.map (.int .i64))) : OwnS A lo 1 u l.length (l.flatMap iCell) := by
  rw [iCell_flat]
  rcases h with ⟨rfl, h0⟩ | ⟨n, cap, c, rfl, k1, k2, k3, k4, k5⟩
  · have h00 : l.length = 0 := by have := congrArg List.length h0; simpa using this
    exact .inl ⟨rfl, h00, h0⟩
  · exact .inr ⟨n, cap, c, by simp, k1, k2, k3, by simp, by simpa using k4, by omega⟩

def rowOf (d : Nat) : List Int := bitsI (bitsL d)
theorem rowOf_length {d : Nat} : (rowOf d).length ≤ 10 := by
  have := List.length_filter_le (fun x => d.testBit x) (List.range' 0 10)
  simpa [rowOf, bitsI, bitsL, bitsFrom] using this

theorem first_mem {L : List Nat} {pay : Nat → Int} (hL : SetsOk L) {m : Nat} (hf : (choose L pay m).first ≠ 0) : (choose L pay m).first ∈ L ∧ diffN (choose L pay m).first m = 0 := by
  have h0 : m ≠ 0 := fun e => by subst e; rw [choose_zero] at hf; exact hf rfl
  rcases choose_made hL h0 with e | ⟨_, d, hd, hs, _, e⟩
  · rw [e] at hf; exact absurd rfl hf
  have ef : (choose L pay m).first = d := by rw [e]; rfl
  rw [ef]
  exact ⟨(List.mem_filter.1 hd).1, hs⟩

theorem plan_spec {L : List Nat} {pay : Nat → Int} {mk m : Nat} {H : Heap} {f : Nat → Option Value} (hL : SetsOk L) (hm10 : m < 1024) (hK : KnownC H L pay mk f) (hmk : mk < H.next) (hf : (f m).isSome = true) (hG : Gl H) :
    AFun Tryd.prog 106 [bitsV m, .map (some mk)] H (fun r B => RowsAt B r ((planOf L pay m).map rowOf) ∧ Ge H B) := by
  refine AFun.mk ok106 hm (Nat.le_of_ble_eq_true rfl) ?_
  simp [a106, r106]
  refine floop_intro (fun z => z.d = [] ∧ Ge H z.H ∧ H.next ≤ z.H.next ∧ z.t 1 = .map (some mk) ∧ ∃ (left : Nat) (done : List Nat), z.t 6 = bitsV left ∧ done.length + left ≤ m ∧ planOf L pay m = done ++ planOf L pay left ∧ (f left).isSome = true ∧ RowsG 1 iCell z.H H.next (fun _ => False) (z.t 5) (done.map rowOf)) (fun z => (intOf (z.t 6)).toNat) ?_ ?_
  · refine ⟨rfl, by simp, by simp, by simp, m, [], by simp, by simp, by simp, hf, ?_⟩
    exact ⟨⟨[], .inr ⟨H.next, 0, 0, by simp, Nat.le_refl _, by simp, by simp, by simp, by simp⟩, rfl, fun k hk => by simp at hk⟩, fun _ _ h => h⟩
  rintro ⟨t, _, A⟩ ⟨rfl, g, hn, t1, left, done, t6, hdl, hpl, hfl, hR⟩
  dsimp only at g hn t1 t6 hR
  generalize t5 : t 5 = v5 at hR
  have hval : f left = some (chV (choose L pay left)) := by
    obtain ⟨v, hv⟩ := Option.isSome_iff_exists.1 hfl
    rw [hv, (hK.val left v hv).1]
  have hcl := (hK.val left _ hval).2
  have hlk : ∀ X : Heap, X.get mk = H.get mk → lk1H Tryd.prog 102 (.agg #[.int .u64 0, .int .i64 0, .int .i64 0, .bool false]) X (bitsV left) (.map (some mk)) = some (chV (choose L pay left)) := fun X hX => by
    rw [(hK.map.keep hX).lk1 flat_ch0, hval]; rfl
  have hA := hlk A (g.get _ hmk)
  simp [t1, t6, hA]
  by_cases hz : (choose L pay left).first = 0
  · rw [planOf_end hz, List.append_nil] at hpl
    simp [hz, t5]
    rw [hpl]
    refine ⟨rows_done hR (by simp; omega) fun r hr => ?_, g⟩
    obtain ⟨d, _, rfl⟩ := List.mem_map.1 hr
    have := rowOf_length (d := d); omega
  obtain ⟨hfL, hsub⟩ := first_mem hL hz
  obtain ⟨hp1, hp2⟩ := planOf_step hL (pay := pay) hz
  have hf10 := (hL _ hfL).2
  have hcl2 := hcl hz
  have hl10 : left < 1024 := by omega
  generalize choose L pay left = c at *
  simp [hz, t5, t1, t6, hA]
  refine fcall_fun (setList_spec hf10 (hG.ge g)) ?_
  rintro u B ⟨ou, gB⟩
  have hu1 := ou.one
  have nB := gB.next
  simp [hu1, one_cells]
  have gB2 : Ge A (B.new (.cells true [u] 1)) := gB.newOf _
  have hR2 : RowsG 1 iCell (B.new (.cells true [u] 1)) H.next (fun _ => False) v5 (done.map rowOf) := hR.keep gB2.next (fun n _ hn _ => gB2.get n hn) (fun _ _ hf => hf)
  have hou : OwnSl (B.new (.cells true [u] 1)) H.next u ((rowOf c.first).map (.int .i64)) := by
    have e : (rowOf c.first).map (Value.int .i64) = intL (bitsL c.first) := by simp [rowOf, bitsI]
    rw [e]
    exact (ou.ge (Ge.new _ _)).lower hn
  refine hR2.push (r := rowOf c.first) (x := u) (X' := fun _ => False) (own_S hou) (fun m hm => ⟨fun e => ?_, fun hf => hf⟩) (fun m hf => hf.elim) (slCells_new (rw := true) (c := 1) (by simp)) (by simp; omega) (by simp) (by omega) (by simp; omega) fun u' C k1 k2 k3 k4 => ?_
  · have := (ou.names hm).1
    have := (hR.names e).2
    omega
  have h3 : ∀ m, slName v5 = some m → H.next ≤ m := fun m hm => (hR.names hm).1
  have gC : Ge H C := by
    refine ⟨by omega, fun n hn => ?_⟩
    have e1 : n ≠ B.next := by omega
    rw [k4 n (by omega) (fun e => by have := h3 n e; omega)]
    simp [e1, gB.get n (by omega), g.get n hn]
  have hC := hlk C (gC.get _ hmk)
  simp [t1, t6, hC]
  rw [aval_diff (a := left) (b := c.first) (by simp) (by simp) (by decide) (by decide) (by omega) (by omega)]
  simp
  exact ⟨⟨gC, by omega, t1, diffN left c.first, rfl, done ++ [c.first], by simp; omega, by rw [hpl, hp1]; simp, hcl2, by simpa using k1⟩, by rw [t6]; simp; exact hp2⟩

end Go.Proofs.YtjbbcpeidnkjlaaDoor


namespace Go.Proofs.YtjbbcpeidnkjlaaDoor
open Go Go.Ab

theorem _root_.Go.Ab.IntsAt.atAll {H : Heap} {v : Value} {xs : List Int} (h : IntsAt H v xs) {i : Nat} (hi : i < xs.length) : ∃ p, islV 1 v (.int .i64 i) = some p ∧ ∀ A, Ge H A → ldV A false 1 p = some (.int .i64 xs[i]) := by
  obtain ⟨p, h1, _⟩ := h.at hi
  refine ⟨p, h1, fun A g => ?_⟩
  obtain ⟨q, h2, h3⟩ := (h.ge g).at hi
  rw [h1] at h2; cases h2; exact h3

def tOk (r : List Rl) (ts : List Int) (i : Nat) : Bool := (decide ((r[i]?.getD ⟨0, 0, 0⟩).lo ≤ ts[i]?.getD 0) && decide (ts[i]?.getD 0 ≤ (r[i]?.getD ⟨0, 0, 0⟩).hi)) && (decide (i = 0) || decide (ts[i - 1]?.getD 0 ≤ ts[i]?.getD 0))
def truthOf (r : List Rl) (ts : List Int) : Bool := decide (ts.length = r.length) && (List.range r.length).all (tOk r ts)
def truthD (D : Dy) (T : List (List Int)) : Bool := decide (T.length = D.blocks.length) && (List.range D.blocks.length).all fun i => truthOf (D.blocks[i]?.getD []) (T[i]?.getD [])

end Go.Proofs.YtjbbcpeidnkjlaaDoor


namespace Go.Proofs.YtjbbcpeidnkjlaaDoor
open Go Go.Ab

end Go.Proofs.YtjbbcpeidnkjlaaDoor


namespace Go.Proofs.YtjbbcpeidnkjlaaDoor
open Go Go.Ab

def payN (D : Dy) (d : Nat) : Int := payOf D (known0 D) (piecesL D d)
theorem payN_bounds {D : Dy} (hV : Valid D) (d : Nat) : 0 ≤ payN D d ∧ payN D d ≤ 100000 := by
  have h1 := law_bounds hV
  have hK : ∀ b n, (0 ≤ (kAt (known0 D) b n).1 ∧ (kAt (known0 D) b n).1 ≤ 3000) ∧ (0 ≤ (kAt (known0 D) b n).2 ∧ (kAt (known0 D) b n).2 ≤ 3000) := fun b n => by
    have hb := (known0_ok hV).bound
    unfold kAt
    cases hx : (known0 D)[b]? with
    | none => simp
    | some x =>
      cases hy : x[n]? with
      | none => simp [hy]
      | some y =>
        have := hb x (List.mem_of_getElem? hx) y (List.mem_of_getElem? hy)
        simpa [hy] using this
  unfold payN payOf spreadOf
  have h2 := hK ((piecesL D d)[(piecesL D d).length - 1]?.getD fz).e ((piecesL D d)[(piecesL D d).length - 1]?.getD fz).t
  have h3 := hK ((piecesL D d)[0]?.getD fz).b ((piecesL D d)[0]?.getD fz).f
  omega
theorem LL_ok {D : Dy} (hV : Valid D) : SetsOk (legalL D (known0 D)) := fun d hd => by
  have h := (passL_mem.1 hd).1
  have := (pow_segN hV).2
  omega
theorem LL_len {D : Dy} (hV : Valid D) : (legalL D (known0 D)).length ≤ 1024 := Nat.le_trans passL_length (pow_segN hV).2

structure Begs (A : Heap) (lo : Nat) (L : List Nat) (f : Nat → Option Value) : Prop where
  own : ∀ i, i < 10 → OwnSl A lo ((f (2 ^ i)).getD (.slice none 0 0)) ((L.filter fun d => low d == i).map bitsV)
  apart : ∀ i j n, i < 10 → j < 10 → i ≠ j → slName ((f (2 ^ i)).getD (.slice none 0 0)) = some n → slName ((f (2 ^ j)).getD (.slice none 0 0)) ≠ some n

section
variable {A B : Heap} {lo : Nat} {L : List Nat} {f : Nat → Option Value}
theorem Begs.keep (h : Begs A lo L f) (hn : A.next ≤ B.next) (hk : ∀ n, lo ≤ n → n < A.next → (∃ b cs c, A.get n = .cells b cs c) → B.get n = A.get n) : Begs B lo L f := by
  refine ⟨fun i hi => (h.own i hi).keep hn fun n hs => ?_, h.apart⟩
  have hnm := (h.own i hi).names hs
  refine hk n hnm.1 hnm.2 ?_
  rcases h.own i hi with ⟨e, _⟩ | ⟨m, cap, c, e, h1, h2, h3, _⟩
  · rw [e] at hs; cases hs
  · rw [e] at hs; cases hs
    exact ⟨_, _, _, h3⟩
theorem pow_inj {i j : Nat} (h : 2 ^ i = 2 ^ j) : i = j := (Nat.pow_right_inj (by omega : 1 < 2)).1 h
theorem Begs.push {d n : Nat} {u : Value} (h : Begs A lo L f) (_hd : low d < 10) (hu : OwnSl B lo u (((L.filter fun x => low x == low d).map bitsV) ++ [bitsV d])) (hun : slName u = some n) (hn : A.next ≤ n) (hnext : A.next ≤ B.next)
    (hk : ∀ m, lo ≤ m → m < A.next → slName ((f (2 ^ low d)).getD (.slice none 0 0)) ≠ some m → B.get m = A.get m) : Begs B lo (L ++ [d]) (putF f (2 ^ low d) u) := by
  have hsame : ∀ j, j = low d → (putF f (2 ^ low d) u (2 ^ j)).getD (.slice none 0 0) = u := fun j e => by subst e; simp [putF]
  have hother : ∀ j, j ≠ low d → (putF f (2 ^ low d) u (2 ^ j)).getD (.slice none 0 0) = (f (2 ^ j)).getD (.slice none 0 0) := fun j e => by
    have : ¬ 2 ^ j = 2 ^ low d := fun e2 => e (pow_inj e2)
    simp [putF, this]
  refine ⟨fun j hj => ?_, fun i j m hi hj hij hm => ?_⟩
  · rw [List.filter_append, List.map_append]
    by_cases e : j = low d
    · rw [hsame j e, e]
      simpa using hu
    · rw [hother j e]
      have e2 : ¬ low d = j := fun e3 => e e3.symm
      simp only [List.filter_cons, List.filter_nil, beq_iff_eq, e2, if_false, List.map_nil, List.append_nil]
      exact (h.own j hj).keep hnext fun m hs => hk m ((h.own j hj).names hs).1 ((h.own j hj).names hs).2 fun e3 => h.apart j (low d) m hj _hd e hs e3
  · by_cases e1 : i = low d
    · rw [hsame i e1, hun] at hm
      have e2 : j ≠ low d := fun e2 => hij (e1.trans e2.symm)
      rw [hother j e2]
      cases hm
      intro hs
      have := ((h.own j hj).names hs).2
      omega
    · rw [hother i e1] at hm
      by_cases e2 : j = low d
      · rw [hsame j e2, hun]
        intro hs
        cases hs
        have := ((h.own i hi).names hm).2
        omega
      · rw [hother j e2]; exact h.apart i j m hi hj hij hm

theorem _root_.Go.Ab.SlR.same {sz len : Nat} {v : Value} {cs : List Value} (h : SlR A sz v len cs) (hn : A.next ≤ B.next) (hk : ∀ n, n < A.next → (∃ b cs c, A.get n = .cells b cs c) → B.get n = A.get n) : SlR B sz v len cs := by
  refine ⟨?_, fun a n c e => Nat.lt_of_lt_of_le (h.2 a n c e) hn⟩
  rcases h.cases with ⟨rfl | rfl, rfl, rfl⟩ | ⟨n, o, cap, rw, ds, c, rfl, hg, hr⟩
  · rfl
  · rfl
  · simp only [slCells, hk n (h.2 _ _ _ rfl) ⟨_, _, _, hg⟩, hg, hr, Option.map_some]
end

theorem best_spec {D : Dy} {b w s k q : Value} {H : Heap} (hP : PlanAt H b w s k q D (known0 D)) (hV : Valid D) (hG : Gl H) :
    AFun Tryd.prog 80 [planV D b w s k q] H (fun r B => ∃ v, r = .tuple #[v, .int .i64 (choose (legalL D (known0 D)) (payN D) (2 ^ segN D - 1)).pay, .bool (choose (legalL D (known0 D)) (payN D) (2 ^ segN D - 1)).ok] ∧ RowsAt B v ((planOf (legalL D (known0 D)) (payN D) (2 ^ segN D - 1)).map rowOf) ∧ Ge H B) := by
  refine AFun.mk ok80 hm (Nat.le_of_ble_eq_true rfl) ?_
  have hb := hP.day.blocks.one
  have hw := hP.day.walk.one
  have hs := hP.segs.one
  have hk := hP.known.one
  have hq : one q = true := SlR.one hP.quest
  obtain ⟨hp1, hp2⟩ := pow_segN hV
  simp [a80, r80, hb, hw, hs, hk, hq]
  generalize hH1 : Heap.set _ (H.next + 4) _ = H1
  have g1 : Ge H H1 := by
    rw [← hH1]
    exact (((((Ge.new _ _).newOf _).newOf _).setNew (by simp) _).newOf _).newOf _ |>.setNew (by simp) _
  have n1 : H1.next = H.next + 5 := by rw [← hH1]; simp
  have k0 : H1.get H.next = .cells true (planCells D b w s k q) 13 := by rw [← hH1]; simp
  have k1 : H1.get (H.next + 1) = .map [] 0 := by rw [← hH1]; simp
  have k2 : H1.get (H.next + 2) = .cells true [.map (some (H.next + 1))] 1 := by rw [← hH1]; simp
  have k3 : H1.get (H.next + 3) = .map [] 0 := by rw [← hH1]; simp
  have k4 : H1.get (H.next + 4) = .cells true [.map (some (H.next + 3))] 1 := by rw [← hH1]; simp
  clear hH1
  refine fcall_fun (legalDuties_spec (hP.ge g1) hV (known0_ok hV)) ?_
  rintro v H2 ⟨o2, g2⟩
  have n2 := g2.next
  replace k0 := g2.got (by omega) k0
  replace k1 := g2.got (by omega) k1
  replace k2 := g2.got (by omega) k2
  replace k3 := g2.got (by omega) k3
  replace k4 := g2.got (by omega) k4
  have G2 := g1.trans g2
  have hsl := o2.slr
  simp only [List.length_map] at hsl
  have hLok := LL_ok hV
  have hLlen := LL_len hV
  have hLd : ∀ d ∈ legalL D (known0 D), d < 2 ^ segN D := fun d hd => (passL_mem.1 hd).1.2
  simp [hsl.lenV]
  generalize hLL : legalL D (known0 D) = L at *
  refine floop_intro (fun z => z.d = [] ∧ H2.next ≤ z.H.next ∧ (∀ n, n < H2.next → n ≠ H.next + 1 → n ≠ H.next + 3 → z.H.get n = H2.get n) ∧ z.t 1 = .pointer (some ⟨H.next, 0, none⟩) ∧ z.t 5 = .pointer (some ⟨H.next + 2, 0, none⟩) ∧ z.t 6 = .pointer (some ⟨H.next + 4, 0, none⟩) ∧ z.t 15 = v ∧ z.t 16 = .int .i64 (L.length : Int) ∧
    ∃ (i : Nat) (fp fb : Nat → Option Value), i ≤ L.length ∧ z.t 17 = .int .i64 (i : Int) ∧ MapFn z.H (H.next + 1) fp ∧ (∀ d ∈ L.take i, fp d = some (.int .i64 (payN D d))) ∧ MapFn z.H (H.next + 3) fb ∧ Begs z.H H2.next (L.take i) fb) (fun z => L.length - (intOf (z.t 17)).toNat) ?_ ?_
  · refine ⟨rfl, Nat.le_refl _, fun n _ _ _ => rfl, by simp, by simp, by simp, by simp, by simp, 0, fun _ => none, fun _ => none, by omega, by simp, MapFn.empty k1, fun d hd => by simp at hd, MapFn.empty k3, ⟨fun i _ => .inl ⟨rfl, rfl⟩, fun i j n _ _ _ h => by cases h⟩⟩
  rintro ⟨t, _, A⟩ ⟨rfl, hn, hkeep, t1, t5, t6, t15, t16, i, fp, fb, hi, t17, hmp, hfp, hmb, hbg⟩
  dsimp only at hn hkeep t1 t5 t6 t15 t16 t17 hmp hmb hbg
  have a0 := (hkeep H.next (by omega) (by omega) (by omega)).trans k0
  have a2 := (hkeep (H.next + 2) (by omega) (by omega) (by omega)).trans k2
  have a4 := (hkeep (H.next + 4) (by omega) (by omega) (by omega)).trans k4
  have hslA : SlR A 1 v L.length (L.map bitsV) := hsl.same hn fun n h1 ⟨_, _, _, h2⟩ => hkeep n h1 (fun e => by rw [e, k1] at h2; cases h2) (fun e => by rw [e, k3] at h2; cases h2)
  have gA : Ge H A := ⟨by omega, fun n h => (hkeep n (by have := G2.next; omega) (by omega) (by omega)).trans (G2.get n h)⟩
  simp [t16, t17]
  refine fcond_intro (fun hc => ?_) (fun hc => ?_)
  case refine_2 =>
    have : i = L.length := by simp at hc; omega
    subst this
    rw [List.take_length] at hfp hbg
    have zp : MapFn (A.new (.map [] 0)) A.next fun _ => none := MapFn.empty (by simp)
    obtain ⟨x, hx1, hx2⟩ := zp.put 0 (chV ⟨0, 0, 0, true⟩)
    have hx3 : mupH Tryd.prog 102 (A.new (.map [] 0)) (.int .u64 0) (.agg #[.int .u64 0, .int .i64 0, .int .i64 0, .bool true]) (.map (some A.next)) = some ((A.new (.map [] 0)).set A.next x) := hx1
    simp [hx3, t5, t6]
    have y0 : H.next ≠ A.next := by omega
    have y1 : H.next ≠ A.next + 1 := by omega
    have y2 : H.next ≠ A.next + 2 := by omega
    simp [t1, a0, y0, y1, y2]
    have gX : ∀ (c : AObj), Ge A (({ get := ((((((A.new (AObj.map [] 0)).set A.next x).new (AObj.cells true [Value.map none] 1)).set (A.next + 1) (AObj.cells true [Value.map (some A.next)] 1)).new (AObj.cells true [Value.nilFunc] 1)).set (A.next + 2) (AObj.cells true [Value.func (Fn.func 104) #[] #[.pointer (some ⟨A.next + 1, 0, none⟩), .pointer (some ⟨H.next + 4, 0, none⟩), .pointer (some ⟨A.next + 2, 0, none⟩), .pointer (some ⟨H.next + 2, 0, none⟩)]] 1)).get, next := A.next + 9 } : Heap).set (A.next + 7) c) := fun c => by
      refine Ge.setNew (Ge.grow_le (by omega) ?_) (by omega) _
      exact (((((Ge.new A _).setNew (Nat.le_refl _) _).newOf _).setNew (by omega) _).newOf _).setNew (by omega) _
    refine fcall_fun (all_spec (hP.ge (gA.trans (gX _))) hV) ?_
    rintro _ C ⟨rfl, gC⟩
    have nC := gC.next
    simp at nC
    have gAC := (gX _).trans gC
    have ck := gC.got (n := A.next) (by simp) rfl
    have c1 := gC.got (n := A.next + 1) (by simp) rfl
    have c3 := gC.got (n := A.next + 2) (by simp) rfl
    have c7 := gC.got (n := A.next + 7) (by simp) rfl
    simp at ck c1 c3 c7
    clear gX gC
    have c0 := gAC.got (n := H.next) (by omega) a0
    have c2 := gAC.got (n := H.next + 2) (by omega) a2
    have c4 := gAC.got (n := H.next + 4) (by omega) a4
    have gHC := gA.trans gAC
    have hK : KnownC C L (payN D) A.next (putF (fun _ => none) 0 (chV ⟨0, 0, 0, true⟩)) := by
      refine ⟨hx2 _ ck, by simp [putF], fun k v hv => ?_⟩
      unfold putF at hv
      by_cases e : k = 0
      · subst e
        rw [choose_zero]
        rw [if_pos rfl] at hv
        exact ⟨(Option.some.inj hv).symm, fun h => absurd rfl h⟩
      · rw [if_neg e] at hv; cases hv
    have hS : Sit C L (payN D) (A.next + 1) (H.next + 4) (A.next + 2) (H.next + 2) A.next (H.next + 3) (H.next + 1) := by
      refine ⟨c1, c4, c3, c2, by omega, by omega, ⟨fp, hmp.ge gAC (by omega), hfp⟩, ⟨fb, hmb.ge gAC (by omega), fun j hj => ?_⟩⟩
      have := ((hbg.own j hj).ge gAC).slr
      simpa using this
    have hpay : ∀ d ∈ L, 0 ≤ payN D d ∧ payN D d ≤ 100000 := fun d _ => payN_bounds hV d
    simp [t1, c0, c3]
    refine fcall_intro ((ACall.of_fun (R := fun r B => r = chV (choose L (payN D) (2 ^ segN D - 1)) ∧ GeX A.next C B ∧ ∃ f', KnownC B L (payN D) A.next f' ∧ (∀ k, (putF (fun _ => none) 0 (chV ⟨0, 0, 0, true⟩) k).isSome = true → (f' k).isSome = true) ∧ (f' (2 ^ segN D - 1)).isSome = true) (by simpa using chooseF_spec hLok hpay hLlen (2 ^ segN D - 1) (by omega) C _ hS hK)).mono ?_)
    rintro _ E ⟨rfl, gE, f2, hK2, _, hsome⟩
    have nE := gE.next
    have e0 := (gE.get H.next (by omega) (by omega)).trans c0
    have e1 := (gE.get (A.next + 1) (by omega) (by omega)).trans c1
    have e7 := (gE.get (A.next + 7) (by omega) (by omega)).trans c7
    have gHE : Ge H E := ⟨by have := gHC.next; omega, fun n hn => (gE.get n (by have := gHC.next; omega) (by omega)).trans (gHC.get n hn)⟩
    generalize hch : choose L (payN D) (2 ^ segN D - 1) = c at *
    have y7 : H.next ≠ A.next + 7 := by omega
    have y7k : A.next ≠ A.next + 7 := by omega
    simp [t1, e7, e0, e1, y7]
    have gX : Ge H ({ get := (E.set (A.next + 7) (.cells true (chC c) 4)).get, next := E.next + 11 } : Heap) := Ge.grow_le (by have := gHE.next; omega) (gHE.setNew (by omega) _)
    refine fcall_fun (all_spec (hP.ge gX) hV) ?_
    rintro _ F ⟨rfl, gF⟩
    have nF := gF.next
    simp at nF
    have f0 := gF.got (n := H.next) (by simp; omega) (by simp [y7]; exact e0)
    have f1 := gF.got (n := A.next + 1) (by simp; omega) (by simp; exact e1)
    have f7 := gF.got (n := A.next + 7) (by simp; omega) rfl
    simp at f7
    have hK3 : KnownC F L (payN D) A.next f2 := hK2.keep ((gF.get A.next (by simp; omega)).trans (by simp [y7k]))
    have gHF := gX.trans gF
    simp [t1, f0, f1, f7]
    refine fcall_fun (plan_spec hLok (by omega) hK3 (by omega) hsome (hG.ge gHF)) ?_
    rintro r R ⟨hr, gR⟩
    have r7 := gR.got (n := A.next + 7) (by omega) f7
    simp [f7, r7]
    exact ⟨hr, gHF.trans gR⟩
  have h1 : i < L.length := by simpa using hc
  obtain ⟨p, e1, e2⟩ := hslA.at1 (k := .i64) (i := i) (by simpa using h1)
  have e3 : (L.map bitsV)[i]? = some (bitsV L[i]) := by simp [h1]
  rw [e3] at e2
  have hdL := List.getElem_mem h1
  have hd0 := hLok _ hdL
  have hdn := hLd _ hdL
  have htk : L.take (i + 1) = L.take i ++ [L[i]] := List.take_succ_eq_append_getElem h1
  generalize L[i] = d at *
  simp [t1, t5, t15, t17, e1, e2, a0, a2]
  refine fcall_fun (pay_spec (hP.ge (gA.grow 6)) hV (known0_ok hV) hdn hd0.1) ?_
  rintro _ B ⟨rfl, gB⟩
  have nB := gB.next
  simp only at nB
  have hd10 : d < 1024 := hd0.2
  have b0 := gB.got (n := H.next) (by simp; omega) a0
  have b2 := gB.got (n := H.next + 2) (by simp; omega) a2
  have b4 := gB.got (n := H.next + 4) (by simp; omega) a4
  obtain ⟨x, hx1, hx2⟩ := (hmp.keep (B := B) (gB.get _ (by simp; omega))).put d (.int .i64 (payN D d))
  have hpd : payOf D (known0 D) (piecesL D d) = payN D d := rfl
  simp [t1, t5, b0, b2, hpd, hx1, t6, b4]
  refine fcall_fun (lowest_spec hd0.1 hd10 _) ?_
  rintro _ C ⟨rfl, hC⟩
  have nC : C.next = B.next + 11 := by rw [hC]; simp
  have hCg : ∀ n, n ≠ H.next + 1 → n ≠ B.next + 8 → C.get n = B.get n := fun n h1 h2 => by rw [hC]; simp [h1, h2]
  have c8 : C.get (B.next + 8) = .cells true [bitsV d] 1 := by rw [hC]; simp
  have c1 : C.get (H.next + 1) = x := by rw [hC]; simp; omega
  clear hC
  have c4 := (hCg (H.next + 4) (by omega) (by omega)).trans b4
  simp [t6, c4]
  refine fcall_fun (lowest_spec hd0.1 hd10 _) ?_
  rintro _ C' ⟨rfl, hC⟩
  subst hC
  obtain ⟨_, l10, _⟩ := low_facts hd0.1 hd10
  have cb : MapFn C' (H.next + 3) fb := hmb.keep ((hCg _ (by omega) (by omega)).trans (gB.get _ (by simp; omega)))
  have hl1 := cb.lk1 flat_nil (2 ^ low d)
  simp [t6, c4, hl1]
  have hkC : ∀ m, H2.next ≤ m → m < A.next → C'.get m = A.get m := fun m h1 h2 => (hCg m (by omega) (by omega)).trans (gB.get m (by show m < A.next + 6; omega))
  have ho := (hbg.own (low d) l10).keep (B := C') (by omega) fun m hm => hkC m ((hbg.own (low d) l10).names hm).1 ((hbg.own (low d) l10).names hm).2
  have hnm := fun m hm => (hbg.own (low d) l10).names (n := m) hm
  generalize hold : (fb (2 ^ low d)).getD (.slice none 0 0) = old at *
  have hfl : ((L.take i).filter fun x => low x == low d).length ≤ 1024 := Nat.le_trans (List.length_filter_le _ _) (by rw [List.length_take]; omega)
  refine fapp_own' (lo := H2.next) (x := bitsV d) ho (slCells_new (rw := true) (c := 1) c8) rfl (by simp; omega) (by omega) (by omega) (by omega) fun u E k5 k6 k7 k8 => ?_
  have hE : ∀ n, n < H2.next → E.get n = C'.get n := fun n hn => k8 n (by omega) fun e => by have := (hnm n e).1; omega
  have e4 := (hE (H.next + 4) (by omega)).trans c4
  have eb : MapFn E (H.next + 3) fb := cb.keep (hE _ (by omega))
  obtain ⟨y, hy1, hy2⟩ := eb.put (2 ^ low d) u
  simp [t6, e4, hy1, t17, add_in (x := i) (y := 1) (by omega) (by omega)]
  have kF : ∀ n, n ≠ H.next + 3 → (E.set (H.next + 3) y).get n = E.get n := fun n hn => by simp [hn]
  refine ⟨⟨by omega, fun n h1 h2 h3 => ?_, t1, t5, t15, t16, i + 1, by omega, by omega, putF fp d (.int .i64 (payN D d)), hx2 _ ?_, fun d' hd' => ?_, putF fb (2 ^ low d) u, hy2 _ (by simp), ?_⟩, by omega⟩
  · rw [if_neg h3, hE n h1, hCg n h2 (by omega), gB.get n (by show n < A.next + 6; omega)]
    exact hkeep n h1 h2 h3
  · rw [kF _ (by omega), hE _ (by omega)]; exact c1
  · unfold putF
    by_cases e : d' = d
    · rw [if_pos e, e]
    · rw [if_neg e]
      rw [htk] at hd'
      rcases List.mem_append.1 hd' with hd' | hd'
      · exact hfp d' hd'
      · exact absurd (by simpa using hd') e
  · rw [htk]
    refine hbg.push l10 (n := B.next + 9) ?_ k6 (by omega) (by simp; omega) fun m h1 h2 h3 => ?_
    · exact k5.keep (by simp) fun n hn => kF n (by have := (k5.names hn).1; omega)
    · rw [kF m (by omega), k8 m (by omega) (by rw [← hold]; exact h3)]
      exact hkC m h1 h2

def bestC (D : Dy) : Ch := choose (legalL D (known0 D)) (payN D) (2 ^ segN D - 1)
def bestL (D : Dy) : List Nat := planOf (legalL D (known0 D)) (payN D) (2 ^ segN D - 1)
def bestE (D : Dy) : Int := if checkD D = 0 then (if (bestC D).ok then 0 else 9) else checkD D
def bestPay (D : Dy) : Int := if bestE D = 0 then (bestC D).pay else 0
def bestR (D : Dy) : List (List Int) := if bestE D = 0 then (bestL D).map rowOf else []

theorem rows_nil {H : Heap} : RowsAt H (.slice none 0 0) [] := ⟨[], ⟨rfl, fun _ _ _ h => by cases h⟩, by simp, fun i h => by simp at h⟩

theorem bestF_spec {D : Dy} {b w : Value} {H : Heap} (h : DayAt H b w D) (hT : D.Thin) (hG : Gl H) :
    AFun Tryd.prog 45 [dayV D b w] H (fun r B => ∃ v, r = .tuple #[v, .int .i64 (bestPay D), .int .i64 (bestE D)] ∧ RowsAt B v (bestR D) ∧ Ge H B) := by
  refine AFun.mk ok45 hm (Nat.le_of_ble_eq_true rfl) ?_
  have hb := h.blocks.one
  have hw := h.walk.one
  simp [a45, r45, hb, hw]
  refine fcall_fun (checkDay_spec (h.ge (by simp)) hT) ?_
  rintro _ H1 ⟨rfl, g1⟩
  have G1 : Ge H H1 := Ge.trans (by simp) g1
  have k1 := g1.got (n := H.next) (by simp) rfl
  have n1 := g1.next
  simp at k1 n1
  by_cases hc : checkD D = 0
  case neg =>
    have he : bestE D = checkD D := by simp [bestE, hc]
    have hp : bestPay D = 0 := by simp [bestPay, he, hc]
    have hr : bestR D = [] := by simp [bestR, he, hc]
    simp [hc, he, hp, hr]
    exact ⟨rows_nil, G1⟩
  have hV := valid_of hc
  simp [hc, k1]
  refine fcall_fun (newPlanned_spec (h.ge G1) hV) ?_
  rintro _ H2 ⟨s, k, q, rfl, hO, g2⟩
  have G2 := G1.trans g2
  have hP : PlanAt H2 b w s k q D (known0 D) := hO.at (h.ge G2)
  simp
  refine fcall_fun (best_spec hP hV (hG.ge G2)) ?_
  rintro _ H3 ⟨v, rfl, hv, g3⟩
  have G3 := G2.trans g3
  have hcc : choose (legalL D (known0 D)) (payN D) (2 ^ segN D - 1) = bestC D := rfl
  have hll : planOf (legalL D (known0 D)) (payN D) (2 ^ segN D - 1) = bestL D := rfl
  rw [hcc]
  rw [hll] at hv
  cases hok : (bestC D).ok
  · have he : bestE D = 9 := by simp [bestE, hc, hok]
    have hp : bestPay D = 0 := by simp [bestPay, he]
    have hr : bestR D = [] := by simp [bestR, he]
    simp [he, hp, hr]
    exact ⟨rows_nil, G3⟩
  · have he : bestE D = 0 := by simp [bestE, hc, hok]
    have hp : bestPay D = (bestC D).pay := by simp [bestPay, he]
    have hr : bestR D = (bestL D).map rowOf := by simp [bestR, he]
    simp [he, hp]
    rw [hr]
    exact ⟨hv, G3⟩

end Go.Proofs.YtjbbcpeidnkjlaaDoor


namespace Go.Proofs.YtjbbcpeidnkjlaaDoor
open Go Go.Ab

section
variable {D : Dy} {b w s k q : Value} {H : Heap}
end

end Go.Proofs.YtjbbcpeidnkjlaaDoor


namespace Go.Proofs.YtjbbcpeidnkjlaaDoor
open Go Go.Ab

def readyB (D : Dy) : Bool := thinB D && decide (checkD D = 0)
theorem ready_spec {D : Dy} {b w : Value} {H : Heap} (h : DayAt H b w D) : AFun Tryd.prog 52 [dayV D b w] H (fun r B => r = .bool (readyB D) ∧ Ge H B) := by
  refine AFun.mk ok52 hm (Nat.le_of_ble_eq_true rfl) ?_
  have hb := h.blocks.one
  have hw := h.walk.one
  simp [a52, r52, hb, hw]
  refine fcall_fun (thin_spec (h.ge (by simp))) ?_
  rintro _ H1 ⟨rfl, g1⟩
  have G1 : Ge H H1 := Ge.trans (by simp) g1
  have k1 := g1.got (n := H.next) (by simp) rfl
  simp at k1
  unfold readyB
  cases hth : thinB D
  · simp
    exact G1
  simp [k1]
  refine fcall_fun (fault36_spec (h.ge G1) (thinB_thin hth)) ?_
  rintro _ H2 ⟨rfl, g2⟩
  simp
  exact G1.trans g2
theorem ready_facts {D : Dy} (h : readyB D = true) : D.Thin ∧ checkD D = 0 ∧ Valid D := by
  unfold readyB at h
  rw [Bool.and_eq_true, decide_eq_true_eq] at h
  exact ⟨thinB_thin h.1, h.2, valid_of h.2⟩
section
variable {I : Nat → Heap → Prop} {F : Heap → Prop} {H : Heap} {v pv : Value}
end

section
variable {D : Dy} {b w s k q : Value}
end

end Go.Proofs.YtjbbcpeidnkjlaaDoor


namespace Go.Proofs.YtjbbcpeidnkjlaaDoor
open Go Go.Ab

end Go.Proofs.YtjbbcpeidnkjlaaDoor


namespace Go.Proofs.YtjbbcpeidnkjlaaDoor
open Go Go.Ab

section
variable {D : Dy}
theorem mem_LL {d : Nat} (h0 : d ≠ 0) (hlt : d < 2 ^ segN D) (hl : legalN D (known0 D) d = true) : d ∈ legalL D (known0 D) := passL_mem.2 ⟨by omega, hl⟩

theorem full_lt (hV : Valid D) : 2 ^ segN D - 1 < 1024 := by have := pow_segN hV; omega

theorem best_ok (hc : checkD D = 0) (hE : bestE D = 0) : (bestC D).ok = true := by
  unfold bestE at hE
  rw [if_pos hc] at hE
  cases h : (bestC D).ok
  · rw [h] at hE; simp at hE
  · rfl
theorem best_part (hV : Valid D) (hok : (bestC D).ok = true) : Part (legalL D (known0 D)) (2 ^ segN D - 1) (bestL D) ∧ (bestL D).length = (bestC D).n ∧ sumP (payN D) (bestL D) = (bestC D).pay ∧ (bestL D).Pairwise (fun a b => low a < low b) := by
  obtain ⟨h1, h2, h3, h4, _⟩ := plan_part (pay := payN D) (LL_ok hV) _ (full_lt hV) hok
  exact ⟨h1, h2, h3, h4⟩
end

end Go.Proofs.YtjbbcpeidnkjlaaDoor


namespace Go.Proofs.YtjbbcpeidnkjlaaDoor
open Go Go.Ab

section
variable {α : Type}
end

section
variable {D : Dy}
structure SegIn (D : Dy) (p : Pc) : Prop where
  same : p.e = p.b
  lt : p.f < p.t
  seg : ∀ q, p.s.testBit q = true → (spD D q).1 = p.b ∧ p.f ≤ (spD D q).2 ∧ (spD D q).2 + 1 ≤ p.t
theorem blk_mono (hV : Valid D) {b j : Nat} (hs : D.has b (j + 1)) : (D.rel b j).lo ≤ (D.rel b (j + 1)).lo ∧ (D.rel b j).hi ≤ (D.rel b (j + 1)).hi := by
  obtain ⟨x, h1, h2⟩ := hs
  have hb := hV.blk x (List.mem_of_getElem? h1)
  unfold okBlk at hb
  rw [Bool.and_eq_true, List.all_eq_true] at hb
  have := hb.2 (j + 1) (by simpa using h2)
  have hj : j < x.length := by omega
  simp only [okAt, bef, Nat.add_sub_cancel, Bool.and_eq_true, decide_eq_true_eq] at this
  have e1 : D.rel b j = x[j] := by simp [Dy.rel, h1, hj]
  have e2 : D.rel b (j + 1) = x[j + 1] := by simp [Dy.rel, h1, h2]
  rw [e1, e2]
  simpa [hj, h2] using this.1
theorem has_le {b i j : Nat} (hs : D.has b j) (h : i ≤ j) : D.has b i := by
  obtain ⟨x, h1, h2⟩ := hs
  exact ⟨x, h1, by omega⟩
theorem blk_le (hV : Valid D) {b i : Nat} : ∀ {j : Nat}, D.has b j → i ≤ j → (D.rel b i).lo ≤ (D.rel b j).lo ∧ (D.rel b i).hi ≤ (D.rel b j).hi
  | 0, _, h => by
    have : i = 0 := by omega
    subst this; exact ⟨Int.le_refl _, Int.le_refl _⟩
  | j + 1, hs, h => by
    by_cases e : i = j + 1
    · subst e; exact ⟨Int.le_refl _, Int.le_refl _⟩
    · have := blk_le hV (has_le hs (by omega : j ≤ j + 1)) (by omega : i ≤ j)
      have := blk_mono hV hs
      omega

theorem kAt0 {b n : Nat} (hs : D.has b n) : kAt (known0 D) b n = ((D.rel b n).lo, (D.rel b n).hi) := by
  obtain ⟨x, h1, h2⟩ := hs
  have e1 : D.rel b n = x[n] := by simp [Dy.rel, h1, h2]
  rw [e1]
  simp [kAt, known0, h1, h2]
end

structure LegalP (D : Dy) (K : List (List (Int × Int))) (ps : List Pc) : Prop where
  count : (ps.length : Int) ≤ D.law.pieces
  piece : ∀ p ∈ ps, lastOf K p ≤ D.law.piece
  drive : (ps.map (lastOf K)).sum ≤ D.law.drive
  free : ∀ j, j + 1 < ps.length → D.law.brk ≤ freeOf D K (ps[j]?.getD fz) (ps[j + 1]?.getD fz)
  spread : spreadOf D K ps ≤ D.law.spread
theorem legalB_iff {D : Dy} (hV : Valid D) {K : List (List (Int × Int))} {ps : List Pc} : legalB D K ps = true ↔ LegalP D K ps := by
  have hl := law_bounds hV
  have hlT : lTo K ps ps.length = ps.map (lastOf K) := by unfold lTo; rw [List.take_length]
  unfold legalB answers
  rw [hlT]
  simp only [List.all_cons, List.all_nil, id, Bool.and_true, Bool.and_eq_true, decide_eq_true_eq, List.length_map]
  constructor
  · rintro ⟨h1, h2, h3, h4, h5⟩
    refine ⟨h1, fun p hp => ?_, h3, fun j hj => ?_, h5⟩
    · exact ((foldl_max (ps.map (lastOf K)) 0 D.law.piece).1 h2).2 _ (List.mem_map.2 ⟨p, hp, rfl⟩)
    · have := List.all_eq_true.1 h4 (freeOf D K (ps[j]?.getD fz) (ps[j + 1]?.getD fz)) (by unfold bTo; exact List.mem_map.2 ⟨j, by simp; omega, rfl⟩)
      simpa using this
  · rintro ⟨h1, h2, h3, h4, h5⟩
    refine ⟨h1, ?_, h3, ?_, h5⟩
    · refine (foldl_max (ps.map (lastOf K)) 0 D.law.piece).2 ⟨by omega, fun x hx => ?_⟩
      obtain ⟨p, hp, rfl⟩ := List.mem_map.1 hx
      exact h2 p hp
    · rw [List.all_eq_true]
      intro x hx
      unfold bTo at hx
      obtain ⟨j, hj, rfl⟩ := List.mem_map.1 hx
      rw [List.mem_range] at hj
      exact decide_eq_true (h4 j (by omega))

end Go.Proofs.YtjbbcpeidnkjlaaDoor


namespace Go.Proofs.YtjbbcpeidnkjlaaDoor
open Go Go.Ab

theorem aval_shr16 {P : Program} {t : Nat → Value} {H : Heap} {N x y : Nat} {d : Option Tmp} {T U ty : TypeId} {pos : String} {af : Array Edge} {g : Option (Nat × Bool)} {m s : Nat} (hx : t x = .int .u16 (m : Int)) (hy : t y = .int .u64 (s : Int)) (h1 : x < N) (h2 : y < N) (hs : s < 16) :
    aval P t H (.gen N ⟨d, .binOp .shr T (.tmp x) (.tmp y) U, ty, pos, af, g⟩) = some (.int .u16 ((m / 2 ^ s : Nat) : Int)) := by
  refine aval_gen ?_ rfl fun w => ?_
  · simp [Op.operands, flatO, hx, hy, h1, h2, flat, flat1]
  · have e2 : min s IntKind.u16.bits = s := by simp [IntKind.bits]; omega
    simp [execOp, evO, hx, hy, eqGuard, binOp, Op.shift, e2]
theorem rem16 {q : Nat} : binI BinOp.rem (.int .u16 (q : Int)) (.int .u16 2) = some (.int .u16 ((q % 2 : Nat) : Int)) := by
  have e : binI BinOp.rem (.int .u16 (q : Int)) (.int .u16 2) = some (.int .u16 ((q : Int).tmod 2)) := rfl
  have e2 : ((q : Int).tmod 2) = ((q % 2 : Nat) : Int) := (Int.ofNat_tmod q 2).symm
  rw [e, e2]

def setB (n m : Nat) : List Int := if setR n m = [] then [0] else setR n m
theorem setB_length {n m : Nat} (h : n ≤ 10) : (setB n m).length ≤ 10 := by
  unfold setB
  split
  · simp
  · have := setR_length (n := n) (m := m); omega
theorem set_spec {D : Dy} {b w : Value} {H : Heap} {m : Nat} (h : DayAt H b w D) (hT : D.Thin) (hV : Valid D) :
    AFun Tryd.prog 49 [dayV D b w, .int .u16 (m : Int)] H (fun r B => OwnSl B H.next r ((setB (segN D) m).map (Value.int .i64)) ∧ Ge H B) := by
  refine AFun.mk ok49 hm (Nat.le_of_ble_eq_true rfl) ?_
  have hb := h.blocks.one
  have hw := h.walk.one
  have h10 := segN_le hV
  have hseg : segsOf D.blocks = segN D := segPs_length.symm
  simp [a49, r49, hb, hw]
  refine floop_intro (fun z => z.d = [] ∧ Ge H z.H ∧ H.next < z.H.next ∧ z.t 1 = .int .u16 (m : Int) ∧ z.t 2 = .pointer (some ⟨H.next, 0, none⟩) ∧ z.H.get H.next = .cells true (dayV D b w).cells.toList 10 ∧ ∃ j : Nat, j ≤ segN D ∧ z.t 6 = .int .i64 (j : Int) ∧ OwnSl z.H (H.next + 1) (z.t 5) ((setR j m).map (Value.int .i64))) (fun z => segN D - (intOf (z.t 6)).toNat) ?_ ?_
  · exact ⟨rfl, by simp, by simp, by simp, by simp, by simp [Value.cells], 0, by omega, by simp, .inl ⟨by simp, by simp [setR, bitsI, bitsFrom]⟩⟩
  rintro ⟨t, _, A⟩ ⟨rfl, g, hn, t1, t2, kd, j, hj, t6, o5⟩
  dsimp only at g hn t1 t2 kd t6 o5
  simp [Value.cells] at kd
  generalize t5 : t 5 = v5 at o5
  simp [t2, t6, kd]
  refine fcall_fun (segments_spec (h.ge g) hT) ?_
  rintro _ A1 ⟨rfl, g1⟩
  have n1 := g1.next
  have kd1 := g1.got hn kd
  have G1 := g.trans g1
  rw [hseg]
  simp [t6]
  have hlen := setR_length (n := j) (m := m)
  by_cases hjn : j < segN D
  case neg =>
    have : j = segN D := by omega
    subst this
    have hl := (o5.ge g1).lenV
    simp only [List.length_map] at hl
    simp [hjn, t5, hl]
    by_cases h0 : setR (segN D) m = []
    · have hsb : setB (segN D) m = [0] := by simp [setB, h0]
      rw [h0] at o5
      simp [h0, t5]
      refine fapp_own (lo := H.next + 1) (x := .int .i64 0) ((o5.ge g1).ge (Ge.new _ _)) (slCells_new (rw := true) (c := 1) (by simp)) rfl (by simp) (by omega) (by simp) (by omega) (by simp; omega) fun u3 C k3 k4 k5 k6 => ?_
      have h5n : ∀ m, slName v5 = some m → H.next + 1 ≤ m := fun m hm => (o5.names hm).1
      simp
      rw [hsb]
      refine ⟨OwnSl.lower (by simpa using k3) (by omega), by have := G1.next; omega, fun n hn => ?_⟩
      have f0 := G1.next
      have f3 : n ≠ A1.next := by omega
      rw [k6 n (by omega) (fun e => by have := h5n n e; omega)]; simp [f3, G1.get n hn]
    · have hsb : setB (segN D) m = setR (segN D) m := by simp [setB, h0]
      simp [h0, t5]
      rw [hsb]
      exact ⟨(o5.ge g1).lower (by omega), G1⟩
  have hw64 : IntKind.u64.wrap (j : Int) = (j : Int) := wrap_u64 (by omega)
  simp [hjn, t1, t6, hw64]
  have hstep := setR_step (m := m) (j := j)
  have hbit : m.testBit j = decide (m / 2 ^ j % 2 = 1) := Nat.testBit_eq_decide_div_mod_eq
  obtain ⟨q, hq⟩ : ∃ q, m / 2 ^ j = q := ⟨_, rfl⟩
  rw [hq] at hbit
  have hmod : q % 2 = 0 ∨ q % 2 = 1 := by omega
  rw [aval_shr16 (m := m) (s := j) (by simp) (by simp) (by decide) (by decide) (by omega), hq]
  simp [rem16]
  rcases hmod with h0 | h1
  · have hb0 : m.testBit j = false := by rw [hbit, h0]; rfl
    have hc0 : ¬ (q : Int) % 2 = 1 := by omega
    rw [hb0] at hstep
    simp only [Bool.false_eq_true, if_false] at hstep
    simp [hc0, t6, add_in (x := j) (y := 1) (by omega) (by omega)]
    exact ⟨⟨G1, by omega, t1, t2, by simpa [Value.cells] using kd1, j + 1, by omega, by omega, by rw [hstep, t5]; exact o5.ge g1⟩, by omega⟩
  · have hb1 : m.testBit j = true := by rw [hbit, h1]; rfl
    have hc1 : (q : Int) % 2 = 1 := by omega
    rw [hb1] at hstep
    simp only [if_true] at hstep
    simp [hc1, t5, t6]
    refine fapp_own (lo := H.next + 1) (x := .int .i64 (j : Int)) ((o5.ge g1).ge (Ge.new _ _)) (slCells_new (rw := true) (c := 1) (by simp)) rfl (by simp; omega) (by omega) (by simp) (by omega) (by simp; omega) fun u3 C k3 k4 k5 k6 => ?_
    have h5n : ∀ m, slName v5 = some m → H.next + 1 ≤ m := fun m hm => (o5.names hm).1
    have gC : Ge H C := ⟨by have := G1.next; omega, fun n hn => by
      have f0 := G1.next
      have f3 : n ≠ A1.next := by omega
      rw [k6 n (by omega) (fun e => by have := h5n n e; omega)]; simp [f3, G1.get n hn]⟩
    have kC : C.get H.next = A1.get H.next := (k6 H.next (by omega) (fun e => by have := h5n _ e; omega)).trans (by rw [Heap.new_get, if_neg (by omega)])
    simp [t6, add_in (x := j) (y := 1) (by omega) (by omega)]
    exact ⟨⟨gC, by omega, t1, t2, by simpa [Value.cells] using kC.trans kd1, j + 1, by omega, by omega, by rw [hstep, List.map_append]; exact k3⟩, by omega⟩

section
variable {D : Dy}
end

end Go.Proofs.YtjbbcpeidnkjlaaDoor


namespace Go.Proofs.YtjbbcpeidnkjlaaDoor
open Go Go.Ab

theorem fold_pay {rec : Nat → Ch} {pay pay' : Nat → Int} {m : Nat} : ∀ (l : List Nat) (b : Ch), (∀ d ∈ l, pay d = pay' d) → l.foldl (stepC rec pay m) b = l.foldl (stepC rec pay' m) b
  | [], _, _ => rfl
  | x :: l, b, h => by
    rw [List.foldl_cons, List.foldl_cons]
    have e : stepC rec pay m b x = stepC rec pay' m b x := by
      unfold stepC
      rw [h x (List.mem_cons_self ..)]
    rw [e]
    exact fold_pay l _ fun d hd => h d (List.mem_cons_of_mem _ hd)
theorem chooseK_pay {L : List Nat} {pay pay' : Nat → Int} (h : ∀ d ∈ L, pay d = pay' d) : ∀ k, chooseK L pay k = chooseK L pay' k
  | 0 => rfl
  | k + 1 => by
    funext m
    simp only [chooseK, chooseK_pay h k]
    split
    · rfl
    · exact fold_pay _ _ fun d hd => h d (List.mem_filter.1 hd).1
theorem choose_pay {L : List Nat} {pay pay' : Nat → Int} (h : ∀ d ∈ L, pay d = pay' d) : choose L pay = choose L pay' := by
  funext m
  unfold choose
  rw [chooseK_pay h]
theorem passL_congr {p p' : Nat → Bool} {i : Nat} (h : ∀ d, d ≠ 0 → d < i → p d = p' d) : passL p i = passL p' i := by
  unfold passL
  refine List.filter_congr fun d hd => ?_
  obtain ⟨j, hj, rfl⟩ := List.mem_range'.1 hd
  exact h _ (by omega) (by omega)

structure SameD (D D' : Dy) : Prop where
  segs : segN D' = segN D
  legal : ∀ m, m ≠ 0 → m < 2 ^ segN D → legalN D' (known0 D') m = legalN D (known0 D) m
  pay : ∀ m, m ≠ 0 → m < 2 ^ segN D → payN D' m = payN D m
theorem SameD.list {D D' : Dy} (h : SameD D D') : legalL D' (known0 D') = legalL D (known0 D) := by
  unfold legalL
  rw [h.segs]
  exact passL_congr h.legal
theorem SameD.best {D D' : Dy} (h : SameD D D') : bestC D' = bestC D ∧ bestL D' = bestL D := by
  have hp : ∀ d ∈ legalL D (known0 D), payN D' d = payN D d := fun d hd => h.pay d (by have := (passL_mem.1 hd).1; omega) (passL_mem.1 hd).1.2
  unfold bestC bestL planOf
  rw [h.list, h.segs, choose_pay hp]
  exact ⟨rfl, rfl⟩

def Rl.later (x : Int) (r : Rl) : Rl := ⟨r.place, r.lo + x, r.hi + x⟩
def Dy.later (D : Dy) (x : Int) : Dy := { D with blocks := D.blocks.map fun b => b.map (Rl.later x) }

section
variable {D : Dy} {x : Int}
end

end Go.Proofs.YtjbbcpeidnkjlaaDoor


namespace Go.Proofs.YtjbbcpeidnkjlaaDoor
open Go Go.Ab

section
variable {D : Dy}
end

structure EasyD (D D' : Dy) : Prop where
  segs : segPs D' = segPs D
  has : ∀ b n, D.has b n → D'.has b n
  lo : ∀ b n, D.has b n → (D.rel b n).lo ≤ (D'.rel b n).lo
  hi : ∀ b n, D.has b n → (D'.rel b n).hi = (D.rel b n).hi
  walk : ∀ b n c k, D.has b n → D.has c k → D'.walkOf b n c k ≤ D.walkOf b n c k
  piece : D.law.piece ≤ D'.law.piece
  drive : D.law.drive ≤ D'.law.drive
  spread : D.law.spread ≤ D'.law.spread
  pieces : D.law.pieces ≤ D'.law.pieces
  brk : D'.law.brk ≤ D.law.brk
  on : D'.law.on ≤ D.law.on
  off : D'.law.off ≤ D.law.off
  least : D'.law.least = D.law.least

section
variable {D D' : Dy}
end

end Go.Proofs.YtjbbcpeidnkjlaaDoor


namespace Go.Proofs.YtjbbcpeidnkjlaaDoor
open Go Go.Ab

end Go.Proofs.YtjbbcpeidnkjlaaDoor


namespace Go.Proofs.YtjbbcpeidnkjlaaDoor
open Go Go.Ab

def bestLen (D : Dy) : Int := if bestE D = 0 then ((bestC D).n : Int) else 1000
theorem best53_spec {D : Dy} {b w : Value} {H : Heap} (h : DayAt H b w D) (hT : D.Thin) (hG : Gl H) :
    AFun Tryd.prog 53 [dayV D b w] H (fun r B => r = .int .i64 (bestLen D) ∧ Ge H B) := by
  refine AFun.mk ok53 hm (Nat.le_of_ble_eq_true rfl) ?_
  have hb := h.blocks.one
  have hw := h.walk.one
  simp [a53, r53, hb, hw]
  refine fcall_fun (day18_spec (h.ge (by simp)) hT) ?_
  rintro _ H1 ⟨b1, w1, rfl, hd1, g1⟩
  have G1 : Ge H H1 := Ge.trans (by simp) g1
  simp
  refine fcall_fun (bestF_spec hd1 hT (hG.ge G1)) ?_
  rintro _ H2 ⟨v, rfl, hv, g2⟩
  have G2 := G1.trans g2
  have hv1 := hv.one
  have hvl := hv.lenV
  unfold bestLen
  by_cases hE : bestE D = 0
  · have hc : checkD D = 0 := by
      unfold bestE at hE
      by_cases hc : checkD D = 0
      · exact hc
      · rw [if_neg hc] at hE; exact absurd hE hc
    have hV := valid_of hc
    have hok := best_ok hc hE
    have hl : (bestR D).length = (bestC D).n := by
      have := (best_part hV hok).2.1
      simp [bestR, hE, this]
    rw [hl] at hvl
    simp [hE, hv1, hvl]
    exact G2
  · simp [hE, hv1]
    exact G2
end Go.Proofs.YtjbbcpeidnkjlaaDoor


namespace Go.Proofs.YtjbbcpeidnkjlaaDoor
open Go Go.Ab

end Go.Proofs.YtjbbcpeidnkjlaaDoor


namespace Go.Proofs.YtjbbcpeidnkjlaaDoor
open Go Go.Ab

structure RowsX (A : Heap) (lo : Nat) (v : Value) (rs : List (List Int)) (vs : List Value) : Prop where
  own : OwnSl A lo v vs
  len : vs.length = rs.length
  row : ∀ k (h : k < rs.length), ∃ u, vs[k]? = some u ∧ OwnSl A lo u (rs[k].map (.int .i64)) ∧ ∀ m, slName u = some m → slName v ≠ some m
  apart : ∀ (i j : Nat) (u u' : Value) (m : Nat), i ≠ j → vs[i]? = some u → vs[j]? = some u' → slName u = some m → slName u' ≠ some m

theorem RowsX.keep {A B : Heap} {lo : Nat} {v : Value} {rs : List (List Int)} {vs : List Value} (h : RowsX A lo v rs vs) (hn : A.next ≤ B.next) (hk : ∀ n, lo ≤ n → n < A.next → B.get n = A.get n) : RowsX B lo v rs vs := by
  refine ⟨h.own.keep hn fun n hs => hk n (h.own.names hs).1 (h.own.names hs).2, h.len, fun k hk2 => ?_, h.apart⟩
  obtain ⟨u, h1, h2, h3⟩ := h.row k hk2
  exact ⟨u, h1, h2.keep hn fun n hs => hk n (h2.names hs).1 (h2.names hs).2, h3⟩
theorem RowsX.rows {A : Heap} {lo : Nat} {v : Value} {rs : List (List Int)} {vs : List Value} (h : RowsX A lo v rs vs) (hl : rs.length < 2 ^ 63) (hs : ∀ r ∈ rs, r.length < 2 ^ 63) : RowsAt A v rs :=
  ⟨vs, by rw [← h.len]; exact h.own.slr, hl, fun i hi => let ⟨u, h1, h2, _⟩ := h.row i hi; ⟨u, h1, own_ints h2 (hs _ (List.getElem_mem hi))⟩⟩

end Go.Proofs.YtjbbcpeidnkjlaaDoor


namespace Go.Proofs.YtjbbcpeidnkjlaaDoor
open Go Go.Ab

section
variable {P : Program} {t : Nat → Value} {H : Heap} {N y : Nat} {k : IntKind} {m n : Int} {d : Option Tmp} {T U ty : TypeId} {pos : String} {af : Array Edge} {g : Option (Nat × Bool)}
end

structure Pre12 (D : Dy) (H2 A : Heap) (v8 w' : Value) (vs ws : List Value) : Prop where
  ge : Ge H2 A
  lt : H2.next < A.next
  cell : A.get H2.next = .cells true [.int .i64 D.law.piece, .int .i64 D.law.drive, .int .i64 D.law.spread, .int .i64 D.law.brk, .int .i64 D.law.on, .int .i64 D.law.off, .int .i64 D.law.least, .int .i64 D.law.pieces, v8, w'] 10
  own : OwnSl A (H2.next + 1) v8 vs
  len : vs.length = D.blocks.length
  rel : ∀ i (h : i < D.blocks.length), ∃ u, vs[i]? = some u ∧ RelsAt H2 u D.blocks[i]
  walk : RowsX A (H2.next + 1) w' D.walk ws
  ap : ∀ n, slName v8 = some n → slName w' ≠ some n ∧ ∀ (k : Nat) (u : Value), ws[k]? = some u → slName u ≠ some n

structure EasyL (l l' : Lw) : Prop where
  piece : l.piece ≤ l'.piece
  drive : l.drive ≤ l'.drive
  spread : l.spread ≤ l'.spread
  pieces : l.pieces ≤ l'.pieces
  brk : l'.brk ≤ l.brk
  on : l'.on ≤ l.on
  off : l'.off ≤ l.off
  least : l'.least = l.least

section
variable {D : Dy} {H2 A : Heap} {v8 w' : Value} {vs ws : List Value} {t : Nat → Value} {N n : Nat} {Q : APost}
end

end Go.Proofs.YtjbbcpeidnkjlaaDoor


namespace Go.Proofs.YtjbbcpeidnkjlaaDoor
open Go Go.Ab

theorem rem_int {a c : Nat} (hc : 0 < c) : binI BinOp.rem (.int .i64 (a : Int)) (.int .i64 (c : Int)) = some (.int .i64 ((a % c : Nat) : Int)) := by
  have e : binI BinOp.rem (.int .i64 (a : Int)) (.int .i64 (c : Int)) = if (c : Int) = 0 then none else some (.int .i64 ((a : Int).tmod c)) := rfl
  have e2 : ((a : Int).tmod c) = ((a % c : Nat) : Int) := (Int.ofNat_tmod a c).symm
  rw [e, if_neg (by omega), e2]

end Go.Proofs.YtjbbcpeidnkjlaaDoor


namespace Go.Proofs.YtjbbcpeidnkjlaaDoor
open Go Go.Ab

def Rl.late (e : Int) (x : Rl) : Rl := ⟨x.place, min x.hi (x.lo + e), x.hi⟩
end Go.Proofs.YtjbbcpeidnkjlaaDoor


namespace Go.Proofs.YtjbbcpeidnkjlaaDoor
open Go Go.Ab

end Go.Proofs.YtjbbcpeidnkjlaaDoor


namespace Go.Proofs.YtjbbcpeidnkjlaaDoor
open Go Go.Ab

def upS (s m : Nat) : Nat := (m &&& (2 ^ (s + 1) - 1)) ||| ((m >>> s) <<< (s + 1))
theorem upS_bit {s m q : Nat} : (upS s m).testBit q = if q ≤ s then m.testBit q else m.testBit (q - 1) := by
  unfold upS
  rw [Nat.testBit_or, Nat.testBit_and, Nat.testBit_two_pow_sub_one, Nat.testBit_shiftLeft, Nat.testBit_shiftRight]
  by_cases h : q ≤ s
  · rw [if_pos h]
    have h1 : q < s + 1 := by omega
    have h2 : ¬ q ≥ s + 1 := by omega
    simp [h1, h2]
  · rw [if_neg h]
    have h1 : ¬ q < s + 1 := by omega
    have h2 : q ≥ s + 1 := by omega
    have h3 : s + (q - (s + 1)) = q - 1 := by omega
    simp [h1, h2, h3]
theorem upS_inj {s a b : Nat} (h : upS s a = upS s b) : a = b := by
  refine Nat.eq_of_testBit_eq fun i => ?_
  by_cases e : i ≤ s
  · have := congrArg (fun m => m.testBit i) h
    simpa [upS_bit, e] using this
  · have := congrArg (fun m => m.testBit (i + 1)) h
    have e2 : ¬ i + 1 ≤ s := by omega
    simpa [upS_bit, e2] using this
theorem upS_zero {s : Nat} : upS s 0 = 0 := by
  refine Nat.eq_of_testBit_eq fun i => ?_
  rw [upS_bit]; simp
theorem upS_ne {s m : Nat} (h : m ≠ 0) : upS s m ≠ 0 := fun e => h (upS_inj (e.trans upS_zero.symm))
theorem upS_or {s a b : Nat} : upS s (a ||| b) = upS s a ||| upS s b := by
  refine Nat.eq_of_testBit_eq fun i => ?_
  rw [Nat.testBit_or, upS_bit, upS_bit, upS_bit]
  split <;> rw [Nat.testBit_or]
theorem upS_and {s a b : Nat} (h : a &&& b = 0) : upS s a &&& upS s b = 0 := by
  refine Nat.eq_of_testBit_eq fun i => ?_
  have hz : ∀ j, (a.testBit j && b.testBit j) = false := fun j => by rw [← Nat.testBit_and, h, Nat.zero_testBit]
  rw [Nat.testBit_and, Nat.zero_testBit, upS_bit, upS_bit]
  split
  · exact hz _
  · exact hz _
theorem upS_lt {s m n : Nat} (h : m < 2 ^ n) (hs : s < n) : upS s m < 2 ^ (n + 1) := by
  refine Nat.lt_pow_two_of_testBit _ fun i hi => ?_
  rw [upS_bit, if_neg (by omega)]
  exact Nat.testBit_lt_two_pow (Nat.lt_of_lt_of_le h (Nat.pow_le_pow_right (by omega) (by omega)))
theorem upS_full {s n : Nat} (hs : s < n) : upS s (2 ^ n - 1) = 2 ^ (n + 1) - 1 := by
  refine Nat.eq_of_testBit_eq fun i => ?_
  rw [upS_bit, Nat.testBit_two_pow_sub_one, Nat.testBit_two_pow_sub_one, Nat.testBit_two_pow_sub_one]
  split
  · exact decide_eq_decide.2 (by omega)
  · exact decide_eq_decide.2 (by omega)

def upL (s : Nat) : List Nat → List Nat
  | [] => []
  | q :: l => if q < s then q :: upL s l else if q = s then s :: (s + 1) :: upL s l else (q + 1) :: upL s l

end Go.Proofs.YtjbbcpeidnkjlaaDoor


namespace Go.Proofs.YtjbbcpeidnkjlaaDoor
open Go Go.Ab

def upN (b0 i0 b n : Nat) : Nat := if b = b0 ∧ i0 < n then n + 1 else n
theorem upN_inj {b0 i0 b n k : Nat} (h : upN b0 i0 b n = upN b0 i0 b k) : n = k := by
  unfold upN at h
  split at h <;> split at h <;> omega
structure CutD (D D' : Dy) (s b0 i0 : Nat) : Prop where
  hs : s < segN D
  seg : segN D' = segN D + 1
  lt : ∀ q : Nat, q < s → spD D' (q : Int) = spD D (q : Int) ∧ ((spD D (q : Int)).1 = b0 → (spD D (q : Int)).2 < i0)
  eq : spD D (s : Int) = (b0, i0) ∧ spD D' (s : Int) = (b0, i0) ∧ spD D' ((s + 1 : Nat) : Int) = (b0, i0 + 1)
  gt : ∀ q : Nat, s < q → q < segN D → spD D' ((q + 1 : Nat) : Int) = ((spD D (q : Int)).1, upN b0 i0 (spD D (q : Int)).1 (spD D (q : Int)).2) ∧ ((spD D (q : Int)).1 = b0 → i0 < (spD D (q : Int)).2)

def upP (s b0 i0 : Nat) (p : Pc) : Pc := ⟨upS s p.s, p.b, upN b0 i0 p.b p.f, p.e, upN b0 i0 p.e p.t⟩

section
variable {D D' : Dy} {s b0 i0 : Nat}
theorem upS_pow_lt {q : Nat} (h : q < s) : upS s (2 ^ q) = 2 ^ q := by
  refine Nat.eq_of_testBit_eq fun i => ?_
  rw [upS_bit]
  split
  · rfl
  · rw [Nat.testBit_two_pow, Nat.testBit_two_pow]; exact decide_eq_decide.2 (by omega)
theorem upS_pow_gt {q : Nat} (h : s < q) : upS s (2 ^ q) = 2 ^ (q + 1) := by
  refine Nat.eq_of_testBit_eq fun i => ?_
  rw [upS_bit]
  split
  · rw [Nat.testBit_two_pow, Nat.testBit_two_pow]; exact decide_eq_decide.2 (by omega)
  · rw [Nat.testBit_two_pow, Nat.testBit_two_pow]; exact decide_eq_decide.2 (by omega)
theorem upS_pow_eq : upS s (2 ^ s) = 2 ^ s ||| 2 ^ (s + 1) := by
  refine Nat.eq_of_testBit_eq fun i => ?_
  rw [upS_bit, Nat.testBit_or, Nat.testBit_two_pow, Nat.testBit_two_pow]
  split
  · rw [Nat.testBit_two_pow]
    have : ¬ s + 1 = i := by omega
    simp [this]
  · rw [Nat.testBit_two_pow]
    by_cases e : s + 1 = i
    · have h1 : s = i - 1 := by omega
      have h2 : ¬ s = i := by omega
      simp [e, ← h1, h2]
    · have h1 : ¬ s = i - 1 := by omega
      have h2 : ¬ s = i := by omega
      simp [e, h1, h2]

theorem upP_ne {p : Pc} (h : p.s ≠ 0) : upP s b0 i0 p ≠ fz := fun e => upS_ne h (congrArg Pc.s e)

theorem up_seg_lt (h : CutD D D' s b0 i0) {q : Nat} (hq : q < s) : segP D' q = upP s b0 i0 (segP D q) := by
  obtain ⟨h1, h2⟩ := h.lt q hq
  unfold segP upP
  rw [h1, upS_pow_lt hq]
  have e1 : upN b0 i0 (spD D (q : Int)).1 (spD D (q : Int)).2 = (spD D (q : Int)).2 := by
    unfold upN; rw [if_neg]; rintro ⟨a, b⟩; have := h2 a; omega
  have e2 : upN b0 i0 (spD D (q : Int)).1 ((spD D (q : Int)).2 + 1) = (spD D (q : Int)).2 + 1 := by
    unfold upN; rw [if_neg]; rintro ⟨a, b⟩; have := h2 a; omega
  simp only [e1, e2]
theorem up_seg_gt (h : CutD D D' s b0 i0) {q : Nat} (hq : s < q) (hn : q < segN D) : segP D' (q + 1) = upP s b0 i0 (segP D q) := by
  obtain ⟨h1, h2⟩ := h.gt q hq hn
  unfold segP upP
  rw [h1, upS_pow_gt hq]
  have e2 : upN b0 i0 (spD D (q : Int)).1 ((spD D (q : Int)).2 + 1) = upN b0 i0 (spD D (q : Int)).1 (spD D (q : Int)).2 + 1 := by
    unfold upN
    by_cases e : (spD D (q : Int)).1 = b0
    · have := h2 e
      rw [if_pos ⟨e, by omega⟩, if_pos ⟨e, this⟩]
    · rw [if_neg fun x => e x.1, if_neg fun x => e x.1]
  simp only [e2]
theorem up_seg_eq (h : CutD D D' s b0 i0) : joins D' (segP D' s) (s + 1) = true ∧ ext D' (segP D' s) (s + 1) = upP s b0 i0 (segP D s) := by
  obtain ⟨h1, h2, h3⟩ := h.eq
  unfold joins ext segP upP
  rw [h1, h2, h3, upS_pow_eq]
  have e1 : upN b0 i0 b0 i0 = i0 := by unfold upN; rw [if_neg]; omega
  have e2 : upN b0 i0 b0 (i0 + 1) = i0 + 2 := by unfold upN; rw [if_pos ⟨rfl, by omega⟩]
  simp only [e1, e2]
  simp

theorem up_joins_lt (h : CutD D D' s b0 i0) {q : Nat} (hq : q < s) {p : Pc} : joins D' (upP s b0 i0 p) q = joins D p q := by
  obtain ⟨h1, h2⟩ := h.lt q hq
  unfold joins upP
  rw [h1, Bool.eq_iff_iff]
  simp only [Bool.and_eq_true, decide_eq_true_eq]
  have e1 : upN b0 i0 (spD D (q : Int)).1 (spD D (q : Int)).2 = (spD D (q : Int)).2 := by
    unfold upN; rw [if_neg]; rintro ⟨a, b⟩; have := h2 a; omega
  constructor
  · rintro ⟨a, b⟩; refine ⟨a, upN_inj (b := p.e) (b0 := b0) (i0 := i0) ?_⟩
    rw [b]; rw [← a] at e1; exact e1.symm
  · rintro ⟨a, b⟩; exact ⟨a, by rw [b, a]; exact e1⟩
theorem up_joins_eq (h : CutD D D' s b0 i0) {p : Pc} : joins D' (upP s b0 i0 p) s = joins D p s := by
  obtain ⟨h1, h2, _⟩ := h.eq
  unfold joins upP
  rw [h1, h2, Bool.eq_iff_iff]
  simp only [Bool.and_eq_true, decide_eq_true_eq]
  have e1 : upN b0 i0 b0 i0 = i0 := by unfold upN; rw [if_neg]; omega
  constructor
  · rintro ⟨a, b⟩; refine ⟨a, upN_inj (b := p.e) (b0 := b0) (i0 := i0) ?_⟩
    rw [b, a]; exact e1.symm
  · rintro ⟨a, b⟩; exact ⟨a, by rw [b, a]; exact e1⟩
theorem up_joins_gt (h : CutD D D' s b0 i0) {q : Nat} (hq : s < q) (hn : q < segN D) {p : Pc} : joins D' (upP s b0 i0 p) (q + 1) = joins D p q := by
  obtain ⟨h1, _⟩ := h.gt q hq hn
  unfold joins upP
  rw [h1, Bool.eq_iff_iff]
  simp only [Bool.and_eq_true, decide_eq_true_eq]
  constructor
  · rintro ⟨a, b⟩; refine ⟨a, upN_inj (b := p.e) (b0 := b0) (i0 := i0) ?_⟩
    rw [b, a]
  · rintro ⟨a, b⟩; exact ⟨a, by rw [b, a]⟩

theorem up_ext_lt (h : CutD D D' s b0 i0) {q : Nat} (hq : q < s) {p : Pc} : ext D' (upP s b0 i0 p) q = upP s b0 i0 (ext D p q) := by
  have := up_seg_lt h hq
  simp only [segP, upP, Pc.mk.injEq] at this
  obtain ⟨h1, h2, h3, h4, h5⟩ := this
  simp only [ext, upP, upS_or, ← h1, h5, h4]
theorem up_ext_gt (h : CutD D D' s b0 i0) {q : Nat} (hq : s < q) (hn : q < segN D) {p : Pc} : ext D' (upP s b0 i0 p) (q + 1) = upP s b0 i0 (ext D p q) := by
  have := up_seg_gt h hq hn
  simp only [segP, upP, Pc.mk.injEq] at this
  obtain ⟨h1, h2, h3, h4, h5⟩ := this
  simp only [ext, upP, upS_or, ← h1, h5, h4]
theorem up_ext_eq (h : CutD D D' s b0 i0) {p : Pc} : joins D' (ext D' (upP s b0 i0 p) s) (s + 1) = true ∧ ext D' (ext D' (upP s b0 i0 p) s) (s + 1) = upP s b0 i0 (ext D p s) := by
  obtain ⟨h1, h2, h3⟩ := h.eq
  have e2 : upN b0 i0 b0 (i0 + 1) = i0 + 2 := by unfold upN; rw [if_pos ⟨rfl, by omega⟩]
  unfold joins ext upP
  rw [h1, h2, h3]
  refine ⟨by simp, ?_⟩
  simp only [upS_or, upS_pow_eq, e2, Nat.or_assoc]

theorem ext_nz {p : Pc} {q : Nat} (h : p.s ≠ 0) : (ext D p q).s ≠ 0 := or_nz h

theorem up_goL (h : CutD D D' s b0 i0) : ∀ (l : List Nat) (p : Pc), p.s ≠ 0 → (∀ q ∈ l, q < segN D) → goL D' (upL s l) (upP s b0 i0 p) = upP s b0 i0 (goL D l p) ∧ restL D' (upL s l) (upP s b0 i0 p) = upL s (restL D l p)
  | [], p, _, _ => ⟨rfl, rfl⟩
  | q :: l, p, hp, hl => by
    have hq := hl q (List.mem_cons_self ..)
    have hl' := fun x hx => hl x (List.mem_cons_of_mem q hx)
    have hz : p ≠ fz := fun e => hp (by rw [e]; rfl)
    have hz' := upP_ne (s := s) (b0 := b0) (i0 := i0) hp
    have ih := up_goL h l (ext D p q) (ext_nz hp) hl'
    have hb : upL s (q :: l) = if q < s then q :: upL s l else if q = s then s :: (s + 1) :: upL s l else (q + 1) :: upL s l := rfl
    rw [goL, if_neg hz, restL]
    by_cases e1 : q < s
    · rw [hb, if_pos e1, goL, if_neg hz', restL, up_joins_lt h e1, up_ext_lt h e1]
      cases hj : joins D p q
      · simp [hb, e1]
      · simpa using ih
    · by_cases e2 : q = s
      · subst e2
        have hx := up_ext_eq h (p := p)
        have hz2 : ext D' (upP q b0 i0 p) q ≠ fz := fun e => by
          have := congrArg Pc.s e
          exact or_nz (upS_ne hp) this
        rw [hb, if_neg e1, if_pos rfl, goL, if_neg hz', restL, up_joins_eq h]
        cases hj : joins D p q
        · simp [hb]
        · simp only [if_true]
          rw [goL, if_neg hz2, restL, hx.1, hx.2]
          simpa using ih
      · have e3 : s < q := by omega
        rw [hb, if_neg e1, if_neg e2, goL, if_neg hz', restL, up_joins_gt h e3 hq, up_ext_gt h e3 hq]
        cases hj : joins D p q
        · simp [hb, e1, e2]
        · simpa using ih
end

end Go.Proofs.YtjbbcpeidnkjlaaDoor


namespace Go.Proofs.YtjbbcpeidnkjlaaDoor
open Go Go.Ab

section
variable {D D' : Dy} {s b0 i0 : Nat}
theorem up_segs (h : CutD D D' s b0 i0) : ∀ (k : Nat) (l : List Nat), (∀ q ∈ l, q < segN D) → segs k D' (upL s l) = (segs k D l).map (upP s b0 i0)
  | 0, _, _ => rfl
  | k + 1, [], _ => rfl
  | k + 1, q :: l, hl => by
    have hq := hl q (List.mem_cons_self ..)
    have hl' := fun x hx => hl x (List.mem_cons_of_mem q hx)
    have hb : upL s (q :: l) = if q < s then q :: upL s l else if q = s then s :: (s + 1) :: upL s l else (q + 1) :: upL s l := rfl
    have hp : (segP D q).s ≠ 0 := by simp [segP]
    obtain ⟨g1, g2⟩ := up_goL h l (segP D q) hp hl'
    have ih := up_segs h k (restL D l (segP D q)) fun x hx => hl' x ((restL_sub l _).subset hx)
    rw [hb, segs, List.map_cons]
    by_cases e1 : q < s
    · rw [if_pos e1, segs, up_seg_lt h e1, g1, g2, ih]
    · by_cases e2 : q = s
      · subst e2
        obtain ⟨j1, j2⟩ := up_seg_eq h
        have hz : segP D' q ≠ fz := nz_segP
        rw [if_neg e1, if_pos rfl, segs, goL, if_neg hz, restL, j1, j2]
        simp only [if_true]
        rw [g1, g2, ih]
      · rw [if_neg e1, if_neg e2, segs, up_seg_gt h (by omega) hq, g1, g2, ih]

theorem upL_mem {l : List Nat} {x : Nat} : x ∈ upL s l ↔ (x ≤ s ∧ x ∈ l) ∨ (s < x ∧ x - 1 ∈ l) := by
  induction l with
  | nil => simp [upL]
  | cons q l ih =>
    have hb : upL s (q :: l) = if q < s then q :: upL s l else if q = s then s :: (s + 1) :: upL s l else (q + 1) :: upL s l := rfl
    rw [hb]
    by_cases e1 : q < s
    · rw [if_pos e1, List.mem_cons, ih, List.mem_cons, List.mem_cons]
      constructor
      · rintro (a | ⟨a, b⟩ | ⟨a, b⟩)
        · exact .inl ⟨by omega, .inl a⟩
        · exact .inl ⟨a, .inr b⟩
        · exact .inr ⟨a, .inr b⟩
      · rintro (⟨a, b | b⟩ | ⟨a, b | b⟩)
        · exact .inl b
        · exact .inr (.inl ⟨a, b⟩)
        · omega
        · exact .inr (.inr ⟨a, b⟩)
    · by_cases e2 : q = s
      · subst e2
        rw [if_neg e1, if_pos rfl, List.mem_cons, List.mem_cons, ih, List.mem_cons, List.mem_cons]
        constructor
        · rintro (a | a | ⟨a, b⟩ | ⟨a, b⟩)
          · exact .inl ⟨by omega, .inl a⟩
          · exact .inr ⟨by omega, .inl (by omega)⟩
          · exact .inl ⟨a, .inr b⟩
          · exact .inr ⟨a, .inr b⟩
        · rintro (⟨a, b | b⟩ | ⟨a, b | b⟩)
          · exact .inl b
          · exact .inr (.inr (.inl ⟨a, b⟩))
          · exact .inr (.inl (by omega))
          · exact .inr (.inr (.inr ⟨a, b⟩))
      · rw [if_neg e1, if_neg e2, List.mem_cons, ih, List.mem_cons, List.mem_cons]
        constructor
        · rintro (a | ⟨a, b⟩ | ⟨a, b⟩)
          · exact .inr ⟨by omega, .inl (by omega)⟩
          · exact .inl ⟨a, .inr b⟩
          · exact .inr ⟨a, .inr b⟩
        · rintro (⟨a, b | b⟩ | ⟨a, b | b⟩)
          · omega
          · exact .inr (.inl ⟨a, b⟩)
          · exact .inl (by omega)
          · exact .inr (.inr ⟨a, b⟩)
theorem upL_rise : ∀ {l : List Nat}, l.Pairwise (· < ·) → (upL s l).Pairwise (· < ·)
  | [], _ => List.Pairwise.nil
  | q :: l, h => by
    rw [List.pairwise_cons] at h
    have ih := upL_rise h.2
    have hb : upL s (q :: l) = if q < s then q :: upL s l else if q = s then s :: (s + 1) :: upL s l else (q + 1) :: upL s l := rfl
    have hm : ∀ x ∈ upL s l, q < x ∧ (s < q → q + 1 < x) ∧ (q = s → q + 1 < x) := fun x hx => by
      rcases upL_mem.1 hx with ⟨a, b⟩ | ⟨a, b⟩
      · have := h.1 x b; omega
      · have := h.1 _ b; omega
    rw [hb]
    by_cases e1 : q < s
    · rw [if_pos e1]
      exact List.pairwise_cons.2 ⟨fun x hx => (hm x hx).1, ih⟩
    · by_cases e2 : q = s
      · subst e2
        rw [if_neg e1, if_pos rfl]
        refine List.pairwise_cons.2 ⟨fun x hx => ?_, List.pairwise_cons.2 ⟨fun x hx => (hm x hx).2.2 rfl, ih⟩⟩
        rcases List.mem_cons.1 hx with rfl | hx
        · omega
        · exact (hm x hx).1
      · rw [if_neg e1, if_neg e2]
        exact List.pairwise_cons.2 ⟨fun x hx => (hm x hx).2.1 (by omega), ih⟩

theorem up_bits (h : CutD D D' s b0 i0) {m : Nat} : bitsFrom (segN D') (upS s m) 0 = upL s (bitsFrom (segN D) m 0) := by
  refine rise_ext bitsFrom_rise (upL_rise bitsFrom_rise) fun x => ?_
  have := h.hs
  rw [bitsFrom_mem, upL_mem, bitsFrom_mem, bitsFrom_mem, upS_bit, h.seg]
  split
  · rename_i hx
    constructor
    · rintro ⟨a, b⟩; exact .inl ⟨hx, by omega, b⟩
    · rintro (⟨_, a, b⟩ | ⟨a, _⟩)
      · exact ⟨by omega, b⟩
      · omega
  · constructor
    · rintro ⟨a, b⟩; exact .inr ⟨by omega, by omega, b⟩
    · rintro (⟨a, _⟩ | ⟨_, a, b⟩)
      · omega
      · exact ⟨by omega, b⟩

theorem up_runs (h : CutD D D' s b0 i0) {m : Nat} (hlt : m < 2 ^ segN D) : runsK D' 16 (upS s m) = (runsK D 16 m).map (upP s b0 i0) := by
  have hlt' : upS s m < 2 ^ segN D' := by rw [h.seg]; exact upS_lt hlt h.hs
  rw [runsK_segs 16 _ hlt', runsK_segs 16 _ hlt]
  have hb := up_bits h (m := m)
  unfold segN at hb
  rw [hb]
  exact up_segs h 16 _ fun q hq => (bitsFrom_mem.1 hq).1
end

end Go.Proofs.YtjbbcpeidnkjlaaDoor


namespace Go.Proofs.YtjbbcpeidnkjlaaDoor
open Go Go.Ab

structure CutR (D D' : Dy) (s b0 i0 : Nat) : Prop extends CutD D D' s b0 i0 where
  law : D'.law = D.law
  walk : D'.walk = D.walk
  has : ∀ b n, D.has b n → D'.has b (upN b0 i0 b n)
  rel : ∀ b n, D.has b n → D'.rel b (upN b0 i0 b n) = D.rel b n

section
variable {D D' : Dy} {s b0 i0 : Nat}
theorem up_kAt (h : CutR D D' s b0 i0) {b n : Nat} (hs : D.has b n) : kAt (known0 D') b (upN b0 i0 b n) = kAt (known0 D) b n := by
  rw [kAt0 hs, kAt0 (h.has b n hs), h.rel b n hs]
theorem up_walk (h : CutR D D' s b0 i0) {b n c k : Nat} (hs : D.has b n) (hk : D.has c k) : D'.walkOf b (upN b0 i0 b n) c (upN b0 i0 c k) = D.walkOf b n c k := by
  unfold Dy.walkOf
  rw [h.rel b n hs, h.rel c k hk, h.walk]

theorem up_pieces (h : CutR D D' s b0 i0) {m : Nat} (hlt : m < 2 ^ segN D) : piecesL D' (upS s m) = (piecesL D m).map (upP s b0 i0) := by
  unfold piecesL
  rw [up_runs h.toCutD hlt, insSort_map]
  congr 1
  refine insSort_congr _ _ _ fun i k hi hk => ?_
  have o1 := runsK_ok 16 m hlt _ (List.getElem_mem hi)
  have o2 := runsK_ok 16 m hlt _ (List.getElem_mem (show k < (runsK D 16 m).length by omega))
  have e1 : loOf D' (upP s b0 i0 (runsK D 16 m)[i]) = loOf D (runsK D 16 m)[i] := by
    show (D'.rel _ _).lo = _
    exact congrArg Rl.lo (h.rel _ _ o1.fst)
  have e2 : loOf D' (upP s b0 i0 ((runsK D 16 m)[k]'(by omega))) = loOf D ((runsK D 16 m)[k]'(by omega)) := congrArg Rl.lo (h.rel _ _ o2.fst)
  rw [e1, e2]

theorem up_last (h : CutR D D' s b0 i0) {m : Nat} {p : Pc} (o : PcOk D m p) : lastOf (known0 D') (upP s b0 i0 p) = lastOf (known0 D) p := by
  unfold lastOf
  simp only [upP]
  rw [o.same, up_kAt h o.lst, up_kAt h o.fst]
theorem up_free (h : CutR D D' s b0 i0) {m : Nat} {p q : Pc} (o : PcOk D m p) (o' : PcOk D m q) : freeOf D' (known0 D') (upP s b0 i0 p) (upP s b0 i0 q) = freeOf D (known0 D) p q := by
  unfold freeOf restOf
  simp only [upP]
  rw [o.same, up_kAt h o.lst, up_kAt h o'.fst, up_walk h o.lst o'.fst]
theorem up_spread (h : CutR D D' s b0 i0) {m : Nat} {ps : List Pc} (hok : ∀ p ∈ ps, PcOk D m p) (h0 : 0 < ps.length) : spreadOf D' (known0 D') (ps.map (upP s b0 i0)) = spreadOf D (known0 D) ps := by
  have oa := hok _ (List.getElem_mem (show ps.length - 1 < ps.length by omega))
  have ob := hok _ (List.getElem_mem h0)
  have e1 : (ps.map (upP s b0 i0))[ps.length - 1]?.getD fz = upP s b0 i0 ps[ps.length - 1] := by
    rw [List.getElem?_map, List.getElem?_eq_getElem (by omega)]; rfl
  have e2 : (ps.map (upP s b0 i0))[0]?.getD fz = upP s b0 i0 ps[0] := by
    rw [List.getElem?_map, List.getElem?_eq_getElem h0]; rfl
  unfold spreadOf
  rw [List.length_map, e1, e2, List.getElem?_eq_getElem (by omega), List.getElem?_eq_getElem h0, Option.getD_some, Option.getD_some, h.law]
  simp only [upP]
  rw [oa.same, up_kAt h oa.lst, up_kAt h ob.fst]

theorem up_legal (hV : Valid D) (hV' : Valid D') (h : CutR D D' s b0 i0) {m : Nat} (h0 : m ≠ 0) (hlt : m < 2 ^ segN D) : legalN D' (known0 D') (upS s m) = legalN D (known0 D) m := by
  have hok : ∀ p ∈ piecesL D m, PcOk D m p := fun p hp => piecesL_mem hlt hp
  have hpos := piecesL_pos (D := D) h0
  unfold legalN
  rw [up_pieces h hlt, Bool.eq_iff_iff, legalB_iff hV', legalB_iff hV]
  have hsum : ((piecesL D m).map (upP s b0 i0)).map (lastOf (known0 D')) = (piecesL D m).map (lastOf (known0 D)) := by
    rw [List.map_map]
    exact List.map_congr_left fun p hp => up_last h (hok p hp)
  have hfree : ∀ j, j + 1 < (piecesL D m).length → freeOf D' (known0 D') (((piecesL D m).map (upP s b0 i0))[j]?.getD fz) (((piecesL D m).map (upP s b0 i0))[j + 1]?.getD fz) = freeOf D (known0 D) ((piecesL D m)[j]?.getD fz) ((piecesL D m)[j + 1]?.getD fz) := fun j hj => by
    rw [List.getElem?_map, List.getElem?_map, List.getElem?_eq_getElem (by omega), List.getElem?_eq_getElem hj]
    exact up_free h (hok _ (List.getElem_mem _)) (hok _ (List.getElem_mem _))
  have hsp := up_spread h hok hpos
  constructor
  · rintro ⟨l1, l2, l3, l4, l5⟩
    rw [h.law] at l1 l3 l5
    refine ⟨by simpa using l1, fun p hp => ?_, by rw [← hsum]; exact l3, fun j hj => ?_, by rw [← hsp]; exact l5⟩
    · have := l2 _ (List.mem_map.2 ⟨p, hp, rfl⟩)
      rw [up_last h (hok p hp), h.law] at this; exact this
    · have := l4 j (by simpa using hj)
      rw [hfree j hj, h.law] at this; exact this
  · rintro ⟨l1, l2, l3, l4, l5⟩
    refine ⟨by rw [h.law]; simpa using l1, fun p hp => ?_, by rw [hsum, h.law]; exact l3, fun j hj => ?_, by rw [hsp, h.law]; exact l5⟩
    · obtain ⟨q, hq, rfl⟩ := List.mem_map.1 hp
      rw [up_last h (hok q hq), h.law]; exact l2 q hq
    · have hj' : j + 1 < (piecesL D m).length := by simpa using hj
      rw [hfree j hj', h.law]; exact l4 j hj'

theorem up_best (hV : Valid D) (hV' : Valid D') (h : CutR D D' s b0 i0) (hok : (bestC D).ok = true) : (bestC D').ok = true ∧ (bestC D').n ≤ (bestC D).n := by
  obtain ⟨p1, p2, _⟩ := best_part hV hok
  have hn := h.seg
  have hpart : Part (legalL D' (known0 D')) (2 ^ segN D' - 1) ((bestL D).map (upS s)) := by
    refine ⟨fun d hd => ?_, ?_, fun i => ?_⟩
    · obtain ⟨x, hx, rfl⟩ := List.mem_map.1 hd
      have hm := passL_mem.1 (p1.mem x hx)
      have hx0 : x ≠ 0 := by omega
      refine mem_LL (upS_ne hx0) (by rw [hn]; exact upS_lt hm.1.2 h.hs) ?_
      rw [up_legal hV hV' h hx0 hm.1.2]; exact hm.2
    · rw [List.pairwise_map]
      exact p1.disj.imp fun e => upS_and e
    · rw [hn, ← upS_full h.hs, upS_bit]
      have e1 : ∀ q, (2 ^ segN D - 1).testBit q = (bestL D).any fun d => d.testBit q := p1.all
      rw [List.any_map]
      split
      · rename_i hx
        rw [e1]
        congr 1; funext d
        simp [upS_bit, hx]
      · rename_i hx
        rw [e1]
        congr 1; funext d
        simp [upS_bit, hx]
  have := choose_least (pay := payN D') (LL_ok hV') _ (full_lt hV') _ hpart
  unfold bestC at this ⊢
  refine ⟨this.1, ?_⟩
  have e : (bestL D).length = (choose (legalL D (known0 D)) (payN D) (2 ^ segN D - 1)).n := p2
  rw [List.length_map] at this
  omega
end

end Go.Proofs.YtjbbcpeidnkjlaaDoor


namespace Go.Proofs.YtjbbcpeidnkjlaaDoor
open Go Go.Ab

theorem segs_take_le {bs : List (List Rl)} {i j : Nat} (h : i ≤ j) : segsOf (bs.take i) ≤ segsOf (bs.take j) := by
  induction j with
  | zero => have : i = 0 := by omega
            subst this; exact Nat.le_refl _
  | succ j ih =>
    by_cases e : i = j + 1
    · subst e; exact Nat.le_refl _
    · refine Nat.le_trans (ih (by omega)) ?_
      by_cases hj : j < bs.length
      · rw [segsOf_take hj]; omega
      · rw [List.take_of_length_le (by omega), List.take_of_length_le (by omega)]; exact Nat.le_refl _

theorem spD_of {D : Dy} {j n : Nat} {r : List Rl} (hj : D.blocks[j]? = some r) (hn : n + 1 < r.length) : segsOf (D.blocks.take j) + n < segsOf D.blocks ∧ spD D ((segsOf (D.blocks.take j) + n : Nat) : Int) = (j, n) := by
  obtain ⟨hjl, hr⟩ := List.getElem?_eq_some_iff.1 hj
  have h1 : segsOf (D.blocks.take (j + 1)) = segsOf (D.blocks.take j) + (r.length - 1) := by rw [segsOf_take hjl, hr]
  have h2 : segsOf (D.blocks.take (j + 1)) ≤ segsOf D.blocks := by
    have := segs_take_le (bs := D.blocks) (show j + 1 ≤ D.blocks.length by omega)
    rwa [List.take_length] at this
  refine ⟨by omega, ?_⟩
  obtain ⟨j', n', hsp, hj', ⟨l, hl1, hl2⟩, hx⟩ := spots_at (bs := D.blocks) (i := D.blocks.length) (Nat.le_refl _) (x := segsOf (D.blocks.take j) + n) (by rw [List.take_length]; omega)
  have hsd : spD D ((segsOf (D.blocks.take j) + n : Nat) : Int) = (j', n') := by
    unfold spD
    rw [Int.toNat_natCast, hsp]; rfl
  obtain ⟨hjl', hr'⟩ := List.getElem?_eq_some_iff.1 hl1
  have h1' : segsOf (D.blocks.take (j' + 1)) = segsOf (D.blocks.take j') + (l.length - 1) := by rw [segsOf_take hjl', hr']
  have e : j = j' := by
    rcases Nat.lt_trichotomy j j' with a | a | a
    · have := segs_take_le (bs := D.blocks) (show j + 1 ≤ j' by omega); omega
    · exact a
    · have := segs_take_le (bs := D.blocks) (show j' + 1 ≤ j by omega); omega
  subst e
  rw [hsd]
  congr 1
  omega

def cutDay (D : Dy) (b i : Nat) (x : Rl) : Dy := { D with blocks := D.blocks.set b (((D.blocks[b]?).getD []).take (i + 1) ++ x :: ((D.blocks[b]?).getD []).drop (i + 1)) }

section
variable {D : Dy} {b0 i0 : Nat} {x : Rl} {r : List Rl}
theorem cut_blk (hr : D.blocks[b0]? = some r) : (cutDay D b0 i0 x).blocks[b0]? = some (r.take (i0 + 1) ++ x :: r.drop (i0 + 1)) := by
  obtain ⟨hb, rfl⟩ := List.getElem?_eq_some_iff.1 hr
  simp [cutDay, hb]
theorem cut_len (hi : i0 + 1 < r.length) : (r.take (i0 + 1) ++ x :: r.drop (i0 + 1)).length = r.length + 1 := by simp; omega
theorem cut_other {b : Nat} (hb : b ≠ b0) : (cutDay D b0 i0 x).blocks[b]? = D.blocks[b]? := by
  simp [cutDay, List.getElem?_set_ne (Ne.symm hb)]
theorem cut_take_le {j : Nat} (h : j ≤ b0) : (cutDay D b0 i0 x).blocks.take j = D.blocks.take j := by
  simp only [cutDay]
  rw [List.take_set_of_le h]
theorem cut_segs_gt (hr : D.blocks[b0]? = some r) (hi : i0 + 1 < r.length) : ∀ {j : Nat}, b0 < j → segsOf ((cutDay D b0 i0 x).blocks.take j) = segsOf (D.blocks.take j) + 1
  | 0, h => by omega
  | j + 1, h => by
    have hb := (List.getElem?_eq_some_iff.1 hr).1
    have hrb := (List.getElem?_eq_some_iff.1 hr).2
    have hl : (cutDay D b0 i0 x).blocks.length = D.blocks.length := by simp [cutDay]
    by_cases e : j = b0
    · subst e
      have hc := cut_blk (i0 := i0) (x := x) hr
      obtain ⟨hb', hrb'⟩ := List.getElem?_eq_some_iff.1 hc
      rw [segsOf_take hb', segsOf_take hb, hrb', hrb, cut_take_le (Nat.le_refl _), cut_len hi]
      omega
    · have ih := cut_segs_gt hr hi (j := j) (by omega)
      by_cases hj : j < D.blocks.length
      · have ho := cut_other (D := D) (i0 := i0) (x := x) e
        have hj' : j < (cutDay D b0 i0 x).blocks.length := by omega
        have : (cutDay D b0 i0 x).blocks[j] = D.blocks[j] := by
          rw [List.getElem?_eq_getElem hj', List.getElem?_eq_getElem hj] at ho
          exact Option.some.inj ho
        rw [segsOf_take hj', segsOf_take hj, ih, this]; omega
      · rw [List.take_of_length_le (by omega), List.take_of_length_le (by omega)]
        rw [List.take_of_length_le (by omega), List.take_of_length_le (by omega)] at ih
        exact ih

theorem cut_cutR (hr : D.blocks[b0]? = some r) (hi : i0 + 1 < r.length) : CutR D (cutDay D b0 i0 x) (segsOf (D.blocks.take b0) + i0) b0 i0 := by
  have hb := (List.getElem?_eq_some_iff.1 hr).1
  have hseg : ∀ D : Dy, segsOf D.blocks = segN D := fun D => segPs_length.symm
  have hlen := cut_len (x := x) hi
  have hcb := cut_blk (i0 := i0) (x := x) hr
  have hl : (cutDay D b0 i0 x).blocks.length = D.blocks.length := by simp [cutDay]
  have hs := spD_of hr (show i0 + 1 < r.length from hi)
  have hsp : ∀ q : Nat, q < segN D → ∃ j n l, spD D (q : Int) = (j, n) ∧ D.blocks[j]? = some l ∧ n + 1 < l.length ∧ q = segsOf (D.blocks.take j) + n := fun q hq => by
    obtain ⟨j', n', hsp, hj', ⟨l, hl1, hl2⟩, hx⟩ := spots_at (bs := D.blocks) (i := D.blocks.length) (Nat.le_refl _) (x := q) (by rw [List.take_length, hseg]; exact hq)
    refine ⟨j', n', l, ?_, hl1, hl2, hx⟩
    unfold spD
    rw [Int.toNat_natCast, hsp]; rfl
  have h1 : segsOf (D.blocks.take (b0 + 1)) = segsOf (D.blocks.take b0) + (r.length - 1) := by
    rw [segsOf_take hb, (List.getElem?_eq_some_iff.1 hr).2]
  refine ⟨⟨by rw [← hseg]; exact hs.1, ?_, fun q hq => ?_, ⟨hs.2, ?_, ?_⟩, fun q hq hn => ?_⟩, rfl, rfl, fun b n hbn => ?_, fun b n hbn => ?_⟩
  · rw [← hseg, ← hseg]
    have := cut_segs_gt (x := x) hr hi hb
    rwa [List.take_length, ← hl, List.take_length] at this
  · obtain ⟨j, n, l, e1, e2, e3, e4⟩ := hsp q (by rw [← hseg]; omega)
    rw [e1]
    have hjb : j < b0 ∨ (j = b0 ∧ n < i0) := by
      rcases Nat.lt_trichotomy j b0 with a | a | a
      · exact .inl a
      · subst a; exact .inr ⟨rfl, by omega⟩
      · have := segs_take_le (bs := D.blocks) (show b0 + 1 ≤ j by omega); omega
    refine ⟨?_, fun hh => ?_⟩
    · rcases hjb with a | ⟨a, a2⟩
      · have := spD_of (D := cutDay D b0 i0 x) (j := j) (n := n) (by rw [cut_other (by omega)]; exact e2) e3
        rw [cut_take_le (by omega), ← e4] at this
        exact this.2
      · subst a
        rw [hr] at e2; cases e2
        have := spD_of (D := cutDay D j i0 x) (j := j) (n := n) hcb (by rw [hlen]; omega)
        rw [cut_take_le (Nat.le_refl _), ← e4] at this
        exact this.2
    · rcases hjb with a | ⟨_, a⟩
      · simp only at hh; omega
      · exact a
  · have := spD_of (D := cutDay D b0 i0 x) (j := b0) (n := i0) hcb (by rw [hlen]; omega)
    rw [cut_take_le (Nat.le_refl _)] at this
    exact this.2
  · have := spD_of (D := cutDay D b0 i0 x) (j := b0) (n := i0 + 1) hcb (by rw [hlen]; omega)
    rw [cut_take_le (Nat.le_refl _)] at this
    exact this.2
  · obtain ⟨j, n, l, e1, e2, e3, e4⟩ := hsp q hn
    rw [e1]
    have hjb : b0 < j ∨ (j = b0 ∧ i0 < n) := by
      rcases Nat.lt_trichotomy j b0 with a | a | a
      · have h2 : segsOf (D.blocks.take (j + 1)) = segsOf (D.blocks.take j) + (l.length - 1) := by
          rw [segsOf_take (List.getElem?_eq_some_iff.1 e2).1, (List.getElem?_eq_some_iff.1 e2).2]
        have := segs_take_le (bs := D.blocks) (show j + 1 ≤ b0 by omega); omega
      · subst a; exact .inr ⟨rfl, by omega⟩
      · exact .inl a
    refine ⟨?_, fun hh => ?_⟩
    · rcases hjb with a | ⟨a, a2⟩
      · have := spD_of (D := cutDay D b0 i0 x) (j := j) (n := n) (by rw [cut_other (by omega)]; exact e2) e3
        have hg := cut_segs_gt (x := x) hr hi a
        have hq : segsOf ((cutDay D b0 i0 x).blocks.take j) + n = q + 1 := by omega
        rw [hq] at this
        rw [this.2]
        unfold upN
        rw [if_neg]
        rintro ⟨c, _⟩; simp only at c; omega
      · subst a
        rw [hr] at e2; cases e2
        have := spD_of (D := cutDay D j i0 x) (j := j) (n := n + 1) hcb (by rw [hlen]; omega)
        rw [cut_take_le (Nat.le_refl _)] at this
        have hq : segsOf (D.blocks.take j) + (n + 1) = q + 1 := by omega
        rw [hq] at this
        rw [this.2]
        unfold upN
        rw [if_pos ⟨rfl, a2⟩]
    · rcases hjb with a | ⟨_, a⟩
      · simp only at hh; omega
      · exact a
  · obtain ⟨l, e1, e2⟩ := hbn
    by_cases e : b = b0
    · subst e
      rw [hr] at e1; cases e1
      refine ⟨_, hcb, ?_⟩
      rw [hlen]; unfold upN; split <;> omega
    · refine ⟨l, by rw [cut_other e]; exact e1, ?_⟩
      unfold upN; rw [if_neg fun c => e c.1]; exact e2
  · obtain ⟨l, e1, e2⟩ := hbn
    by_cases e : b = b0
    · subst e
      rw [hr] at e1; cases e1
      have hr1 : D.rel b n = r[n] := by simp [Dy.rel, hr, e2]
      rw [hr1]
      unfold Dy.rel upN
      rw [hcb]
      simp only [Option.bind_some, true_and]
      split
      · rw [List.getElem?_append_right (by simp; omega)]
        have : n + 1 - (r.take (i0 + 1)).length = (n - (i0 + 1)) + 1 := by simp; omega
        rw [this, List.getElem?_cons_succ, List.getElem?_drop]
        have e3 : i0 + 1 + (n - (i0 + 1)) = n := by omega
        rw [e3, List.getElem?_eq_getElem e2]; rfl
      · rw [List.getElem?_append_left (by simp; omega), List.getElem?_take_of_lt (by omega), List.getElem?_eq_getElem e2]; rfl
    · unfold Dy.rel
      rw [cut_other e]
      unfold upN; rw [if_neg fun c => e c.1]
end

end Go.Proofs.YtjbbcpeidnkjlaaDoor


namespace Go.Proofs.YtjbbcpeidnkjlaaDoor
open Go Go.Ab

theorem setB_set {n m : Nat} (hn : 0 < n) : ∃ M, M ≠ 0 ∧ M < 2 ^ n ∧ setB n m = setR n M := by
  unfold setB
  split
  · refine ⟨1, by omega, Nat.one_lt_two_pow (by omega), ?_⟩
    have : bitsFrom n 1 0 = [0] := by
      refine rise_ext bitsFrom_rise (by simp) fun x => ?_
      rw [bitsFrom_mem, List.mem_singleton]
      constructor
      · rintro ⟨_, h⟩
        have : (2 ^ 0).testBit x = true := h
        rw [Nat.testBit_two_pow] at this
        exact (of_decide_eq_true this).symm
      · rintro rfl; exact ⟨hn, by simp⟩
    unfold setR
    rw [this]; rfl
  · rename_i hne
    have e : bitsFrom n (m % 2 ^ n) 0 = bitsFrom n m 0 := by
      refine rise_ext bitsFrom_rise bitsFrom_rise fun x => ?_
      rw [bitsFrom_mem, bitsFrom_mem, Nat.testBit_mod_two_pow]
      constructor
      · rintro ⟨a, b⟩; exact ⟨a, by simpa [a] using b⟩
      · rintro ⟨a, b⟩; exact ⟨a, by simpa [a] using b⟩
    refine ⟨m % 2 ^ n, fun h0 => ?_, Nat.mod_lt _ (Nat.two_pow_pos n), ?_⟩
    · apply hne
      unfold setR
      rw [← e, h0]
      have : bitsFrom n 0 0 = [] := by
        refine rise_ext bitsFrom_rise List.Pairwise.nil fun x => ?_
        rw [bitsFrom_mem]; simp
      rw [this]; rfl
    · unfold setR; rw [e]

theorem upL_append {s : Nat} {a b : List Nat} : upL s (a ++ b) = upL s a ++ upL s b := by
  induction a with
  | nil => rfl
  | cons q a ih =>
    have hb : ∀ l, upL s (q :: l) = if q < s then q :: upL s l else if q = s then s :: (s + 1) :: upL s l else (q + 1) :: upL s l := fun _ => rfl
    rw [List.cons_append, hb, hb, ih]
    split
    · rfl
    · split <;> rfl
theorem upL_length {s : Nat} {a : List Nat} : (upL s a).length ≤ 2 * a.length := by
  induction a with
  | nil => simp [upL]
  | cons q a ih =>
    have hb : upL s (q :: a) = if q < s then q :: upL s a else if q = s then s :: (s + 1) :: upL s a else (q + 1) :: upL s a := rfl
    rw [hb]
    split
    · simp; omega
    · split <;> (simp; omega)

theorem up_set {D D' : Dy} {s b0 i0 M : Nat} (h : CutD D D' s b0 i0) : setR (segN D') (upS s M) = bitsI (upL s (bitsFrom (segN D) M 0)) := by
  unfold setR
  rw [up_bits h]

theorem cut_legal {D D' : Dy} {s b0 i0 M : Nat} (hV : Valid D) (hV' : Valid D') (h : CutR D D' s b0 i0) (h0 : M ≠ 0) (hlt : M < 2 ^ segN D) : legalD D' (setR (segN D') (upS s M)) = legalD D (setR (segN D) M) := by
  have hlt' : upS s M < 2 ^ segN D' := by rw [h.seg]; exact upS_lt hlt h.hs
  have e1 : legalD D' (setR (segN D') (upS s M)) = legalN D' (known0 D') (maskL (setR (segN D') (upS s M))) := rfl
  have e2 : legalD D (setR (segN D) M) = legalN D (known0 D) (maskL (setR (segN D) M)) := rfl
  rw [e1, e2, setR_mask hlt', setR_mask hlt]
  exact up_legal hV hV' h h0 hlt

end Go.Proofs.YtjbbcpeidnkjlaaDoor

