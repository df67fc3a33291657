/-
  Joined texts of a calculus of abstract memory, and of contracts of the program's functions.
-/
import Derived.Test.YtohohnpjilinmaaJ7
import Derived.Test.YtohohnpjilinmaaChecked
import Derived.KernelRfl
/-
  The contract of what lays a reference's table anew for the program.
-/
namespace Go.Proofs.Ytohohnpjilinmaa
open Go Go.Ab

theorem table_spec {e s : Value} {T : Tab} {H : Heap} (h : TabAt H e s T) (hth : thin T = true) : AFun Try.prog 19 [tabV T e s] H (fun r B => (∃ e' s', r = tabV T e' s' ∧ TabAt B e' s' T) ∧ Ge H B) := by
  refine AFun.mk ok19 hm (Nat.le_of_ble_eq_true rfl) ?_
  have he := h.empty.one
  have hs := h.trips.one
  have hth2 := hth
  simp [thin] at hth2
  obtain ⟨⟨h1, h2⟩, h3⟩ := hth2
  simp [a19, r19]
  refine fcall_fun (rows_spec (h.empty.ge ?_) (by omega) (fun l hl => by have := h2 l hl; omega)) ?_
  · refine Ge.setNew (Ge.grow_le (by omega) ((Ge.new _ _).newOf _)) (by omega) _
  rintro e' B ⟨hr, gB⟩
  have G : Ge H B := Ge.trans (Ge.setNew (Ge.grow_le (by omega) ((Ge.new _ _).newOf _)) (by omega) _) gB
  have b0 := gB.got (n := H.next) (by simp) rfl
  have b1 := gB.got (n := H.next + 1) (by simp) rfl
  simp at b0 b1
  have b3 := gB.got (n := H.next + 10) (by simp) rfl
  simp at b3
  have he' : one e' = true := by obtain ⟨vs, o1, _⟩ := hr.ex; exact o1.one
  have nB := gB.next
  simp at nB
  have oc := one_cells he'
  simp [b0, b3, he', oc]
  refine floop_intro (fun z => z.d = [] ∧ Ge H z.H ∧ B.next ≤ z.H.next ∧ (∀ n, H.next ≤ n → n < B.next → n ≠ H.next + 10 → z.H.get n = B.get n) ∧ z.t 1 = .pointer (some ⟨H.next, 0, none⟩) ∧ z.t 2 = .pointer (some ⟨H.next + 1, 0, none⟩) ∧ z.t 3 = .pointer (some ⟨H.next + 10, 0, none⟩) ∧
    ∃ (i : Nat) (s' : Value), i ≤ T.trips.length ∧ z.t 4 = .int .i64 i ∧ z.H.get (H.next + 10) = .cells true [.int .i64 T.places, .int .i64 T.layover, e', s'] 4 ∧ OwnS z.H B.next 6 s' i ((T.trips.take i).flatMap Tr.cells)) (fun z => T.trips.length - (intOf (z.t 4)).toNat) ?_ ?_
  · refine ⟨rfl, Ge.setNew G (by omega) _, by simp, fun n h1 h2 h3 => by simp [h3], by simp, by simp, by simp, 0, .slice none 0 0, by simp, by simp, by simp, .inl ⟨rfl, rfl, by simp⟩⟩
  rintro ⟨t, _, A⟩ ⟨rfl, gA, hn, hkeep, t1, t2, t3, i, s', hi, t4, b10, hO⟩
  dsimp only at gA hn hkeep t1 t2 t3 t4 b10 hO
  have c0 := (hkeep H.next (by omega) (by omega) (by omega)).trans b0
  simp [t1, t4, c0, h.trips.lenV]
  refine fcond_intro (fun hc => ?_) (fun hc => ?_)
  · have h1 : i < T.trips.length := by simpa using hc
    obtain ⟨n1, o1, f1, l1, f2, _⟩ := (h.trips.ge gA).at h1
    have ne1 : H.next ≠ A.next := by omega
    have ne2 : H.next + 10 ≠ A.next := by omega
    simp [t1, t3, t4, c0, f1, f2, Tr.val, ne2, b10]
    have hA2 : Ge A (((A.new (.cells true [.int .i64 0, .int .i64 0, .int .i64 0, .int .i64 0, .int .i64 0, .int .i64 0] 6)).set A.next (.cells true T.trips[i].cells 6)).new (.cells true T.trips[i].cells 6)) := (Ge.setNew (Ge.new _ _) (Nat.le_refl _) _).newOf _
    have hgA := gA.next
    refine fapp_ownS (lo := B.next) (len := i) (xs := T.trips[i].cells) (hO.ge hA2) ?_ rfl rfl (by omega) (by omega) (by simp) (by simp) (by simp; omega) fun u C k1 k2 k3 k4 => ?_
    · simp [slCells, rdL, Tr.cells]
    have hC : ∀ m, m < A.next → slName s' ≠ some m → C.get m = A.get m := fun m hm hs2 => by
      have e1 : m ≠ A.next := by omega
      rw [k4 m (by simp; omega) hs2]
      simp [e1]
      intro e2; omega
    have hnm : ∀ m, m < B.next → slName s' ≠ some m := fun m hm e2 => by have := (hO.names e2).1; omega
    have c10 := (hC (H.next + 10) (by omega) (hnm _ (by omega))).trans b10
    have hu := k1.one
    have ou := one_cells hu
    have hun : H.next + 10 < B.next := by omega
    simp [t3, c10, ou, hu, t4, add_in (x := i) (y := 1) (by omega) (by omega)]
    have gC : Ge H C := ⟨by omega, fun m hm => by rw [hC m (by omega) (hnm _ (by omega)), gA.get m hm]⟩
    refine ⟨⟨Ge.setNew gC (by omega) _, by omega, ?_, t1, t2, i + 1, by omega, by omega, ?_⟩, by omega⟩
    · intro m hm1 hm2 hm3
      simp [hm3]
      rw [hC m (by omega) (hnm _ hm2), hkeep m hm1 hm2 hm3]
    · have : (T.trips.take (i + 1)).flatMap Tr.cells = (T.trips.take i).flatMap Tr.cells ++ T.trips[i].cells := by
        rw [List.take_succ_eq_append_getElem h1, List.flatMap_append]; simp
      rw [this]
      refine k1.keep (by simp) fun m hm => ?_
      have := (k1.names hm).1
      have e1 : m ≠ H.next + 10 := by omega
      simp [e1]
  · have h1 : i = T.trips.length := by simp at hc; omega
    subst h1
    rw [List.take_length] at hO
    have c1 := (hkeep (H.next + 1) (by omega) (by omega) (by omega)).trans b1
    have hs' := hO.one
    have os' := one_cells hs'
    simp [t2, t3, b10, c1, he', hs']
    refine ⟨⟨e', s', ⟨rfl, rfl⟩, ⟨?_, ?_⟩⟩, Ge.setNew gA (by omega) _⟩
    · refine (hr.keep (B := A.set (H.next + 1) _) (by simpa using hn) fun n h1 h2 => ?_).rows (by omega)
      simp at h1
      have e1 : n ≠ H.next + 1 := by omega
      simp [e1]
      exact hkeep n (by omega) h2 (by omega)
    · refine ⟨(hO.keep (B := A.set (H.next + 1) _) (by simp) fun n h1 => ?_).slr, by omega⟩
      have := (hO.names h1).1
      have e1 : n ≠ H.next + 1 := by omega
      simp [e1]

end Go.Proofs.Ytohohnpjilinmaa

/-
  What RunFollows answers, if awake answers true.
-/
namespace Go.Proofs.Ytohohnpjilinmaa
open Go Go.Ab

theorem RowsAt.atAll {H : Heap} {v : Value} {xs : List (List Int)} (h : RowsAt H v xs) {i : Nat} (hi : i < xs.length) : ∃ p u, islV 1 v (.int .i64 i) = some p ∧ (∀ A, Ge H A → ldV A false 1 p = some u) ∧ IntsAt H u xs[i] := by
  obtain ⟨vs, h1, h2, h3⟩ := h
  obtain ⟨u, h4, h5⟩ := h3 i hi
  obtain ⟨p, h6, h7⟩ := h1.at1 (k := .i64) hi
  refine ⟨p, u, h6, fun A g => ?_, h5⟩
  obtain ⟨p', h8, h9⟩ := (h1.ge g).at1 (k := .i64) hi
  rw [h6] at h8
  cases h8
  exact h9.trans h4

theorem runFollows_of (ha : ∀ H, AFun Try.prog 17 [] H (fun v B => v = .bool true ∧ Ge H B)) {e s : Value} {T : Tab} {H : Heap} (h : TabAt H e s T) : AFun Try.prog 3 [tabV T e s] H (fun v B => v = .bool true ∧ Ge H B) := by
  refine AFun.mk ok3 hm (Nat.le_of_ble_eq_true rfl) ?_
  have g0 : Ge H (H.new (.cells true [.int .i64 T.places, .int .i64 T.layover, e, s] 4)) := Ge.new _ _
  simp [a3, r3]
  refine fcall_fun (thin_spec (h.ge g0)) ?_
  rintro _ H1 ⟨rfl, g1⟩
  have G1 := g0.trans g1
  have b1 := g1.got (n := H.next) (by simp) rfl
  simp at b1
  cases hth : thin T
  · simp
    refine fcall_fun (ha _) ?_
    rintro _ B ⟨rfl, gB⟩
    simp
    exact G1.trans gB
  simp [b1]
  refine fcall_fun (table_spec (h.ge G1) hth) ?_
  rintro _ H2 ⟨⟨e2, s2, rfl, t2⟩, g2⟩
  simp
  refine fcall_fun (checkTable_spec t2) ?_
  rintro _ H3 ⟨rfl, g3⟩
  have G3 := (G1.trans g2).trans g3
  have n1 := g1.next
  simp at n1
  have n2 := g2.next
  have n3 := g3.next
  have b3 := g3.got (by omega) (g2.got (by omega) b1)
  simp [b3]
  refine fcall_fun (table_spec (h.ge G3) hth) ?_
  rintro _ H4 ⟨⟨e4, s4, rfl, t4⟩, g4⟩
  simp
  refine fcall_fun (follows_spec t4) ?_
  rintro r H5 ⟨g5, hbad, hgood⟩
  have G5 := (G3.trans g4).trans g5
  have n4 := g4.next
  have n5 := g5.next
  have b5 := g5.got (by omega) (g4.got (by omega) b3)
  by_cases hc : checkT T = 0
  · obtain ⟨f, rfl, hf⟩ := hgood hc
    simp [b5]
    refine fcall_fun (faultOf_spec (h.ge G5)) ?_
    rintro _ H6 ⟨rfl, g6⟩
    have G6 := G5.trans g6
    have n6 := g6.next
    have b6 := g6.got (by omega) b5
    have hT := checkT_zero.1 hc
    have hf6 := hf.ge g6
    have hlen : T.followers.length = T.trips.length := by simp [Tab.followers]
    simp [hc, b6, hf6.lenV, hlen, h.trips.lenV]
    refine floop_intro (fun z => z.d = [] ∧ Ge H z.H ∧ Ge H6 z.H ∧ z.t 1 = .pointer (some ⟨H.next, 0, none⟩) ∧ z.t 4 = f ∧ ∃ i : Nat, i ≤ T.trips.length ∧ z.t 7 = .int .i64 i) (fun z => T.trips.length - (intOf (z.t 7)).toNat) ?_ ?_
    · exact ⟨rfl, G6, Ge.refl _, by simp, by simp, 0, by simp, by simp⟩
    rintro ⟨t, _, A⟩ ⟨rfl, gA, gA6, t1, t4', i, hi, t7⟩
    dsimp only at gA gA6 t1 t4' t7
    have h62 := h.trips.2
    simp [t4', t7, hf6.lenV, hlen]
    refine fcond_intro (fun hc2 => ?_) (fun hc2 => ?_)
    · have hi' : i < T.trips.length := by simpa using hc2
      obtain ⟨p, u, e1, e2', e3⟩ := hf6.atAll (by omega : i < T.followers.length)
      have e20 := e2' _ (gA6.grow 9)
      have bA := gA6.got (by omega) b6
      simp [t1, t4', t7, e1, e20, bA]
      refine fcall_fun (refFollows_spec ((h.ge gA).ge (Ge.more A 9)) hT hi') ?_
      rintro v B ⟨hv, gB⟩
      have gAB : Ge A B := (Ge.more A 9).trans gB
      have e21 := e2' _ (gA6.trans gAB)
      have hfi : T.followers[i] = ((List.range T.trips.length).filter (T.mayN i)).map Int.ofNat := by simp [Tab.followers]
      simp [e21]
      refine fcall_fun (ints_spec (e3.ge (gA6.trans gAB)) hv) ?_
      rintro _ C ⟨rfl, gC⟩
      rw [hfi]
      have nA := gA6.next
      simp [t7, add_in (x := i) (y := 1) (by omega) (by omega)]
      exact ⟨⟨(gA.trans gAB).trans gC, (gA6.trans gAB).trans gC, t1, t4', i + 1, by omega, by omega⟩, by omega⟩
    · simp
      refine fcall_fun (ha _) ?_
      rintro _ B ⟨rfl, gB⟩
      simp
      exact gA.trans gB
  · have hr := hbad hc
    subst hr
    simp [b5]
    refine fcall_fun (faultOf_spec (h.ge G5)) ?_
    rintro _ H6 ⟨rfl, g6⟩
    simp [hc]
    refine fcall_fun (ha _) ?_
    rintro _ B ⟨rfl, gB⟩
    simp
    exact (G5.trans g6).trans gB

end Go.Proofs.Ytohohnpjilinmaa

/-
  The contract of the function that yields rising lists.
-/
namespace Go.Proofs.Ytohohnpjilinmaa
open Go Go.Ab

/-- The rising lists that go on from some numbers. -/
def ext (n : Nat) : Nat → Nat → List Int → List (List Int)
  | 0, _, pre => [pre]
  | r + 1, from_, pre => (List.range' from_ (n - from_)).flatMap fun (t : Nat) => ext n r (t + 1) (pre ++ [(t : Int)])

structure FN where
  l : Nat
  y : Nat
  s : Nat
  t : Nat
  f : Nat
  b : Nat

def FN.caps (b : FN) : List Value := [.pointer (some ⟨b.l, 0, none⟩), .pointer (some ⟨b.y, 0, none⟩), .pointer (some ⟨b.s, 0, none⟩), .pointer (some ⟨b.t, 0, none⟩), .pointer (some ⟨b.f, 0, none⟩)]

structure FEnv (A : Heap) (b : FN) (yv : Value) (L n : Nat) (lst : List Int) : Prop where
  ne : b.l ≠ b.b ∧ b.y ≠ b.b ∧ b.s ≠ b.b ∧ b.t ≠ b.b ∧ b.f ≠ b.b
  len : lst.length = L
  l : A.get b.l = .cells true [.int .i64 L] 1
  y : A.get b.y = .cells true [yv] 1
  s : A.get b.s = .cells true [.slice (some ⟨b.b, 0, none⟩) L L] 1
  t : A.get b.t = .cells true [.int .i64 n] 1
  f : A.get b.f = .cells true [.func (.func 92) #[] b.caps.toArray] 1
  b : A.get b.b = .cells true (lst.map (.int .i64)) L

theorem FEnv.set {A : Heap} {b : FN} {yv : Value} {L n : Nat} {lst lst2 : List Int} (h : FEnv A b yv L n lst) (hl : lst2.length = L) : FEnv (A.set b.b (.cells true (lst2.map (.int .i64)) L)) b yv L n lst2 where
  ne := h.ne
  len := hl
  l := by simp [h.ne.1, h.l]
  y := by simp [h.ne.2.1, h.y]
  s := by simp [h.ne.2.2.1, h.s]
  t := by simp [h.ne.2.2.2.1, h.t]
  f := by simp [h.ne.2.2.2.2, h.f]
  b := by simp

theorem ext_split {n r from_ k : Nat} {pre : List Int} (h1 : from_ ≤ k) (h2 : k < n) : ext n (r + 1) from_ pre = ((List.range' from_ (k - from_)).flatMap fun (t : Nat) => ext n r (t + 1) (pre ++ [(t : Int)])) ++ (ext n r (k + 1) (pre ++ [(k : Int)]) ++ (List.range' (k + 1) (n - (k + 1))).flatMap fun (t : Nat) => ext n r (t + 1) (pre ++ [(t : Int)])) := by
  have e : List.range' from_ (n - from_) = List.range' from_ (k - from_) ++ k :: List.range' (k + 1) (n - (k + 1)) := by
    have e1 : n - from_ = (k - from_) + ((n - (k + 1)) + 1) := by omega
    rw [e1, ← List.range'_append_1, List.range'_succ]
    congr 2
    · omega
    · congr 1; omega
  simp only [ext]
  rw [e, List.flatMap_append, List.flatMap_cons]

theorem fill_spec {b : FN} {yv : Value} {L n : Nat} {full : List (List Int)} (hL : L ≤ 12) (hn12 : n ≤ 12) {J : List (List Int) → Heap → Prop} {F : Heap → Prop}
    (hset : ∀ d A x, J d A → J d (A.set b.b x))
    (hy : ∀ d A lst, J d A → FEnv A b yv L n lst → (∀ x ∈ lst, 0 ≤ x ∧ x < (n : Int)) → (∃ rest, d ++ lst :: rest = full) → ACall Try.prog yv [.slice (some ⟨b.b, 0, none⟩) L L] A (fun r B => ∃ k, r = .bool k ∧ (k = true → J (d ++ [lst]) B ∧ FEnv B b yv L n lst) ∧ (k = false → F B))) :
    ∀ (r place from_ : Nat) (d : List (List Int)) (A : Heap) (pre lst : List Int), place + r = L → pre.length = place → lst.take place = pre → (∀ x ∈ pre, 0 ≤ x ∧ x < (n : Int)) → from_ ≤ n + 1 → (∃ rest, d ++ (ext n r from_ pre ++ rest) = full) → J d A → FEnv A b yv L n lst →
      AFun Try.prog 92 (.int .i64 place :: .int .i64 from_ :: b.caps) A (fun v B => ∃ k, v = .bool k ∧ (k = true → ∃ lst', FEnv B b yv L n lst' ∧ lst'.take place = pre ∧ J (d ++ ext n r from_ pre) B) ∧ (k = false → F B))
  | 0, place, from_, d, A, pre, lst, hp, hpl, htk, hin, hf, hfull, hJ, hE => by
    refine AFun.mk ok92 hm (Nat.le_of_ble_eq_true rfl) ?_
    have hpL : place = L := by omega
    subst hpL
    simp [a92, r92, FN.caps, hE.l, hE.y, hE.s]
    have hlst : lst = pre := by rw [← htk, List.take_of_length_le (by rw [hE.len]; exact Nat.le_refl _)]
    refine fcall_intro ((hy d A lst hJ hE (by rw [hlst]; exact hin) (by obtain ⟨rest, hr⟩ := hfull; exact ⟨rest, by rw [hlst]; simpa [ext] using hr⟩)).mono ?_)
    rintro _ B ⟨k, rfl, h1, h2⟩
    cases k
    · simp [h2 rfl]
    · obtain ⟨h3, h4⟩ := h1 rfl
      simp [ext]
      exact ⟨lst, h4, htk, by rw [← hlst]; exact h3⟩
  | r + 1, place, from_, d, A, pre, lst, hp, hpl, htk, hin, hf, hfull, hJ, hE => by
    refine AFun.mk ok92 hm (Nat.le_of_ble_eq_true rfl) ?_
    have hpL : ¬ (place : Int) = (L : Int) := by omega
    simp [a92, r92, FN.caps, hE.l, hpL]
    refine floop_intro (fun z => z.d = [] ∧ z.t 0 = .int .i64 place ∧ z.t 4 = .pointer (some ⟨b.s, 0, none⟩) ∧ z.t 5 = .pointer (some ⟨b.t, 0, none⟩) ∧ z.t 6 = .pointer (some ⟨b.f, 0, none⟩) ∧
      ∃ (k : Nat) (lst' : List Int), z.t 10 = .int .i64 k ∧ from_ ≤ k ∧ k ≤ n + 1 ∧ (n < k → k = from_) ∧ FEnv z.H b yv L n lst' ∧ lst'.take place = pre ∧ J (d ++ (List.range' from_ (min k n - from_)).flatMap fun (t : Nat) => ext n r (t + 1) (pre ++ [(t : Int)])) z.H) (fun z => n + 1 - (intOf (z.t 10)).toNat) ?_ ?_
    · refine ⟨rfl, by simp, by simp, by simp, by simp, from_, lst, by simp, by omega, by omega, fun _ => rfl, hE, htk, ?_⟩
      have : min from_ n - from_ = 0 := by omega
      simpa [this] using hJ
    rintro ⟨t, _, B⟩ ⟨rfl, t0, t4, t5, t6, k, lst', t10, hk1, hk2, hk3, hE', htk', hJ'⟩
    dsimp only at t0 t4 t5 t6 t10 hE' hJ'
    simp [t5, t10, hE'.t]
    refine fcond_intro (fun hc => ?_) (fun hc => ?_)
    · have hkn : k < n := by simpa using hc
      have hI : islV 1 (.slice (some ⟨b.b, 0, none⟩) L L) (.int .i64 place) = some (.pointer (some ⟨b.b, place, none⟩)) := by
        rw [islV_in (by omega) (by omega)]; simp
      have hlen := hE'.len
      have hst := stV_at (v := .int .i64 k) (sz := 1) (off := place) hE'.b rfl (by simp; omega) rfl
      have hw : wrL (lst'.map (Value.int .i64)) place [.int .i64 k] = (lst'.set place k).map (.int .i64) := by
        rw [wrL_one _ _ _ (by simp; omega), map_set_int]
      rw [cells_int] at hst
      simp only [hw] at hst
      rw [stV_ptr] at hst
      have hE2 := hE'.set (lst2 := lst'.set place k) (by simpa using hlen)
      have hJ2 := hset _ _ (.cells true ((lst'.set place k).map (.int .i64)) L) hJ'
      have hcall := fill_spec hL hn12 hset hy r (place + 1) (k + 1) (d ++ (List.range' from_ (min k n - from_)).flatMap fun (t : Nat) => ext n r (t + 1) (pre ++ [(t : Int)])) _ (pre ++ [(k : Int)]) (lst'.set place k) (by omega) (by simp [hpl]) (by
        rw [List.take_succ_eq_append_getElem (by simp; omega)]
        have e1 : (lst'.set place (k : Int)).take place = lst'.take place := by
          apply List.ext_getElem
          · simp
          · intro i h1 h2
            simp at h1 h2
            simp only [List.getElem_take]
            rw [List.getElem_set_ne (by omega)]
        rw [e1, htk']
        simp) (fun x hx => by
          rcases List.mem_append.1 hx with hx | hx
          · exact hin x hx
          · simp at hx; omega) (by omega) (by
          obtain ⟨rest, hr⟩ := hfull
          rw [ext_split hk1 hkn] at hr
          have e1 : min k n - from_ = k - from_ := by omega
          refine ⟨((List.range' (k + 1) (n - (k + 1))).flatMap fun (t : Nat) => ext n r (t + 1) (pre ++ [(t : Int)])) ++ rest, ?_⟩
          rw [← hr, e1]
          simp only [List.append_assoc]) hJ2 hE2
      simp [t0, t4, t10, hE'.s, hI, hst, t6, hE'.f, hE'.ne.2.2.2.2, add_in (x := place) (y := 1) (by omega) (by omega), add_in (x := k) (y := 1) (by omega) (by omega)]
      rw [map_set_int]
      refine fcall_intro ((ACall.of_fun (xs := #[]) (us := b.caps.toArray) (args := [.int .i64 (place + 1 : Nat), .int .i64 (k + 1 : Nat)]) hcall).mono ?_)
      rintro _ C ⟨q, rfl, h1, h2⟩
      cases q
      · simp [h2 rfl]
      · obtain ⟨lst2, h3, h4, h5⟩ := h1 rfl
        simp [t10, add_in (x := k) (y := 1) (by omega) (by omega)]
        refine ⟨⟨t0, t4, t5, t6, k + 1, by omega, by omega, by omega, by omega, lst2, h3, ?_, ?_⟩, by omega⟩
        · have := congrArg (List.take place) h4
          rw [List.take_take] at this
          simp [hpl] at this
          exact this
        · have e1 : min k n - from_ = k - from_ := by omega
          have e2 : min (k + 1) n - from_ = (k - from_) + 1 := by omega
          rw [e1, List.append_assoc] at h5
          rw [e2, List.range'_concat, List.flatMap_append]
          have e3 : from_ + 1 * (k - from_) = k := by omega
          rw [e3]
          simpa using h5
    · have hkn : n ≤ k := by simpa using hc
      have e1 : min k n - from_ = n - from_ := by omega
      rw [e1] at hJ'
      simp
      exact ⟨lst', hE', htk', by simpa [ext] using hJ'⟩

end Go.Proofs.Ytohohnpjilinmaa

/-
  The contract of the iterator over rising lists.
-/
namespace Go.Proofs.Ytohohnpjilinmaa
open Go Go.Ab

theorem listsOf_spec {H : Heap} {n L : Int} : AFun Try.prog 84 [.int .i64 n, .int .i64 L] H (fun v B => v = .func (.func 91) #[] #[.pointer (some ⟨H.next + 1, 0, none⟩), .pointer (some ⟨H.next, 0, none⟩)] ∧ B = (H.new (.cells true [.int .i64 n] 1)).new (.cells true [.int .i64 L] 1)) := by
  refine AFun.mk ok84 hm (Nat.le_of_ble_eq_true rfl) ?_
  simp [a84, r84]

/-- The names that the iterator makes. -/
abbrev itN (H : Heap) (nL nT : Nat) : FN := ⟨nL, H.next, H.next + 2, nT, H.next + 3, H.next + 1⟩

theorem iter_spec {H : Heap} {yv : Value} {nL nT L n : Nat} (hL : L ≤ 12) (hn : n ≤ 12) (hone : one yv = true) (hlL : nL < H.next) (hlT : nT < H.next) (h1 : H.get nL = .cells true [.int .i64 L] 1) (h2 : H.get nT = .cells true [.int .i64 n] 1)
    {J : List (List Int) → Heap → Prop} {F : Heap → Prop} (hJ : ∀ A, Ge H A → H.next + 4 ≤ A.next → J [] A) (hset : ∀ d A m x, H.next ≤ m → J d A → J d (A.set m x))
    (hy : ∀ d A lst, J d A → FEnv A (itN H nL nT) yv L n lst → (∀ x ∈ lst, 0 ≤ x ∧ x < (n : Int)) → (∃ rest, d ++ lst :: rest = ext n L 0 []) → ACall Try.prog yv [.slice (some ⟨H.next + 1, 0, none⟩) L L] A (fun r B => ∃ k, r = .bool k ∧ (k = true → J (d ++ [lst]) B ∧ FEnv B (itN H nL nT) yv L n lst) ∧ (k = false → F B))) :
    AFun Try.prog 91 [yv, .pointer (some ⟨nL, 0, none⟩), .pointer (some ⟨nT, 0, none⟩)] H (fun _ B => J (ext n L 0 []) B ∨ F B) := by
  refine AFun.mk ok91 hm (Nat.le_of_ble_eq_true rfl) ?_
  have oc := one_cells hone
  have hmk : ∀ k, mksV k 1 8 [.int .i64 0] (.int .i64 L) (.int .i64 L) = some _ := fun k => mksV_at (by omega) (by omega)
  have hz : zrep L [Value.int .i64 0] = (List.replicate L 0).map (Value.int .i64) := by
    have : ∀ n, zrep n [Value.int .i64 0] = (List.replicate n 0).map (Value.int .i64) := by
      intro n; induction n with
      | zero => rfl
      | succ n ih => rw [zrep_succ, ih]; rfl
    exact this L
  have e1 : nL ≠ H.next := by omega
  have e2 : ∀ k, nL ≠ H.next + k := fun k => by omega
  have e3 : nT ≠ H.next := by omega
  have e4 : ∀ k, nT ≠ H.next + k := fun k => by omega
  simp [a91, r91, oc, e1, h1, hmk, hz]
  have hge : Ge H ((((((H.new (.cells true [yv] 1)).new (.cells true (List.replicate L (.int .i64 0)) L)).new (.cells true [.slice none 0 0] 1)).set (H.next + 2) (.cells true [.slice (some ⟨H.next + 1, 0, none⟩) L L] 1)).new (.cells true [.nilFunc] 1)).set (H.next + 3) (.cells true [.func (.func 92) #[] (itN H nL nT).caps.toArray] 1)) :=
    Ge.setNew ((Ge.setNew (((Ge.new _ _).newOf _).newOf _) (by omega) _).newOf _) (by omega) _
  have hE : FEnv ((((((H.new (.cells true [yv] 1)).new (.cells true (List.replicate L (.int .i64 0)) L)).new (.cells true [.slice none 0 0] 1)).set (H.next + 2) (.cells true [.slice (some ⟨H.next + 1, 0, none⟩) L L] 1)).new (.cells true [.nilFunc] 1)).set (H.next + 3) (.cells true [.func (.func 92) #[] (itN H nL nT).caps.toArray] 1)) (itN H nL nT) yv L n (List.replicate L 0) := by
    constructor
    · simp [e2]; omega
    · simp
    · simp [e1, e2, h1]
    · simp
    · simp
    · simp [e3, e4, h2]
    · simp
    · simp
  have hcall := fill_spec (b := itN H nL nT) hL hn (J := J) (F := F) (fun d A x hA => hset d A _ x (by simp) hA) hy L 0 0 [] _ [] (List.replicate L 0) (by omega) rfl (by simp) (by simp) (by omega) ⟨[], by simp⟩ (hJ _ hge (by simp)) hE
  refine fcall_intro ((ACall.of_fun (xs := #[]) (us := (itN H nL nT).caps.toArray) (args := [.int .i64 0, .int .i64 0]) hcall).mono ?_)
  rintro _ B ⟨k, rfl, k1, k2⟩
  cases k
  · simp [k2 rfl]
  · obtain ⟨lst', _, _, k3⟩ := k1 rfl
    simp at k3
    simp [k3]

end Go.Proofs.Ytohohnpjilinmaa

/-
  The contract of leftOut: a round of its loop.
-/
namespace Go.Proofs.Ytohohnpjilinmaa
open Go Go.Ab

/-- Is the fleet enough without these trips? -/
def goodL (T : Tab) (fleet : List Int) (l : List Int) : Bool := enoughTo T fleet (pickL l) fleet.length
def listsTo (n k : Nat) : List (List Int) := (List.range k).flatMap fun L => ext n L 0 []
def leftL (T : Tab) (fleet : List Int) : List Int := ((listsTo T.trips.length T.trips.length).find? (goodL T fleet)).getD ((List.range T.trips.length).map Int.ofNat)

theorem vleave_all : ∀ {d : List Nat} {H : Heap} {K : Heap → Prop}, d.Nodup → (∀ m ∈ d, H.get m = .dfr) → (∀ B : Heap, B.next = H.next → (∀ m, m ∉ d → B.get m = H.get m) → K B) → vleave d H K
  | [], H, K, _, _, hk => hk H rfl (fun _ _ => rfl)
  | n :: d, H, K, h1, h2, hk => by
    refine ⟨h2 n (List.mem_cons_self), vleave_all (List.nodup_cons.1 h1).2 (fun m hm => ?_) fun B hB1 hB2 => hk B hB1 fun m hm => ?_⟩
    · have : m ≠ n := fun e => (List.nodup_cons.1 h1).1 (e ▸ hm)
      simp [this]; exact h2 m (List.mem_cons_of_mem _ hm)
    · simp at hm
      rw [hB2 m hm.2]; simp [hm.1]

theorem FEnv.keep {A B : Heap} {b : FN} {yv : Value} {L n : Nat} {lst : List Int} (h : FEnv A b yv L n lst) (hk : ∀ m, m = b.l ∨ m = b.y ∨ m = b.s ∨ m = b.t ∨ m = b.f ∨ m = b.b → B.get m = A.get m) : FEnv B b yv L n lst where
  ne := h.ne
  len := h.len
  l := (hk _ (by simp)).trans h.l
  y := (hk _ (by simp)).trans h.y
  s := (hk _ (by simp)).trans h.s
  t := (hk _ (by simp)).trans h.t
  f := (hk _ (by simp)).trans h.f
  b := (hk _ (by simp)).trans h.b

theorem ints_same {A B : Heap} {v : Value} {xs : List Int} (h : IntsAt A v xs) (hk : ∀ a n c, v = .slice (some a) n c → B.get a.block = A.get a.block) (hn : A.next ≤ B.next) : IntsAt B v xs := by
  refine ⟨⟨?_, fun a n c e => Nat.lt_of_lt_of_le (h.1.2 a n c e) hn⟩, h.2⟩
  rcases h.1.cases with ⟨rfl | rfl, h1, h2⟩ | ⟨n, o, cap, rw', ds, c, rfl, hg, hr⟩
  · rw [h1, h2]; rfl
  · rw [h1, h2]; rfl
  · have := hk _ _ _ rfl
    simp only at this
    simp only [slCells, this, hg, hr, Option.map_some]

/-- How things stand between the rounds, and when a list has been found. -/
structure LInv (T : Tab) (fleet : List Int) (A0 B : Heap) (mp : Nat) (r : ALoop) (d : List (List Int)) : Prop where
  next : A0.next + 6 ≤ B.next
  keep : ∀ n, n < A0.next → n ≠ mp → B.get n = A0.get n
  dfr : B.get A0.next = .dfr
  loop : B.get (A0.next + 1) = .loop r
  known : Known T B mp
  bad : ∀ l ∈ d, goodL T fleet l = false

structure LFound (T : Tab) (fleet : List Int) (A0 B : Heap) (mp b4 : Nat) (r : ALoop) : Prop where
  next : A0.next + 6 ≤ B.next
  keep : ∀ n, n < A0.next → n ≠ mp → n ≠ b4 → B.get n = A0.get n
  dfr : B.get A0.next = .dfr
  loop : B.get (A0.next + 1) = .loop { r with state := .done, pending := some .ret }
  res : ∃ v, B.get b4 = .cells true [v] 1 ∧ IntsAt B v (leftL T fleet) ∧ ∀ a n c, v = .slice (some a) n c → A0.next + 6 ≤ a.block

theorem left_round {T : Tab} {fleet : List Int} {H A0 A : Heap} {e s f fl v : Value} {mp b4 b5 dn : Nat} {r : ALoop} {t : Nat → Value} {fn : FuncId} {d : List (List Int)} {lst : List Int}
    (hr : r = { state := .ready, pending := none, fn, t, N := 38, params := #[25], assign := c67x0, body := c67y0, defers := dn })
    (h4 : t 4 = .pointer (some ⟨b4, 0, none⟩)) (h5 : t 5 = .pointer (some ⟨b5, 0, none⟩))
    (h : TabAt H e s T) (hT : Valid T) (hrows : RowsAt H f T.followers) (hfl : IntsAt H fl fleet) (g : Ge H A0) (hmp : H.next ≤ mp) (hmn : mp < A0.next) (_hb4 : H.next ≤ b4) (hb4n : b4 < A0.next) (_hb5 : H.next ≤ b5) (hb5n : b5 < A0.next) (hne1 : b4 ≠ mp) (hne2 : b5 ≠ mp) (_hne3 : b4 ≠ b5)
    (hs5 : A0.get b5 = .cells true [.int .i64 T.places, .int .i64 T.layover, e, s, .func (.func 74) #[] #[], f, fl, .map (some mp)] 8) (hs4 : A0.get b4 = .cells true [.slice none 0 0] 1)
    (hI : LInv T fleet A0 A mp r d) (hv : IntsAt A v lst) (hlt : ∀ x ∈ lst, 0 ≤ x ∧ x < 12) (hlen : lst.length ≤ 12) (hfirst : goodL T fleet lst = true → leftL T fleet = lst)
    (hvn : ∀ a n c, v = .slice (some a) n c → a.block ≠ mp ∧ a.block ≠ A0.next + 1) :
    ACall Try.prog (.func (.yield (A0.next + 1)) #[] #[]) [v] A (fun u B => ∃ k, u = .bool k ∧ (k = true → LInv T fleet A0 B mp r (d ++ [lst]) ∧ ∀ n, n < A.next → n ≠ mp → B.get n = A.get n) ∧ (k = false → LFound T fleet A0 B mp b4 r)) := by
  have hnx := hI.next
  have hb := (hI.keep b5 hb5n hne2).trans hs5
  have q2 : b5 ≠ A0.next + 1 := by omega
  refine ACall.of_yield (P := Try.prog) (D := vdrawD Try.prog) (CD := cdraw Try.prog 38) hI.loop (by rw [hr]; rfl) (by rw [hr]; intro p hp; simp at hp; rcases hp with rfl <;> simp) (by rw [hr]; exact ok67x0) (by rw [hr]; exact ok67y0) (by rw [hr]; exact draw_sound hm) ?_
  subst hr
  simp [a67x0, tround, hI.loop]
  simp [a67y0, h5, hb, q2]
  generalize hA1 : (⟨(A.set (A0.next + 1) (AObj.loop { state := LoopState.busy, pending := none, fn := fn, t := t, N := 38, params := #[25], assign := c67x0, body := c67y0, defers := dn })).get, A.next + 4⟩ : Heap) = A1
  have a1n : A1.next = A.next + 4 := by rw [← hA1]
  have a1g : ∀ n, n ≠ A0.next + 1 → A1.get n = A.get n := fun n hn => by rw [← hA1]; simp [hn]
  have a1l : A1.get (A0.next + 1) = .loop { state := LoopState.busy, pending := none, fn := fn, t := t, N := 38, params := #[25], assign := c67x0, body := c67y0, defers := dn } := by rw [← hA1]; simp
  clear hA1
  have hv1 : IntsAt A1 v lst := ints_same hv (fun a n c e => a1g _ (hvn a n c e).2) (by omega)
  have gA : Ge H A1 := by
    have g1 := g.next
    refine ⟨by omega, fun n hn => ?_⟩
    rw [a1g n (by omega), hI.keep n (by omega) (by omega), g.get n hn]
  refine fcall_fun (choose_spec hv1 hlt) ?_
  rintro _ B ⟨rfl, gB⟩
  have nB := gB.next
  have bB := gB.got (by omega) ((a1g b5 q2).trans hb)
  have lB := gB.got (by omega) a1l
  simp [h5, bB]
  have hkB : Known T B mp := by
    obtain ⟨es, clock, cs, k1, k2⟩ := hI.known
    exact ⟨es, clock, cs, gB.got (by omega) ((a1g mp (by omega)).trans k1), k2⟩
  refine fcall_fun (enough_spec (out := pickL lst) h hT hrows hfl (gA.trans gB) hmp (by omega) hkB (pickTo_length _)) ?_
  rintro _ C ⟨rfl, hkC, gC⟩
  have nC := gC.next
  have lC := (gC.get (A0.next + 1) (by omega) (by omega)).trans lB
  have hC : ∀ n, n < A.next → n ≠ mp → n ≠ A0.next + 1 → C.get n = A.get n := fun n h1 h2 h3 => by
    rw [gC.get n (by omega) h2, gB.get n (by omega), a1g n h3]
  have hge : enoughTo T fleet (pickL lst) fleet.length = goodL T fleet lst := rfl
  rw [hge]
  cases hgood : goodL T fleet lst
  · simp [lC]
    refine ⟨⟨by simp; omega, fun n h1 h2 => ?_, ?_, by simp, ?_, ?_⟩, fun n h1 h2 => ?_⟩
    · have q : n ≠ A0.next + 1 := by omega
      simp [q]
      rw [hC n (by omega) h2 (by omega), hI.keep n h1 h2]
    · simp
      rw [hC _ (by omega) (by omega) (by omega), hI.dfr]
    · obtain ⟨es, clock, cs, k1, k2⟩ := hkC
      have : mp ≠ A0.next + 1 := by omega
      exact ⟨es, clock, cs, by simp [this, k1], k2⟩
    · intro l hl
      rcases List.mem_append.1 hl with hl | hl
      · exact hI.bad l hl
      · simp at hl; rw [hl]; exact hgood
    · by_cases h3 : n = A0.next + 1
      · simp [h3, hI.loop]
      · simp [h3]
        exact hC n h1 h2 h3
  · simp
    have hvC : IntsAt C v lst := ints_same hv (fun a n c e => by
      have := (hv.1.2 a n c e)
      obtain ⟨k1, k2⟩ := hvn a n c e
      exact hC _ this k1 k2) (by omega)
    refine fcall_fun (clone_spec hvC (by omega)) ?_
    rintro u D ⟨hu, gD, hub⟩
    have nD := gD.next
    have ou := one_cells (IntsAt.one hu)
    have hu1 := IntsAt.one hu
    have b4D := gD.got (by omega) ((hC b4 (by omega) hne1 (by omega)).trans ((hI.keep b4 hb4n hne1).trans hs4))
    have lD := gD.got (by omega) lC
    have q4 : A0.next + 1 ≠ b4 := by omega
    have q5 : b4 ≠ A0.next + 1 := by omega
    simp [h4, b4D, ou, hu1, lD, q4]
    refine ⟨by simp; omega, fun n h1 h2 h3 => ?_, ?_, by simp, u, by simp [q5], ?_, fun a n c e => by have := hub a n c e; omega⟩
    · have q : n ≠ A0.next + 1 := by omega
      simp [q, h3]
      rw [gD.get n (by omega), hC n (by omega) h2 q, hI.keep n h1 h2]
    · have q : A0.next ≠ b4 := by omega
      simp [q]
      rw [gD.get _ (by omega), hC _ (by omega) (by omega) (by omega), hI.dfr]
    · rw [hfirst hgood]
      refine ints_same hu (fun a n c e => ?_) (by simp)
      have := hub a n c e
      have q6 : a.block ≠ A0.next + 1 := by omega
      have q7 : a.block ≠ b4 := by omega
      simp [q6, q7]

end Go.Proofs.Ytohohnpjilinmaa

/-
  The contract of leftOut.
-/
namespace Go.Proofs.Ytohohnpjilinmaa
open Go Go.Ab

theorem listsTo_succ {n k : Nat} : listsTo n (k + 1) = listsTo n k ++ ext n k 0 [] := by
  simp [listsTo, List.range_succ]

theorem ext_length {n : Nat} : ∀ (r from_ : Nat) (pre : List Int), ∀ l ∈ ext n r from_ pre, l.length = pre.length + r
  | 0, _, pre, l, h => by simp [ext] at h; simp [h]
  | r + 1, from_, pre, l, h => by
    simp only [ext, List.mem_flatMap] at h
    obtain ⟨t, _, h2⟩ := h
    rw [ext_length r (t + 1) _ l h2]
    simp; omega

/-- A list that is found is the first one. -/
theorem leftL_first {T : Tab} {fleet : List Int} {k : Nat} {d rest : List (List Int)} {lst : List Int} (hk : k < T.trips.length) (h1 : ∀ l ∈ listsTo T.trips.length k, goodL T fleet l = false) (h2 : ∀ l ∈ d, goodL T fleet l = false) (h3 : d ++ lst :: rest = ext T.trips.length k 0 [])
    (h4 : goodL T fleet lst = true) : leftL T fleet = lst := by
  have : ∃ more, listsTo T.trips.length T.trips.length = (listsTo T.trips.length k ++ d) ++ lst :: more := by
    have e : List.range T.trips.length = List.range k ++ k :: List.range' (k + 1) (T.trips.length - (k + 1)) := by
      rw [List.range_eq_range', List.range_eq_range']
      have e1 : T.trips.length = k + ((T.trips.length - (k + 1)) + 1) := by omega
      conv => lhs; rw [e1, ← List.range'_append_1, List.range'_succ]
      simp
    refine ⟨rest ++ (List.range' (k + 1) (T.trips.length - (k + 1))).flatMap fun L => ext T.trips.length L 0 [], ?_⟩
    have e2 : listsTo T.trips.length T.trips.length = (List.range k ++ k :: List.range' (k + 1) (T.trips.length - (k + 1))).flatMap fun L => ext T.trips.length L 0 [] := by rw [← e]; rfl
    rw [e2, List.flatMap_append, List.flatMap_cons, ← h3]
    simp [listsTo]
  obtain ⟨more, hm⟩ := this
  unfold leftL
  rw [hm, List.find?_append]
  have hn : (listsTo T.trips.length k ++ d).find? (goodL T fleet) = none := by
    rw [List.find?_eq_none]
    intro l hl
    rcases List.mem_append.1 hl with hl | hl
    · simp [h1 l hl]
    · simp [h2 l hl]
  rw [hn]
  simp [h4]

theorem left_range {T : Tab} {fleet : List Int} {H A0 : Heap} {e s f fl : Value} {nL nT mp b4 b5 k : Nat} {t : Nat → Value} {ds : List Nat} {Q : APost}
    (h4 : t 4 = .pointer (some ⟨b4, 0, none⟩)) (h5 : t 5 = .pointer (some ⟨b5, 0, none⟩)) (h24 : t 24 = .func (.func 91) #[] #[.pointer (some ⟨nL, 0, none⟩), .pointer (some ⟨nT, 0, none⟩)])
    (h : TabAt H e s T) (hT : Valid T) (hrows : RowsAt H f T.followers) (hfl : IntsAt H fl fleet) (g : Ge H A0) (hmp : H.next ≤ mp) (hmn : mp < A0.next) (hb4 : H.next ≤ b4) (hb4n : b4 < A0.next) (hb5 : H.next ≤ b5) (hb5n : b5 < A0.next) (hne1 : b4 ≠ mp) (hne2 : b5 ≠ mp) (hne3 : b4 ≠ b5)
    (hs5 : A0.get b5 = .cells true [.int .i64 T.places, .int .i64 T.layover, e, s, .func (.func 74) #[] #[], f, fl, .map (some mp)] 8) (hs4 : A0.get b4 = .cells true [.slice none 0 0] 1)
    (hkn : Known T A0 mp) (hk : k < T.trips.length) (hbad : ∀ l ∈ listsTo T.trips.length k, goodL T fleet l = false)
    (hnL : nL < A0.next) (hnT : nT < A0.next) (hLm : nL ≠ mp) (hTm : nT ≠ mp) (hcL : A0.get nL = .cells true [.int .i64 k] 1) (hcT : A0.get nT = .cells true [.int .i64 T.trips.length] 1)
    (hK1 : ∀ B : Heap, A0.next + 2 ≤ B.next → (∀ n, n < A0.next → n ≠ mp → B.get n = A0.get n) → B.get A0.next = .dfr → Known T B mp → (∀ l ∈ ext T.trips.length k 0 [], goodL T fleet l = false) → Q .normal ⟨t, A0.next :: ds, B⟩)
    (hK2 : ∀ B : Heap, A0.next + 2 ≤ B.next → (∀ n, n < A0.next → n ≠ mp → n ≠ b4 → B.get n = A0.get n) → B.get A0.next = .dfr → (∃ v, B.get b4 = .cells true [v] 1 ∧ IntsAt B v (leftL T fleet) ∧ ∀ a n c, v = .slice (some a) n c → A0.next < a.block) → Q .ret ⟨t, A0.next :: ds, B⟩) :
    arange Try.prog 38 none (.t 24) #[25] c67x0 c67y0 Q ⟨t, ds, A0⟩ := by
  refine ⟨91, #[], #[.pointer (some ⟨nL, 0, none⟩), .pointer (some ⟨nT, 0, none⟩)], h24, fun fn => ?_⟩
  have hfew := hT.few
  refine (iter_spec (H := (A0.new .dfr).new (.loop { state := .ready, pending := none, fn, t, N := 38, params := #[25], assign := c67x0, body := c67y0, defers := A0.next })) (yv := .func (.yield (A0.next + 1)) #[] #[]) (nL := nL) (nT := nT) (L := k) (n := T.trips.length)
    (J := fun d B => LInv T fleet A0 B mp { state := .ready, pending := none, fn, t, N := 38, params := #[25], assign := c67x0, body := c67y0, defers := A0.next } d) (F := fun B => LFound T fleet A0 B mp b4 { state := .ready, pending := none, fn, t, N := 38, params := #[25], assign := c67x0, body := c67y0, defers := A0.next })
    (by omega) (by omega) rfl (by simp; omega) (by simp; omega) ?_ ?_ ?_ ?_ ?_).mono ?_
  · have e1 : nL ≠ A0.next + 1 := by omega
    simp [Nat.ne_of_lt hnL, e1, hcL]
  · have e1 : nT ≠ A0.next + 1 := by omega
    simp [Nat.ne_of_lt hnT, e1, hcT]
  · intro B gB hB
    simp at hB
    refine ⟨by omega, fun n hn hne => ?_, ?_, ?_, ?_, by simp⟩
    · have e1 : n ≠ A0.next + 1 := by omega
      rw [gB.get n (by simp; omega)]
      simp [Nat.ne_of_lt hn, e1]
    · rw [gB.get _ (by simp)]; simp
    · rw [gB.get _ (by simp)]; simp
    · obtain ⟨es, clock, cs, k1, k2⟩ := hkn
      have e1 : mp ≠ A0.next + 1 := by omega
      exact ⟨es, clock, cs, by rw [gB.get _ (by simp; omega)]; simp [Nat.ne_of_lt hmn, e1, k1], k2⟩
  · intro d B m x hm hI
    simp at hm
    refine ⟨by simpa using hI.next, fun n hn hne => ?_, ?_, ?_, ?_, hI.bad⟩
    · have e1 : n ≠ m := by omega
      simp [e1, hI.keep n hn hne]
    · have e1 : A0.next ≠ m := by omega
      simp [e1, hI.dfr]
    · have e1 : A0.next + 1 ≠ m := by omega
      simp [e1, hI.loop]
    · obtain ⟨es, clock, cs, k1, k2⟩ := hI.known
      have e1 : mp ≠ m := by omega
      exact ⟨es, clock, cs, by simp [e1, k1], k2⟩
  · intro d B lst hI hE hlt hfull
    have hnx := hI.next
    have hlen := hE.len
    have hv : IntsAt B (.slice (some ⟨A0.next + 3, 0, none⟩) k k) lst := by
      have hb := hE.b
      simp at hb
      refine ⟨⟨?_, ?_⟩, by omega⟩
      · simp [slCells, hb, rdL, hlen]
        rw [List.take_of_length_le (by simp; omega)]
      · intro a n c e; simp at e; rw [← e.1]; simp; omega
    refine (left_round rfl h4 h5 h hT hrows hfl g hmp hmn hb4 hb4n hb5 hb5n hne1 hne2 hne3 hs5 hs4 hI (by simpa using hv) (fun x hx => by have := hlt x hx; omega) (by omega) ?_ ?_).mono ?_
    · intro hgood
      obtain ⟨rest, hr⟩ := hfull
      exact leftL_first hk hbad hI.bad hr hgood
    · intro a n c e
      simp at e
      rw [← e.1]
      simp
      omega
    · rintro u C ⟨q, rfl, k1, k2⟩
      refine ⟨q, rfl, fun hq => ⟨(k1 hq).1, ?_⟩, k2⟩
      refine hE.keep fun m hm => (k1 hq).2 m ?_ ?_
      · simp at hm; omega
      · simp at hm; omega
  · rintro v B (hI | hF)
    · have hx := hI.next
      refine ⟨_, hI.loop, by simp, ?_⟩
      refine hK1 _ (by simp; omega) (fun n hn hne => ?_) ?_ ?_ hI.bad
      · have e1 : n ≠ A0.next + 1 := by omega
        simp [e1, hI.keep n hn hne]
      · simp [hI.dfr]
      · obtain ⟨es, clock, cs, k1, k2⟩ := hI.known
        have e1 : mp ≠ A0.next + 1 := by omega
        exact ⟨es, clock, cs, by simp [e1, k1], k2⟩
    · have hx := hF.next
      refine ⟨_, hF.loop, by simp, ?_⟩
      refine hK2 _ (by simp; omega) (fun n hn hne hn4 => ?_) ?_ ?_
      · have e1 : n ≠ A0.next + 1 := by omega
        simp [e1, hF.keep n hn hne hn4]
      · simp [hF.dfr]
      · obtain ⟨v, k1, k2, k3⟩ := hF.res
        have e1 : b4 ≠ A0.next + 1 := by omega
        refine ⟨v, by simp [e1, k1], ints_same k2 (fun a n c e => ?_) (by simp), fun a n c e => by have := k3 a n c e; omega⟩
        have := k3 a n c e
        have e2 : a.block ≠ A0.next + 1 := by omega
        simp [e2]

theorem leftOut_spec {T : Tab} {fleet : List Int} {H : Heap} {e s f fl : Value} (h : TabAt H e s T) (hT : Valid T) (hrows : RowsAt H f T.followers) (hfl : IntsAt H fl fleet) :
    AFun Try.prog 67 [svcV T e s f, fl] H (fun r B => IntsAt B r (leftL T fleet) ∧ Ge H B) := by
  refine AFun.mk ok67 hm (Nat.le_of_ble_eq_true rfl) ?_
  have he := h.empty.one
  have hs := h.trips.one
  have hf := hrows.one
  have hfo := IntsAt.one hfl
  have hfew := hT.few
  have hfc := one_cells hfo
  simp [a67, r67, he, hs, hf, hfo, hfc, h.trips.lenV]
  refine floop_intro (fun z => z.d.Nodup ∧ (∀ m ∈ z.d, H.next + 4 ≤ m ∧ m < z.H.next ∧ z.H.get m = .dfr) ∧ Ge H z.H ∧ H.next + 4 ≤ z.H.next ∧ z.t 2 = .pointer (some ⟨H.next, 0, none⟩) ∧ z.t 4 = .pointer (some ⟨H.next + 1, 0, none⟩) ∧ z.t 5 = .pointer (some ⟨H.next + 3, 0, none⟩) ∧ z.t 15 = .int .i64 T.trips.length ∧
    z.H.get H.next = .cells true [.int .i64 T.places, .int .i64 T.layover, e, s, .func (.func 74) #[] #[], f] 6 ∧ z.H.get (H.next + 1) = .cells true [.slice none 0 0] 1 ∧ z.H.get (H.next + 3) = .cells true [.int .i64 T.places, .int .i64 T.layover, e, s, .func (.func 74) #[] #[], f, fl, .map (some (H.next + 2))] 8 ∧ Known T z.H (H.next + 2) ∧
    ∃ k : Nat, k ≤ T.trips.length ∧ z.t 16 = .int .i64 k ∧ ∀ l ∈ listsTo T.trips.length k, goodL T fleet l = false) (fun z => T.trips.length - (intOf (z.t 16)).toNat) ?_ ?_
  · refine ⟨by simp, by simp, Ge.setNew ((((Ge.new _ _).newOf _).newOf _).newOf _) (by omega) _, by simp, by simp, by simp, by simp, by simp, by simp, by simp, by simp, ⟨[], 0, [], by simp, rfl, by simp, by simp⟩, 0, by simp, by simp, by simp [listsTo]⟩
  rintro ⟨t, ds, A⟩ ⟨hnd, hds, gA, hn, t2, t4, t5, t15, b0, b1, b3, hkn, k, hk, t16, hbad⟩
  dsimp only at hnd hds gA hn t2 t4 t5 t15 b0 b1 b3 hkn t16
  simp [t15, t16]
  refine fcond_intro (fun hc => ?_) (fun hc => ?_)
  · have hk' : k < T.trips.length := by simpa using hc
    simp [t2, t16, b0, h.trips.lenV]
    refine fcall_fun listsOf_spec ?_
    rintro _ _ ⟨rfl, rfl⟩
    simp
    refine frange_intro (left_range (fleet := fleet) (fl := fl) (mp := H.next + 2) (b4 := H.next + 1) (b5 := H.next + 3) (k := k) (nL := A.next + 1) (nT := A.next) (by simp [t4]) (by simp [t5]) (by simp) h hT hrows hfl ((gA.newOf _).newOf _) (by omega) (by simp; omega) (by omega) (by simp; omega) (by omega) (by simp; omega) (by omega) (by omega) (by omega)
      ?_ ?_ ?_ hk' hbad (by simp) (by simp) (by omega) (by omega) (by simp) (by simp) ?_ ?_)
    · have e1 : H.next + 3 ≠ A.next := by omega
      have e2 : H.next + 3 ≠ A.next + 1 := by omega
      simp [e1, e2, b3]
    · have e1 : H.next + 1 ≠ A.next := by omega
      have e2 : H.next + 1 ≠ A.next + 1 := by omega
      have e3 : H.next ≠ A.next := by omega
      simp [e1, e3, b1]
    · obtain ⟨es, clock, cs, k1, k2⟩ := hkn
      have e1 : H.next + 2 ≠ A.next := by omega
      have e2 : H.next + 2 ≠ A.next + 1 := by omega
      exact ⟨es, clock, cs, by simp [e1, e2, k1], k2⟩
    · intro B k1 k2 k3 k4 k5
      simp at k1 k2 k3
      have kk : ∀ n, n < A.next → n ≠ H.next + 2 → B.get n = A.get n := fun n h1 h2 => by
        have e1 : n ≠ A.next := by omega
        have e2 : n ≠ A.next + 1 := by omega
        rw [k2 n (by omega) h2]; simp [e1, e2]
      simp [t2, t4, t5, t15, t16, add_in (x := k) (y := 1) (by omega) (by omega)]
      refine ⟨⟨⟨fun hm => by have := (hds _ hm).2.1; omega, hnd⟩, ⟨⟨by omega, by omega, k3⟩, fun m hm => ?_⟩, ⟨by have := gA.next; omega, fun m hm => ?_⟩, by omega, ?_, ?_, ?_, k4, k + 1, by omega, by omega, ?_⟩, by omega⟩
      · obtain ⟨q1, q2, q3⟩ := hds m hm
        exact ⟨q1, by omega, (kk m q2 (by omega)).trans q3⟩
      · rw [kk m (by have := gA.next; omega) (by omega), gA.get m hm]
      · rw [kk _ (by omega) (by omega), b0]
      · rw [kk _ (by omega) (by omega), b1]
      · rw [kk _ (by omega) (by omega), b3]
      · intro l hl
        rw [listsTo_succ] at hl
        rcases List.mem_append.1 hl with hl | hl
        · exact hbad l hl
        · exact k5 l hl
    · intro B k1 k2 k3 k4
      simp at k1 k2 k3
      obtain ⟨v, k5, k6, k7⟩ := k4
      simp at k7
      have kk : ∀ n, n < A.next → n ≠ H.next + 2 → n ≠ H.next + 1 → B.get n = A.get n := fun n h1 h2 h3 => by
        have e1 : n ≠ A.next := by omega
        have e2 : n ≠ A.next + 1 := by omega
        rw [k2 n (by omega) h2 h3]; simp [e1, e2]
      simp only [blockQ_ret, thenQ_ret, bodyQ_ret]
      refine vleave_all ?_ ?_ fun C hC1 hC2 => ?_
      · refine List.nodup_cons.2 ⟨fun hm => ?_, hnd⟩
        have := (hds _ hm).2.1
        simp at this
        omega
      · intro m hm
        rcases List.mem_cons.1 hm with rfl | hm
        · exact k3
        · obtain ⟨q1, q2, q3⟩ := hds m hm
          exact (kk m q2 (by omega) (by omega)).trans q3
      · have c1 : C.get (H.next + 1) = .cells true [v] 1 := by
          rw [hC2, k5]
          intro hm
          rcases List.mem_cons.1 hm with hm | hm
          · simp at hm; omega
          · have := (hds _ hm).1; omega
        simp [t4, c1]
        refine ⟨ints_same k6 (fun a n c e => hC2 _ fun hm => ?_) (by omega), by have := gA.next; omega, fun m hm => ?_⟩
        · have := k7 a n c e
          rcases List.mem_cons.1 hm with hm | hm
          · simp at hm; omega
          · have := (hds _ hm).2.1; omega
        · have := gA.next
          rw [hC2, kk m (by omega) (by omega) (by omega), gA.get m hm]
          intro hm2
          rcases List.mem_cons.1 hm2 with hm2 | hm2
          · simp at hm2; omega
          · have := (hds _ hm2).1; omega
  · have hk' : k = T.trips.length := by simp at hc; omega
    subst hk'
    simp [t2, b0, h.trips.lenV]
    refine fcall_fun (allNumbers_spec hfew) ?_
    rintro u B ⟨hu, gB, hub⟩
    have ou := IntsAt.one hu
    have oc := one_cells ou
    have b1B := gB.got (by omega) b1
    have nB := gB.next
    simp [t4, b1B, ou, oc]
    refine vleave_all hnd (fun m hm => ?_) fun C hC1 hC2 => ?_
    · obtain ⟨q1, q2, q3⟩ := hds m hm
      have e1 : m ≠ H.next + 1 := by omega
      simp [e1]
      exact gB.got q2 q3
    · simp at hC1
      have c1 : C.get (H.next + 1) = .cells true [u] 1 := by
        rw [hC2]
        · simp
        · intro hm; have := (hds _ hm).1; omega
      simp [c1]
      have hL : leftL T fleet = (List.range T.trips.length).map Int.ofNat := by
        unfold leftL
        rw [List.find?_eq_none.2 (fun l hl => by simp [hbad l hl])]
        rfl
      rw [hL]
      refine ⟨ints_same hu (fun a n c e => ?_) (by omega), by have := gA.next; omega, fun m hm => ?_⟩
      · have := hub a n c e
        have e1 : a.block ≠ H.next + 1 := by omega
        rw [hC2]
        · simp [e1]
        · intro hm; have := (hds _ hm).2.1; omega
      · have := gA.next
        have e1 : m ≠ H.next + 1 := by omega
        rw [hC2]
        · simp [e1]
          rw [gB.get m (by omega), gA.get m hm]
        · intro hm2; have := (hds _ hm2).1; omega

end Go.Proofs.Ytohohnpjilinmaa

/-
  The contract of Lacks, and what the chapter's timetable answers.
-/
namespace Go.Proofs.Ytohohnpjilinmaa
open Go Go.Ab

def fleetOk (fleet : List Int) : Bool := decide (fleet.length = 3) && fleet.all fun n => decide (0 ≤ n) && decide (n ≤ 12)

theorem lacks_spec {e s fl : Value} {T : Tab} {fleet : List Int} {H : Heap} (h : TabAt H e s T) (hfl : IntsAt H fl fleet) : AFun Try.prog 39 [tabV T e s, fl] H (fun r H' => Ge H H' ∧ (checkT T ≠ 0 → r = .tuple #[.slice none 0 0, .int .i64 (checkT T)]) ∧
    (checkT T = 0 → fleetOk fleet = false → r = .tuple #[.slice none 0 0, .int .i64 2]) ∧ (checkT T = 0 → fleetOk fleet = true → ∃ v, r = .tuple #[v, .int .i64 0] ∧ IntsAt H' v (leftL T fleet))) := by
  refine AFun.mk ok39 hm (Nat.le_of_ble_eq_true rfl) ?_
  have h62 := hfl.2
  simp [a39, r39]
  refine fcall_fun (checkTable_spec (h.ge (by simp))) ?_
  rintro _ H1 ⟨rfl, g1⟩
  have G1 : Ge H H1 := Ge.trans (by simp) g1
  have b1 := g1.got (n := H.next) (by simp) rfl
  simp at b1
  simp
  refine fcond_intro (fun hc => ?_) (fun hc => ?_)
  · simp at hc
    simp [hc, G1]
  · simp at hc
    have hT := checkT_zero.1 hc
    simp [hfl.lenV]
    by_cases h3 : fleet.length = 3
    · simp [h3]
      refine fcall_fun (every_int_spec (p := fun n => decide (0 ≤ n) && decide (n ≤ 12)) (hfl.ge G1) fun n H' _ => ACall.of_fun ((validBuses_spec n H').mono (fun v B ⟨h1, h2⟩ => ⟨h1, by rw [h2]; exact Ge.refl _⟩))) ?_
      rintro _ H2 ⟨rfl, g2⟩
      have h3i : (fleet.length : Int) = 3 := by omega
      have hfo : fleetOk fleet = fleet.all fun n => decide (0 ≤ n) && decide (n ≤ 12) := by simp [fleetOk, h3]
      rw [← hfo]
      have G2 := G1.trans g2
      have b2 := g2.got (by have := g1.next; simp at this; omega) b1
      cases hf : fleetOk fleet
      · simp [h3i, hc, G2]
      · simp [h3i, hc, b2]
        refine fcall_fun (newService_spec (h.ge G2) hT) ?_
        rintro _ H3 ⟨f, rfl, g3, hr⟩
        simp
        refine fcall_fun (leftOut_spec (h.ge (G2.trans g3)) hT hr (hfl.ge (G2.trans g3))) ?_
        rintro v H4 ⟨hv, g4⟩
        simp
        exact ⟨(G2.trans g3).trans g4, fun h => absurd hc h, fun _ => hv⟩
    · have h3' : ¬ (fleet.length : Int) = 3 := by omega
      simp [h3, h3', hc, fleetOk, G1]

theorem day_fol : dayT.followers = [[1, 3], [3], [], [], []] := by decide
theorem day_cut : cutL dayT = [[0, 1, 3], [2], [4]] := by decide
theorem day_left : leftL dayT [1, 0, 0] = [2, 4] := by decide
theorem day_cutting : isCutL dayT [[0, 1, 3], [2], [4]] = true := by decide
theorem day_check : checkT dayT = 0 := by decide

theorem awake_spec (H : Heap) : AFun Try.prog 17 [] H (fun v B => v = .bool true ∧ Ge H B) := by
  refine AFun.mk ok17 hm (Nat.le_of_ble_eq_true rfl) ?_
  simp [a17, r17]
  refine fcall_fun day_spec ?_
  rintro _ H1 ⟨⟨e1, s1, rfl, t1⟩, g1⟩
  simp
  refine fcall_fun (follows_spec t1) ?_
  rintro _ H2 ⟨g2, _, hf⟩
  obtain ⟨f, rfl, hf'⟩ := hf day_check
  clear hf
  rw [day_fol] at hf'
  simp
  refine fcall_fun day_spec ?_
  rintro _ H3 ⟨⟨e3, s3, rfl, t3⟩, g3⟩
  simp
  refine fcall_fun (cut_spec t3) ?_
  rintro _ H4 ⟨g4, _, hcut⟩
  obtain ⟨c, rfl, hcut'⟩ := hcut day_check
  clear hcut
  rw [day_cut] at hcut'
  simp
  refine fcall_fun day_spec ?_
  rintro _ H5 ⟨⟨e5, s5, rfl, t5⟩, g5⟩
  simp
  have t5' := t5.ge (Ge.new H5 (.cells true [.int .i64 1, .int .i64 0, .int .i64 0] 3))
  refine fcall_fun (lacks_spec (fleet := [1, 0, 0]) t5' ⟨⟨?_, ?_⟩, by decide⟩) ?_
  · simp [slCells]
  · intro a n c e; simp at e; rw [← e.1]; simp
  rintro _ H6 ⟨g6, _, _, hl⟩
  obtain ⟨l, rfl, hl'⟩ := hl day_check (by decide)
  clear hl
  rw [day_left] at hl'
  have q5 : Ge H4 H6 := (g5.newOf _).trans g6
  have q3 : Ge H2 H6 := (g3.trans g4).trans q5
  obtain ⟨p0, u0, i0, l0, r0⟩ := hf'.atAll (i := 0) (by decide)
  obtain ⟨p1, u1, i1, l1, r1⟩ := hf'.atAll (i := 1) (by decide)
  obtain ⟨p2, u2, i2, l2, r2⟩ := hf'.atAll (i := 2) (by decide)
  obtain ⟨p3, u3, i3, l3, r3⟩ := hf'.atAll (i := 3) (by decide)
  obtain ⟨p4, u4, i4, l4, r4⟩ := hf'.atAll (i := 4) (by decide)
  have n2 := r2.lenV
  have n3 := r3.lenV
  have n4 := r4.lenV
  have nf := hf'.lenV
  have nc := hcut'.lenV
  simp at i0 i1 i2 i3 i4 n2 n3 n4 nf nc
  simp [nf, i0, l0 _ (q3.grow 62)]
  have G7 : Ge H6 (Heap.set ⟨H6.get, H6.next + 62⟩ (H6.next + 11) (.cells true [.int .i64 1, .int .i64 3] 2)) := Ge.setNew (Ge.more _ _) (by omega) _
  refine fcall_fun (ints_spec (xs := [1, 3]) (ys := [1, 3]) (r0.ge (q3.trans G7)) ⟨⟨?_, ?_⟩, by decide⟩) ?_
  · simp [slCells]
  · intro a n c e; simp at e; rw [← e.1]; simp
  rintro _ H7 ⟨rfl, g7⟩
  have k7 := G7.trans g7
  have n7 := g7.next
  simp at n7
  simp [i1, l1 _ (q3.trans k7)]
  have G8 : Ge H6 (Heap.set H7 (H6.next + 18) (.cells true [.int .i64 3] 1)) := Ge.setNew k7 (by omega) _
  refine fcall_fun (ints_spec (xs := [3]) (ys := [3]) (r1.ge (q3.trans G8)) ⟨⟨?_, ?_⟩, by decide⟩) ?_
  · simp [slCells]
  · intro a n c e; simp at e; rw [← e.1]; simp; omega
  rintro _ H8 ⟨rfl, g8⟩
  have k8 := G8.trans g8
  have n8 := g8.next
  simp at n8
  simp [i2, i3, i4, l2 _ (q3.trans k8), l3 _ (q3.trans k8), l4 _ (q3.trans k8), n2, n3, n4, nc, add_in (x := 0) (y := 0) (by omega) (by omega)]
  refine fcall_fun day_spec ?_
  rintro _ H9 ⟨⟨e9, s9, rfl, t9⟩, g9⟩
  have k9 := k8.trans g9
  simp
  refine fcall_fun (proveCut_spec t9 (hcut'.ge (q5.trans k9))) ?_
  rintro _ HA ⟨rfl, gA⟩
  have kA := k9.trans gA
  have nA := kA.next
  have nA8 := (g9.trans gA).next
  simp [day_check, day_cutting]
  have GB : Ge H6 (Heap.set HA (H6.next + 58) (.cells true [.int .i64 2, .int .i64 4] 2)) := Ge.setNew kA (by omega) _
  refine fcall_fun (ints_spec (xs := [2, 4]) (ys := [2, 4]) (hl'.ge GB) ⟨⟨?_, ?_⟩, by decide⟩) ?_
  · simp [slCells]
  · intro a n c e; simp at e; rw [← e.1]; simp; omega
  rintro _ HB ⟨rfl, gB⟩
  simp
  exact ((((g1.trans g2).trans g3).trans g4).trans q5).trans (GB.trans gB)

end Go.Proofs.Ytohohnpjilinmaa

/-
  The code of functions of the package, as the calculus has it.
-/
namespace Go.Proofs.Ytohohnpjilinmaa
open Go Go.Ab

/-- (layover/run.service).isTruth -/
def a62 : ACode :=
  (.seq
   (.region [⟨(some 2), (.box (.t 0)), none⟩, ⟨(some 4), (.mov (.c (.bool false))), none⟩])
   (.seq
    (.seq
     (.region [⟨(some 7), (.mov (.t 1)), none⟩, ⟨(some 8), (.len (.t 7)), none⟩, ⟨(some 9), (.fa 0 (.t 2)), none⟩, ⟨(some 10), (.fa 3 (.t 9)), none⟩, ⟨(some 11), (.ld false 1 (.t 10)), none⟩, ⟨(some 12), (.len (.t 11)), none⟩, ⟨(some 13), (.bin .neq (.t 8) (.t 12)), none⟩])
     (.cond (.t 13)
      (.seq
       (.region [⟨(some 4), (.mov (.c (.bool false))), none⟩])
       .ret)
      .skip))
    (.seq
     (.seq
      (.region [⟨(some 14), (.fa 0 (.t 2)), none⟩, ⟨(some 15), (.fa 3 (.t 14)), none⟩, ⟨(some 16), (.ld false 1 (.t 15)), none⟩, ⟨(some 17), (.len (.t 16)), none⟩, ⟨(some 18), (.mov (.c (.int .i64 0))), none⟩])
      (.block 0
       (.loop
        (.seq
         (.region [⟨(some 19), (.bin .lss (.t 18) (.t 17)), none⟩])
         (.seq
          (.cond (.t 19)
           .skip
           (.exit 0))
          (.seq
           (.block 1
            (.seq
             (.region [⟨(some 20), (.mov (.t 18)), none⟩, ⟨(some 21), (.isl 6 (.t 16) (.t 18)), none⟩, ⟨(some 22), (.ld true 6 (.t 21)), none⟩, ⟨(some 6), (.new [(.int .i64 0), (.int .i64 0), (.int .i64 0), (.int .i64 0), (.int .i64 0), (.int .i64 0)]), none⟩, ⟨(some 5), (.mov (.t 20)), none⟩, ⟨none, (.st 6 (.t 6) (.t 22)), none⟩])
             (.seq
              (.draw 10 [⟨⟨(some 23), (.mov (.t 1)), none⟩, 0, false, []⟩, ⟨⟨(some 24), (.mov (.t 5)), none⟩, 1, false, []⟩, ⟨⟨(some 25), (.isl 1 (.t 23) (.t 24)), none⟩, 2, false, []⟩, ⟨⟨(some 26), (.ld false 1 (.t 25)), none⟩, 3, false, []⟩, ⟨⟨(some 27), (.fa 3 (.t 6)), none⟩, 4, false, []⟩, ⟨⟨(some 28), (.ld false 1 (.t 27)), none⟩, 5, false, []⟩, ⟨⟨(some 29), (.fa 4 (.t 6)), none⟩, 6, false, []⟩, ⟨⟨(some 30), (.ld false 1 (.t 29)), none⟩, 7, false, []⟩, ⟨⟨(some 31), (.call (.c (.func (.func 71) #[] #[])) [(.t 26), (.t 28), (.t 30)]), none⟩, 8, true, []⟩, ⟨⟨(some 32), (.not (.t 31)), none⟩, 9, false, []⟩])
              (.cond (.t 32)
               (.seq
                (.region [⟨(some 4), (.mov (.c (.bool false))), none⟩])
                .ret)
               .skip))))
           (.region [⟨(some 33), (.bin .add (.t 18) (.c (.int .i64 1))), none⟩, ⟨(some 18), (.mov (.t 33)), none⟩])))))))
     (.seq
      (.region [⟨(some 4), (.mov (.c (.bool true))), none⟩])
      .ret))))
def r62 : List AOp := [(.mov (.t 4))]
theorem ok62 : FnOk Try.prog 62 Try.f62.ntmps a62 r62 := ⟨Try.f62, Try.func62, by kernel_rfl, by kernel_rfl, by kernel_rfl, fun asv w => by simp⟩

/-- (layover/run.service).waits -/
def a63 : ACode :=
  (.seq
   (.region [⟨(some 3), (.box (.t 0)), none⟩, ⟨(some 6), (.mov (.c (.slice none 0 0))), none⟩])
   (.seq
    (.region [⟨(some 11), (.bsl 0 [] []), none⟩, ⟨(some 7), (.mov (.t 11)), none⟩])
    (.seq
     (.seq
      (.region [⟨(some 12), (.mov (.t 1)), none⟩, ⟨(some 13), (.sl 1 (.t 12) (some (.c (.int .i64 1))) none), none⟩, ⟨(some 14), (.len (.t 13)), none⟩, ⟨(some 15), (.mov (.c (.int .i64 0))), none⟩])
      (.block 0
       (.loop
        (.seq
         (.region [⟨(some 16), (.bin .lss (.t 15) (.t 14)), none⟩])
         (.seq
          (.cond (.t 16)
           .skip
           (.exit 0))
          (.seq
           (.block 1
            (.seq
             (.region [⟨(some 17), (.mov (.t 15)), none⟩, ⟨(some 18), (.isl 1 (.t 13) (.t 15)), none⟩, ⟨(some 19), (.ld false 1 (.t 18)), none⟩, ⟨(some 8), (.mov (.t 17)), none⟩, ⟨(some 9), (.mov (.t 19)), none⟩])
             (.seq
              (.region [⟨(some 20), (.mov (.t 1)), none⟩, ⟨(some 21), (.mov (.t 8)), none⟩, ⟨(some 22), (.isl 1 (.t 20) (.t 21)), none⟩, ⟨(some 23), (.ld false 1 (.t 22)), none⟩, ⟨(some 10), (.mov (.t 23)), none⟩])
              (.draw 23 [⟨⟨(some 24), (.mov (.t 7)), none⟩, 0, false, []⟩, ⟨⟨(some 25), (.ld true 6 (.t 3)), none⟩, 1, false, []⟩, ⟨⟨(some 26), (.fa 0 (.t 3)), none⟩, 2, false, []⟩, ⟨⟨(some 27), (.fa 3 (.t 26)), none⟩, 3, false, []⟩, ⟨⟨(some 28), (.ld false 1 (.t 27)), none⟩, 4, false, []⟩, ⟨⟨(some 29), (.mov (.t 10)), none⟩, 5, false, []⟩, ⟨⟨(some 30), (.isl 6 (.t 28) (.t 29)), none⟩, 6, false, []⟩, ⟨⟨(some 31), (.ld true 6 (.t 30)), none⟩, 7, false, []⟩, ⟨⟨(some 32), (.fa 0 (.t 3)), none⟩, 8, false, []⟩, ⟨⟨(some 33), (.fa 3 (.t 32)), none⟩, 9, false, []⟩, ⟨⟨(some 34), (.ld false 1 (.t 33)), none⟩, 10, false, []⟩, ⟨⟨(some 35), (.mov (.t 9)), none⟩, 11, false, []⟩, ⟨⟨(some 36), (.isl 6 (.t 34) (.t 35)), none⟩, 12, false, []⟩, ⟨⟨(some 37), (.ld true 6 (.t 36)), none⟩, 13, false, []⟩, ⟨⟨(some 38), (.mov (.t 2)), none⟩, 14, false, []⟩, ⟨⟨(some 39), (.mov (.t 10)), none⟩, 15, false, []⟩, ⟨⟨(some 40), (.isl 1 (.t 38) (.t 39)), none⟩, 16, false, []⟩, ⟨⟨(some 41), (.ld false 1 (.t 40)), none⟩, 17, false, []⟩, ⟨⟨(some 42), (.bsl 1 [(.int .i64 0)] [(0, 1, (.t 41))]), none⟩, 18, false, []⟩, ⟨⟨(some 43), (.call (.c (.func (.func 83) #[] #[])) [(.t 25), (.t 31), (.t 37), (.t 42)]), none⟩, 19, true, []⟩, ⟨⟨(some 44), (.bsl 1 [(.int .i64 0)] [(0, 1, (.t 43))]), none⟩, 20, false, []⟩, ⟨⟨(some 45), (.app 1 8 (.t 24) (.t 44)), none⟩, 21, true, []⟩, ⟨⟨(some 7), (.mov (.t 45)), none⟩, 22, false, []⟩]))))
           (.region [⟨(some 46), (.bin .add (.t 15) (.c (.int .i64 1))), none⟩, ⟨(some 15), (.mov (.t 46)), none⟩])))))))
     (.seq
      (.region [⟨(some 47), (.mov (.t 7)), none⟩, ⟨(some 6), (.mov (.t 47)), none⟩])
      .ret))))
def r63 : List AOp := [(.mov (.t 6))]
theorem ok63 : FnOk Try.prog 63 Try.f63.ntmps a63 r63 := ⟨Try.f63, Try.func63, by kernel_rfl, by kernel_rfl, by kernel_rfl, fun asv w => by simp⟩

/-- layover/run.Play -/
def a36 : ACode :=
  (.seq
   (.region [⟨(some 3), (.box (.t 0)), none⟩, ⟨(some 6), (.mov (.c (.slice none 0 0))), none⟩, ⟨(some 7), (.mov (.c (.int .i64 0))), none⟩])
   (.seq
    (.seq
     (.region [⟨(some 13), (.ld true 4 (.t 3)), none⟩, ⟨(some 14), (.call (.c (.func (.func 18) #[] #[])) [(.t 13)]), none⟩, ⟨(some 8), (.mov (.t 14)), none⟩])
     (.seq
      (.region [⟨(some 15), (.mov (.t 8)), none⟩, ⟨(some 16), (.bin .neq (.t 15) (.c (.int .i64 0))), none⟩])
      (.cond (.t 16)
       (.seq
        (.region [⟨(some 17), (.mov (.t 8)), none⟩, ⟨(some 6), (.mov (.c (.slice none 0 0))), none⟩, ⟨(some 7), (.mov (.t 17)), none⟩])
        .ret)
       .skip)))
    (.seq
     (.region [⟨(some 18), (.ld true 4 (.t 3)), none⟩, ⟨(some 19), (.call (.c (.func (.func 51) #[] #[])) [(.t 18)]), none⟩, ⟨(some 9), (.new [(.int .i64 0), (.int .i64 0), (.slice none 0 0), (.slice none 0 0), .nilFunc, (.slice none 0 0)]), none⟩, ⟨none, (.st 6 (.t 9) (.t 19)), none⟩])
     (.seq
      (.seq
       (.region [⟨(some 20), (.ld true 6 (.t 9)), none⟩, ⟨(some 21), (.mov (.t 1)), none⟩, ⟨(some 22), (.call (.c (.func (.func 56) #[] #[])) [(.t 20), (.t 21)]), none⟩, ⟨(some 23), (.not (.t 22)), none⟩, ⟨(some 24), (.mov (.t 23)), none⟩, ⟨(some 25), (.ld true 6 (.t 9)), (some (24, false))⟩, ⟨(some 26), (.mov (.t 2)), (some (24, false))⟩, ⟨(some 27), (.call (.c (.func (.func 62) #[] #[])) [(.t 25), (.t 26)]), (some (24, false))⟩, ⟨(some 28), (.not (.t 27)), (some (24, false))⟩, ⟨(some 29), (.pick (.t 24) (.c (.bool true)) (.t 28)), none⟩])
       (.cond (.t 29)
        (.seq
         (.region [⟨(some 6), (.mov (.c (.slice none 0 0))), none⟩, ⟨(some 7), (.mov (.c (.int .i64 2))), none⟩])
         .ret)
        .skip))
      (.seq
       (.region [⟨(some 30), (.mov (.t 1)), none⟩, ⟨(some 31), (.len (.t 30)), none⟩, ⟨(some 32), (.mks 1 24 [(.slice none 0 0)] (.t 31) (.t 31)), none⟩, ⟨(some 10), (.mov (.t 32)), none⟩])
       (.seq
        (.seq
         (.region [⟨(some 33), (.mov (.t 1)), none⟩, ⟨(some 34), (.len (.t 33)), none⟩, ⟨(some 35), (.mov (.c (.int .i64 0))), none⟩])
         (.block 0
          (.loop
           (.seq
            (.region [⟨(some 36), (.bin .lss (.t 35) (.t 34)), none⟩])
            (.seq
             (.cond (.t 36)
              .skip
              (.exit 0))
             (.seq
              (.block 1
               (.seq
                (.region [⟨(some 37), (.mov (.t 35)), none⟩, ⟨(some 38), (.isl 1 (.t 33) (.t 35)), none⟩, ⟨(some 39), (.ld false 1 (.t 38)), none⟩, ⟨(some 11), (.mov (.t 37)), none⟩, ⟨(some 12), (.mov (.t 39)), none⟩])
                (.region [⟨(some 40), (.mov (.t 10)), none⟩, ⟨(some 41), (.mov (.t 11)), none⟩, ⟨(some 42), (.ld true 6 (.t 9)), none⟩, ⟨(some 43), (.mov (.t 12)), none⟩, ⟨(some 44), (.mov (.t 2)), none⟩, ⟨(some 45), (.call (.c (.func (.func 63) #[] #[])) [(.t 42), (.t 43), (.t 44)]), none⟩, ⟨(some 46), (.isl 1 (.t 40) (.t 41)), none⟩, ⟨none, (.st 1 (.t 46) (.t 45)), none⟩])))
              (.region [⟨(some 47), (.bin .add (.t 35) (.c (.int .i64 1))), none⟩, ⟨(some 35), (.mov (.t 47)), none⟩])))))))
        (.seq
         (.region [⟨(some 48), (.mov (.t 10)), none⟩, ⟨(some 6), (.mov (.t 48)), none⟩, ⟨(some 7), (.mov (.c (.int .i64 0))), none⟩])
         .ret)))))))
def r36 : List AOp := [(.mov (.t 6)), (.mov (.t 7))]
theorem ok36 : FnOk Try.prog 36 Try.f36.ntmps a36 r36 := ⟨Try.f36, Try.func36, by kernel_rfl, by kernel_rfl, by kernel_rfl, fun asv w => by simp⟩

/-- layover/layoverref01.IsCutting -/
def a29 : ACode :=
  (.seq
   (.region [⟨(some 2), (.box (.t 0)), none⟩, ⟨(some 4), (.mov (.c (.bool false))), none⟩])
   (.seq
    (.region [⟨(some 10), (.fa 3 (.t 2)), none⟩, ⟨(some 11), (.ld false 1 (.t 10)), none⟩, ⟨(some 12), (.len (.t 11)), none⟩, ⟨(some 13), (.mks 1 1 [(.bool false)] (.t 12) (.t 12)), none⟩, ⟨(some 5), (.mov (.t 13)), none⟩])
    (.seq
     (.region [⟨(some 6), (.mov (.c (.int .i64 0))), none⟩])
     (.seq
      (.seq
       (.region [⟨(some 7), (.mov (.c (.int .i64 0))), none⟩])
       (.block 0
        (.loop
         (.seq
          (.seq
           (.region [⟨(some 14), (.mov (.t 7)), none⟩, ⟨(some 15), (.mov (.t 1)), none⟩, ⟨(some 16), (.len (.t 15)), none⟩, ⟨(some 17), (.bin .lss (.t 14) (.t 16)), none⟩])
           (.cond (.t 17)
            .skip
            (.exit 0)))
          (.seq
           (.block 1
            (.seq
             (.seq
              (.region [⟨(some 20), (.mov (.t 1)), none⟩, ⟨(some 21), (.mov (.t 7)), none⟩, ⟨(some 22), (.isl 1 (.t 20) (.t 21)), none⟩, ⟨(some 23), (.ld false 1 (.t 22)), none⟩, ⟨(some 24), (.len (.t 23)), none⟩, ⟨(some 25), (.bin .eql (.t 24) (.c (.int .i64 0))), none⟩])
              (.cond (.t 25)
               (.seq
                (.region [⟨(some 4), (.mov (.c (.bool false))), none⟩])
                .ret)
               .skip))
             (.seq
              (.region [⟨(some 8), (.mov (.c (.int .i64 0))), none⟩])
              (.block 2
               (.loop
                (.seq
                 (.seq
                  (.region [⟨(some 26), (.mov (.t 8)), none⟩, ⟨(some 27), (.mov (.t 1)), none⟩, ⟨(some 28), (.mov (.t 7)), none⟩, ⟨(some 29), (.isl 1 (.t 27) (.t 28)), none⟩, ⟨(some 30), (.ld false 1 (.t 29)), none⟩, ⟨(some 31), (.len (.t 30)), none⟩, ⟨(some 32), (.bin .lss (.t 26) (.t 31)), none⟩])
                  (.cond (.t 32)
                   .skip
                   (.exit 2)))
                 (.seq
                  (.block 3
                   (.seq
                    (.region [⟨(some 35), (.mov (.t 1)), none⟩, ⟨(some 36), (.mov (.t 7)), none⟩, ⟨(some 37), (.isl 1 (.t 35) (.t 36)), none⟩, ⟨(some 38), (.ld false 1 (.t 37)), none⟩, ⟨(some 39), (.mov (.t 8)), none⟩, ⟨(some 40), (.isl 1 (.t 38) (.t 39)), none⟩, ⟨(some 41), (.ld false 1 (.t 40)), none⟩, ⟨(some 9), (.mov (.t 41)), none⟩])
                    (.seq
                     (.seq
                      (.draw 31 [⟨⟨(some 42), (.mov (.t 9)), none⟩, 0, false, []⟩, ⟨⟨(some 43), (.fa 3 (.t 2)), none⟩, 1, false, []⟩, ⟨⟨(some 44), (.ld false 1 (.t 43)), none⟩, 2, false, []⟩, ⟨⟨(some 45), (.len (.t 44)), none⟩, 3, false, []⟩, ⟨⟨(some 46), (.bin .sub (.t 45) (.c (.int .i64 1))), none⟩, 4, false, []⟩, ⟨⟨(some 47), (.call (.c (.func (.func 57) #[] #[])) [(.t 42), (.c (.int .i64 0)), (.t 46)]), none⟩, 5, true, []⟩, ⟨⟨(some 48), (.not (.t 47)), none⟩, 6, false, []⟩, ⟨⟨(some 49), (.mov (.t 48)), none⟩, 7, false, []⟩, ⟨⟨(some 50), (.mov (.t 5)), (some (49, false))⟩, 8, false, []⟩, ⟨⟨(some 51), (.mov (.t 9)), (some (49, false))⟩, 9, false, []⟩, ⟨⟨(some 52), (.isl 1 (.t 50) (.t 51)), (some (49, false))⟩, 10, false, []⟩, ⟨⟨(some 53), (.ld false 1 (.t 52)), (some (49, false))⟩, 11, false, []⟩, ⟨⟨(some 54), (.pick (.t 49) (.c (.bool true)) (.t 53)), none⟩, 12, false, []⟩, ⟨⟨(some 55), (.mov (.t 54)), none⟩, 13, false, []⟩, ⟨⟨(some 56), (.mov (.t 8)), (some (55, false))⟩, 14, false, []⟩, ⟨⟨(some 57), (.bin .gtr (.t 56) (.c (.int .i64 0))), (some (55, false))⟩, 15, false, []⟩, ⟨⟨(some 58), (.mov (.t 57)), (some (55, false))⟩, 16, false, []⟩, ⟨⟨(some 59), (.ld true 4 (.t 2)), (some (58, true))⟩, 17, false, []⟩, ⟨⟨(some 60), (.mov (.t 1)), (some (58, true))⟩, 18, false, []⟩, ⟨⟨(some 61), (.mov (.t 7)), (some (58, true))⟩, 19, false, []⟩, ⟨⟨(some 62), (.isl 1 (.t 60) (.t 61)), (some (58, true))⟩, 20, false, []⟩, ⟨⟨(some 63), (.ld false 1 (.t 62)), (some (58, true))⟩, 21, false, []⟩, ⟨⟨(some 64), (.mov (.t 8)), (some (58, true))⟩, 22, false, []⟩, ⟨⟨(some 65), (.bin .sub (.t 64) (.c (.int .i64 1))), (some (58, true))⟩, 23, false, []⟩, ⟨⟨(some 66), (.isl 1 (.t 63) (.t 65)), (some (58, true))⟩, 24, false, []⟩, ⟨⟨(some 67), (.ld false 1 (.t 66)), (some (58, true))⟩, 25, false, []⟩, ⟨⟨(some 68), (.mov (.t 9)), (some (58, true))⟩, 26, false, []⟩, ⟨⟨(some 69), (.call (.c (.func (.func 52) #[] #[])) [(.t 59), (.t 67), (.t 68)]), (some (58, true))⟩, 27, true, []⟩, ⟨⟨(some 70), (.not (.t 69)), (some (58, true))⟩, 28, false, []⟩, ⟨⟨(some 71), (.pick (.t 58) (.t 70) (.c (.bool false))), (some (55, false))⟩, 29, false, []⟩, ⟨⟨(some 72), (.pick (.t 55) (.c (.bool true)) (.t 71)), none⟩, 30, false, []⟩])
                      (.cond (.t 72)
                       (.seq
                        (.region [⟨(some 4), (.mov (.c (.bool false))), none⟩])
                        .ret)
                       .skip))
                     (.seq
                      (.region [⟨(some 73), (.mov (.t 5)), none⟩, ⟨(some 74), (.mov (.t 9)), none⟩, ⟨(some 75), (.isl 1 (.t 73) (.t 74)), none⟩, ⟨none, (.st 1 (.t 75) (.c (.bool true))), none⟩])
                      (.region [⟨(some 76), (.mov (.t 6)), none⟩, ⟨(some 77), (.bin .add (.t 76) (.c (.int .i64 1))), none⟩, ⟨(some 6), (.mov (.t 77)), none⟩])))))
                  (.region [⟨(some 33), (.mov (.t 8)), none⟩, ⟨(some 34), (.bin .add (.t 33) (.c (.int .i64 1))), none⟩, ⟨(some 8), (.mov (.t 34)), none⟩]))))))))
           (.region [⟨(some 18), (.mov (.t 7)), none⟩, ⟨(some 19), (.bin .add (.t 18) (.c (.int .i64 1))), none⟩, ⟨(some 7), (.mov (.t 19)), none⟩]))))))
      (.seq
       (.region [⟨(some 78), (.mov (.t 6)), none⟩, ⟨(some 79), (.fa 3 (.t 2)), none⟩, ⟨(some 80), (.ld false 1 (.t 79)), none⟩, ⟨(some 81), (.len (.t 80)), none⟩, ⟨(some 82), (.bin .eql (.t 78) (.t 81)), none⟩, ⟨(some 4), (.mov (.t 82)), none⟩])
       .ret)))))
def r29 : List AOp := [(.mov (.t 4))]
theorem ok29 : FnOk Try.prog 29 Try.f29.ntmps a29 r29 := ⟨Try.f29, Try.func29, by kernel_rfl, by kernel_rfl, by kernel_rfl, fun asv w => by simp⟩

/-- layover/layoverref01.Fits -/
def a37 : ACode :=
  (.seq
   (.region [⟨(some 2), (.box (.t 0)), none⟩, ⟨(some 4), (.mov (.c (.bool false))), none⟩])
   (.seq
    (.seq
     (.region [⟨(some 6), (.mov (.t 1)), none⟩, ⟨(some 7), (.len (.t 6)), none⟩, ⟨(some 8), (.fa 3 (.t 2)), none⟩, ⟨(some 9), (.ld false 1 (.t 8)), none⟩, ⟨(some 10), (.len (.t 9)), none⟩, ⟨(some 11), (.bin .neq (.t 7) (.t 10)), none⟩])
     (.cond (.t 11)
      (.seq
       (.region [⟨(some 4), (.mov (.c (.bool false))), none⟩])
       .ret)
      .skip))
    (.seq
     (.seq
      (.region [⟨(some 5), (.mov (.c (.int .i64 0))), none⟩])
      (.block 0
       (.loop
        (.seq
         (.seq
          (.region [⟨(some 12), (.mov (.t 5)), none⟩, ⟨(some 13), (.mov (.t 1)), none⟩, ⟨(some 14), (.len (.t 13)), none⟩, ⟨(some 15), (.bin .lss (.t 12) (.t 14)), none⟩])
          (.cond (.t 15)
           .skip
           (.exit 0)))
         (.seq
          (.block 1
           (.seq
            (.draw 18 [⟨⟨(some 18), (.mov (.t 1)), none⟩, 0, false, []⟩, ⟨⟨(some 19), (.mov (.t 5)), none⟩, 1, false, []⟩, ⟨⟨(some 20), (.isl 1 (.t 18) (.t 19)), none⟩, 2, false, []⟩, ⟨⟨(some 21), (.ld false 1 (.t 20)), none⟩, 3, false, []⟩, ⟨⟨(some 22), (.fa 3 (.t 2)), none⟩, 4, false, []⟩, ⟨⟨(some 23), (.ld false 1 (.t 22)), none⟩, 5, false, []⟩, ⟨⟨(some 24), (.mov (.t 5)), none⟩, 6, false, []⟩, ⟨⟨(some 25), (.isl 6 (.t 23) (.t 24)), none⟩, 7, false, []⟩, ⟨⟨(some 26), (.fa 3 (.t 25)), none⟩, 8, false, []⟩, ⟨⟨(some 27), (.ld false 1 (.t 26)), none⟩, 9, false, []⟩, ⟨⟨(some 28), (.fa 3 (.t 2)), none⟩, 10, false, []⟩, ⟨⟨(some 29), (.ld false 1 (.t 28)), none⟩, 11, false, []⟩, ⟨⟨(some 30), (.mov (.t 5)), none⟩, 12, false, []⟩, ⟨⟨(some 31), (.isl 6 (.t 29) (.t 30)), none⟩, 13, false, []⟩, ⟨⟨(some 32), (.fa 4 (.t 31)), none⟩, 14, false, []⟩, ⟨⟨(some 33), (.ld false 1 (.t 32)), none⟩, 15, false, []⟩, ⟨⟨(some 34), (.call (.c (.func (.func 57) #[] #[])) [(.t 21), (.t 27), (.t 33)]), none⟩, 16, true, []⟩, ⟨⟨(some 35), (.not (.t 34)), none⟩, 17, false, []⟩])
            (.cond (.t 35)
             (.seq
              (.region [⟨(some 4), (.mov (.c (.bool false))), none⟩])
              .ret)
             .skip)))
          (.region [⟨(some 16), (.mov (.t 5)), none⟩, ⟨(some 17), (.bin .add (.t 16) (.c (.int .i64 1))), none⟩, ⟨(some 5), (.mov (.t 17)), none⟩]))))))
     (.seq
      (.region [⟨(some 4), (.mov (.c (.bool true))), none⟩])
      .ret))))
def r37 : List AOp := [(.mov (.t 4))]
theorem ok37 : FnOk Try.prog 37 Try.f37.ntmps a37 r37 := ⟨Try.f37, Try.func37, by kernel_rfl, by kernel_rfl, by kernel_rfl, fun asv w => by simp⟩

/-- layover/layoverref01.Waits -/
def a38 : ACode :=
  (.seq
   (.region [⟨(some 3), (.box (.t 0)), none⟩, ⟨(some 6), (.mov (.c (.slice none 0 0))), none⟩])
   (.seq
    (.region [⟨(some 7), (.mov (.c (.slice none 0 0))), none⟩])
    (.seq
     (.seq
      (.region [⟨(some 8), (.mov (.c (.int .i64 1))), none⟩])
      (.block 0
       (.loop
        (.seq
         (.seq
          (.region [⟨(some 10), (.mov (.t 8)), none⟩, ⟨(some 11), (.mov (.t 1)), none⟩, ⟨(some 12), (.len (.t 11)), none⟩, ⟨(some 13), (.bin .lss (.t 10) (.t 12)), none⟩])
          (.cond (.t 13)
           .skip
           (.exit 0)))
         (.seq
          (.block 1
           (.seq
            (.draw 10 [⟨⟨(some 16), (.fa 3 (.t 3)), none⟩, 0, false, []⟩, ⟨⟨(some 17), (.ld false 1 (.t 16)), none⟩, 1, false, []⟩, ⟨⟨(some 18), (.mov (.t 1)), none⟩, 2, false, []⟩, ⟨⟨(some 19), (.mov (.t 8)), none⟩, 3, false, []⟩, ⟨⟨(some 20), (.isl 1 (.t 18) (.t 19)), none⟩, 4, false, []⟩, ⟨⟨(some 21), (.ld false 1 (.t 20)), none⟩, 5, false, []⟩, ⟨⟨(some 22), (.isl 6 (.t 17) (.t 21)), none⟩, 6, false, []⟩, ⟨⟨(some 23), (.ld true 6 (.t 22)), none⟩, 7, false, []⟩, ⟨⟨(some 9), (.new [(.int .i64 0), (.int .i64 0), (.int .i64 0), (.int .i64 0), (.int .i64 0), (.int .i64 0)]), none⟩, 8, false, []⟩, ⟨⟨none, (.st 6 (.t 9) (.t 23)), none⟩, 9, true, []⟩])
            (.draw 24 [⟨⟨(some 24), (.mov (.t 7)), none⟩, 0, false, []⟩, ⟨⟨(some 25), (.fa 2 (.t 9)), none⟩, 1, false, []⟩, ⟨⟨(some 26), (.ld false 1 (.t 25)), none⟩, 2, false, []⟩, ⟨⟨(some 27), (.ld true 4 (.t 3)), none⟩, 3, false, []⟩, ⟨⟨(some 28), (.mov (.t 1)), none⟩, 4, false, []⟩, ⟨⟨(some 29), (.mov (.t 8)), none⟩, 5, false, []⟩, ⟨⟨(some 30), (.bin .sub (.t 29) (.c (.int .i64 1))), none⟩, 6, false, []⟩, ⟨⟨(some 31), (.isl 1 (.t 28) (.t 30)), none⟩, 7, false, []⟩, ⟨⟨(some 32), (.ld false 1 (.t 31)), none⟩, 8, false, []⟩, ⟨⟨(some 33), (.mov (.t 2)), none⟩, 9, false, []⟩, ⟨⟨(some 34), (.mov (.t 1)), none⟩, 10, false, []⟩, ⟨⟨(some 35), (.mov (.t 8)), none⟩, 11, false, []⟩, ⟨⟨(some 36), (.bin .sub (.t 35) (.c (.int .i64 1))), none⟩, 12, false, []⟩, ⟨⟨(some 37), (.isl 1 (.t 34) (.t 36)), none⟩, 13, false, []⟩, ⟨⟨(some 38), (.ld false 1 (.t 37)), none⟩, 14, false, []⟩, ⟨⟨(some 39), (.isl 1 (.t 33) (.t 38)), none⟩, 15, false, []⟩, ⟨⟨(some 40), (.ld false 1 (.t 39)), none⟩, 16, false, []⟩, ⟨⟨(some 41), (.fa 0 (.t 9)), none⟩, 17, false, []⟩, ⟨⟨(some 42), (.ld false 1 (.t 41)), none⟩, 18, false, []⟩, ⟨⟨(some 43), (.call (.c (.func (.func 64) #[] #[])) [(.t 27), (.t 32), (.t 40), (.t 42)]), none⟩, 19, true, [2]⟩, ⟨⟨(some 44), (.bin .sub (.t 26) (.t 43)), none⟩, 20, false, []⟩, ⟨⟨(some 45), (.bsl 1 [(.int .i64 0)] [(0, 1, (.t 44))]), none⟩, 21, false, []⟩, ⟨⟨(some 46), (.app 1 8 (.t 24) (.t 45)), none⟩, 22, true, []⟩, ⟨⟨(some 7), (.mov (.t 46)), none⟩, 23, false, []⟩])))
          (.region [⟨(some 14), (.mov (.t 8)), none⟩, ⟨(some 15), (.bin .add (.t 14) (.c (.int .i64 1))), none⟩, ⟨(some 8), (.mov (.t 15)), none⟩]))))))
     (.seq
      (.region [⟨(some 47), (.mov (.t 7)), none⟩, ⟨(some 6), (.mov (.t 47)), none⟩])
      .ret))))
def r38 : List AOp := [(.mov (.t 6))]
theorem ok38 : FnOk Try.prog 38 Try.f38.ntmps a38 r38 := ⟨Try.f38, Try.func38, by kernel_rfl, by kernel_rfl, by kernel_rfl, fun asv w => by simp⟩

/-- layover/layoverlaw01.RunPlays -/
def a6 : ACode :=
  (.seq
   (.region [⟨(some 3), (.box (.t 0)), none⟩, ⟨(some 6), (.mov (.c (.bool false))), none⟩])
   (.seq
    (.seq
     (.region [⟨(some 11), (.ld true 4 (.t 3)), none⟩, ⟨(some 12), (.call (.c (.func (.func 16) #[] #[])) [(.t 11)]), none⟩, ⟨(some 13), (.not (.t 12)), none⟩, ⟨(some 14), (.mov (.t 13)), none⟩, ⟨(some 15), (.mov (.t 1)), (some (14, false))⟩, ⟨(some 16), (.call (.c (.func (.func 25) #[] #[])) [(.t 15)]), (some (14, false))⟩, ⟨(some 17), (.not (.t 16)), (some (14, false))⟩, ⟨(some 18), (.pick (.t 14) (.c (.bool true)) (.t 17)), none⟩, ⟨(some 19), (.mov (.t 18)), none⟩, ⟨(some 20), (.mov (.t 2)), (some (19, false))⟩, ⟨(some 21), (.len (.t 20)), (some (19, false))⟩, ⟨(some 22), (.bin .gtr (.t 21) (.c (.int .i64 15))), (some (19, false))⟩, ⟨(some 23), (.pick (.t 19) (.c (.bool true)) (.t 22)), none⟩])
     (.cond (.t 23)
      (.seq
       (.region [⟨(some 24), (.call (.c (.func (.func 17) #[] #[])) []), none⟩, ⟨(some 6), (.mov (.t 24)), none⟩])
       .ret)
      .skip))
    (.seq
     (.region [⟨(some 26), (.ld true 4 (.t 3)), none⟩, ⟨(some 27), (.call (.c (.func (.func 19) #[] #[])) [(.t 26)]), none⟩, ⟨(some 28), (.mov (.t 1)), none⟩, ⟨(some 29), (.call (.c (.func (.func 28) #[] #[])) [(.t 28)]), none⟩, ⟨(some 30), (.mov (.t 2)), none⟩, ⟨(some 31), (.call (.c (.func (.func 34) #[] #[])) [(.t 30)]), none⟩, ⟨(some 32), (.call (.c (.func (.func 36) #[] #[])) [(.t 27), (.t 29), (.t 31)]), none⟩, ⟨(some 25), (.mov (.t 32)), none⟩, ⟨(some 33), (.ext (.t 25) 0), none⟩, ⟨(some 34), (.ext (.t 25) 1), none⟩, ⟨(some 7), (.mov (.t 33)), none⟩, ⟨(some 8), (.mov (.t 34)), none⟩])
     (.seq
      (.region [⟨(some 35), (.ld true 4 (.t 3)), none⟩, ⟨(some 36), (.call (.c (.func (.func 21) #[] #[])) [(.t 35)]), none⟩, ⟨(some 9), (.mov (.t 36)), none⟩])
      (.seq
       (.seq
        (.region [⟨(some 37), (.mov (.t 9)), none⟩, ⟨(some 38), (.bin .eql (.t 37) (.c (.int .i64 0))), none⟩, ⟨(some 39), (.mov (.t 38)), none⟩, ⟨(some 40), (.ld true 4 (.t 3)), (some (39, true))⟩, ⟨(some 41), (.mov (.t 1)), (some (39, true))⟩, ⟨(some 42), (.call (.c (.func (.func 29) #[] #[])) [(.t 40), (.t 41)]), (some (39, true))⟩, ⟨(some 43), (.not (.t 42)), (some (39, true))⟩, ⟨(some 44), (.mov (.t 43)), (some (39, true))⟩, ⟨(some 45), (.ld true 4 (.t 3)), (some (44, false))⟩, ⟨(some 46), (.mov (.t 2)), (some (44, false))⟩, ⟨(some 47), (.call (.c (.func (.func 37) #[] #[])) [(.t 45), (.t 46)]), (some (44, false))⟩, ⟨(some 48), (.not (.t 47)), (some (44, false))⟩, ⟨(some 49), (.pick (.t 44) (.c (.bool true)) (.t 48)), (some (39, true))⟩, ⟨(some 50), (.pick (.t 39) (.t 49) (.c (.bool false))), none⟩])
        (.cond (.t 50)
         (.region [⟨(some 9), (.mov (.c (.int .i64 2))), none⟩])
         .skip))
       (.seq
        (.seq
         (.region [⟨(some 51), (.mov (.t 9)), none⟩, ⟨(some 52), (.bin .neq (.t 51) (.c (.int .i64 0))), none⟩])
         (.cond (.t 52)
          (.seq
           (.region [⟨(some 53), (.mov (.t 8)), none⟩, ⟨(some 54), (.mov (.t 9)), none⟩, ⟨(some 55), (.bin .eql (.t 53) (.t 54)), none⟩, ⟨(some 56), (.mov (.t 55)), none⟩, ⟨(some 57), (.mov (.t 7)), (some (56, true))⟩, ⟨(some 58), (.len (.t 57)), (some (56, true))⟩, ⟨(some 59), (.bin .eql (.t 58) (.c (.int .i64 0))), (some (56, true))⟩, ⟨(some 60), (.pick (.t 56) (.t 59) (.c (.bool false))), none⟩, ⟨(some 61), (.mov (.t 60)), none⟩, ⟨(some 62), (.call (.c (.func (.func 17) #[] #[])) []), (some (61, true))⟩, ⟨(some 63), (.pick (.t 61) (.t 62) (.c (.bool false))), none⟩, ⟨(some 6), (.mov (.t 63)), none⟩])
           .ret)
          .skip))
        (.seq
         (.seq
          (.region [⟨(some 64), (.mov (.t 8)), none⟩, ⟨(some 65), (.bin .neq (.t 64) (.c (.int .i64 0))), none⟩, ⟨(some 66), (.mov (.t 65)), none⟩, ⟨(some 67), (.mov (.t 7)), (some (66, false))⟩, ⟨(some 68), (.len (.t 67)), (some (66, false))⟩, ⟨(some 69), (.mov (.t 1)), (some (66, false))⟩, ⟨(some 70), (.len (.t 69)), (some (66, false))⟩, ⟨(some 71), (.bin .neq (.t 68) (.t 70)), (some (66, false))⟩, ⟨(some 72), (.pick (.t 66) (.c (.bool true)) (.t 71)), none⟩])
          (.cond (.t 72)
           (.seq
            (.region [⟨(some 6), (.mov (.c (.bool false))), none⟩])
            .ret)
           .skip))
         (.seq
          (.seq
           (.region [⟨(some 10), (.mov (.c (.int .i64 0))), none⟩])
           (.block 0
            (.loop
             (.seq
              (.seq
               (.region [⟨(some 73), (.mov (.t 10)), none⟩, ⟨(some 74), (.mov (.t 7)), none⟩, ⟨(some 75), (.len (.t 74)), none⟩, ⟨(some 76), (.bin .lss (.t 73) (.t 75)), none⟩])
               (.cond (.t 76)
                .skip
                (.exit 0)))
              (.seq
               (.block 1
                (.seq
                 (.draw 13 [⟨⟨(some 79), (.mov (.t 7)), none⟩, 0, false, []⟩, ⟨⟨(some 80), (.mov (.t 10)), none⟩, 1, false, []⟩, ⟨⟨(some 81), (.isl 1 (.t 79) (.t 80)), none⟩, 2, false, []⟩, ⟨⟨(some 82), (.ld false 1 (.t 81)), none⟩, 3, false, []⟩, ⟨⟨(some 83), (.ld true 4 (.t 3)), none⟩, 4, false, []⟩, ⟨⟨(some 84), (.mov (.t 1)), none⟩, 5, false, []⟩, ⟨⟨(some 85), (.mov (.t 10)), none⟩, 6, false, []⟩, ⟨⟨(some 86), (.isl 1 (.t 84) (.t 85)), none⟩, 7, false, []⟩, ⟨⟨(some 87), (.ld false 1 (.t 86)), none⟩, 8, false, []⟩, ⟨⟨(some 88), (.mov (.t 2)), none⟩, 9, false, []⟩, ⟨⟨(some 89), (.call (.c (.func (.func 38) #[] #[])) [(.t 83), (.t 87), (.t 88)]), none⟩, 10, true, [3]⟩, ⟨⟨(some 90), (.call (.c (.func (.func 22) #[] #[])) [(.t 82), (.t 89)]), none⟩, 11, true, []⟩, ⟨⟨(some 91), (.not (.t 90)), none⟩, 12, false, []⟩])
                 (.cond (.t 91)
                  (.seq
                   (.region [⟨(some 6), (.mov (.c (.bool false))), none⟩])
                   .ret)
                  .skip)))
               (.region [⟨(some 77), (.mov (.t 10)), none⟩, ⟨(some 78), (.bin .add (.t 77) (.c (.int .i64 1))), none⟩, ⟨(some 10), (.mov (.t 78)), none⟩]))))))
          (.seq
           (.region [⟨(some 92), (.call (.c (.func (.func 17) #[] #[])) []), none⟩, ⟨(some 6), (.mov (.t 92)), none⟩])
           .ret)))))))))
def r6 : List AOp := [(.mov (.t 6))]
theorem ok6 : FnOk Try.prog 6 Try.f6.ntmps a6 r6 := ⟨Try.f6, Try.func6, by kernel_rfl, by kernel_rfl, by kernel_rfl, fun asv w => by simp⟩

end Go.Proofs.Ytohohnpjilinmaa

/-
  Contracts of what asks whether times are a truth: the program's and the reference's.
-/
namespace Go.Proofs.Ytohohnpjilinmaa
open Go Go.Ab

def okTime (T : Tab) (times : List Int) (k : Nat) : Bool := match T.trips[k]?, times[k]? with
  | some x, some m => decide (x.least ≤ m) && decide (m ≤ x.most)
  | _, _ => false
def fitsL (T : Tab) (times : List Int) : Bool := decide (times.length = T.trips.length) && (List.range T.trips.length).all (okTime T times)

theorem all_range_succ {p : Nat → Bool} {i : Nat} : (List.range (i + 1)).all p = ((List.range i).all p && p i) := by simp [List.range_succ]
theorem lt_succ_all {p : Nat → Bool} {i : Nat} (h : ∀ k, k < i → p k = true) (hi : p i = true) : ∀ k, k < i + 1 → p k = true := fun k hk => by
  by_cases e : k = i
  · subst e; exact hi
  · exact h k (by omega)
theorem all_range_false {p : Nat → Bool} {i n : Nat} (hi : i < n) (h : p i = false) : (List.range n).all p = false := by
  rw [Bool.eq_false_iff]
  intro ha
  have := List.all_eq_true.1 ha i (List.mem_range.2 hi)
  rw [h] at this; cases this

theorem in_spec' (n lo hi : Int) (H : Heap) : AFun Try.prog 57 [.int .i64 n, .int .i64 lo, .int .i64 hi] H (fun v H' => v = .bool (decide (lo ≤ n) && decide (n ≤ hi)) ∧ H' = H) := in_spec n lo hi H

theorem isTruth_spec {e s f v : Value} {T : Tab} {times : List Int} {H : Heap} (h : TabAt H e s T) (hfew : T.trips.length ≤ 12) (hv : IntsAt H v times) : AFun Try.prog 62 [svcV T e s f, v] H (fun r B => r = .bool (fitsL T times) ∧ Ge H B) := by
  refine AFun.mk ok62 hm (Nat.le_of_ble_eq_true rfl) ?_
  have h62 := hv.2
  simp [a62, r62, hv.lenV, h.trips.lenV]
  by_cases hl : times.length = T.trips.length
  case neg =>
    have hl' : ¬ (times.length : Int) = (T.trips.length : Int) := by omega
    simp [hl', hl, fitsL]
  have hl' : (times.length : Int) = (T.trips.length : Int) := by omega
  simp [hl', h.trips.lenV]
  refine floop_intro (fun z => z.d = [] ∧ Ge H z.H ∧ z.t 1 = v ∧ z.t 16 = s ∧ z.t 17 = .int .i64 T.trips.length ∧ ∃ i : Nat, i ≤ T.trips.length ∧ z.t 18 = .int .i64 i ∧ ∀ k, k < i → okTime T times k = true) (fun z => T.trips.length - (intOf (z.t 18)).toNat) ?_ ?_
  · exact ⟨rfl, by simp, by simp, by simp, by simp, 0, by simp, by simp, by simp⟩
  rintro ⟨t, _, A⟩ ⟨rfl, g, t1, t16, t17, i, hi, t18, hall⟩
  dsimp only at g t1 t16 t17 t18
  simp [t17, t18]
  refine fcond_intro (fun hc => ?_) (fun hc => ?_)
  · have hi' : i < T.trips.length := by simpa using hc
    obtain ⟨n1, o1, f1, l1, f2, _⟩ := (h.trips.ge g).at hi'
    have G : Ge H (Heap.set (A.new (.cells true [.int .i64 0, .int .i64 0, .int .i64 0, .int .i64 0, .int .i64 0, .int .i64 0] 6)) A.next (.cells true T.trips[i].cells 6)) := Ge.setNew (g.newOf _) g.next _
    obtain ⟨p, e1, e2⟩ := (hv.ge (G.grow 10)).at (i := i) (by omega)
    simp [Tr.cells] at e2
    simp [t1, t16, t18, f1, f2, Tr.val, e1, e2]
    refine fcall_fun (within_spec _ _ _ _) ?_
    rintro _ _ ⟨rfl, rfl⟩
    have hok : okTime T times i = (decide (T.trips[i].least ≤ times[i]) && decide (times[i] ≤ T.trips[i].most)) := by
      simp [okTime, hi', (by omega : i < times.length)]
    rw [← hok]
    cases hb : okTime T times i
    · simp [fitsL, all_range_false hi' hb]
      exact G.grow 10
    · simp [t18, add_in (x := i) (y := 1) (by omega) (by omega)]
      refine ⟨⟨G.grow 10, t1, t16, t17, i + 1, by omega, by omega, lt_succ_all hall hb⟩, by omega⟩
  · have hi' : i = T.trips.length := by simp at hc; omega
    subst hi'
    have ha : (List.range T.trips.length).all (okTime T times) = true := by simpa using hall
    simp [fitsL, hl, ha, g]

theorem fits_spec {e s v : Value} {T : Tab} {times : List Int} {H : Heap} (h : TabAt H e s T) (hfew : T.trips.length ≤ 12) (hv : IntsAt H v times) : AFun Try.prog 37 [tabV T e s, v] H (fun r B => r = .bool (fitsL T times) ∧ Ge H B) := by
  refine AFun.mk ok37 hm (Nat.le_of_ble_eq_true rfl) ?_
  have h62 := hv.2
  simp [a37, r37, hv.lenV, h.trips.lenV]
  by_cases hl : times.length = T.trips.length
  case neg =>
    have hl' : ¬ (times.length : Int) = (T.trips.length : Int) := by omega
    simp [hl', hl, fitsL]
  have hl' : (times.length : Int) = (T.trips.length : Int) := by omega
  simp [hl']
  refine floop_intro (fun z => z.d = [] ∧ Ge H z.H ∧ H.next < z.H.next ∧ z.H.get H.next = .cells true [.int .i64 T.places, .int .i64 T.layover, e, s] 4 ∧ z.t 1 = v ∧ z.t 2 = .pointer (some ⟨H.next, 0, none⟩) ∧ ∃ i : Nat, i ≤ T.trips.length ∧ z.t 5 = .int .i64 i ∧ ∀ k, k < i → okTime T times k = true) (fun z => T.trips.length - (intOf (z.t 5)).toNat) ?_ ?_
  · exact ⟨rfl, by simp, by simp, by simp, by simp, by simp, 0, by simp, by simp, by simp⟩
  rintro ⟨t, _, A⟩ ⟨rfl, g, hn, b0, t1, t2, i, hi, t5, hall⟩
  dsimp only at g hn b0 t1 t2 t5
  simp [t1, t5, hv.lenV, hl']
  refine fcond_intro (fun hc => ?_) (fun hc => ?_)
  · have hi' : i < T.trips.length := by simpa using hc
    obtain ⟨n1, o1, f1, l1, _, f2⟩ := (h.trips.ge g).at hi'
    have f3 := f2 3 (by omega)
    have f4 := f2 4 (by omega)
    simp [Tr.cells] at f3 f4
    obtain ⟨p, e1, e2⟩ := (hv.ge (g.grow 18)).at (i := i) (by omega)
    simp [t1, t2, t5, b0, f1, f3, f4, e1, e2]
    refine fcall_fun (in_spec' _ _ _ _) ?_
    rintro _ _ ⟨rfl, rfl⟩
    have hok : okTime T times i = (decide (T.trips[i].least ≤ times[i]) && decide (times[i] ≤ T.trips[i].most)) := by
      simp [okTime, hi', (by omega : i < times.length)]
    rw [← hok]
    cases hb : okTime T times i
    · simp [fitsL, all_range_false hi' hb]
      exact g.grow 18
    · simp [t5, add_in (x := i) (y := 1) (by omega) (by omega)]
      refine ⟨⟨g.grow 18, by omega, b0, t1, t2, i + 1, by omega, by omega, lt_succ_all hall hb⟩, by omega⟩
  · have hi' : i = T.trips.length := by simp at hc; omega
    subst hi'
    have ha : (List.range T.trips.length).all (okTime T times) = true := by simpa using hall
    simp [fitsL, hl, ha, g]

end Go.Proofs.Ytohohnpjilinmaa

/-
  Contracts of what says how long buses wait: the program's and the reference's.
-/
namespace Go.Proofs.Ytohohnpjilinmaa
open Go Go.Ab

/-- All of a slice but its first element. -/
theorem aval_sl1 {P : Program} {t : Nat → Value} {H H' : Heap} {lo : Nat} {x : Opd} {v c : Value} {cs : List Value} (hx : x.ev t = v) (h : OwnSl H lo v (c :: cs)) : ∃ u, aval P t H' (.sl 1 x (some (.c (.int .i64 1))) none) = some u ∧ SlR H 1 u cs.length cs := by
  rcases h with ⟨_, h2⟩ | ⟨n, cap, k, rfl, h2, h3, h4, h5, h6⟩
  · cases h2
  simp at h5
  refine ⟨.slice (some ⟨n, if cap = 1 then 0 else 1, none⟩) cs.length (cap - 1), ?_, ?_, ?_⟩
  · simp only [aval, hx]
    simp
    omega
  · simp only [slCells, h4, rdL]
    by_cases hc : cap = 1
    · have : cs = [] := List.length_eq_zero_iff.1 (by omega)
      subst this
      simp
      split <;> omega
    · simp [hc]
      omega
  · intro a n' c' e
    simp at e
    rw [← e.1]; exact h3

def waitAt (T : Tab) (times b : List Int) (k : Nat) : Int := match T.trips[(b[k - 1]?.getD 0).toNat]?, T.trips[(b[k]?.getD 0).toNat]? with
  | some x, some y => T.wait x y [times[(b[k - 1]?.getD 0).toNat]?.getD 0]
  | _, _ => 0
def waitsL (T : Tab) (times b : List Int) : List Int := (List.range (b.length - 1)).map fun k => waitAt T times b (k + 1)

theorem waitsTo_succ {T : Tab} {times b : List Int} {i : Nat} : ((List.range (i + 1)).map fun k => waitAt T times b (k + 1)) = ((List.range i).map fun k => waitAt T times b (k + 1)) ++ [waitAt T times b (i + 1)] := by simp [List.range_succ]

/-- What a truth has. -/
theorem fitsL_at {T : Tab} (hT : Valid T) {times : List Int} (hf : fitsL T times = true) {k : Nat} (hk : k < T.trips.length) : ∃ m, times[k]? = some m ∧ T.trips[k].least ≤ m ∧ m ≤ T.trips[k].most ∧ 1 ≤ m ∧ m ≤ 600 := by
  simp only [fitsL, Bool.and_eq_true, decide_eq_true_eq, List.all_eq_true, List.mem_range] at hf
  have := hf.2 k hk
  have ht := hT.trip (List.getElem_mem hk)
  simp only [okTime, List.getElem?_eq_getElem hk] at this
  have hl : k < times.length := by omega
  simp [hl] at this
  exact ⟨times[k], by simp [hl], this.1, this.2, by omega, by omega⟩

theorem waits_spec {e s f bv tv : Value} {T : Tab} {times b : List Int} {H : Heap} {lo : Nat} (h : TabAt H e s T) (hT : Valid T) (hb : OwnSl H lo bv (b.map (.int .i64))) (hbl : b.length ≤ 2 ^ 20) (hb0 : b ≠ []) (hbn : ∀ x ∈ b, T.num x = true) (hv : IntsAt H tv times) (hf : fitsL T times = true) :
    AFun Try.prog 63 [svcV T e s f, bv, tv] H (fun r B => OwnSl B H.next r ((waitsL T times b).map (.int .i64)) ∧ Ge H B) := by
  refine AFun.mk ok63 hm (Nat.le_of_ble_eq_true rfl) ?_
  have he := h.empty.one
  have hs := h.trips.one
  simp [a63, r63]
  obtain ⟨c, cs, rfl⟩ : ∃ c cs, b = c :: cs := by
    cases b with
    | nil => exact absurd rfl hb0
    | cons c cs => exact ⟨c, cs, rfl⟩
  have gB : Ge H ((H.new (.cells true [.int .i64 T.places, .int .i64 T.layover, e, s, .func (.func 74) #[] #[], f] 6)).new (.cells true [] 0)) := (Ge.new _ _).newOf _
  simp only [List.map_cons] at hb
  obtain ⟨u, hu, hsl⟩ := aval_sl1 (P := Try.prog) (H' := (H.new (.cells true [.int .i64 T.places, .int .i64 T.layover, e, s, .func (.func 74) #[] #[], f] 6)).new (.cells true [] 0)) (t := upd (upd (upd (upd (upd (tinit [svcV T e s f, bv, tv]) 3 (.pointer (some ⟨H.next, 0, none⟩))) 6 (.slice none 0 0)) 11 (.slice (some ⟨H.next + 1, 0, none⟩) 0 0)) 7 (.slice (some ⟨H.next + 1, 0, none⟩) 0 0)) 12 bv) (x := .t 12) (by simp) hb
  refine oval_intro hu ?_
  have hln := hsl.lenV
  simp at hln
  simp [hln]
  have hcl : cs.length < 2 ^ 20 := by simp at hbl; omega
  refine floop_intro (fun z => z.d = [] ∧ Ge H z.H ∧ H.next + 2 ≤ z.H.next ∧ z.t 1 = bv ∧ z.t 2 = tv ∧ z.t 3 = .pointer (some ⟨H.next, 0, none⟩) ∧ z.t 13 = u ∧ z.t 14 = .int .i64 cs.length ∧ z.H.get H.next = .cells true [.int .i64 T.places, .int .i64 T.layover, e, s, .func (.func 74) #[] #[], f] 6 ∧
    ∃ i : Nat, i ≤ cs.length ∧ z.t 15 = .int .i64 i ∧ OwnSl z.H (H.next + 1) (z.t 7) (((List.range i).map fun k => waitAt T times (c :: cs) (k + 1)).map (.int .i64))) (fun z => cs.length - (intOf (z.t 15)).toNat) ?_ ?_
  · refine ⟨rfl, gB, by simp, by simp, by simp, by simp, by simp, by simp, by simp, 0, by simp, by simp, ?_⟩
    simp
    exact .inr ⟨H.next + 1, 0, 0, by simp, by omega, by simp, by simp, by simp, by simp⟩
  rintro ⟨t, _, A⟩ ⟨rfl, g, hn, t1, t2, t3, t13, t14, b0, i, hi, t15, hO⟩
  dsimp only at g hn t1 t2 t3 t13 t14 b0 t15 hO
  have hsl' := hsl.ge g
  simp [t14, t15]
  refine fcond_intro (fun hc => ?_) (fun hc => ?_)
  · have hi' : i < cs.length := by simpa using hc
    obtain ⟨p1, e1, e2⟩ := hsl'.at1 (i := i) (k := .i64) (by simpa using hi')
    simp [hi'] at e2
    have hbi : IntsAt A bv (c :: cs) := by
      have := (hb.ge g).slr
      refine ⟨by simpa using this, by simp; omega⟩
    obtain ⟨p2, e3, e4⟩ := hbi.at (i := i) (by simp; omega)
    have hx1 := hbn _ (List.getElem_mem (l := c :: cs) (n := i) (by simp; omega))
    have hx2 := hbn cs[i] (List.mem_cons_of_mem _ (List.getElem_mem hi'))
    generalize hxe : (c :: cs)[i]'(by simp; omega) = x at e4 hx1
    generalize hye : cs[i] = y at e2 hx2
    simp [Tab.num] at hx1 hx2
    have hxl : x.toNat < T.trips.length := by omega
    have hyl : y.toNat < T.trips.length := by omega
    obtain ⟨n1, o1, f1, l1, f2, _⟩ := (h.trips.ge g).atI hx1.1 hxl
    obtain ⟨n2, o2, f3, l2, f4, _⟩ := (h.trips.ge g).atI hx2.1 hyl
    obtain ⟨m, hm1, hm2, hm3, hm4, hm5⟩ := fitsL_at hT hf hxl
    obtain ⟨p5, e5, e6⟩ := IntsAt.atI (hv.ge (g.grow 23)) hx1.1 (by
      exact (List.getElem?_eq_some_iff.1 hm1).1)
    have hme : times[x.toNat]'((List.getElem?_eq_some_iff.1 hm1).1) = m := (List.getElem?_eq_some_iff.1 hm1).2
    rw [hme] at e6
    simp [t1, t2, t3, t13, t15, e1, e2, e3, e4, b0, f1, f2, f3, f4, e5, e6, Tr.val]
    have gA : Ge A (Heap.set ⟨A.get, A.next + 23⟩ (A.next + 18) (.cells true [.int .i64 m] 1)) := Ge.setNew (Ge.more _ _) (by omega) _
    refine fcall_fun (wait_spec (ms := [m]) (h.ge (g.trans gA)) hT (List.getElem_mem hxl) (List.getElem_mem hyl) ⟨⟨?_, ?_⟩, by simp⟩ ?_) ?_
    · simp [slCells]
    · intro a n' c' e; simp at e; rw [← e.1]; simp
    · simp; omega
    rintro _ B ⟨rfl, gB2⟩
    have GB := gA.trans gB2
    have nB := gB2.next
    simp at nB
    have hw : waitAt T times (c :: cs) (i + 1) = T.wait T.trips[x.toNat] T.trips[y.toNat] [m] := by
      simp only [waitAt, Nat.add_sub_cancel, List.getElem?_cons_succ]
      rw [List.getElem?_eq_getElem hi', hye, List.getElem?_eq_getElem (l := c :: cs) (i := i) (by simp; omega), hxe]
      simp only [Option.getD_some]
      rw [List.getElem?_eq_getElem hxl, List.getElem?_eq_getElem hyl, hm1]
      rfl
    rw [← hw]
    simp
    have gN : Ge A (Heap.set B (A.next + 20) (.cells true [.int .i64 (waitAt T times (c :: cs) (i + 1))] 1)) := Ge.setNew GB (by omega) _
    refine fapp_own' (lo := H.next + 1) (hO.ge gN) (slCells_new (x := .int .i64 (waitAt T times (c :: cs) (i + 1))) (rw := true) (c := 1) (by simp)) rfl (by simp; omega) (by omega) (by omega) (by omega) fun w C k1 k2 k3 k4 => ?_
    have gNn := gN.next
    simp at gNn
    have hC : ∀ m, m < H.next + 1 → C.get m = A.get m := fun m hm => by
      rw [k4 m (by omega) (fun e => by have := (hO.names e).1; omega), gN.get m (by omega)]
    simp [t15, add_in (x := i) (y := 1) (by omega) (by omega)]
    refine ⟨⟨⟨by have := g.next; omega, fun m hm => by rw [hC m (by omega), g.get m hm]⟩, by omega, t1, t2, t3, t13, t14, by rw [hC _ (by omega), b0], i + 1, by omega, by omega, ?_⟩, by omega⟩
    simpa [List.range_succ] using k1
  · have hi' : i = cs.length := by simp at hc; omega
    subst hi'
    simp
    refine ⟨?_, g⟩
    have e : waitsL T times (c :: cs) = (List.range cs.length).map fun k => waitAt T times (c :: cs) (k + 1) := rfl
    rw [e]
    rcases hO with hO | ⟨n, cap, k, k1, k2, k3⟩
    · exact .inl hO
    · exact .inr ⟨n, cap, k, k1, by omega, k3⟩

end Go.Proofs.Ytohohnpjilinmaa

/-
  The contract of the reference's waits.
-/
namespace Go.Proofs.Ytohohnpjilinmaa
open Go Go.Ab

theorem refWaits_spec {e s bv tv : Value} {T : Tab} {times b : List Int} {H : Heap} (h : TabAt H e s T) (hT : Valid T) (hb : IntsAt H bv b) (hbl : b.length ≤ 2 ^ 20) (hbn : ∀ x ∈ b, T.num x = true) (hv : IntsAt H tv times) (hf : fitsL T times = true) :
    AFun Try.prog 38 [tabV T e s, bv, tv] H (fun r B => IntsAt B r (waitsL T times b) ∧ Ge H B) := by
  refine AFun.mk ok38 hm (Nat.le_of_ble_eq_true rfl) ?_
  simp [a38, r38]
  refine floop_intro (fun z => z.d = [] ∧ Ge H z.H ∧ H.next < z.H.next ∧ z.t 1 = bv ∧ z.t 2 = tv ∧ z.t 3 = .pointer (some ⟨H.next, 0, none⟩) ∧ z.H.get H.next = .cells true [.int .i64 T.places, .int .i64 T.layover, e, s] 4 ∧
    ∃ i : Nat, (i ≤ b.length - 1) ∧ z.t 8 = .int .i64 (i + 1 : Nat) ∧ OwnSl z.H (H.next + 1) (z.t 7) (((List.range i).map fun k => waitAt T times b (k + 1)).map (.int .i64))) (fun z => b.length - (intOf (z.t 8)).toNat) ?_ ?_
  · exact ⟨rfl, by simp, by simp, by simp, by simp, by simp, by simp, 0, by simp, by simp, .inl ⟨by simp, rfl⟩⟩
  rintro ⟨t, _, A⟩ ⟨rfl, g, hn, t1, t2, t3, b0, i, hi, t8, hO⟩
  dsimp only at g hn t1 t2 t3 b0 t8 hO
  simp [t1, t8, hb.lenV]
  by_cases hc : i + 1 < b.length
  · have hc' : (i : Int) + 1 < (b.length : Int) := by omega
    obtain ⟨p1, e1, e2⟩ := (hb.ge (g.grow 10)).at (i := i + 1) (by omega)
    have hx1 := hbn _ (List.getElem_mem (l := b) (n := i) (by omega))
    have hx2 := hbn _ (List.getElem_mem (l := b) (n := i + 1) (by omega))
    obtain ⟨p2, e3, e4⟩ := hb.at (i := i) (by omega)
    have hw : waitAt T times b (i + 1) = match T.trips[b[i].toNat]?, T.trips[b[i + 1].toNat]? with
      | some x, some y => T.wait x y [times[b[i].toNat]?.getD 0]
      | _, _ => 0 := by
      simp only [waitAt, Nat.add_sub_cancel]
      rw [List.getElem?_eq_getElem hc, List.getElem?_eq_getElem (by omega : i < b.length)]
      rfl
    generalize b[i + 1] = y at e2 hx2 hw
    generalize hxe : b[i]'(by omega) = x at e4 hx1 hw
    simp [Tab.num] at hx1 hx2
    have hxl : x.toNat < T.trips.length := by omega
    have hyl : y.toNat < T.trips.length := by omega
    obtain ⟨m, hm1, hm2, hm3, hm4, hm5⟩ := fitsL_at hT hf hxl
    have hy := hT.trip (List.getElem_mem hyl)
    rw [hm1, List.getElem?_eq_getElem hxl, List.getElem?_eq_getElem hyl] at hw
    simp only [Option.getD_some] at hw
    obtain ⟨n2, o2, f3, l2, f4, _⟩ := (h.trips.ge g).atI hx2.1 hyl
    simp at e1
    have q0 : H.next ≠ A.next + 8 := by omega
    have q2 : n2 ≠ A.next + 8 := by omega
    have gA : Ge A (⟨(((⟨A.get, A.next + 10⟩ : Heap).set (A.next + 8) (.cells true [.int .i64 0, .int .i64 0, .int .i64 0, .int .i64 0, .int .i64 0, .int .i64 0] 6)).set (A.next + 8) (.cells true T.trips[y.toNat].cells 6)).get, A.next + 34⟩ : Heap) := Ge.grow_le (by omega) (Ge.setNew (Ge.setNew (Ge.more _ _) (by omega) _) (by omega) _)
    obtain ⟨p3, e5, e6⟩ := (hb.ge (g.trans gA)).at (i := i) (by omega)
    rw [hxe] at e6
    simp only [Tr.cells] at e6 gA
    obtain ⟨p5, e7, e8⟩ := IntsAt.atI (hv.ge (g.trans gA)) hx1.1 (by
      exact (List.getElem?_eq_some_iff.1 hm1).1)
    rw [(List.getElem?_eq_some_iff.1 hm1).2] at e8
    simp [hc', t1, t2, t3, t8, e1, e2, b0, f3, f4, Tr.val, q0, sub_in (x := (i : Int) + 1) (y := 1) (by omega) (by omega), e5, e6, e7, e8]
    have hrd := ready_spec (h.ge (g.trans gA)) hT hxl (m := m) ⟨by omega, by omega⟩ (p := T.trips[y.toNat].src) ⟨by omega, by omega⟩
    rw [Int.toNat_of_nonneg hx1.1] at hrd
    refine fcall_fun hrd ?_
    rintro _ B ⟨rfl, gB⟩
    have GB := gA.trans gB
    have nB := gB.next
    simp at nB
    have k8 := gB.got (n := A.next + 8) (by simp) (by simp; rfl)
    have hrr := hT.ready (List.getElem_mem hxl) (List.getElem_mem hyl) (m := m) ⟨by omega, by omega⟩
    have hw2 : T.trips[y.toNat].start - T.ready T.trips[x.toNat] m T.trips[y.toNat].src = waitAt T times b (i + 1) := by
      rw [hw]
      simp only [Tab.wait, List.foldl_cons, List.foldl_nil]
      rw [Int.max_eq_right (by omega)]
    simp [k8, sub_in (x := T.trips[y.toNat].start) (y := T.ready T.trips[x.toNat] m T.trips[y.toNat].src) (by omega) (by omega), hw2]
    have gN : Ge A (Heap.set B (A.next + 31) (.cells true [.int .i64 (waitAt T times b (i + 1))] 1)) := Ge.setNew GB (by omega) _
    refine fapp_own' (lo := H.next + 1) (hO.ge gN) (slCells_new (x := .int .i64 (waitAt T times b (i + 1))) (rw := true) (c := 1) (by simp)) rfl (by simp; omega) (by omega) (by omega) (by omega) fun w C k1 k2 k3 k4 => ?_
    have gNn := gN.next
    simp at gNn
    have hC : ∀ m, m < H.next + 1 → C.get m = A.get m := fun m hm => by
      rw [k4 m (by omega) (fun e => by have := (hO.names e).1; omega), gN.get m (by omega)]
    simp [t8, add_in (x := (i : Int) + 1) (y := 1) (by omega) (by omega)]
    refine ⟨⟨⟨by have := g.next; omega, fun m hm => by rw [hC m (by omega), g.get m hm]⟩, by omega, t1, t2, t3, by rw [hC _ (by omega), b0], i + 1, by omega, by omega, ?_⟩, by omega⟩
    simpa [List.range_succ] using k1
  · have hc' : ¬ (i : Int) + 1 < (b.length : Int) := by omega
    simp [hc']
    have hi' : i = b.length - 1 := by omega
    subst hi'
    refine ⟨⟨?_, by simp [waitsL]; omega⟩, g⟩
    have := hO.slr
    simpa [waitsL] using this

end Go.Proofs.Ytohohnpjilinmaa

/-
  The contract of the reference's check of a cutting: it is the program's.
-/
namespace Go.Proofs.Ytohohnpjilinmaa
open Go Go.Ab

/-- How many trips have been seen. -/
def seenN (d : List Bool) : Nat := (d.filter id).length

theorem seenN_set : ∀ {d : List Bool} {i : Nat}, d[i]? = some false → seenN (d.set i true) = seenN d + 1
  | [], i, h => by simp at h
  | b :: d, 0, h => by
    simp at h; subst h
    simp [seenN]
  | b :: d, i + 1, h => by
    have := seenN_set (d := d) (i := i) (by simpa using h)
    cases b <;> simp_all [seenN]

theorem seenN_le : ∀ {d : List Bool} {n : Nat}, (∀ k, n ≤ k → d[k]?.getD false = false) → seenN d ≤ n
  | [], n, _ => by simp [seenN]
  | b :: d, 0, h => by
    have h0 := h 0 (by omega)
    simp at h0; subst h0
    have := seenN_le (d := d) (n := 0) fun k hk => by simpa using h (k + 1) (by omega)
    simpa [seenN] using this
  | b :: d, n + 1, h => by
    have := seenN_le (d := d) (n := n) fun k hk => by simpa using h (k + 1) (by omega)
    cases b <;> simp_all [seenN] <;> omega

theorem seenN_full : ∀ {d : List Bool} {n : Nat}, n ≤ d.length → (∀ k, n ≤ k → d[k]?.getD false = false) → (seenN d = n ↔ ∀ k, k < n → d[k]?.getD false = true)
  | [], n, hl, _ => by simp at hl; subst hl; simp [seenN]
  | b :: d, 0, _, h => by
    have := seenN_le h
    simp; omega
  | b :: d, n + 1, hl, h => by
    have ih := seenN_full (d := d) (n := n) (by simpa using hl) fun k hk => by simpa using h (k + 1) (by omega)
    have hle := seenN_le (d := d) (n := n) fun k hk => by simpa using h (k + 1) (by omega)
    constructor
    · intro he k hk
      have hb : b = true := by
        cases b with
        | true => rfl
        | false => simp [seenN] at he hle; omega
      subst hb
      have he2 : seenN d = n := by simp [seenN] at he ⊢; omega
      cases k with
      | zero => rfl
      | succ k => simpa using ih.1 he2 k (by omega)
    · intro ha
      have hb : b = true := by simpa using ha 0 (by omega)
      subst hb
      have := ih.2 fun k hk => by simpa using ha (k + 1) (by omega)
      simp [seenN] at this ⊢; omega

theorem seen_upTo {d : List Bool} {n : Nat} (hl : d.length = 12) (hn : n ≤ 12) (h : ∀ k, n ≤ k → d[k]?.getD false = false) : decide (seenN d = n) = decide (d = upTo n) := by
  congr 1
  apply propext
  rw [seenN_full (by omega) h]
  constructor
  · intro ha
    apply List.ext_getElem
    · simp [hl, upTo]
    · intro i h1 h2
      simp only [upTo, List.getElem_map, List.getElem_range]
      by_cases hi : i < n
      · have := ha i hi
        simp [h1] at this
        simp [this, hi]
      · have := h i (by omega)
        simp [h1] at this
        simp [this, hi]
  · intro e k hk
    subst e
    simp [upTo, (by omega : k < 12), hk]

theorem tripStep_some {T : Tab} {b : List Int} {d d' : List Bool} {k : Nat} (h : tripStep T b d k = some d') : d' = d.set (b[k]?.getD 0).toNat true ∧ d[(b[k]?.getD 0).toNat]?.getD false = false := by
  unfold tripStep at h
  split at h
  · cases h
  · rename_i h1
    split at h
    · cases h
    · simp at h; exact ⟨h.symm, by simpa using h1⟩

theorem blockStep_bad {T : Tab} {d : List Bool} {b : List Int} {k : Nat} (hk : k < b.length) (h : T.num b[k] = false) : blockStep T d b = none := by
  unfold blockStep
  split
  · rfl
  · have : b.all T.num = false := by
      rw [Bool.eq_false_iff]; intro ha
      have := List.all_eq_true.1 ha _ (List.getElem_mem hk)
      rw [h] at this; cases this
    simp [this]
theorem blockStep_none {T : Tab} {d : List Bool} {b : List Int} (h : (List.range b.length).foldlM (tripStep T b) d = none) : blockStep T d b = none := by
  unfold blockStep
  split
  · rfl
  · split
    · exact h
    · rfl
theorem blockStep_some {T : Tab} {d : List Bool} {b : List Int} (h0 : b ≠ []) (hn : ∀ x ∈ b, T.num x = true) : blockStep T d b = (List.range b.length).foldlM (tripStep T b) d := by
  unfold blockStep
  rw [if_neg (by simpa using h0), if_pos (List.all_eq_true.2 hn)]

end Go.Proofs.Ytohohnpjilinmaa
