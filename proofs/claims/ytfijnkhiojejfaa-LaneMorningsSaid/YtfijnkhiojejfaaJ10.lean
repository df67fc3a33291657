/-
  Joined texts of a calculus of abstract memory, of the program's code in it, and of contracts.
-/
import Derived.Test.YtfijnkhiojejfaaJ6
import Derived.Test.YtfijnkhiojejfaaJ9
import Derived.KernelRfl
import Derived.Test.YtfijnkhiojejfaaChecked
namespace Go.Proofs.Ytfijnkhiojejfaa
open Go Go.Ab

theorem isNaN_spec (x : Int) (H : Heap) : AFun Try.prog 107 [.int .i64 x] H (fun r B => r = .bool false ∧ B = H) := by
  refine AFun.mk ok107 hm (Nat.le_of_ble_eq_true rfl) ?_
  simp [a107, r107]
def cmpI (x y : Int) : Int := if x < y then -1 else if y < x then 1 else 0
theorem compare_spec (x y : Int) (H : Heap) : AFun Try.prog 102 [.int .i64 x, .int .i64 y] H (fun r B => r = .int .i64 (cmpI x y) ∧ B = H) := by
  refine AFun.mk ok102 hm (Nat.le_of_ble_eq_true rfl) ?_
  simp [a102, r102]
  refine fcall_fun (isNaN_spec _ _) ?_
  rintro _ B ⟨rfl, e⟩
  rw [e]
  simp
  refine fcall_fun (isNaN_spec _ _) ?_
  rintro _ B ⟨rfl, e⟩
  rw [e]
  simp
  unfold cmpI
  by_cases h1 : x < y
  · simp [h1]
  · by_cases h2 : y < x
    · simp [h1, h2]
    · simp [h1, h2]

theorem st_ints {H : Heap} {n cc : Nat} {m : List Int} {j : Nat} (hj : j < m.length) (y : Int) : stA H n j 1 (.int .i64 y) (.cells true (m.map (.int .i64)) cc) = some (H.set n (.cells true ((m.set j y).map (.int .i64)) cc)) := by
  rw [stA_cells]
  have e : (Value.int .i64 y).cells.toList = [.int .i64 y] := rfl
  rw [if_pos ⟨rfl, by rw [List.length_map]; omega, rfl⟩, e, wrL_one _ _ _ (by rw [List.length_map]; exact hj), List.map_set]

set_option maxHeartbeats 1000000 in
theorem insertion_spec {A : Heap} {lo : Nat} {v cmp : Value} {l : List Int} {c : Int → Int → Int}
    (hv : OwnSl A lo v (l.map (.int .i64))) (hl : l.length ≤ 16)
    (hcmp : ∀ B x y, A.next ≤ B.next → (∀ n, n < A.next → slName v ≠ some n → B.get n = A.get n) → x ∈ l → y ∈ l → ACall Try.prog cmp [.int .i64 x, .int .i64 y] B (fun r C => r = .int .i64 (c x y) ∧ Ge B C)) :
    AFun Try.prog 108 [v, .int .i64 0, .int .i64 l.length, cmp] A (fun _ B => OwnSl B lo v ((insSort (fun x y => decide (c x y < 0)) l).map (.int .i64)) ∧ A.next ≤ B.next ∧ ∀ n, n < A.next → slName v ≠ some n → B.get n = A.get n) := by
  refine AFun.mk ok108 hm (Nat.le_of_ble_eq_true rfl) ?_
  generalize hlt : (fun x y : Int => decide (c x y < 0)) = lt
  have hlt' : ∀ x y, lt x y = decide (c x y < 0) := fun x y => by rw [← hlt]
  simp [a108, r108, add_in (x := 0) (y := 1) (by omega) (by omega)]
  refine floop_intro (fun z => z.d = [] ∧ z.t 0 = v ∧ z.t 1 = .int .i64 0 ∧ z.t 2 = .int .i64 l.length ∧ z.t 3 = cmp ∧ A.next ≤ z.H.next ∧ (∀ n, n < A.next → slName v ≠ some n → z.H.get n = A.get n) ∧ ∃ i : Nat, 1 ≤ i ∧ i ≤ max 1 l.length ∧ z.t 8 = .int .i64 i ∧ OwnSl z.H lo v ((insTo lt l i).map (.int .i64))) (fun z => l.length - (intOf (z.t 8)).toNat) ?_ ?_
  · refine ⟨rfl, by simp, by simp, by simp, by simp, by simp, fun _ _ _ => by simp, 1, by omega, by omega, by simp, ?_⟩
    simpa [insTo, sink] using hv
  rintro ⟨t, _, B⟩ ⟨rfl, t0, t1, t2, t3, hn, hkeep, i, hi1, hi2, t8, hown⟩
  dsimp only at t0 t1 t2 t3 hn hkeep t8 hown
  simp [t8, t2]
  refine fcond_intro (fun hc => ?_) (fun hc => ?_)
  case refine_2 =>
    have hle : l.length ≤ i := by simp at hc; omega
    have hfin : insSort lt l = insTo lt l i := by
      unfold insSort
      by_cases h0 : l.length = 0
      · have : l = [] := List.length_eq_zero_iff.1 h0
        subst this
        have : ∀ k, insTo lt ([] : List Int) k = [] := fun k => List.length_eq_zero_iff.1 (by rw [insTo_length]; rfl)
        rw [this, this]
      · have : i = l.length := by omega
        rw [this]
    simp [hfin]
    exact ⟨hown, hn, hkeep⟩
  have hi' : i < l.length := by simpa using hc
  have hil : (insTo lt l i).length = l.length := insTo_length lt l i
  simp [t8]
  refine floop_intro (fun z => z.d = [] ∧ z.t 0 = v ∧ z.t 1 = .int .i64 0 ∧ z.t 2 = .int .i64 l.length ∧ z.t 3 = cmp ∧ z.t 8 = .int .i64 i ∧ A.next ≤ z.H.next ∧ (∀ n, n < A.next → slName v ≠ some n → z.H.get n = A.get n) ∧ ∃ j : Nat, j ≤ i ∧ z.t 9 = .int .i64 j ∧ ∃ m : List Int, m.length = l.length ∧ (∀ x ∈ m, x ∈ l) ∧ sink lt m j = sink lt (insTo lt l i) i ∧ OwnSl z.H lo v (m.map (.int .i64))) (fun z => (intOf (z.t 9)).toNat) ?_ ?_
  · exact ⟨rfl, by simp [t0], by simp [t1], by simp [t2], by simp [t3], by simp [t8], hn, hkeep, i, Nat.le_refl _, by simp, insTo lt l i, hil, fun x hx => (insTo_perm lt l i).mem_iff.1 hx, rfl, hown⟩
  have t8o := t8
  clear t0 t1 t2 t3 hn hkeep t8 hown hc
  rintro ⟨t, _, B⟩ ⟨rfl, t0, t1, t2, t3, t8, hn, hkeep, j, hj, t9, m, hml, hmm, hsink, hown⟩
  dsimp only at t0 t1 t2 t3 t8 hn hkeep t9 hown
  have hstop : sink lt m j = m → OwnSl B lo v ((insTo lt l (i + 1)).map (.int .i64)) := fun e => by
    rw [insTo, ← hsink, e]; exact hown
  by_cases hj0 : j = 0
  · have hjn : ¬ (0 : Int) < j := by omega
    have hjn2 : ¬ 0 < j := by omega
    have hs0 := hstop (by rw [hj0]; rfl)
    simp [t9, t1, hjn2, t8, add_in (x := i) (y := 1) (by omega) (by omega)]
    exact ⟨⟨t0, t2, t3, by omega, hkeep, i + 1, by omega, by omega, by simp, hs0.keep (by simp) fun _ _ => rfl⟩, by rw [t8o]; simp; omega⟩
  obtain ⟨j', rfl⟩ : ∃ j', j = j' + 1 := ⟨j - 1, by omega⟩
  rcases hown with ⟨_, h0⟩ | ⟨n, cap, cc, hvn, h2, h3, h4, h5, h6⟩
  · have : m = [] := by simpa using h0
    rw [this] at hml; simp at hml; omega
  rw [List.length_map, hml] at hvn
  rw [List.length_map, hml] at h5
  subst hvn
  have i1 : islV 1 (.slice (some ⟨n, 0, none⟩) l.length cap) (.int .i64 ((j' : Int) + 1)) = some (.pointer (some ⟨n, j' + 1, none⟩)) := by
    rw [islV_in (by omega) (by omega)]; simp
  have i0 : islV 1 (.slice (some ⟨n, 0, none⟩) l.length cap) (.int .i64 (j' : Int)) = some (.pointer (some ⟨n, j', none⟩)) := by
    rw [islV_in (by omega) (by omega)]; simp
  have hm1 : j' + 1 < m.length := by omega
  have hm0 : j' < m.length := by omega
  have l1 : ∀ B' : Heap, B'.get n = .cells true (m.map (.int .i64)) cc → ldA (B'.get n) false 1 (j' + 1) = some (.int .i64 m[j' + 1]) := fun B' e => by
    rw [e, ldA_one]; simp [hm1]
  have l0 : ∀ B' : Heap, B'.get n = .cells true (m.map (.int .i64)) cc → ldA (B'.get n) false 1 j' = some (.int .i64 m[j']) := fun B' e => by
    rw [e, ldA_one]; simp [hm0]
  have hjn2 : (0 : Int) < (j' : Int) + 1 := by omega
  simp [t9, t1, hjn2, t0, t3, i1, i0, l1 B h4, l0 B h4, sub_in (x := (j' : Int) + 1) (y := 1) (by omega) (by omega)]
  refine fcall_intro ((hcmp _ m[j' + 1] m[j'] ?_ ?_ (hmm _ (List.getElem_mem hm1)) (hmm _ (List.getElem_mem hm0))).mono ?_)
  · simp; omega
  · intro k hk1 hk2; simpa using hkeep k hk1 hk2
  rintro _ C ⟨rfl, gC⟩
  have h4C : C.get n = .cells true (m.map (.int .i64)) cc := gC.got (by simp; omega) (by simpa using h4)
  have nC := gC.next
  simp at nC
  have hkC : ∀ k, k < A.next → n ≠ k → C.get k = A.get k := fun k h1 h2 => by
    rw [gC.get k (by simp; omega)]; exact hkeep k h1 (by simpa [slName] using h2)
  by_cases hlt2 : c m[j' + 1] m[j'] < 0
  case neg =>
    have hs1 : sink lt m (j' + 1) = m := sink_stop hm1 (by rw [hlt']; simp; omega)
    simp [hlt2, t8, add_in (x := i) (y := 1) (by omega) (by omega)]
    have hC : OwnSl C lo (.slice (some ⟨n, 0, none⟩) l.length cap) ((insTo lt l (i + 1)).map (.int .i64)) := by
      rw [insTo, ← hsink, hs1]; exact .inr ⟨n, cap, cc, by rw [List.length_map, hml], h2, by omega, h4C, by rw [List.length_map, hml]; exact h5, h6⟩
    exact ⟨⟨t0, t1, t2, t3, by omega, fun k h1 h2 => hkC k h1 (by simpa [slName] using h2), i + 1, by omega, by omega, by simp, hC⟩, by rw [t8o]; simp; omega⟩
  simp [hlt2, t9, t0, i1, i0, l1 C h4C, l0 C h4C, sub_in (x := (j' : Int) + 1) (y := 1) (by omega) (by omega)]
  rw [h4C]
  rw [st_ints hm1]
  simp [i0, -stA_cells]
  rw [← List.map_set, st_ints (by simp; omega)]
  have hsw : (m.set (j' + 1) m[j']).set j' m[j' + 1] = swapL m j' := (swapL_eq hm1).symm
  rw [hsw]
  simp [t9, sub_in (x := (j' : Int) + 1) (y := 1) (by omega) (by omega)]
  refine ⟨t0, t1, t2, t3, t8, by omega, fun k h1 h2 => ?_, j', by omega, rfl, swapL m j', by rw [swapL_length]; exact hml, fun x hx => hmm x ((swapL_perm m j').mem_iff.1 hx), ?_, .inr ⟨n, cap, cc, by rw [List.length_map, swapL_length, hml], h2, by simp; omega, by simp, by rw [List.length_map, swapL_length, hml]; exact h5, h6⟩⟩
  · have hkn : k ≠ n := fun e => h2 (by rw [e]; rfl)
    simp [hkn]
    exact hkC k h1 (Ne.symm hkn)
  · rw [← hsink, sink_go hm1]
    rw [hlt']; simp; omega

theorem stable_spec {A : Heap} {lo : Nat} {v cmp : Value} {l : List Int} {c : Int → Int → Int}
    (hv : OwnSl A lo v (l.map (.int .i64))) (hl : l.length ≤ 16)
    (hcmp : ∀ B x y, A.next ≤ B.next → (∀ n, n < A.next → slName v ≠ some n → B.get n = A.get n) → x ∈ l → y ∈ l → ACall Try.prog cmp [.int .i64 x, .int .i64 y] B (fun r C => r = .int .i64 (c x y) ∧ Ge B C)) :
    AFun Try.prog 100 [v, cmp] A (fun _ B => OwnSl B lo v ((insSort (fun x y => decide (c x y < 0)) l).map (.int .i64)) ∧ A.next ≤ B.next ∧ ∀ n, n < A.next → slName v ≠ some n → B.get n = A.get n) := by
  refine AFun.mk ok100 hm (Nat.le_of_ble_eq_true rfl) ?_
  have hlen := hv.lenV
  rw [List.length_map] at hlen
  simp [a100, r100, hlen]
  refine fcall_fun (f := 106) (R' := fun _ B => OwnSl B lo v ((insSort (fun x y => decide (c x y < 0)) l).map (.int .i64)) ∧ A.next ≤ B.next ∧ ∀ n, n < A.next → slName v ≠ some n → B.get n = A.get n) ?_ ?_
  case refine_2 => rintro _ B hB; simpa using hB
  refine AFun.mk ok106 hm (Nat.le_of_ble_eq_true rfl) ?_
  simp [a106, r106]
  refine floop_intro (fun z => z.d = [] ∧ z.H = A ∧ z.t 0 = v ∧ z.t 1 = .int .i64 l.length ∧ z.t 2 = cmp ∧ z.t 6 = .int .i64 20 ∧ z.t 7 = .int .i64 0 ∧ z.t 8 = .int .i64 20) (fun _ => 0) ⟨rfl, rfl, by simp, by simp, by simp, by simp, by simp, by simp⟩ ?_
  rintro ⟨t, _, A'⟩ ⟨rfl, eA, t0, t1, t2, t6, t7, t8⟩
  dsimp only at eA t0 t1 t2 t6 t7 t8
  subst eA
  have h20 : ¬ (20 : Int) ≤ l.length := by omega
  have h20' : ¬ 20 ≤ l.length := by omega
  simp [t8, t1, h20, t0, t7, t2]
  refine fcall_fun (insertion_spec hv hl hcmp) ?_
  rintro _ B ⟨oB, nB, kB⟩
  simp
  refine floop_intro (fun z => z.d = [] ∧ z.H = B ∧ z.t 1 = .int .i64 l.length ∧ z.t 6 = .int .i64 20) (fun _ => 0) ⟨rfl, rfl, by simp [t1], by simp [t6]⟩ ?_
  clear t0 t1 t2 t6 t7 t8
  rintro ⟨t, _, B'⟩ ⟨rfl, eB, t1, t6⟩
  dsimp only at eB t1 t6
  subst eB
  have h21 : ¬ (20 : Int) < l.length := by omega
  have h21' : ¬ 20 < l.length := by omega
  simp [t6, t1, h21]
  exact ⟨oB, nB, kB⟩

end Go.Proofs.Ytfijnkhiojejfaa


namespace Go.Proofs.Ytfijnkhiojejfaa
open Go Go.Ab

theorem nightC_b (Y : Yd) (r b : Value) (s : Nat → Int × Int) (d : Nat → Bool) : (nightC Y r b s d)[1]? = some b := rfl

theorem turnQ_spec {Y : Yd} {r b : Value} {s : Nat → Int × Int} {d : Nat → Bool} {H : Heap} {nb c : Nat} {w : Bool} {x : Int} (h : YardAt H r b Y) (hn : H.get nb = .cells w (nightC Y r b s d) c) (hx : isBusB Y x = true) :
    AFun Try.prog 96 [.int .i64 x, .pointer (some ⟨nb, 0, none⟩)] H (fun v B => v = .int .i64 (bAt Y x).turn ∧ Ge H B) := by
  refine AFun.mk ok96 hm (Nat.le_of_ble_eq_true rfl) ?_
  obtain ⟨n, o, e1, _, e2⟩ := BssAt.atB h hx
  simp [a96, r96, hn, nightC_b, e1, (e2 H (Ge.refl _)).2.2.2]

def cmpQ : List (Int → Int) → Int → Int → Int
  | [], _, _ => 0
  | f :: r, x, y => if cmpI (f x) (f y) = 0 then cmpQ r x y else cmpI (f x) (f y)
theorem cmpQ_drop {fs : List (Int → Int)} {i : Nat} (hi : i < fs.length) (x y : Int) : cmpQ (fs.drop i) x y = if cmpI (fs[i] x) (fs[i] y) = 0 then cmpQ (fs.drop (i + 1)) x y else cmpI (fs[i] x) (fs[i] y) := by
  rw [List.drop_eq_getElem_cons hi]; rfl

theorem cmp_spec {H : Heap} {nq c : Nat} {w : Bool} {qs : Value} {qv : List Value} {fs : List (Int → Int)} {x y : Int} (hn : H.get nq = .cells w [qs] c) (_hnl : nq < H.next) (hs : SlR H 1 qs fs.length qv) (hl : fs.length < 2 ^ 62) (hql : qv.length = fs.length)
    (hq : ∀ j (h1 : j < fs.length) (h2 : j < qv.length) A, Ge H A → ACall Try.prog qv[j] [.int .i64 x] A (fun r B => r = .int .i64 (fs[j] x) ∧ Ge A B) ∧ ACall Try.prog qv[j] [.int .i64 y] A (fun r B => r = .int .i64 (fs[j] y) ∧ Ge A B)) :
    AFun Try.prog 101 [.int .i64 x, .int .i64 y, .pointer (some ⟨nq, 0, none⟩)] H (fun v B => v = .int .i64 (cmpQ fs x y) ∧ Ge H B) := by
  refine AFun.mk ok101 hm (Nat.le_of_ble_eq_true rfl) ?_
  simp [a101, r101, hn, hs.lenV]
  refine floop_intro (fun z => z.d = [] ∧ Ge H z.H ∧ z.t 0 = .int .i64 x ∧ z.t 1 = .int .i64 y ∧ z.t 9 = qs ∧ z.t 10 = .int .i64 fs.length ∧ ∃ i : Nat, i ≤ fs.length ∧ z.t 11 = .int .i64 i ∧ cmpQ fs x y = cmpQ (fs.drop i) x y) (fun z => fs.length - (intOf (z.t 11)).toNat) ?_ ?_
  · exact ⟨rfl, by simp, by simp, by simp, by simp, by simp, 0, by simp, by simp, by simp⟩
  rintro ⟨t, _, A⟩ ⟨rfl, g, t0, t1, t9, t10, i, hi, t11, hd⟩
  dsimp only at g t0 t1 t9 t10 t11
  simp [t10, t11]
  refine fcond_intro (fun hc => ?_) (fun hc => ?_)
  case refine_2 =>
    have h1 : fs.length ≤ i := by simp at hc; omega
    rw [List.drop_of_length_le h1] at hd
    simp [hd, cmpQ, g]
  have hi' : i < fs.length := by simpa using hc
  have hiq : i < qv.length := by omega
  obtain ⟨p, e1, e2⟩ := (hs.ge g).at1 (k := .i64) hi'
  rw [List.getElem?_eq_getElem hiq] at e2
  simp [t0, t9, t11, e1, e2]
  refine fcall_intro ((hq i hi' hiq A g).1.mono ?_)
  rintro _ B ⟨rfl, gB⟩
  simp [t1]
  refine fcall_intro ((hq i hi' hiq B (g.trans gB)).2.mono ?_)
  rintro _ C ⟨rfl, gC⟩
  simp
  refine fcall_fun (compare_spec _ _ _) ?_
  rintro _ C' ⟨rfl, eC⟩
  rw [eC]
  have hst := cmpQ_drop hi' x y
  have gAC := g.trans (gB.trans gC)
  by_cases hz : cmpI (fs[i] x) (fs[i] y) = 0
  · rw [if_pos hz] at hst
    simp [hz, t11, add_in (x := i) (y := 1) (by omega) (by omega)]
    exact ⟨⟨gAC, t0, t1, t9, t10, i + 1, by omega, by omega, hd.trans hst⟩, by omega⟩
  · rw [if_neg hz] at hst
    simp [hz, hd, hst, gAC]

def busesL (Y : Yd) : List Int := (List.range Y.buses.length).map fun k : Nat => (k : Int)
theorem busesL_len (Y : Yd) : (busesL Y).length = Y.buses.length := by simp [busesL]
theorem busesL_mem {Y : Yd} {x : Int} : x ∈ busesL Y ↔ isBusB Y x = true := by
  simp [busesL, isBusB, inB]
  constructor
  · rintro ⟨k, h1, rfl⟩; omega
  · rintro ⟨h1, h2⟩; exact ⟨x.toNat, by omega, by omega⟩
theorem busesL_take {Y : Yd} {i : Nat} (hi : i < Y.buses.length) : (busesL Y).take (i + 1) = (busesL Y).take i ++ [(i : Int)] := by
  rw [List.take_succ_eq_append_getElem (by rw [busesL_len]; exact hi)]
  simp [busesL]
def sortL (fs : List (Int → Int)) (Y : Yd) : List Int := insSort (fun x y => decide (cmpQ fs x y < 0)) (busesL Y)
theorem sortL_mem {fs : List (Int → Int)} {Y : Yd} {x : Int} : x ∈ sortL fs Y ↔ isBusB Y x = true := ((insSort_perm _ _).mem_iff).trans busesL_mem

set_option maxHeartbeats 1000000 in
theorem sorted_spec {Y : Yd} {r b qs : Value} {s : Nat → Int × Int} {d : Nat → Bool} {H : Heap} {qv : List Value} {fs : List (Int → Int)} (h : YardAt H r b Y) (h8 : Y.buses.length ≤ 8) (hs : SlR H 1 qs fs.length qv) (hl : fs.length < 2 ^ 62) (hql : qv.length = fs.length)
    (hq : ∀ j (h1 : j < fs.length) (h2 : j < qv.length) x A, isBusB Y x = true → Ge H A → ACall Try.prog qv[j] [.int .i64 x] A (fun r B => r = .int .i64 (fs[j] x) ∧ Ge A B)) :
    AFun Try.prog 87 [nightV Y r b s d, qs] H (fun v B => OwnSl B H.next v ((sortL fs Y).map (.int .i64)) ∧ Ge H B) := by
  refine AFun.mk ok87 hm (Nat.le_of_ble_eq_true rfl) ?_
  have hqs := SlR.one hs
  simp [a87, r87, hqs, nightC_b, one_cells, h.buses.lenV]
  refine floop_intro (fun z => z.d = [] ∧ Ge H z.H ∧ z.t 3 = .pointer (some ⟨H.next + 1, 0, none⟩) ∧ z.H.get (H.next + 1) = .cells true [qs] 1 ∧ H.next + 2 ≤ z.H.next ∧ z.t 11 = .int .i64 Y.buses.length ∧ ∃ i : Nat, i ≤ Y.buses.length ∧ z.t 12 = .int .i64 i ∧ OwnSl z.H (H.next + 2) (z.t 5) (((busesL Y).take i).map (.int .i64))) (fun z => Y.buses.length - (intOf (z.t 12)).toNat) ?_ ?_
  · refine ⟨rfl, ((Ge.new _ _).newOf _).newOf _, by simp, by simp, by simp, by simp, 0, by simp, by simp, .inr ⟨H.next + 2, 0, 0, by simp, Nat.le_refl _, by simp, by simp, by simp, Nat.le_refl _⟩⟩
  rintro ⟨t, _, A⟩ ⟨rfl, g, t3, a1, nA, t11, i, hi, t12, own⟩
  dsimp only at g t3 a1 nA t11 t12 own
  simp [t11, t12]
  refine fcond_intro (fun hc => ?_) (fun hc => ?_)
  · have hi' : i < Y.buses.length := by simpa using hc
    simp [t12]
    have gX := Ge.new A (.cells true [.int .i64 (i : Int)] 1)
    have oX := own.ge gX
    have xX : (A.new (.cells true [.int .i64 (i : Int)] 1)).get A.next = .cells true [.int .i64 (i : Int)] 1 := by simp
    refine fapp_own oX (slCells_new xX) rfl (by simp only [List.length_map, List.length_take]; omega) (by omega) (by simp) (by simp) (by simp; omega) ?_
    rintro u B o1 s1 n1 k1
    have gB : Ge H B := oX.geApp (by omega) (g.trans gX) (by omega) (by simp; omega) k1
    have b1 : B.get (H.next + 1) = .cells true [qs] 1 := by
      rw [k1 _ (by omega) (fun e => by have := (own.names e).1; omega)]
      exact gX.got (by omega) a1
    simp [t12, add_in (x := i) (y := 1) (by omega) (by omega)]
    refine ⟨⟨gB, t3, b1, by omega, t11, i + 1, by omega, by omega, ?_⟩, by omega⟩
    rw [← List.map_take, busesL_take hi', List.map_append]
    exact o1
  · have h1 : i = Y.buses.length := by simp at hc; omega
    subst h1
    rw [← busesL_len, List.take_length] at own
    simp [t3]
    have hnv : ∀ n, slName (t 5) = some n → H.next + 2 ≤ n := fun n hn => (own.names hn).1
    refine fcall_fun (stable_spec (c := cmpQ fs) own (by rw [busesL_len]; omega) fun B x y nB kB hx hy => ?_) ?_
    · rw [busesL_mem] at hx hy
      have gB : Ge H B := ⟨by omega, fun n hn => by
        rw [kB n (by omega) (fun e => by have := hnv n e; omega)]; exact g.get n hn⟩
      have bq : B.get (H.next + 1) = .cells true [qs] 1 := by
        rw [kB _ (by omega) (fun e => by have := hnv _ e; omega)]; exact a1
      exact ACall.of_fun (cmp_spec bq (by omega) (hs.ge gB) hl hql fun j h1 h2 A' gA' => ⟨hq j h1 h2 x A' hx (gB.trans gA'), hq j h1 h2 y A' hy (gB.trans gA')⟩)
    rintro _ B ⟨oB, nB, kB⟩
    simp
    refine ⟨oB.lower (by omega), ⟨by omega, fun n hn => ?_⟩⟩
    rw [kB n (by omega) (fun e => by have := hnv n e; omega)]
    exact g.get n hn

def turnF (Y : Yd) (x : Int) : Int := (bAt Y x).turn
theorem cmpI_lt {x y : Int} : cmpI x y < 0 ↔ x < y := by
  unfold cmpI
  split
  · simp; assumption
  · split
    · simp; omega
    · simp; omega
theorem cmpI_zero {x y : Int} : cmpI x y = 0 ↔ x = y := by
  unfold cmpI
  split
  · simp; omega
  · split
    · simp; omega
    · simp; omega
theorem cmpQ_one {f : Int → Int} {x y : Int} : decide (cmpQ [f] x y < 0) = decide (f x < f y) := by
  have e : cmpQ [f] x y = if cmpI (f x) (f y) = 0 then 0 else cmpI (f x) (f y) := rfl
  have : cmpQ [f] x y < 0 ↔ f x < f y := by
    rw [e]
    by_cases h : cmpI (f x) (f y) = 0
    · rw [if_pos h]
      rw [cmpI_zero] at h
      omega
    · rw [if_neg h]
      exact cmpI_lt
  rw [Bool.eq_iff_iff, decide_eq_true_eq, decide_eq_true_eq]
  exact this

def goL (Y : Yd) (d : Nat → Bool) : List Int := (sortL [turnF Y] Y).filter fun x => !d x.toNat
theorem turn_inj {Y : Yd} (hd : (turnsOf Y).Nodup) {x y : Int} (hx : isBusB Y x = true) (hy : isBusB Y y = true) (h : turnF Y x = turnF Y y) : x = y := by
  obtain ⟨x0, x1, x2⟩ := isBus_at hx
  obtain ⟨y0, y1, y2⟩ := isBus_at hy
  unfold turnF at h
  rw [x2 x1, y2 y1, ← turnsOf_at Y x1, ← turnsOf_at Y y1] at h
  have := (List.getElem_inj hd).1 h
  omega
theorem sortL_strict {Y : Yd} (hd : (turnsOf Y).Nodup) : (sortL [turnF Y] Y).Pairwise fun x y => turnF Y x < turnF Y y := by
  have h1 : (sortL [turnF Y] Y).Pairwise fun x y => turnF Y x ≤ turnF Y y := insSort_sorted (fun x y => cmpQ_one) _
  have h2 : (sortL [turnF Y] Y).Nodup := (insSort_perm _ _).nodup_iff.2 (by
    unfold busesL
    rw [List.nodup_iff_pairwise_ne, List.pairwise_map]
    exact List.Pairwise.imp (fun h e => h (by omega)) (List.nodup_iff_pairwise_ne.1 List.nodup_range))
  have h3 := List.pairwise_and_iff.2 ⟨h1, List.nodup_iff_pairwise_ne.1 h2⟩
  refine List.Pairwise.imp_of_mem ?_ h3
  rintro x y hx hy ⟨k1, k2⟩
  have : turnF Y x ≠ turnF Y y := fun e => k2 (turn_inj hd (sortL_mem.1 hx) (sortL_mem.1 hy) e)
  omega
theorem goL_strict {Y : Yd} (hd : (turnsOf Y).Nodup) (d : Nat → Bool) : (goL Y d).Pairwise fun x y => turnF Y x < turnF Y y := (sortL_strict hd).sublist (List.filter_sublist)
theorem goL_mem {Y : Yd} {d : Nat → Bool} {x : Int} : x ∈ goL Y d ↔ isBusB Y x = true ∧ d x.toNat = false := by
  unfold goL
  rw [List.mem_filter, sortL_mem]
  simp

end Go.Proofs.Ytfijnkhiojejfaa


namespace Go.Proofs.Ytfijnkhiojejfaa
open Go Go.Ab

theorem isDown_spec {Y : Yd} {r b : Value} {s : Nat → Int × Int} {d : Nat → Bool} {H : Heap} {x : Int} (h0 : 0 ≤ x) (h8 : x < 8) : AFun Try.prog 89 [nightV Y r b s d, .int .i64 x] H (fun v B => v = .bool (d x.toNat) ∧ Ge H B) := by
  refine AFun.mk ok89 hm (Nat.le_of_ble_eq_true rfl) ?_
  have i1 : iarV 8 1 (.pointer (some ⟨H.next, 19, none⟩)) (.int .i64 x) = some (.pointer (some ⟨H.next, 19 + x.toNat, none⟩)) := by
    rw [iarV_in h0 (by omega)]; simp
  have hd := nightC_down Y r b s d x.toNat (by omega)
  simp [a89, r89, i1, hd]

def befB (p q : Int × Int) : Bool := decide (p.1 = q.1) && decide (p.2 < q.2)
theorem before_stand_spec (p q : Int × Int) (H : Heap) : AFun Try.prog 79 [standV p, standV q] H (fun v B => v = .bool (befB p q) ∧ Ge H B) := by
  refine AFun.mk ok79 hm (Nat.le_of_ble_eq_true rfl) ?_
  simp [a79, r79, befB]
  by_cases h1 : p.1 = q.1 <;> by_cases h2 : p.2 < q.2 <;> simp [h1, h2]

theorem filter_at {α : Type} {p : α → Bool} {S : List α} {j : Nat} (hj : j < S.length) (h : p S[j] = true) : ∃ hi : ((S.take j).filter p).length < (S.filter p).length, (S.filter p)[((S.take j).filter p).length] = S[j] := by
  have e : S.filter p = (S.take j).filter p ++ S[j] :: (S.drop (j + 1)).filter p := by
    conv => lhs; rw [← List.take_append_drop j S, List.drop_eq_getElem_cons hj]
    rw [List.filter_append, List.filter_cons, if_pos h]
  refine ⟨by rw [e, List.length_append, List.length_cons]; omega, ?_⟩
  simp only [e]
  rw [List.getElem_append_right (Nat.le_refl _)]
  simp
theorem filter_step {α : Type} {p : α → Bool} {S : List α} {j : Nat} (hj : j < S.length) : ((S.take (j + 1)).filter p).length = ((S.take j).filter p).length + if p S[j] then 1 else 0 := by
  rw [List.take_succ_eq_append_getElem hj, List.filter_append, List.length_append]
  cases h : p S[j] <;> simp [h]

theorem slr_fun (H : Heap) (n c : Nat) (v : Value) (h : H.get n = .cells true [v] c) (hn : n < H.next) : SlR H 1 (.slice (some ⟨n, 0, none⟩) 1 1) 1 [v] := by
  refine ⟨slCells_new h, fun a m q e => ?_⟩
  simp at e; rw [← e.1]; exact hn

set_option maxHeartbeats 1000000 in
theorem goOut_spec {Y : Yd} {r b yv : Value} {s : Nat → Int × Int} {d : Nat → Bool} {H : Heap} {nb c : Nat} {w : Bool} {I : Nat → Nat → Heap → Prop} {F : Heap → Prop} (h : YardAt H r b Y) (h8 : Y.buses.length ≤ 8) (hn : H.get nb = .cells w (nightC Y r b s d) c) (hnl : nb < H.next)
    (h0 : ∀ A, Ge H A → I A.next 0 A) (hge : ∀ L i A B, I L i A → Ge A B → I L i B) (hK : ∀ L i A, I L i A → A.get nb = .cells w (nightC Y r b s d) c)
    (hy : ∀ L i A (hi : i < (goL Y d).length), H.next ≤ L → L ≤ A.next → I L i A → ACall Try.prog yv [.int .i64 (goL Y d)[i]] A (fun v B => ∃ k, v = .bool k ∧ A.next ≤ B.next ∧ (∀ n, H.next ≤ n → n < L → B.get n = A.get n) ∧ (k = true → I L (i + 1) B) ∧ (k = false → F B))) :
    AFun Try.prog 95 [yv, .pointer (some ⟨nb, 0, none⟩)] H (fun _ B => (∃ L, H.next ≤ L ∧ L ≤ B.next ∧ I L (goL Y d).length B) ∨ F B) := by
  refine AFun.mk ok95 hm (Nat.le_of_ble_eq_true rfl) ?_
  have hSl : (sortL [turnF Y] Y).length = Y.buses.length := by
    unfold sortL insSort
    rw [insTo_length, busesL_len]
  simp [a95, r95, hn, nightC_rd]
  have gX := Ge.new H (.cells true [.func (.func 96) #[] #[.pointer (some ⟨nb, 0, none⟩)]] 1)
  refine fcall_fun (sorted_spec (fs := [turnF Y]) (qv := [.func (.func 96) #[] #[.pointer (some ⟨nb, 0, none⟩)]]) (h.ge gX) h8 (slr_fun _ H.next 1 _ (by simp) (by simp)) (by simp) rfl fun j h1 h2 x A hx gA => ?_) ?_
  · have hj : j = 0 := by simp at h1; omega
    subst hj
    exact ACall.of_fun (turnQ_spec ((h.ge gX).ge gA) (gA.got (by simp; omega) (gX.got hnl hn)) hx)
  rintro v H1 ⟨oS, g1⟩
  have G1 := gX.trans g1
  have n1 := g1.next
  simp at n1
  have hlen := oS.lenV
  rw [List.length_map, hSl] at hlen
  simp [hlen]
  generalize hS : sortL [turnF Y] Y = S at oS hSl
  have hgo : goL Y d = S.filter fun x => !d x.toNat := by unfold goL; rw [hS]
  have hmem : ∀ j (hj : j < S.length), isBusB Y S[j] = true := fun j hj => by
    have hm' : S[j] ∈ sortL [turnF Y] Y := by rw [hS]; exact List.getElem_mem hj
    exact sortL_mem.1 hm'
  have vn : ∀ n, slName v = some n → H.next ≤ n ∧ n < H1.next := fun n hn' => by
    have := oS.names hn'
    simp at this; omega
  refine floop_intro (fun z => z.d = [] ∧ H1.next ≤ z.H.next ∧ z.t 0 = yv ∧ z.t 1 = .pointer (some ⟨nb, 0, none⟩) ∧ z.t 8 = v ∧ z.t 9 = .int .i64 S.length ∧ OwnSl z.H (H.next + 1) v (S.map (.int .i64)) ∧ ∃ j : Nat, j ≤ S.length ∧ z.t 10 = .int .i64 j ∧ I H1.next ((S.take j).filter fun x => !d x.toNat).length z.H) (fun z => S.length - (intOf (z.t 10)).toNat) ?_ ?_
  · exact ⟨rfl, by simp, by simp, by simp, by simp, by simp [hSl], by simpa using oS, 0, by simp, by simp, by simpa using h0 H1 G1⟩
  rintro ⟨t, _, A⟩ ⟨rfl, nA, t0, t1, t8, t9, own, j, hj, t10, hI⟩
  dsimp only at nA t0 t1 t8 t9 own t10 hI
  simp [t9, t10]
  refine fcond_intro (fun hc => ?_) (fun hc => ?_)
  case refine_2 =>
    have hj0 : j = S.length := by simp at hc; omega
    subst hj0
    rw [List.take_length, ← hgo] at hI
    simp
    exact .inl ⟨H1.next, by omega, nA, hI⟩
  have hj' : j < S.length := by simpa using hc
  have hx := hmem j hj'
  obtain ⟨x0, x1, _⟩ := isBus_at hx
  obtain ⟨p, e1, e2⟩ := (own_ints own (by omega)).at hj'
  have kb := hK _ _ _ hI
  simp [t1, t8, t10, e1, e2, kb, nightC_rd]
  refine fcall_fun (isDown_spec x0 (by omega)) ?_
  rintro _ B ⟨rfl, gB⟩
  have hIB := hge _ _ _ _ hI gB
  have oB := own.ge gB
  have nB := gB.next
  have hst := filter_step (p := fun x => !d x.toNat) hj'
  cases hdn : d S[j].toNat
  case true =>
    have e3 : ((S.take (j + 1)).filter fun x => !d x.toNat).length = ((S.take j).filter fun x => !d x.toNat).length := by rw [hst]; simp [hdn]
    simp [t10, add_in (x := j) (y := 1) (by omega) (by omega)]
    exact ⟨⟨by omega, t0, t1, t8, t9, oB, j + 1, by omega, by omega, by rw [e3]; exact hIB⟩, by omega⟩
  obtain ⟨hi, he⟩ := filter_at (p := fun x => !d x.toNat) hj' (by simp [hdn])
  simp [t0]
  have hyc := hy H1.next _ B (by rw [hgo]; exact hi) (by omega) (by omega) hIB
  have he' : (goL Y d)[((S.take j).filter fun x => !d x.toNat).length]'(by rw [hgo]; exact hi) = S[j] := by
    simp only [hgo]; exact he
  rw [he'] at hyc
  refine fcall_intro (hyc.mono ?_)
  rintro _ C ⟨k, rfl, nC, kC, hT, hF⟩
  cases k
  · simp
    exact .inr (hF rfl)
  · have e3 : ((S.take (j + 1)).filter fun x => !d x.toNat).length = ((S.take j).filter fun x => !d x.toNat).length + 1 := by rw [hst]; simp [hdn]
    simp [t10, add_in (x := j) (y := 1) (by omega) (by omega)]
    exact ⟨⟨by omega, t0, t1, t8, t9, oB.keep nC fun n hn' => kC n (vn n hn').1 (vn n hn').2, j + 1, by omega, by omega, by rw [e3]; exact hT rfl⟩, by omega⟩

theorem goingOut_spec (v : Value) (H : Heap) : AFun Try.prog 78 [v] H (fun r B => r = .func (.func 95) #[] #[.pointer (some ⟨H.next, 0, none⟩)] ∧ B = H.new (.cells true v.cells.toList v.cells.size)) := by
  refine AFun.mk ok78 hm (Nat.le_of_ble_eq_true rfl) ?_
  simp [a78, r78]

end Go.Proofs.Ytfijnkhiojejfaa


namespace Go.Proofs.Ytfijnkhiojejfaa
open Go Go.Ab

def hindB (s : Nat → Int × Int) (x o : Int) : Bool := befB (s x.toNat) (s o.toNat)
structure ShI (A0 B : Heap) (q6 : Nat) (r : ALoop) : Prop where
  next : A0.next + 2 ≤ B.next
  keep : ∀ n, n < A0.next → n ≠ q6 → B.get n = A0.get n
  dfr : B.get A0.next = .dfr
  loop : B.get (A0.next + 1) = .loop r
structure ShF (A0 B : Heap) (q6 : Nat) (r : ALoop) (res : Bool) : Prop where
  next : A0.next + 2 ≤ B.next
  keep : ∀ n, n < A0.next → n ≠ q6 → B.get n = A0.get n
  dfr : B.get A0.next = .dfr
  loop : B.get (A0.next + 1) = .loop { r with state := .done, pending := some (.exit 0) }
  q6 : B.get q6 = .cells true [.bool res] 1
theorem ShI.ge {A0 A B : Heap} {q6 : Nat} {r : ALoop} (h : ShI A0 A q6 r) (g : Ge A B) : ShI A0 B q6 r := by
  have hn := h.next
  exact ⟨Nat.le_trans hn g.next, fun n h1 h2 => (g.get n (by omega)).trans (h.keep n h1 h2), g.got (by omega) h.dfr, g.got (by omega) h.loop⟩

def standsOf (ls os : List Int) : Nat → Int × Int := standF ls (placeTo os os.length)
theorem checkN_zero {Y : Yd} {ls os bs : List Int} (h : checkN Y ls os bs = 0) : checkY Y = 0 ∧ lanesB Y ls = true ∧ possB Y os = true ∧ brokenB Y bs = true := by
  unfold checkN at h
  split at h
  · rename_i h0
    split at h
    · rename_i h1
      rw [Bool.and_eq_true, Bool.and_eq_true] at h1
      exact ⟨h0, h1.1, h1.2.1, h1.2.2⟩
    · omega
  · rename_i h0; exact absurd h h0
theorem lanesB_len {Y : Yd} {ls : List Int} (h : lanesB Y ls = true) : ls.length = Y.buses.length := by
  simp [lanesB] at h; exact h.1
theorem possB_in {Y : Yd} {os : List Int} (h : possB Y os = true) : os.length = Y.buses.length ∧ (∀ x ∈ os, isBusB Y x = true) ∧ os.Nodup := by
  simp [possB, distB] at h
  exact ⟨h.1, h.2.1, h.2.2.1⟩
theorem brokenB_in {Y : Yd} {bs : List Int} (h : brokenB Y bs = true) : ∀ x ∈ bs, isBusB Y x = true := by
  simp [brokenB] at h; exact h.2.1

end Go.Proofs.Ytfijnkhiojejfaa


namespace Go.Proofs.Ytfijnkhiojejfaa
open Go Go.Ab

theorem sink_strict {f : Int → Int} {lt : Int → Int → Bool} (hlt : ∀ x y, lt x y = decide (f x < f y)) {L : List Int} {x : Int} (h : L.Pairwise fun a b => f a < f b) (hx : ∀ y ∈ L, f y ≠ f x) :
    (sink lt (L ++ [x]) L.length).Pairwise fun a b => f a < f b := by
  have h1 : SortedTo f (sink lt (L ++ [x]) L.length) L.length := sink_next hlt fun k hk a b y z hab hb ha hb' => by
    rw [List.getElem?_append_left (by omega)] at ha hb'
    obtain ⟨a1, rfl⟩ := List.getElem?_eq_some_iff.1 ha
    obtain ⟨b1, rfl⟩ := List.getElem?_eq_some_iff.1 hb'
    exact Int.le_of_lt (List.pairwise_iff_getElem.1 h a b a1 b1 hab)
  have h2 : (sink lt (L ++ [x]) L.length).Pairwise fun a b => f a ≤ f b := by
    rw [List.pairwise_iff_getElem]
    intro a b ha hb hab
    have hl : (sink lt (L ++ [x]) L.length).length = L.length + 1 := by rw [sink_length]; simp
    exact h1 a b _ _ hab (by omega) (List.getElem?_eq_getElem ha) (List.getElem?_eq_getElem hb)
  have h3 : (L ++ [x]).Pairwise fun a b => f a ≠ f b := by
    rw [List.pairwise_append]
    refine ⟨List.Pairwise.imp (fun h => by omega) h, by simp, fun a ha c hc => ?_⟩
    simp at hc; subst hc
    exact hx a ha
  have h4 : (sink lt (L ++ [x]) L.length).Pairwise fun a b => f a ≠ f b := ((sink_perm lt _ _).pairwise_iff (fun h => Ne.symm h)).2 h3
  exact List.Pairwise.imp (fun ⟨a, b⟩ => by omega) (List.pairwise_and_iff.2 ⟨h2, h4⟩)

theorem BssAt.turn {H : Heap} {r b : Value} {Y : Yd} (h : YardAt H r b Y) {x : Int} (hx : isBusB Y x = true) : ∃ n o, islV 3 b (.int .i64 x) = some (.pointer (some ⟨n, o, none⟩)) ∧ ∀ A, Ge H A → ldA (A.get n) false 1 (o + 2) = some (.int .i64 (turnF Y x)) := by
  obtain ⟨n, o, e1, _, e2⟩ := BssAt.atB h hx
  exact ⟨n, o, e1, fun A g => (e2 A g).2.2.2⟩

set_option maxHeartbeats 2000000 in
theorem turnsRef_spec {Y : Yd} {r b v : Value} {H : Heap} {bs : List Int} (h : YardAt H r b Y) (hv : IntsAt H v bs) (h8 : Y.buses.length ≤ 12) (hd : (turnsOf Y).Nodup) :
    AFun Try.prog 45 [yardV Y r b, v] H (fun w B => OwnSl B H.next w ((goL Y (inF bs)).map (.int .i64)) ∧ Ge H B) := by
  refine AFun.mk ok45 hm (Nat.le_of_ble_eq_true rfl) ?_
  have hb := h.buses.one
  have hr := h.room.one
  have g0 : Ge H (H.new (.cells true [r, b, .int .i64 Y.broken] 3)) := Ge.new _ _
  generalize hlt : (fun x y : Int => decide (turnF Y x < turnF Y y)) = lt
  have hlt' : ∀ x y, lt x y = decide (turnF Y x < turnF Y y) := fun x y => by rw [← hlt]
  simp [a45, r45]
  refine floop_intro (fun z => z.d = [] ∧ Ge H z.H ∧ H.next < z.H.next ∧ z.t 1 = v ∧ z.t 2 = .pointer (some ⟨H.next, 0, none⟩) ∧ z.H.get H.next = .cells true [r, b, .int .i64 Y.broken] 3 ∧ ∃ (i : Nat) (L : List Int), i ≤ Y.buses.length ∧ z.t 6 = .int .i64 i ∧ OwnSl z.H (H.next + 1) (z.t 5) (L.map (.int .i64)) ∧ L.length ≤ i ∧
      L.Pairwise (fun x y => turnF Y x < turnF Y y) ∧ ∀ x, x ∈ L ↔ (0 ≤ x ∧ x < i ∧ x ∉ bs)) (fun z => Y.buses.length - (intOf (z.t 6)).toNat) ?_ ?_
  · exact ⟨rfl, g0, by simp, by simp, by simp, by simp, 0, [], by simp, by simp, .inl ⟨by simp, rfl⟩, by simp, by simp, fun x => by simp; omega⟩
  rintro ⟨t, _, A⟩ ⟨rfl, g, nA, t1, t2, a2, i, L, hi, t6, own, hLl, hLp, hLm⟩
  dsimp only at g nA t1 t2 a2 t6 own
  simp [t2, t6, a2, h.buses.lenV]
  refine fcond_intro (fun hc => ?_) (fun hc => ?_)
  case refine_2 =>
    have h1 : i = Y.buses.length := by simp at hc; omega
    subst h1
    have : L = goL Y (inF bs) := sorted_uniq hLp (goL_strict hd _) fun x => by
      rw [hLm, goL_mem]
      simp only [isBusB, inB, inF, Bool.and_eq_true, decide_eq_true_eq, decide_eq_false_iff_not]
      constructor
      · rintro ⟨x0, x1, x2⟩
        refine ⟨⟨x0, by omega⟩, ?_⟩
        rwa [show ((x.toNat : Nat) : Int) = x by omega]
      · rintro ⟨⟨x0, x1⟩, x2⟩
        refine ⟨x0, by omega, ?_⟩
        rwa [show ((x.toNat : Nat) : Int) = x by omega] at x2
    rw [← this]
    simp
    exact ⟨own.lower (by omega), g⟩
  have hi' : i < Y.buses.length := by simpa using hc
  have hbi : isBusB Y (i : Int) = true := by simp [isBusB, inB]; omega
  have hLb : ∀ x ∈ L, isBusB Y x = true := fun x hx => by
    have := (hLm x).1 hx
    simp [isBusB, inB]; omega
  simp [t1, t6]
  refine fcall_fun (has_spec (hv.ge g)) ?_
  rintro _ A1 ⟨rfl, eA⟩
  rw [eA]
  by_cases hin : (i : Int) ∈ bs
  · simp [hin, t6, add_in (x := i) (y := 1) (by omega) (by omega)]
    refine ⟨⟨g, nA, t1, t2, a2, i + 1, by omega, by omega, L, own, by omega, hLp, fun x => ?_⟩, by omega⟩
    rw [hLm]
    constructor
    · rintro ⟨x0, x1, x2⟩; exact ⟨x0, by omega, x2⟩
    · rintro ⟨x0, x1, x2⟩
      refine ⟨x0, ?_, x2⟩
      have : x ≠ (i : Int) := fun e => x2 (e ▸ hin)
      omega
  simp [hin, t6]
  have gX := Ge.new A (.cells true [.int .i64 (i : Int)] 1)
  have oX := own.ge gX
  have xX : (A.new (.cells true [.int .i64 (i : Int)] 1)).get A.next = .cells true [.int .i64 (i : Int)] 1 := by simp
  refine fapp_own oX (slCells_new xX) rfl (by simp only [List.length_map]; omega) (by omega) (by simp) (by simp) (by simp; omega) ?_
  rintro u B o1 s1 n1 k1
  have gB : Ge H B := oX.geApp (by omega) (g.trans gX) (by omega) (by simp; omega) k1
  have b2 : B.get H.next = .cells true [r, b, .int .i64 Y.broken] 3 := by
    rw [k1 _ (by omega) (fun e => by have := (own.names e).1; omega)]
    exact gX.got nA a2
  have nB : A.next < B.next := by rw [n1]; omega
  have o1' : OwnSl B (H.next + 1) u ((L ++ [(i : Int)]).map (.int .i64)) := by rw [List.map_append]; exact o1
  clear o1
  rcases o1' with ⟨_, h0⟩ | ⟨n, cap, cc, hu, h2, h3, h4, h5, h6⟩
  · simp at h0
  rw [List.length_map, List.length_append, List.length_singleton] at hu h5
  subst hu
  simp
  rw [sub_in (by omega) (by omega)]
  have el : (((L.length + 1 : Nat) : Int)) - 1 = (L.length : Int) := by omega
  simp
  generalize hcap : cap = cap' at *
  refine floop_intro (fun z => z.d = [] ∧ Ge H z.H ∧ A.next < z.H.next ∧ z.t 1 = v ∧ z.t 2 = .pointer (some ⟨H.next, 0, none⟩) ∧ z.t 6 = .int .i64 i ∧ z.t 5 = .slice (some ⟨n, 0, none⟩) (L.length + 1) cap' ∧ z.H.get H.next = .cells true [r, b, .int .i64 Y.broken] 3 ∧ n < z.H.next ∧
    ∃ k : Nat, k ≤ L.length ∧ z.t 7 = .int .i64 k ∧ ∃ m : List Int, m.length = L.length + 1 ∧ (∀ x ∈ m, isBusB Y x = true) ∧ sink lt m k = sink lt (L ++ [(i : Int)]) L.length ∧ (∀ x, x ∈ m ↔ x ∈ L ++ [(i : Int)]) ∧ z.H.get n = .cells true (m.map (.int .i64)) cc) (fun z => (intOf (z.t 7)).toNat) ?_ ?_
  · refine ⟨rfl, gB, nB, by simp [t1], by simp [t2], by simp [t6], by simp, b2, h3, L.length, Nat.le_refl _, by simp, L ++ [(i : Int)], by simp, fun x hx => ?_, rfl, fun _ => Iff.rfl, h4⟩
    rcases List.mem_append.1 hx with h | h
    · exact hLb _ h
    · simp at h; subst h; exact hbi
  have t6o := t6
  have hBn : B.next = B.next := rfl
  clear own oX
  clear g nA t1 t2 a2 t6 gB b2 nB h3 h4 s1 n1 k1 gX xX eA
  rintro ⟨t', _, C⟩ ⟨rfl, g, nC, t1, t2, t6, t5, a2, h3, k, hk, t7, m, hml, hmb, hsink, hmm, h4⟩
  dsimp only at g nC t1 t2 t6 t5 a2 h3 t7 h4
  have hfin : sink lt m k = m → ∀ x, ((0 : Int) ≤ x ∧ x < i ∧ x ∉ bs ∨ x = (i : Int)) ↔ (0 ≤ x ∧ x < ((i + 1 : Nat) : Int) ∧ x ∉ bs) := fun _ x => by
    constructor
    · rintro (⟨a, b, c⟩ | rfl)
      · exact ⟨a, by omega, c⟩
      · exact ⟨by omega, by omega, hin⟩
    · rintro ⟨a, b, c⟩
      by_cases h : x < (i : Int)
      · exact .inl ⟨a, h, c⟩
      · exact .inr (by omega)
  have hstop : sink lt m k = m → (m.Pairwise (fun x y => turnF Y x < turnF Y y) ∧ ∀ x, x ∈ m ↔ (0 ≤ x ∧ x < ((i + 1 : Nat) : Int) ∧ x ∉ bs)) := fun e => by
    refine ⟨?_, fun x => ?_⟩
    · rw [← e, hsink]
      refine sink_strict hlt' hLp fun y hy e2 => ?_
      have := turn_inj hd (hLb y hy) hbi e2
      have := ((hLm y).1 hy).2.1
      omega
    · rw [hmm, List.mem_append, hLm, List.mem_singleton]
      exact hfin e x
  have hnH : n ≠ H.next := by omega
  by_cases hk0 : k = 0
  · obtain ⟨s1, s2⟩ := hstop (by rw [hk0]; rfl)
    have hk1 : ¬ (0 : Int) < k := by omega
    have hk2 : ¬ 0 < k := by omega
    have gC' : Ge H { get := C.get, next := C.next + 24 } := ⟨by have := g.next; simp; omega, fun a ha => g.get a ha⟩
    simp [t7, hk2, t6, add_in (x := i) (y := 1) (by omega) (by omega)]
    refine ⟨⟨gC', by have := g.next; omega, t1, t2, a2, i + 1, by omega, by omega, m, ?_, by omega, s1, s2⟩, by rw [t6o]; simp; omega⟩
    rw [t5]
    exact .inr ⟨n, cap', cc, by rw [List.length_map, hml], h2, by simp; omega, h4, by rw [List.length_map, hml]; exact h5, h6⟩
  obtain ⟨k, rfl⟩ : ∃ k', k = k' + 1 := ⟨k - 1, by omega⟩
  have hk2 : (0 : Int) < (k : Int) + 1 := by omega
  have i1 : islV 1 (.slice (some ⟨n, 0, none⟩) (L.length + 1) cap') (.int .i64 ((k : Int) + 1)) = some (.pointer (some ⟨n, k + 1, none⟩)) := by
    rw [islV_in (by omega) (by omega)]; simp
  have i0 : islV 1 (.slice (some ⟨n, 0, none⟩) (L.length + 1) cap') (.int .i64 (k : Int)) = some (.pointer (some ⟨n, k, none⟩)) := by
    rw [islV_in (by omega) (by omega)]; simp
  have hm1 : k + 1 < m.length := by omega
  have hm0 : k < m.length := by omega
  have l1 : ∀ B' : Heap, B'.get n = .cells true (m.map (.int .i64)) cc → ldA (B'.get n) false 1 (k + 1) = some (.int .i64 m[k + 1]) := fun B' e => by
    rw [e, ldA_one]; simp [hm1]
  have l0 : ∀ B' : Heap, B'.get n = .cells true (m.map (.int .i64)) cc → ldA (B'.get n) false 1 k = some (.int .i64 m[k]) := fun B' e => by
    rw [e, ldA_one]; simp [hm0]
  obtain ⟨n1, o1, e1, f1⟩ := BssAt.turn h (hmb _ (List.getElem_mem hm1))
  obtain ⟨n0, o0, e0, f0⟩ := BssAt.turn h (hmb _ (List.getElem_mem hm0))
  simp [t7, hk2, t2, a2, t5, i1, i0, l1 C h4, l0 C h4, e1, e0, f1 C g, f0 C g, sub_in (x := (k : Int) + 1) (y := 1) (by omega) (by omega)]
  by_cases hlt2 : turnF Y m[k + 1] < turnF Y m[k]
  case neg =>
    have gC' : Ge H { get := C.get, next := C.next + 24 } := ⟨by have := g.next; simp; omega, fun a ha => g.get a ha⟩
    obtain ⟨s1, s2⟩ := hstop (sink_stop hm1 (by rw [hlt']; simp; omega))
    simp [hlt2, t6, add_in (x := i) (y := 1) (by omega) (by omega)]
    refine ⟨⟨gC', by have := g.next; omega, t1, t2, a2, i + 1, by omega, by omega, m, ?_, by omega, s1, s2⟩, by rw [t6o]; simp; omega⟩
    rw [t5]
    exact .inr ⟨n, cap', cc, by rw [List.length_map, hml], h2, by simp; omega, h4, by rw [List.length_map, hml]; exact h5, h6⟩
  simp [hlt2, t7, t5, i1, i0, l1 C h4, l0 C h4, sub_in (x := (k : Int) + 1) (y := 1) (by omega) (by omega)]
  rw [h4, st_ints hm1]
  simp [i0, -stA_cells]
  rw [← List.map_set, st_ints (by simp; omega)]
  have hsw : (m.set (k + 1) m[k]).set k m[k + 1] = swapL m k := (swapL_eq hm1).symm
  rw [hsw]
  simp [t7, sub_in (x := (k : Int) + 1) (y := 1) (by omega) (by omega)]
  refine ⟨⟨by have := g.next; simp; omega, fun a ha => ?_⟩, by omega, t1, t2, t6, t5, by rw [if_neg (Ne.symm hnH), if_neg (Ne.symm hnH)]; exact a2, by omega, k, by omega, rfl, swapL m k, by rw [swapL_length]; exact hml, fun x hx => hmb x ((swapL_perm m k).mem_iff.1 hx), ?_, fun x => ?_, rfl⟩
  · have hk : a ≠ n := by omega
    simp [hk]
    exact g.get a ha
  · rw [← hsink, sink_go hm1]
    rw [hlt']; simp; omega
  · rw [(swapL_perm m k).mem_iff, hmm, List.mem_append, List.mem_singleton]

end Go.Proofs.Ytfijnkhiojejfaa


namespace Go.Proofs.Ytfijnkhiojejfaa
open Go Go.Ab

def walkF (ls : Int → Int) (x : Int) (g : List Int) : List Int → List Int
  | [] => []
  | o :: r => if o = x then [] else if ls o = ls x ∧ o ∉ g then o :: walkF ls x (g ++ [o]) r else walkF ls x g r
theorem walkF_drop {ls : Int → Int} {x : Int} {g os : List Int} {i : Nat} (hi : i < os.length) : walkF ls x g (os.drop i) = if os[i] = x then [] else if ls os[i] = ls x ∧ os[i] ∉ g then os[i] :: walkF ls x (g ++ [os[i]]) (os.drop (i + 1)) else walkF ls x g (os.drop (i + 1)) := by
  rw [List.drop_eq_getElem_cons hi]; rfl
def mornF (ls : Int → Int) (os : List Int) (g : List Int) : List Int → List (List Int)
  | [] => []
  | x :: r => walkF ls x g os :: mornF ls os (g ++ walkF ls x g os ++ [x]) r
theorem mornF_drop {ls : Int → Int} {os g T : List Int} {i : Nat} (hi : i < T.length) : mornF ls os g (T.drop i) = walkF ls T[i] g os :: mornF ls os (g ++ walkF ls T[i] g os ++ [T[i]]) (T.drop (i + 1)) := by
  rw [List.drop_eq_getElem_cons hi]; rfl
theorem mornF_length {ls : Int → Int} {os : List Int} : ∀ (T g : List Int), (mornF ls os g T).length = T.length
  | [], _ => rfl
  | _ :: r, _ => by simp [mornF, mornF_length r]
def laneF (ls : List Int) (x : Int) : Int := ls[x.toNat]?.getD 0

structure MoAt (B : Heap) (nO N : Nat) (vs : List Value) (gv : Value) (G : List Int) (M : Nat → List Int) : Prop where
  len : vs.length = N
  next : nO < B.next
  out : ∃ cc, B.get nO = .cells true vs cc ∧ N ≤ cc
  own : OwnSl B (nO + 1) gv (G.map (.int .i64))
  row : ∀ k (h : k < vs.length), OwnSl B (nO + 1) vs[k] ((M k).map (.int .i64))
  sep : ∀ k (h : k < vs.length) m, slName vs[k] = some m → slName gv ≠ some m
  dis : ∀ k (h : k < vs.length) j (h' : j < vs.length), k ≠ j → ∀ m, slName vs[k] = some m → slName vs[j] ≠ some m

section
variable {nO N : Nat} {vs : List Value} {gv : Value} {G : List Int} {M : Nat → List Int}
theorem MoAt.keep {A B : Heap} (h : MoAt A nO N vs gv G M) (g : GeX B.next A B) : MoAt B nO N vs gv G M := by
  have := g.next
  obtain ⟨cc, c1, c2⟩ := h.out
  have hn := h.next
  refine ⟨h.len, by omega, ⟨cc, by rw [g.get nO hn (by omega)]; exact c1, c2⟩, h.own.keep g.next fun n e => g.get n (h.own.names e).2 (by have := (h.own.names e).2; omega), fun k hk => (h.row k hk).keep g.next fun n e => g.get n ((h.row k hk).names e).2 (by have := ((h.row k hk).names e).2; omega), h.sep, h.dis⟩
theorem MoAt.ge {A B : Heap} (h : MoAt A nO N vs gv G M) (g : Ge A B) : MoAt B nO N vs gv G M :=
  h.keep (GeX.of g)

theorem MoAt.grow {A B : Heap} {n : Nat} {w : Value} {o : Int} {i : Nat} (h : MoAt A nO N vs gv G M) (hi : i < vs.length) (own : OwnSl B (nO + 1) w ((M i ++ [o]).map (.int .i64))) (s : slName w = some n) (hn : A.next ≤ n) (nx : A.next ≤ B.next) (k : ∀ m, m ≠ n → slName vs[i] ≠ some m → B.get m = A.get m) :
    ∃ cc, B.get nO = .cells true vs cc ∧ MoAt (B.set nO (.cells true (vs.set i w) cc)) nO N (vs.set i w) gv G (updF M i (M i ++ [o])) := by
  obtain ⟨cc, c1, c2⟩ := h.out
  have hnO := h.next
  have hni : slName vs[i] ≠ some nO := fun e => by have := ((h.row i hi).names e).1; omega
  have hl := h.len
  have hnw := (own.names s)
  refine ⟨cc, by rw [k nO (by omega) hni]; exact c1, by simpa using hl, by simp; omega, ⟨cc, by simp, c2⟩, ?_, ?_, ?_, ?_⟩
  · refine h.own.keep (by simpa using nx) fun m e => ?_
    have hm := h.own.names e
    have : m ≠ nO := by omega
    simp [this]
    exact k m (by omega) fun e2 => h.sep i hi m e2 e
  · intro j hj
    simp at hj
    by_cases e : j = i
    · subst e
      simp [updF]
      rw [List.map_append] at own
      refine own.keep (by simp) fun m e => ?_
      have : m ≠ nO := by have := (own.names e).1; omega
      simp [this]
    · have e' := Ne.symm e
      rw [List.getElem_set_ne e']
      simp [updF, e]
      refine (h.row j hj).keep (by simpa using nx) fun m e2 => ?_
      have hm := (h.row j hj).names e2
      have : m ≠ nO := by omega
      simp [this]
      exact k m (by omega) fun e3 => h.dis i hi j hj e' m e3 e2
  · intro j hj m e
    simp at hj
    by_cases e1 : j = i
    · subst e1
      simp at e
      rw [s] at e; cases e
      exact fun e2 => by have := (h.own.names e2).2; omega
    · rw [List.getElem_set_ne (Ne.symm e1)] at e
      exact h.sep j hj m e
  · intro j hj l hl jl m e
    simp at hj hl
    by_cases e1 : j = i
    · subst e1
      simp at e
      rw [s] at e; cases e
      rw [List.getElem_set_ne jl]
      exact fun e2 => by have := ((h.row l (by simpa using hl)).names e2).2; omega
    · rw [List.getElem_set_ne (Ne.symm e1)] at e
      by_cases e3 : l = i
      · subst e3
        simp
        rw [s]
        intro e4; cases e4
        have := ((h.row j (by simpa using hj)).names e).2; omega
      · rw [List.getElem_set_ne (Ne.symm e3)]
        exact h.dis j (by simpa using hj) l (by simpa using hl) jl m e

theorem MoAt.gone {A B : Heap} {n : Nat} {w : Value} {o : Int} (h : MoAt A nO N vs gv G M) (own : OwnSl B (nO + 1) w ((G ++ [o]).map (.int .i64))) (s : slName w = some n) (hn : A.next ≤ n) (nx : A.next ≤ B.next) (k : ∀ m, m ≠ n → slName gv ≠ some m → B.get m = A.get m) :
    MoAt B nO N vs w (G ++ [o]) M := by
  obtain ⟨cc, c1, c2⟩ := h.out
  have hnO := h.next
  refine ⟨h.len, by omega, ⟨cc, by rw [k nO (by omega) fun e => by have := (h.own.names e).1; omega]; exact c1, c2⟩, own, fun j hj => (h.row j hj).keep nx fun m e => k m (by have := ((h.row j hj).names e).2; omega) (h.sep j hj m e), fun j hj m e => ?_, h.dis⟩
  rw [s]; intro e2; cases e2
  have := ((h.row j hj).names e).2; omega

theorem MoAt.rows {B : Heap} {R : List (List Int)} (h : MoAt B nO N vs gv G M) (hN : N < 2 ^ 62) (hR : R = (List.range N).map M) (hl : ∀ x ∈ R, x.length < 2 ^ 62) : RowsAt B (.slice (some ⟨nO, 0, none⟩) N N) R := by
  obtain ⟨cc, c1, c2⟩ := h.out
  have hlen := h.len
  have hRl : R.length = N := by rw [hR]; simp
  refine ⟨vs, ⟨?_, ?_⟩, by omega, fun i hi => ?_⟩
  · simp only [slCells, c1]
    simp [rdL, hRl]
    rw [← hlen]; simp
  · intro a n' c' e; simp at e; rw [← e.1]; exact h.next
  · have hi2 : i < vs.length := by omega
    refine ⟨vs[i], List.getElem?_eq_getElem hi2, own_ints (lo := nO + 1) ?_ (by have := hl _ (List.getElem_mem hi); omega)⟩
    have : R[i] = M i := by subst hR; simp
    rw [this]
    exact h.row i hi2

end
theorem st_cells {H : Heap} {n cc : Nat} {vs : List Value} {j : Nat} {u : Value} (hj : j < vs.length) (hu : u.cells.toList = [u]) (ho : one u = true) : stA H n j 1 u (.cells true vs cc) = some (H.set n (.cells true (vs.set j u) cc)) := by
  rw [stA_cells, if_pos ⟨by rw [← Array.length_toList, hu]; rfl, by omega, by rw [hu]; simp [ho]⟩, hu, wrL_one _ _ _ hj]
theorem own_cells {A : Heap} {lo : Nat} {v : Value} {cs : List Value} (h : OwnSl A lo v cs) : v.cells.toList = [v] := by
  rcases h with ⟨rfl, _⟩ | ⟨m, cap, c, rfl, _⟩ <;> rfl

theorem goL_len (Y : Yd) (d : Nat → Bool) : (goL Y d).length ≤ Y.buses.length := by
  refine Nat.le_trans (List.length_filter_le _ _) ?_
  rw [show (sortL [turnF Y] Y).length = (busesL Y).length from (insSort_perm _ _).length_eq]
  simp [busesL]
theorem walkF_len {ls : Int → Int} {x : Int} : ∀ (os g : List Int), (walkF ls x g os).length ≤ os.length
  | [], _ => by simp [walkF]
  | o :: r, g => by
    simp only [walkF]
    split
    · simp
    · split
      · simpa using walkF_len r _
      · exact Nat.le_succ_of_le (walkF_len r _)
theorem mornF_row {ls : Int → Int} {os : List Int} : ∀ (T g : List Int), ∀ x ∈ mornF ls os g T, x.length ≤ os.length
  | [], _ => by simp [mornF]
  | x :: r, g => by
    intro y hy
    rcases List.mem_cons.1 hy with h | h
    · rw [h]; exact walkF_len _ _
    · exact mornF_row r _ y h
theorem IntsAt.atB {H : Heap} {v : Value} {ls : List Int} {Y : Yd} {x : Int} (h : IntsAt H v ls) (hl : ls.length = Y.buses.length) (hx : isBusB Y x = true) : ∃ p, islV 1 v (.int .i64 x) = some p ∧ ∀ A, Ge H A → ldV A false 1 p = some (.int .i64 (laneF ls x)) := by
  obtain ⟨y0, y1, _⟩ := isBus_at hx
  obtain ⟨p, e, f⟩ := IntsAt.atAll h (i := x.toNat) (by omega)
  rw [show ((x.toNat : Nat) : Int) = x by omega] at e
  refine ⟨p, e, fun A g => (f A g).trans ?_⟩
  simp [laneF, List.getElem?_eq_getElem (show x.toNat < ls.length by omega)]

set_option maxHeartbeats 2000000 in
theorem morningRef_spec {Y : Yd} {r b v u w : Value} {H : Heap} {ls os bs : List Int} (h : YardAt H r b Y) (hv : IntsAt H v ls) (hu : IntsAt H u os) (hw : IntsAt H w bs) (h8 : Y.buses.length ≤ 12) (hd : (turnsOf Y).Nodup)
    (hls : ls.length = Y.buses.length) (hos : os.length ≤ 12) (hob : ∀ x ∈ os, isBusB Y x = true) :
    AFun Try.prog 29 [yardV Y r b, v, u, w] H (fun z B => RowsAt B z (mornF (laneF ls) os [] (goL Y (inF bs))) ∧ Ge H B) := by
  refine AFun.mk ok29 hm (Nat.le_of_ble_eq_true rfl) ?_
  have hb := h.buses.one
  have hr := h.room.one
  have g0 : Ge H (H.new (.cells true [r, b, .int .i64 Y.broken] 3)) := Ge.new _ _
  simp [a29, r29]
  refine fcall_fun (turnsRef_spec (h.ge g0) (hw.ge g0) h8 hd) ?_
  rintro tv A ⟨oT, gA⟩
  have GA := g0.trans gA
  have hTl := goL_len Y (inF bs)
  generalize hT : goL Y (inF bs) = T at oT hTl ⊢
  have hTb : ∀ x ∈ T, isBusB Y x = true := by
    rw [← hT]; intro x hx; exact (goL_mem.1 hx).1
  have iT := own_ints oT (by omega)
  simp [iT.lenV]
  rw [mksV_at (by omega) (by omega)]
  simp
  refine floop_intro (fun z => z.d = [] ∧ Ge A z.H ∧ z.t 1 = v ∧ z.t 2 = u ∧ z.t 10 = tv ∧ z.t 11 = .slice (some ⟨A.next, 0, none⟩) T.length T.length ∧ ∃ i : Nat, i ≤ T.length ∧ z.t 12 = .int .i64 i ∧
    ∃ G M vs, MoAt z.H A.next T.length vs (z.t 9) G M ∧ (∀ k, i ≤ k → M k = []) ∧ (List.range i).map M ++ mornF (laneF ls) os G (T.drop i) = mornF (laneF ls) os [] T ∧ G.length ≤ 13 * i) (fun z => T.length - (intOf (z.t 12)).toNat) ?_ ?_
  · refine ⟨rfl, Ge.new _ _, by simp, by simp, by simp, by simp, 0, by simp, by simp, [], fun _ => [], zrep T.length [.slice none 0 0], ⟨by simp [zrep_length], by simp, ⟨T.length, by simp, Nat.le_refl _⟩, .inl ⟨by simp, rfl⟩, fun k hk => .inl ⟨?_, rfl⟩, fun k hk m e => ?_, fun k hk j hj _ m e => ?_⟩, by simp, by simp, by simp⟩
    all_goals (try simp [zrep, slName] at *)
  rintro ⟨t, _, B⟩ ⟨rfl, gB, t1, t2, t10, t11, i, hi, t12, G, M, vs, mo, hM, hR, hG⟩
  dsimp only at gB t1 t2 t10 t11 t12 mo
  simp [t12, t10, iT.lenV]
  refine fcond_intro (fun hc => ?_) (fun hc => ?_)
  case refine_2 =>
    have h1 : i = T.length := by simp at hc; omega
    subst h1
    simp [t11]
    rw [List.drop_length] at hR
    simp [mornF] at hR
    exact ⟨mo.rows (by omega) hR.symm fun x hx => by have := mornF_row T [] x hx; omega, GA.trans gB⟩
  have hi' : i < T.length := by simpa using hc
  obtain ⟨p, e1, e2⟩ := IntsAt.atAll iT hi'
  simp [t10, t12, e1, e2 B gB]
  generalize hx : T[i] = x at *
  have hxb : isBusB Y x = true := hx ▸ hTb _ (List.getElem_mem hi')
  refine floop_intro (fun z => z.d = [] ∧ Ge A z.H ∧ z.t 1 = v ∧ z.t 2 = u ∧ z.t 10 = tv ∧ z.t 11 = .slice (some ⟨A.next, 0, none⟩) T.length T.length ∧ z.t 12 = .int .i64 i ∧ z.t 13 = .int .i64 x ∧ ∃ j : Nat, j ≤ os.length ∧ z.t 14 = .int .i64 j ∧
    ∃ G' M' vs, MoAt z.H A.next T.length vs (z.t 9) G' M' ∧ (∀ k, i < k → M' k = []) ∧ (∀ k, k < i → M' k = M k) ∧ M' i ++ walkF (laneF ls) x G' (os.drop j) = walkF (laneF ls) x G os ∧ G' = G ++ M' i ∧ (M' i).length ≤ j) (fun z => os.length - (intOf (z.t 14)).toNat) ?_ ?_
  · exact ⟨rfl, gB, by simp [t1], by simp [t2], by simp [t10], by simp [t11], by simp [t12], by simp, 0, by simp, by simp, G, M, vs, by simpa using mo, fun k hk => hM k (by omega), fun _ _ => rfl, by simp [hM i (Nat.le_refl _)], by simp [hM i (Nat.le_refl _)], by simp [hM i (Nat.le_refl _)]⟩
  have t12o := t12
  clear mo gB t1 t2 t10 t11 t12 e2
  rintro ⟨t', _, C⟩ ⟨rfl, gC, t1, t2, t10, t11, t12, t13, j, hj, t14, G', M', vs', mo, hM1, hM2, hW, hG', hMl⟩
  dsimp only at gC t1 t2 t10 t11 t12 t13 t14 mo
  have GC := GA.trans gC
  have hdone : walkF (laneF ls) x G' (os.drop j) = [] → (List.range (i + 1)).map M' ++ mornF (laneF ls) os (G' ++ [x]) (T.drop (i + 1)) = mornF (laneF ls) os [] T := fun e => by
    rw [e, List.append_nil] at hW
    rw [← hR, mornF_drop hi', hx, List.range_succ, List.map_append, hG', hW]
    have : (List.range i).map M' = (List.range i).map M := List.map_congr_left fun k hk => hM2 k (List.mem_range.1 hk)
    rw [this]; simp [hW]
  by_cases hjl : j < os.length
  case neg =>
    have hw0 : walkF (laneF ls) x G' (os.drop j) = [] := by rw [List.drop_eq_nil_of_le (by omega)]; rfl
    simp [t14, t2, hu.lenV, hjl, t13]
    have gX := Ge.new C (.cells true [.int .i64 x] 1)
    have moX := mo.ge gX
    have xX : (C.new (.cells true [.int .i64 x] 1)).get C.next = .cells true [.int .i64 x] 1 := by simp
    have hnC := mo.next
    refine fapp_own moX.own (slCells_new xX) rfl (by rw [List.length_map, hG', List.length_append]; omega) (by omega) (by simp) (by simp) (by simp; omega) ?_
    rintro gv B o1 s1 n1 k1
    have gB : Ge A B := moX.own.geApp (by omega) (gC.trans gX) (by omega) (by simp; omega) k1
    have m1 := moX.gone (o := x) (by rw [List.map_append]; exact o1) s1 (by simp) (by rw [n1]; simp) k1
    simp [t12, add_in (x := i) (y := 1) (by omega) (by omega)]
    refine ⟨⟨gB, t1, t2, t10, t11, i + 1, by omega, by omega, G' ++ [x], M', ⟨vs', m1⟩, fun k hk => hM1 k (by omega), by rw [hdone hw0], by rw [hG', List.length_append, List.length_append, List.length_singleton]; omega⟩, by rw [t12o]; simp; omega⟩
  obtain ⟨p2, e3, e4⟩ := IntsAt.atAll hu hjl
  have hst := walkF_drop (ls := laneF ls) (x := x) (g := G') hjl
  simp [t14, t2, hu.lenV, hjl, e3, e4 C GC, t13]
  by_cases hox : os[j] = x
  · have hw0 : walkF (laneF ls) x G' (os.drop j) = [] := by rw [hst, if_pos hox]
    simp [hox, t13]
    have gX := Ge.new C (.cells true [.int .i64 x] 1)
    have moX := mo.ge gX
    have xX : (C.new (.cells true [.int .i64 x] 1)).get C.next = .cells true [.int .i64 x] 1 := by simp
    have hnC := mo.next
    refine fapp_own moX.own (slCells_new xX) rfl (by rw [List.length_map, hG', List.length_append]; omega) (by omega) (by simp) (by simp) (by simp; omega) ?_
    rintro gv B o1 s1 n1 k1
    have gB : Ge A B := moX.own.geApp (by omega) (gC.trans gX) (by omega) (by simp; omega) k1
    have m1 := moX.gone (o := x) (by rw [List.map_append]; exact o1) s1 (by simp) (by rw [n1]; simp) k1
    simp [t12, add_in (x := i) (y := 1) (by omega) (by omega)]
    refine ⟨⟨gB, t1, t2, t10, t11, i + 1, by omega, by omega, G' ++ [x], M', ⟨vs', m1⟩, fun k hk => hM1 k (by omega), by rw [hdone hw0], by rw [hG', List.length_append, List.length_append, List.length_singleton]; omega⟩, by rw [t12o]; simp; omega⟩
  rw [if_neg hox] at hst
  have hob' := hob _ (List.getElem_mem hjl)
  have hsj : (t' 14) = .int .i64 j := t14
  obtain ⟨p3, e5, e6⟩ := IntsAt.atB hv hls hob'
  obtain ⟨p4, e7, e8⟩ := IntsAt.atB hv hls hxb
  have iG := own_ints mo.own (by rw [hG', List.length_append]; omega)
  have gD : Ge C { get := C.get, next := C.next + 15 } := ⟨by simp, fun _ _ => rfl⟩
  have GD := GC.trans gD
  have moD := mo.ge gD
  by_cases hll : laneF ls os[j] = laneF ls x
  case neg =>
    rw [if_neg fun e => hll e.1] at hst
    simp [hox, t2, t14, e3, e4 C GC, t1, t13, e5, e6 _ GD, e7, e8 _ GD]
    simp [hll, t14, add_in (x := j) (y := 1) (by omega) (by omega)]
    exact ⟨⟨gC.trans gD, t1, t2, t10, t11, t12, t13, j + 1, by omega, by omega, G', M', ⟨vs', mo.ge gD⟩, hM1, hM2, by rw [← hst]; exact hW, hG', by omega⟩, by omega⟩
  simp [hox, t2, t14, e3, e4 C GC, t1, t13, e5, e6 _ GD, e7, e8 _ GD]
  simp [hll]
  refine fcall_fun (has_spec (iG.ge gD)) ?_
  rintro _ D1 ⟨rfl, eD⟩
  rw [eD]
  by_cases hin : os[j] ∈ G'
  · rw [if_neg fun e => e.2 hin] at hst
    simp [hll, hin, t1, t13, t14, add_in (x := j) (y := 1) (by omega) (by omega)]
    exact ⟨⟨gC.trans gD, t2, t10, t11, t12, j + 1, by omega, by omega, G', M', ⟨vs', mo.ge gD⟩, hM1, hM2, by rw [← hst]; exact hW, hG', by omega⟩, by omega⟩
  rw [if_pos ⟨hll, hin⟩] at hst
  obtain ⟨cc, c1, c2⟩ := mo.out
  have hvl := mo.len
  have hnC := mo.next
  have hiv : i < vs'.length := by omega
  have i5 : islV 1 (.slice (some ⟨A.next, 0, none⟩) T.length T.length) (.int .i64 (i : Int)) = some (.pointer (some ⟨A.next, i, none⟩)) := by
    rw [islV_in (by omega) (by omega)]; simp
  have l5 : ∀ B' : Heap, B'.get A.next = .cells true vs' cc → ldA (B'.get A.next) false 1 i = some vs'[i] := fun B' e => by
    rw [e, ldA_one]; simp [hiv]
  simp [hll, hin, t11, t12, i5, l5 C c1]
  have gX : Ge C (({ get := C.get, next := C.next + 15 } : Heap).new (.cells true [.int .i64 os[j]] 1)) := gD.trans (Ge.new _ _)
  have nX : (({ get := C.get, next := C.next + 15 } : Heap).new (.cells true [.int .i64 os[j]] 1)).next = C.next + 16 := rfl
  have xX : (({ get := C.get, next := C.next + 15 } : Heap).new (.cells true [.int .i64 os[j]] 1)).get (C.next + 15) = .cells true [.int .i64 os[j]] 1 := by simp
  generalize (({ get := C.get, next := C.next + 15 } : Heap).new (.cells true [.int .i64 os[j]] 1)) = X at *
  have moX := mo.ge gX
  refine fapp_own (moX.row i hiv) (slCells_new xX) rfl (by rw [List.length_map]; omega) (by omega) (by omega) (by omega) (by omega) ?_
  rintro w B o1 s1 n1 k1
  have gB : Ge A B := (moX.row i hiv).geApp (by omega) (gC.trans gX) (by omega) (by omega) k1
  obtain ⟨cc2, d1, moB⟩ := moX.grow (o := os[j]) hiv (by rw [List.map_append]; exact o1) s1 (by omega) (by omega) k1
  simp [i5, d1, st_cells hiv (own_cells o1) o1.one]
  generalize hS : B.set A.next (.cells true (vs'.set i w) cc2) = S at *
  have gS : Ge A S := by
    rw [← hS]
    exact ⟨by simpa using gB.next, fun n hn => by simp [show n ≠ A.next by omega]; exact gB.get n hn⟩
  have hnS := moB.next
  have gY := Ge.new S (.cells true [.int .i64 os[j]] 1)
  have nY : (S.new (.cells true [.int .i64 os[j]] 1)).next = S.next + 1 := rfl
  have hSB : S.next = B.next := by rw [← hS]; rfl
  have xY : (S.new (.cells true [.int .i64 os[j]] 1)).get B.next = .cells true [.int .i64 os[j]] 1 := by rw [← hSB]; simp
  have moY := moB.ge gY
  refine fapp_own moY.own (slCells_new xY) rfl (by rw [List.length_map, hG', List.length_append]; omega) (by omega) (by omega) (by omega) (by omega) ?_
  rintro gv E o2 s2 n2 k2
  have gE : Ge A E := moY.own.geApp (by omega) (gS.trans gY) (by omega) (by omega) k2
  have m2 := moY.gone (o := os[j]) (by rw [List.map_append]; exact o2) s2 (by omega) (by omega) k2
  simp [t12, t14, add_in (x := j) (y := 1) (by omega) (by omega)]
  refine ⟨⟨gE, t1, t2, t10, t11, t13, j + 1, by omega, by omega, G' ++ [os[j]], updF M' i (M' i ++ [os[j]]), ⟨_, m2⟩, fun k hk => ?_, fun k hk => ?_, ?_, ?_, ?_⟩, by omega⟩
  · simp [updF, show k ≠ i by omega]; exact hM1 k hk
  · simp [updF, show k ≠ i by omega]; exact hM2 k hk
  · rw [← hW, hst]; simp [updF]
  · simp [updF, hG']
  · simp [updF]; omega

end Go.Proofs.Ytfijnkhiojejfaa


namespace Go.Proofs.Ytfijnkhiojejfaa
open Go Go.Ab

theorem nodup_inj {os : List Int} (hn : os.Nodup) {i j : Nat} (hi : i < os.length) (hj : j < os.length) (e : os[i] = os[j]) : i = j := by
  have h := List.pairwise_iff_getElem.1 (List.nodup_iff_pairwise_ne.1 hn)
  rcases Nat.lt_trichotomy i j with l | l | l
  · exact absurd e (h i j hi hj l)
  · exact l
  · exact absurd e.symm (h j i hj hi l)

theorem placeTo_at {os : List Int} (hn : os.Nodup) (h0 : ∀ x ∈ os, 0 ≤ x) : ∀ n, n ≤ os.length → ∀ i (h : i < os.length), i < n → placeTo os n os[i].toNat = i
  | 0, _, i, h, hi => by omega
  | n + 1, hle, i, h, hi => by
    simp only [placeTo]
    rw [List.getElem?_eq_getElem (by omega)]
    have hi0 := h0 _ (List.getElem_mem h)
    by_cases e : n = i
    · subst e; rw [if_pos (by simp; omega)]
    · rw [if_neg, placeTo_at hn h0 n (by omega) i h (by omega)]
      intro e2
      simp only [Option.some.injEq] at e2
      have : os[n] = os[i] := by omega
      exact e (nodup_inj hn _ _ this)

theorem take_until {os : List Int} (hn : os.Nodup) {i j : Nat} (hi : i < os.length) (hj : j < os.length) : os[i] ∈ (os.takeWhile fun y => decide (y ≠ os[j])) ↔ i < j := by
  induction os generalizing i j with
  | nil => simp at hi
  | cons o r ih =>
    have hn' := List.nodup_cons.1 hn
    match i, j with
    | 0, 0 => simp
    | 0, j + 1 =>
      simp only [List.getElem_cons_zero, List.getElem_cons_succ]
      rw [List.takeWhile_cons, if_pos]
      · simp
      · simp; intro e; exact hn'.1 (e ▸ List.getElem_mem (by simpa using hj))
    | i + 1, 0 => simp
    | i + 1, j + 1 =>
      simp only [List.getElem_cons_succ]
      have h1 : i < r.length := by simpa using hi
      have h2 : j < r.length := by simpa using hj
      rw [List.takeWhile_cons, if_pos]
      · rw [List.mem_cons, ih hn'.2 h1 h2]
        constructor
        · rintro (e | e)
          · exact absurd (e ▸ List.getElem_mem h1) hn'.1
          · omega
        · intro h; exact .inr (by omega)
      · simp; intro e; exact hn'.1 (e ▸ List.getElem_mem h2)

theorem order_all {Y : Yd} {os : List Int} (hl : os.length = Y.buses.length) (hb : ∀ x ∈ os, isBusB Y x = true) (hn : os.Nodup) {c : Int} (hc : isBusB Y c = true) : c ∈ os := by
  apply Classical.byContradiction
  intro h
  have h1 : (c :: os).Nodup := List.nodup_cons.2 ⟨h, hn⟩
  have h2 : (c :: os) ⊆ busesL Y := fun x hx => by
    rcases List.mem_cons.1 hx with e | e
    · exact busesL_mem.2 (e ▸ hc)
    · exact busesL_mem.2 (hb x e)
  have := List.Nodup.length_le_of_subset h1 h2
  simp [busesL] at this; omega

end Go.Proofs.Ytfijnkhiojejfaa


namespace Go.Proofs.Ytfijnkhiojejfaa
open Go Go.Ab

def walkP (bef : Int → Int → Bool) (x : Int) (g : List Int) : List Int → List Int
  | [] => []
  | o :: r => if o ∉ g ∧ bef o x = true then o :: walkP bef x (g ++ [o]) r else walkP bef x g r
theorem walkP_drop {bef : Int → Int → Bool} {x : Int} {g os : List Int} {i : Nat} (hi : i < os.length) : walkP bef x g (os.drop i) = if os[i] ∉ g ∧ bef os[i] x = true then os[i] :: walkP bef x (g ++ [os[i]]) (os.drop (i + 1)) else walkP bef x g (os.drop (i + 1)) := by
  rw [List.drop_eq_getElem_cons hi]; rfl
theorem walkP_none {bef : Int → Int → Bool} {x : Int} : ∀ (r g : List Int), (∀ o ∈ r, bef o x = false) → walkP bef x g r = []
  | [], _, _ => rfl
  | o :: r, g, h => by
    rw [walkP, if_neg (by rw [h o (by simp)]; simp)]
    exact walkP_none r g fun y hy => h y (by simp [hy])
theorem walkP_eq {bef : Int → Int → Bool} {ls : Int → Int} {x : Int} : ∀ (r g : List Int), r.Nodup → (∀ o ∈ r, bef o x = true ↔ ls o = ls x ∧ o ∈ r.takeWhile fun y => decide (y ≠ x)) → walkP bef x g r = walkF ls x g r
  | [], _, _, _ => rfl
  | o :: r, g, hn, h => by
    have hn' := List.nodup_cons.1 hn
    by_cases ho : o = x
    · have : walkF ls x g (o :: r) = [] := by rw [walkF, if_pos ho]
      rw [this]
      refine walkP_none _ _ fun y hy => ?_
      have h1 := h y hy
      rw [List.takeWhile_cons, if_neg (by simp [ho])] at h1
      cases hb : bef y x
      · rfl
      · have := (h1.1 hb).2; simp at this
    · have ht : ((o :: r).takeWhile fun y => decide (y ≠ x)) = o :: r.takeWhile fun y => decide (y ≠ x) := by
        rw [List.takeWhile_cons, if_pos (by simp [ho])]
      rw [ht] at h
      have hr : ∀ y ∈ r, bef y x = true ↔ ls y = ls x ∧ y ∈ r.takeWhile fun z => decide (z ≠ x) := fun y hy => by
        rw [h y (by simp [hy]), List.mem_cons]
        constructor
        · rintro ⟨a, e | e⟩
          · exact absurd (e ▸ hy) hn'.1
          · exact ⟨a, e⟩
        · rintro ⟨a, e⟩; exact ⟨a, .inr e⟩
      have h1 := h o (by simp)
      rw [walkP, walkF, if_neg ho, walkP_eq r _ hn'.2 hr, walkP_eq r _ hn'.2 hr]
      by_cases hc : ls o = ls x ∧ o ∉ g
      · rw [if_pos hc, if_pos ⟨hc.2, h1.2 ⟨hc.1, by simp⟩⟩]
      · rw [if_neg hc, if_neg fun e => hc ⟨(h1.1 e.2).1, e.1⟩]

theorem walk_same {Y : Yd} {ls os : List Int} (hl : ls.length = Y.buses.length) (ho : os.length = Y.buses.length) (hb : ∀ x ∈ os, isBusB Y x = true) (hn : os.Nodup) {x : Int} (hx : isBusB Y x = true) (g : List Int) :
    walkP (hindB (standsOf ls os)) x g os = walkF (laneF ls) x g os := by
  refine walkP_eq os g hn fun o ho' => ?_
  have hob := hb o ho'
  obtain ⟨i, hi, ei⟩ := List.getElem_of_mem ho'
  obtain ⟨j, hj, ej⟩ := List.getElem_of_mem (order_all ho hb hn hx)
  obtain ⟨c0, c1, _⟩ := isBus_at hob
  obtain ⟨o0, o1, _⟩ := isBus_at hx
  have h0 : ∀ x ∈ os, 0 ≤ x := fun x hx => (isBus_at (hb x hx)).1
  have p1 := placeTo_at hn h0 os.length (Nat.le_refl _) i hi hi
  have p2 := placeTo_at hn h0 os.length (Nat.le_refl _) j hj hj
  rw [ei] at p1
  rw [ej] at p2
  have hiff := take_until hn hi hj
  rw [ei, ej] at hiff
  have s1 : standsOf ls os o.toNat = (laneF ls o, (i : Int)) := by
    simp only [standsOf, standF, laneF]; rw [if_pos (by omega), p1]
  have s2 : standsOf ls os x.toNat = (laneF ls x, (j : Int)) := by
    simp only [standsOf, standF, laneF]; rw [if_pos (by omega), p2]
  unfold hindB
  rw [s1, s2, hiff]
  simp [befB]

theorem inF_put (G : List Int) {x : Int} (h0 : 0 ≤ x) : updF (inF G) x.toNat true = inF (G ++ [x]) := by
  funext k
  simp only [updF, inF]
  by_cases e : k = x.toNat
  · rw [if_pos e]; symm; rw [decide_eq_true_eq]; simp; exact .inr (by omega)
  · rw [if_neg e, Bool.eq_iff_iff]
    simp only [decide_eq_true_eq, List.mem_append, List.mem_singleton]
    constructor
    · exact .inl
    · rintro (h | h)
      · exact h
      · exact absurd (by omega) e
theorem inF_nil : inF [] = fun _ => false := by funext k; simp [inF]

def ToAt (B : Heap) (e L : Nat) (tv : Value) (M : List (List Int)) : Prop :=
  ∃ vs, OwnSl B e tv vs ∧ (∀ m, slName tv = some m → m = e ∨ L ≤ m) ∧ vs.length = M.length ∧ ∀ k (h : k < M.length), ∃ u, vs[k]? = some u ∧ OwnSl B e u (M[k].map (.int .i64)) ∧ ∀ m, slName u = some m → L ≤ m ∧ slName tv ≠ some m
theorem ToAt.keep {A B : Heap} {e L : Nat} {tv : Value} {M : List (List Int)} (h : ToAt A e L tv M) (hn : A.next ≤ B.next) (hk : ∀ m, m < A.next → (m = e ∨ L ≤ m) → B.get m = A.get m) : ToAt B e L tv M := by
  obtain ⟨vs, h1, h2, h3, h4⟩ := h
  refine ⟨vs, h1.keep hn fun m e => hk m (h1.names e).2 (h2 m e), h2, h3, fun k hk2 => ?_⟩
  obtain ⟨u, k1, k2, k3⟩ := h4 k hk2
  exact ⟨u, k1, k2.keep hn fun m e => hk m (k2.names e).2 (.inr (k3 m e).1), k3⟩
theorem ToAt.ge {A B : Heap} {e L : Nat} {tv : Value} {M : List (List Int)} (h : ToAt A e L tv M) (g : Ge A B) : ToAt B e L tv M := h.keep g.next fun m h _ => g.get m h
theorem ToAt.push {A B : Heap} {e L n : Nat} {tv w u : Value} {vs : List Value} {M : List (List Int)} {x : List Int} (_h1 : OwnSl A e tv vs) (h3 : vs.length = M.length) (h4 : ∀ k (h : k < M.length), ∃ u, vs[k]? = some u ∧ OwnSl A e u (M[k].map (.int .i64)) ∧ ∀ m, slName u = some m → L ≤ m ∧ slName tv ≠ some m)
    (hu : OwnSl A e u (x.map (.int .i64))) (hs : ∀ m, slName u = some m → L ≤ m ∧ slName tv ≠ some m) (own : OwnSl B e w (vs ++ [u])) (s : slName w = some n) (hL : L ≤ n) (hn : A.next ≤ n) (nx : A.next ≤ B.next) (k : ∀ m, m ≠ n → slName tv ≠ some m → B.get m = A.get m) : ToAt B e L w (M ++ [x]) := by
  have keepR : ∀ (u : Value) cs, OwnSl A e u cs → (∀ m, slName u = some m → L ≤ m ∧ slName tv ≠ some m) → OwnSl B e u cs ∧ ∀ m, slName u = some m → L ≤ m ∧ slName w ≠ some m := fun u cs hu hs =>
    ⟨hu.keep nx fun m e => k m (by have := (hu.names e).2; omega) (hs m e).2, fun m e => ⟨(hs m e).1, by rw [s]; intro e2; cases e2; have := (hu.names e).2; omega⟩⟩
  refine ⟨vs ++ [u], own, fun m e => by rw [s] at e; cases e; exact .inr hL, by simp [h3], fun j hj => ?_⟩
  by_cases e : j < M.length
  · obtain ⟨u', k1, k2, k3⟩ := h4 j e
    obtain ⟨k4, k5⟩ := keepR u' _ k2 k3
    refine ⟨u', by rw [List.getElem?_append_left (by omega)]; exact k1, ?_, k5⟩
    rw [List.getElem_append_left e]; exact k4
  · have : j = M.length := by simp at hj; omega
    subst this
    obtain ⟨k4, k5⟩ := keepR u _ hu hs
    refine ⟨u, by rw [List.getElem?_append_right (by omega)]; simp [h3], ?_, k5⟩
    simpa using k4
theorem ToAt.rows {B : Heap} {e L : Nat} {tv : Value} {M : List (List Int)} (h : ToAt B e L tv M) (hM : M.length < 2 ^ 62) (hl : ∀ x ∈ M, x.length < 2 ^ 62) : RowsAt B tv M := by
  obtain ⟨vs, h1, h2, h3, h4⟩ := h
  refine ⟨vs, h3 ▸ h1.slr, by omega, fun k hk => ?_⟩
  obtain ⟨u, k1, k2, k3⟩ := h4 k hk
  exact ⟨u, k1, own_ints k2 (by have := hl _ (List.getElem_mem hk); omega)⟩

end Go.Proofs.Ytfijnkhiojejfaa


namespace Go.Proofs.Ytfijnkhiojejfaa
open Go Go.Ab

structure MoI (A0 : Heap) (n5 n6 e L : Nat) (r : ALoop) (ls os T : List Int) (i : Nat) (B : Heap) : Prop where
  next : A0.next + 2 ≤ L ∧ L ≤ B.next
  keep : ∀ n, n < A0.next → n ≠ n5 → n ≠ n6 → n ≠ e → B.get n = A0.get n
  dfr : B.get A0.next = .dfr
  loop : B.get (A0.next + 1) = .loop r
  told : ∃ tv M G, B.get n5 = .cells true [tv] 1 ∧ ToAt B e L tv M ∧ B.get n6 = .cells true (dnC (inF G)) 8 ∧ M ++ mornF (laneF ls) os G (T.drop i) = mornF (laneF ls) os [] T ∧ M.length ≤ i
theorem MoI.ge {A0 A B : Heap} {n5 n6 e L i : Nat} {r : ALoop} {ls os T : List Int} (h : MoI A0 n5 n6 e L r ls os T i A) (g : Ge A B) (h5 : n5 < A0.next) (h6 : n6 < A0.next) : MoI A0 n5 n6 e L r ls os T i B := by
  obtain ⟨l1, l2⟩ := h.next
  obtain ⟨tv, M, G, a1, a2, a3, a4⟩ := h.told
  exact ⟨⟨l1, Nat.le_trans l2 g.next⟩, fun n h1 h2 h3 h4 => (g.get n (by omega)).trans (h.keep n h1 h2 h3 h4), g.got (by omega) h.dfr, g.got (by omega) h.loop, tv, M, G, g.got (by omega) a1, a2.ge g, g.got (by omega) a3, a4⟩

set_option maxHeartbeats 2000000 in
theorem mo_round {Y : Yd} {r b u : Value} {ls os : List Int} {d : Nat → Bool} {H A0 A : Heap} {n2 n3 n5 n6 e L dn i c2 c3 : Nat} {w2 w3 : Bool} {R : ALoop} {t : Nat → Value} {fn : FuncId}
    (hR : R = { state := .ready, pending := none, fn, t, N := 51, params := #[14], assign := c62x0, body := c62y0, defers := dn })
    (hg : Ge H A0) (hH : H.next ≤ n5 ∧ H.next ≤ n6 ∧ H.next ≤ e) (hu : IntsAt H u os) (h2 : t 2 = .pointer (some ⟨n2, 0, none⟩)) (h3 : t 3 = .pointer (some ⟨n3, 0, none⟩)) (h5 : t 5 = .pointer (some ⟨n5, 0, none⟩)) (h6 : t 6 = .pointer (some ⟨n6, 0, none⟩)) (l2 : n2 < A0.next) (l3 : n3 < A0.next) (l5 : n5 < A0.next) (l6 : n6 < A0.next) (le : e < A0.next)
    (d2 : n2 ≠ n5 ∧ n2 ≠ n6 ∧ n2 ≠ e) (d3 : n3 ≠ n5 ∧ n3 ≠ n6 ∧ n3 ≠ e) (d5 : n5 ≠ n6 ∧ n5 ≠ e ∧ n6 ≠ e)
    (k2 : A0.get n2 = .cells w2 (nightC Y r b (standsOf ls os) d) c2) (k3 : A0.get n3 = .cells w3 [u] c3) (h8 : Y.buses.length ≤ 8)
    (hls : ls.length = Y.buses.length) (ho : os.length = Y.buses.length) (hob : ∀ x ∈ os, isBusB Y x = true) (hn : os.Nodup)
    (hI : MoI A0 n5 n6 e L R ls os (goL Y d) i A) (hi : i < (goL Y d).length) :
    ACall Try.prog (.func (.yield (A0.next + 1)) #[] #[]) [.int .i64 (goL Y d)[i]] A (fun v B => v = .bool true ∧ A.next ≤ B.next ∧ (∀ n, A0.next + 2 ≤ n → n < L → B.get n = A.get n) ∧ MoI A0 n5 n6 e L R ls os (goL Y d) (i + 1) B) := by
  obtain ⟨hL1, hL2⟩ := hI.next
  have q2 := (hI.keep n2 l2 d2.1 d2.2.1 d2.2.2).trans k2
  have q3 := (hI.keep n3 l3 d3.1 d3.2.1 d3.2.2).trans k3
  have e2 : n2 ≠ A0.next + 1 := by omega
  have e3 : n3 ≠ A0.next + 1 := by omega
  have e5 : n5 ≠ A0.next + 1 := by omega
  have e6 : n6 ≠ A0.next + 1 := by omega
  obtain ⟨tv, M, G, m5, mT, m6, mE, mL⟩ := hI.told
  have hst := mornF_drop (ls := laneF ls) (os := os) (g := G) hi
  have hgb : isBusB Y (goL Y d)[i] = true := (goL_mem.1 (List.getElem_mem hi)).1
  obtain ⟨y0, y1, _⟩ := isBus_at hgb
  have hws := walk_same hls ho hob hn hgb G
  generalize hy : (goL Y d)[i] = x at hst hgb y0 y1 hws
  have gHA : ∀ n, n < H.next → A.get n = H.get n := fun n h1 => by
    have := hg.next
    rw [hI.keep n (by omega) (by omega) (by omega) (by omega)]; exact hg.get n h1
  refine ACall.of_yield (P := Try.prog) (D := vdrawD Try.prog) (CD := cdraw Try.prog 51) hI.loop (by rw [hR]; rfl) (by rw [hR]; intro p hp; simp at hp; subst hp; simp) (by rw [hR]; exact ok62x0) (by rw [hR]; exact ok62y0) (by rw [hR]; exact draw_sound hm) ?_
  subst hR
  simp [a62x0, tround, hI.loop]
  have e3' : n3 ≠ A.next := by omega
  simp [a62y0, h3, q3, e3, e3', hu.lenV]
  generalize hX : (Heap.new _ _ : Heap) = X
  have nX : X.next = A.next + 1 := by rw [← hX]; rfl
  have aX : X.get A.next = .cells true [] 0 := by rw [← hX]; simp
  have kX : ∀ n, n < A.next → n ≠ A0.next + 1 → X.get n = A.get n := fun n a1 a2 => by
    rw [← hX]; simp [a2, show n ≠ A.next by omega]
  have lX : X.get (A0.next + 1) = .loop { state := .busy, pending := none, fn, t, N := 51, params := #[14], assign := c62x0, body := c62y0, defers := dn } := by
    rw [← hX]; simp [show A0.next + 1 ≠ A.next by omega]
  clear hX
  have iarI : ∀ (n o w : Nat) (y : Int), 0 ≤ y → y < 8 → iarV 8 w (.pointer (some ⟨n, o, none⟩)) (.int .i64 y) = some (.pointer (some ⟨n, o + y.toNat * w, none⟩)) := fun n o w y a1 a2 => by
    rw [iarV_in a1 a2]
  refine floop_intro (fun z => z.d = [] ∧ z.t 2 = .pointer (some ⟨n2, 0, none⟩) ∧ z.t 5 = .pointer (some ⟨n5, 0, none⟩) ∧ z.t 6 = .pointer (some ⟨n6, 0, none⟩) ∧ z.t 7 = .int .i64 x ∧ z.t 16 = u ∧ z.t 17 = .int .i64 os.length ∧ A.next < z.H.next ∧ (∀ n, n < A.next → n ≠ A0.next + 1 → n ≠ n6 → z.H.get n = A.get n) ∧ z.H.get (A0.next + 1) = X.get (A0.next + 1) ∧
    ∃ j : Nat, j ≤ os.length ∧ z.t 18 = .int .i64 j ∧ ∃ w, OwnSl z.H A.next (z.t 8) (w.map (.int .i64)) ∧ z.H.get n6 = .cells true (dnC (inF (G ++ w))) 8 ∧ w ++ walkP (hindB (standsOf ls os)) x (G ++ w) (os.drop j) = walkP (hindB (standsOf ls os)) x G os ∧ w.length ≤ j) (fun z => os.length - (intOf (z.t 18)).toNat) ?_ ?_
  · refine ⟨rfl, by simp [h2], by simp [h5], by simp [h6], by simp, by simp, by simp, by show A.next < X.next; omega, fun n a1 a2 a3 => kX n a1 a2, rfl, 0, by simp, by simp, [], .inr ⟨A.next, 0, 0, by simp, Nat.le_refl _, by show A.next < X.next; omega, aX, by simp, by simp⟩, ?_, by simp, by simp⟩
    rw [List.append_nil]
    exact (kX n6 (by omega) e6).trans m6
  rintro ⟨t', _, C⟩ ⟨rfl, t2, t5, t6, t7, t16, t17, nC, kC, lC, j, hj, t18, w, own, cD, hW, hwl⟩
  dsimp only at t2 t5 t6 t7 t16 t17 nC kC lC t18 own cD
  have gC : Ge H C := ⟨by have := hg.next; omega, fun n a1 => by have := hg.next; rw [kC n (by omega) (by omega) (by omega)]; exact gHA n a1⟩
  simp [t18, t17]
  by_cases hjl : j < os.length
  case neg =>
    rw [List.drop_eq_nil_of_le (by omega)] at hW
    simp [walkP] at hW
    simp [hjl, t6, t7, iarI n6 0 1 _ y0 (by omega), cD]
    rw [if_pos (by omega), wrL_one _ _ _ (by rw [dnC_len]; omega), dnC_set _ _ _ (by omega), inF_put _ y0]
    have c5 : C.get n5 = .cells true [tv] 1 := (kC n5 (by omega) e5 (by omega)).trans m5
    have h8c : (t' 8).cells = #[t' 8] := by rcases own with ⟨h, _⟩ | ⟨_, _, _, h, _⟩ <;> (rw [h]; rfl)
    have h81 := own.one
    simp [t5, d5.1, c5, h8c]
    generalize hZ : (Heap.new _ _ : Heap) = Z
    have nZ : Z.next = C.next + 1 := by rw [← hZ]; rfl
    have aZ : Z.get C.next = .cells true [t' 8] 1 := by rw [← hZ]; simp
    have kZ : ∀ n, n < C.next → n ≠ n6 → Z.get n = C.get n := fun n a1 a2 => by
      rw [← hZ]; simp [a2, show n ≠ C.next by omega]
    have z6 : Z.get n6 = .cells true (dnC (inF (G ++ (w ++ [x])))) 8 := by
      rw [← hZ]; simp [show n6 ≠ C.next by omega]
    clear hZ
    obtain ⟨vs, v1, v2, v3, v4⟩ := mT
    have kZA : ∀ n, n < A.next → n ≠ A0.next + 1 → n ≠ n6 → Z.get n = A.get n := fun n a1 a2 a3 => (kZ n (by omega) a3).trans (kC n a1 a2 a3)
    have hnm : ∀ m, m < A.next → (m = e ∨ L ≤ m) → m ≠ A0.next + 1 ∧ m ≠ n6 := fun m a1 a2 => by omega
    have v1' : OwnSl Z e tv vs := v1.keep (by omega) fun m a => kZA m (v1.names a).2 (hnm m (v1.names a).2 (v2 m a)).1 (hnm m (v1.names a).2 (v2 m a)).2
    have v4' : ∀ k (h : k < M.length), ∃ u, vs[k]? = some u ∧ OwnSl Z e u (M[k].map (.int .i64)) ∧ ∀ m, slName u = some m → L ≤ m ∧ slName tv ≠ some m := fun k hk => by
      obtain ⟨u, r1, r2, r3⟩ := v4 k hk
      exact ⟨u, r1, r2.keep (by omega) fun m a => kZA m (r2.names a).2 (hnm m (r2.names a).2 (.inr (r3 m a).1)).1 (hnm m (r2.names a).2 (.inr (r3 m a).1)).2, r3⟩
    have own' : OwnSl Z e (t' 8) (w.map (.int .i64)) := (own.keep (by omega) fun m a => kZ m (own.names a).2 (by have := (own.names a).1; omega)).lower (by omega)
    refine fapp_own v1' (slCells_new aZ) h81 (by rw [v3]; have := goL_len Y d; omega) (by omega) (by omega) (by omega) (by omega) ?_
    rintro tw E o1 s1 n1 k1
    have pT := ToAt.push (L := L) v1' v3 v4' own' (fun m a => ⟨by have := (own.names a).1; omega, fun a2 => by have := (own.names a).1; have := (v1.names a2).2; omega⟩) o1 s1 (by omega) (by omega) (by omega) k1
    have tn : ∀ m, m ≠ e → m < L → slName tv ≠ some m := fun m a1 a2 a => by rcases v2 m a with h | h <;> omega
    have kE : ∀ n, n < A.next → n ≠ e → n < L → E.get n = Z.get n := fun n a1 a2 a3 => k1 n (by omega) (tn n a2 a3)
    have eE5 : E.get n5 = .cells true [tv] 1 := (kE n5 (by omega) d5.2.1 (by omega)).trans ((kZ n5 (by omega) d5.1).trans c5)
    have twc : tw.cells = #[tw] := by rcases o1 with ⟨h, _⟩ | ⟨_, _, _, h, _⟩ <;> (rw [h]; rfl)
    have eEl : E.get (A0.next + 1) = .loop { state := .busy, pending := none, fn, t, N := 51, params := #[14], assign := c62x0, body := c62y0, defers := dn } :=
      (kE _ (by omega) (by omega) (by omega)).trans ((kZ _ (by omega) (Ne.symm e6)).trans (lC.trans lX))
    simp [t5, eE5, twc, o1.one, eEl, Ne.symm e5]
    have hk : ∀ n, n < A.next → n ≠ e → n < L → n ≠ n5 → n ≠ n6 → n ≠ A0.next + 1 → E.get n = A.get n := fun n a1 a2 a3 _ a5 a6 => (kE n a1 a2 a3).trans (kZA n a1 a6 a5)
    have hww : w = walkF (laneF ls) x G os := hW.trans hws
    refine ⟨by omega, fun n a1 a2 => ?_, ⟨⟨hL1, by simp; omega⟩, fun n a1 a2 a3 a4 => ?_, ?_, by simp, tw, M ++ [w], G ++ w ++ [x], ?_, pT.keep (by simp) fun m a1 a2 => ?_, ?_, ?_, by simp; omega⟩⟩
    · have b1 : n ≠ A0.next + 1 := by omega
      have b2 : n ≠ n5 := by omega
      rw [if_neg b1, if_neg b2]
      exact hk n (by omega) (by omega) a2 b2 (by omega) b1
    · have b1 : n ≠ A0.next + 1 := by omega
      simp [b1, a2]
      rw [hk n (by omega) a4 (by omega) a2 a3 b1]
      exact hI.keep n a1 a2 a3 a4
    · have b1 : A0.next ≠ n5 := by omega
      simp [b1]
      rw [hk _ (by omega) (by omega) (by omega) b1 (by omega) (by omega)]
      exact hI.dfr
    · simp [e5]
    · have b1 : m ≠ A0.next + 1 := by omega
      have b2 : m ≠ n5 := by omega
      simp [b1, b2]
    · have b2 : n6 ≠ n5 := Ne.symm d5.1
      simp [e6, b2]
      rw [kE n6 (by omega) d5.2.2 (by omega), z6]
    · rw [← mE, hst, ← hww]; simp
  obtain ⟨p2, s3, s4⟩ := IntsAt.atAll hu hjl
  have hob' := hob _ (List.getElem_mem hjl)
  obtain ⟨z0, z1, _⟩ := isBus_at hob'
  have hsw := walkP_drop (bef := hindB (standsOf ls os)) (x := x) (g := G ++ w) hjl
  have c2' : C.get n2 = .cells w2 (nightC Y r b (standsOf ls os) d) c2 := (kC n2 (by omega) e2 (by omega)).trans q2
  have d1 := dnC_at (inF (G ++ w)) os[j].toNat (by omega)
  have dx : inF (G ++ w) os[j].toNat = decide (os[j] ∈ G ++ w) := by
    unfold inF; rw [show ((os[j].toNat : Nat) : Int) = os[j] by omega]
  have ld1 : ∀ c, ldA (.cells true (dnC (inF (G ++ w))) c) false 1 os[j].toNat = some (.bool (decide (os[j] ∈ G ++ w))) := fun c => by
    rw [ldA_one, d1, dx]
  simp [hjl, t16, t18, s3, s4 C gC, t6, iarI n6 0 1 _ z0 (by omega), cD, ld1]
  by_cases hin : os[j] ∈ G ++ w
  · rw [if_neg fun e => e.1 hin] at hsw
    simp at hin
    have hin' : (!decide (os[j] ∈ G) && !decide (os[j] ∈ w)) = false := by rcases hin with h | h <;> simp [h]
    simp [hin', t18, add_in (x := j) (y := 1) (by omega) (by omega)]
    exact ⟨⟨t2, t5, t6, t7, t16, t17, by omega, kC, lC, j + 1, by omega, by omega, w, own.ge ⟨by simp, fun _ _ => rfl⟩, cD, by rw [← hsw]; exact hW, by omega⟩, by omega⟩
  have hin2 := hin
  simp at hin2
  have hin' : (!decide (os[j] ∈ G) && !decide (os[j] ∈ w)) = true := by simpa using hin2
  simp [hin', t2, t7, iarI n2 3 2 _ z0 (by omega), iarI n2 3 2 _ y0 (by omega), c2', nightC_stand Y r b (standsOf ls os) d os[j].toNat (by omega), nightC_stand Y r b (standsOf ls os) d x.toNat (by omega)]
  refine fcall_fun (before_stand_spec (standsOf ls os os[j].toNat) (standsOf ls os x.toNat) _) ?_
  rintro _ D ⟨rfl, gD⟩
  have hb : befB (standsOf ls os os[j].toNat) (standsOf ls os x.toNat) = hindB (standsOf ls os) os[j] x := rfl
  rw [hb]
  have nD := gD.next
  simp at nD
  have gD' : Ge C D := ⟨by omega, fun n a1 => gD.get n (by simp; omega)⟩
  have kD : ∀ n, n < A.next → n ≠ A0.next + 1 → n ≠ n6 → D.get n = A.get n := fun n a1 a2 a3 => (gD'.get n (by omega)).trans (kC n a1 a2 a3)
  have lD : D.get (A0.next + 1) = X.get (A0.next + 1) := (gD'.get _ (by omega)).trans lC
  cases hh : hindB (standsOf ls os) os[j] x
  · rw [if_neg fun e => by rw [hh] at e; cases e.2] at hsw
    simp [hin', t18, add_in (x := j) (y := 1) (by omega) (by omega)]
    exact ⟨⟨t2, t5, t6, t7, t16, t17, by omega, kD, lD, j + 1, by omega, by omega, w, own.ge gD', (gD'.get n6 (by omega)).trans cD, by rw [← hsw]; exact hW, by omega⟩, by omega⟩
  rw [if_pos ⟨hin, hh⟩] at hsw
  simp [hin']
  have gX2 := Ge.new D (.cells true [.int .i64 os[j]] 1)
  have xX2 : (D.new (.cells true [.int .i64 os[j]] 1)).get D.next = .cells true [.int .i64 os[j]] 1 := by simp
  have oX := own.ge (gD'.trans gX2)
  refine fapp_own oX (slCells_new xX2) rfl (by rw [List.length_map]; omega) (by omega) (by simp) (by simp) (by simp; omega) ?_
  rintro w' E o1 s1 n1 k1
  have hnot : ∀ n, n < A.next → slName (t' 8) ≠ some n := fun n hn e => by have := (own.names e).1; omega
  have kE : ∀ n, n < A.next → E.get n = D.get n := fun n hn => by
    rw [k1 n (by omega) (hnot n hn)]; simp [show n ≠ D.next by omega]
  have cE : E.get n6 = .cells true (dnC (inF (G ++ w))) 8 := (kE n6 (by omega)).trans ((gD'.get n6 (by omega)).trans cD)
  simp [t6, iarI n6 0 1 _ z0 (by omega), cE]
  rw [if_pos (by omega), wrL_one _ _ _ (by rw [dnC_len]; omega), dnC_set _ _ _ (by omega), inF_put _ z0]
  simp [t18, add_in (x := j) (y := 1) (by omega) (by omega)]
  refine ⟨⟨t2, t5, t6, t7, t16, t17, by omega, fun n a1 a2 a3 => ?_, ?_, j + 1, by omega, by omega, w ++ [os[j]], ?_, ?_, ?_, ?_⟩, by omega⟩
  · rw [if_neg a3, kE n a1]; exact kD n a1 a2 a3
  · rw [if_neg (Ne.symm e6), kE _ (by omega)]; exact lD
  · rw [List.map_append]
    refine o1.keep (by simp) fun m a => ?_
    have : m ≠ n6 := by have := (o1.names a).1; omega
    simp [this]
  · rfl
  · rw [← hW, hsw]; simp
  · simp; omega

theorem mo_range {Y : Yd} {r b u : Value} {ls os : List Int} {d : Nat → Bool} {H A0 : Heap} {n2 n3 n5 n6 nb e c2 c3 cb : Nat} {w2 w3 wb : Bool} {t : Nat → Value} {Q : APost} (h : YardAt H r b Y)
    (hg : Ge H A0) (hH : H.next ≤ n5 ∧ H.next ≤ n6 ∧ H.next ≤ e) (hu : IntsAt H u os) (h2 : t 2 = .pointer (some ⟨n2, 0, none⟩)) (h3 : t 3 = .pointer (some ⟨n3, 0, none⟩)) (h5 : t 5 = .pointer (some ⟨n5, 0, none⟩)) (h6 : t 6 = .pointer (some ⟨n6, 0, none⟩)) (h13 : t 13 = .func (.func 95) #[] #[.pointer (some ⟨nb, 0, none⟩)])
    (l2 : n2 < A0.next) (l3 : n3 < A0.next) (l5 : n5 < A0.next) (l6 : n6 < A0.next) (le : e < A0.next) (lb : nb < A0.next)
    (d2 : n2 ≠ n5 ∧ n2 ≠ n6 ∧ n2 ≠ e) (d3 : n3 ≠ n5 ∧ n3 ≠ n6 ∧ n3 ≠ e) (d5 : n5 ≠ n6 ∧ n5 ≠ e ∧ n6 ≠ e) (db : nb ≠ n5 ∧ nb ≠ n6 ∧ nb ≠ e)
    (k2 : A0.get n2 = .cells w2 (nightC Y r b (standsOf ls os) d) c2) (k3 : A0.get n3 = .cells w3 [u] c3) (kb : A0.get nb = .cells wb (nightC Y r b (standsOf ls os) d) cb)
    (k5 : A0.get n5 = .cells true [.slice (some ⟨e, 0, none⟩) 0 0] 1) (k6 : A0.get n6 = .cells true (dnC fun _ => false) 8) (ke : A0.get e = .cells true [] 0) (h8 : Y.buses.length ≤ 8)
    (hls : ls.length = Y.buses.length) (ho : os.length = Y.buses.length) (hob : ∀ x ∈ os, isBusB Y x = true) (hn : os.Nodup)
    (hQ : ∀ B tv, A0.next + 2 ≤ B.next → (∀ n, n < H.next → B.get n = H.get n) → B.get A0.next = .dfr → B.get n5 = .cells true [tv] 1 → (∀ B', B'.next = B.next → (∀ n, n ≠ A0.next → B'.get n = B.get n) → RowsAt B' tv (mornF (laneF ls) os [] (goL Y d))) → Q .normal ⟨t, [A0.next], B⟩) :
    arange Try.prog 51 none (.t 13) #[14] c62x0 c62y0 Q ⟨t, [], A0⟩ := by
  refine ⟨95, #[], #[.pointer (some ⟨nb, 0, none⟩)], h13, fun fn => ?_⟩
  have ng := hg.next
  have gN : Ge A0 ((A0.new .dfr).new (.loop { state := .ready, pending := none, fn, t, N := 51, params := #[14], assign := c62x0, body := c62y0, defers := A0.next })) := (Ge.new _ _).newOf _
  refine (goOut_spec (Y := Y) (s := standsOf ls os) (d := d) (c := cb) (w := wb) (I := fun L i A => MoI A0 n5 n6 e L { state := .ready, pending := none, fn, t, N := 51, params := #[14], assign := c62x0, body := c62y0, defers := A0.next } ls os (goL Y d) i A)
    (F := fun _ => False) (h.ge (hg.trans gN)) h8 (gN.got lb kb) (by simp; omega) ?_ ?_ ?_ ?_).mono ?_
  · intro A gA
    have nA := gA.next
    simp at nA
    have gg := gN.trans gA
    refine ⟨⟨nA, Nat.le_refl _⟩, fun n h1 _ _ _ => gg.get n h1, gA.got (by simp) (by simp), gA.got (by simp) (by simp), _, [], [], gg.got l5 k5, ⟨[], .inr ⟨e, 0, 0, rfl, Nat.le_refl _, by omega, gg.got le ke, by simp, by simp⟩, fun m hm => by simp [slName] at hm; exact .inl hm.symm, rfl, fun k hk => by simp at hk⟩, ?_, by simp, by simp⟩
    rw [inF_nil]; exact gg.got l6 k6
  · rintro L i A B hI gg
    exact hI.ge gg l5 l6
  · rintro L i A hI
    exact (hI.keep nb lb db.1 db.2.1 db.2.2).trans kb
  · rintro L i A hi hL1 hL2 hI
    refine (mo_round rfl hg hH hu h2 h3 h5 h6 l2 l3 l5 l6 le d2 d3 d5 k2 k3 h8 hls ho hob hn hI hi).mono ?_
    rintro v B ⟨rfl, q1, q2, q3⟩
    exact ⟨true, rfl, q1, fun n a1 a2 => q2 n (by simpa using a1) a2, fun _ => q3, fun a => by cases a⟩
  · rintro v B (⟨L, _, _, hI⟩ | hF)
    · obtain ⟨hL1, hL2⟩ := hI.next
      obtain ⟨tv, M, G, m5, mT, m6, mE, mL⟩ := hI.told
      rw [List.drop_length] at mE
      simp [mornF] at mE
      have hl := goL_len Y d
      refine ⟨_, hI.loop, by simp, ?_⟩
      have e5 : n5 ≠ A0.next + 1 := by omega
      refine hQ _ tv (by simp; omega) (fun n a1 => ?_) ?_ ?_ fun B' b1 b2 => ?_
      · have e1 : n ≠ A0.next + 1 := by omega
        simp [e1]
        rw [hI.keep n (by omega) (by omega) (by omega) (by omega)]; exact hg.get n a1
      · simp [hI.dfr]
      · simp [e5, m5]
      · rw [← mE]
        refine (mT.keep (by rw [b1]; simp) fun m a1 a2 => ?_).rows (by omega) fun x hx => ?_
        · have e1 : m ≠ A0.next + 1 := by omega
          rw [b2 m (by omega)]
          simp [e1]
        · rw [mE] at hx
          have := mornF_row (goL Y d) [] x hx
          omega
    · exact absurd hF id

end Go.Proofs.Ytfijnkhiojejfaa


namespace Go.Proofs.Ytfijnkhiojejfaa
open Go Go.Ab

noncomputable def eo : EqO := fun _ _ _ => none
theorem eoOk : EqOk Try.prog eo := fun _ _ _ _ h => by cases h
theorem mixed : Try.prog.follows .mixedOrders = true := by kernel_rfl

end Go.Proofs.Ytfijnkhiojejfaa

