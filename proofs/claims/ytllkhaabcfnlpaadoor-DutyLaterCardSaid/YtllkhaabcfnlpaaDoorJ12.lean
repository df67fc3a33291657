/-
  Joined texts of a calculus of abstract memory, of the program's code in it, and of contracts.
-/
import Derived.Test.YtllkhaabcfnlpaaDoorJ6
import Derived.Test.YtllkhaabcfnlpaaDoorJ9
import Derived.Test.YtllkhaabcfnlpaaDoorJ10
import Derived.Test.YtllkhaabcfnlpaaDoorJ11
import Derived.WalkKit
import Derived.ProofKit
import Derived.OpenShut
import Derived.Deep.DeepHandedRow
import Derived.Test.YtllkhaabcfnlpaaDoorCards
import Derived.Test.YtllkhaabcfnlpaaDoorTie
/-
  A best plan of a planned day.
-/
namespace Go.Proofs.YtllkhaabcfnlpaaDoor
open Go Go.Ab

/-- The pay of a set of segments. -/
def payN (D : Dy) (d : Nat) : Int := payOf D (known0 D) (piecesL D d)
theorem payN_bounds {D : Dy} (hV : Valid D) (d : Nat) : 0 ≤ payN D d ∧ payN D d ≤ 100000 := by
  have h1 := law_bounds hV
  have hK : ∀ b n, (0 ≤ (kAt (known0 D) b n).1 ∧ (kAt (known0 D) b n).1 ≤ 3000) ∧ (0 ≤ (kAt (known0 D) b n).2 ∧ (kAt (known0 D) b n).2 ≤ 3000) := fun b n => by
    have hb := (known0_ok hV).bound
    unfold kAt
    cases hx : (known0 D)[b]? with
    | none => simp
    | some x =>
      cases hy : x[n]? with
      | none => simp [hy]
      | some y =>
        have := hb x (List.mem_of_getElem? hx) y (List.mem_of_getElem? hy)
        simpa [hy] using this
  unfold payN payOf spreadOf
  have h2 := hK ((piecesL D d)[(piecesL D d).length - 1]?.getD fz).e ((piecesL D d)[(piecesL D d).length - 1]?.getD fz).t
  have h3 := hK ((piecesL D d)[0]?.getD fz).b ((piecesL D d)[0]?.getD fz).f
  omega
theorem LL_ok {D : Dy} (hV : Valid D) : SetsOk (legalL D (known0 D)) := fun d hd => by
  have h := (passL_mem.1 hd).1
  have := (pow_segN hV).2
  omega
theorem LL_len {D : Dy} (hV : Valid D) : (legalL D (known0 D)).length ≤ 1024 := Nat.le_trans passL_length (pow_segN hV).2

/-- The slices of the duties that begin with each segment. -/
structure Begs (A : Heap) (lo : Nat) (L : List Nat) (f : Nat → Option Value) : Prop where
  own : ∀ i, i < 10 → OwnSl A lo ((f (2 ^ i)).getD (.slice none 0 0)) ((L.filter fun d => low d == i).map bitsV)
  apart : ∀ i j n, i < 10 → j < 10 → i ≠ j → slName ((f (2 ^ i)).getD (.slice none 0 0)) = some n → slName ((f (2 ^ j)).getD (.slice none 0 0)) ≠ some n

section
variable {A B : Heap} {lo : Nat} {L : List Nat} {f : Nat → Option Value}
theorem Begs.keep (h : Begs A lo L f) (hn : A.next ≤ B.next) (hk : ∀ n, lo ≤ n → n < A.next → (∃ b cs c, A.get n = .cells b cs c) → B.get n = A.get n) : Begs B lo L f := by
  refine ⟨fun i hi => (h.own i hi).keep hn fun n hs => ?_, h.apart⟩
  have hnm := (h.own i hi).names hs
  refine hk n hnm.1 hnm.2 ?_
  rcases h.own i hi with ⟨e, _⟩ | ⟨m, cap, c, e, h1, h2, h3, _⟩
  · rw [e] at hs; cases hs
  · rw [e] at hs; cases hs
    exact ⟨_, _, _, h3⟩
theorem pow_inj {i j : Nat} (h : 2 ^ i = 2 ^ j) : i = j := (Nat.pow_right_inj (by omega : 1 < 2)).1 h
theorem Begs.push {d n : Nat} {u : Value} (h : Begs A lo L f) (_hd : low d < 10) (hu : OwnSl B lo u (((L.filter fun x => low x == low d).map bitsV) ++ [bitsV d])) (hun : slName u = some n) (hn : A.next ≤ n) (hnext : A.next ≤ B.next)
    (hk : ∀ m, lo ≤ m → m < A.next → slName ((f (2 ^ low d)).getD (.slice none 0 0)) ≠ some m → B.get m = A.get m) : Begs B lo (L ++ [d]) (putF f (2 ^ low d) u) := by
  have hsame : ∀ j, j = low d → (putF f (2 ^ low d) u (2 ^ j)).getD (.slice none 0 0) = u := fun j e => by subst e; simp [putF]
  have hother : ∀ j, j ≠ low d → (putF f (2 ^ low d) u (2 ^ j)).getD (.slice none 0 0) = (f (2 ^ j)).getD (.slice none 0 0) := fun j e => by
    have : ¬ 2 ^ j = 2 ^ low d := fun e2 => e (pow_inj e2)
    simp [putF, this]
  refine ⟨fun j hj => ?_, fun i j m hi hj hij hm => ?_⟩
  · rw [List.filter_append, List.map_append]
    by_cases e : j = low d
    · rw [hsame j e, e]
      simpa using hu
    · rw [hother j e]
      have e2 : ¬ low d = j := fun e3 => e e3.symm
      simp only [List.filter_cons, List.filter_nil, beq_iff_eq, e2, if_false, List.map_nil, List.append_nil]
      exact (h.own j hj).keep hnext fun m hs => hk m ((h.own j hj).names hs).1 ((h.own j hj).names hs).2 fun e3 => h.apart j (low d) m hj _hd e hs e3
  · by_cases e1 : i = low d
    · rw [hsame i e1, hun] at hm
      have e2 : j ≠ low d := fun e2 => hij (e1.trans e2.symm)
      rw [hother j e2]
      cases hm
      intro hs
      have := ((h.own j hj).names hs).2
      omega
    · rw [hother i e1] at hm
      by_cases e2 : j = low d
      · rw [hsame j e2, hun]
        intro hs
        cases hs
        have := ((h.own i hi).names hm).2
        omega
      · rw [hother j e2]; exact h.apart i j m hi hj hij hm

/-- A slice stays if the cells stay. -/
theorem _root_.Go.Ab.SlR.same {sz len : Nat} {v : Value} {cs : List Value} (h : SlR A sz v len cs) (hn : A.next ≤ B.next) (hk : ∀ n, n < A.next → (∃ b cs c, A.get n = .cells b cs c) → B.get n = A.get n) : SlR B sz v len cs := by
  refine ⟨?_, fun a n c e => Nat.lt_of_lt_of_le (h.2 a n c e) hn⟩
  rcases h.cases with ⟨rfl | rfl, rfl, rfl⟩ | ⟨n, o, cap, rw, ds, c, rfl, hg, hr⟩
  · rfl
  · rfl
  · simp only [slCells, hk n (h.2 _ _ _ rfl) ⟨_, _, _, hg⟩, hg, hr, Option.map_some]
end

theorem best_spec {D : Dy} {b w s k q : Value} {H : Heap} (hP : PlanAt H b w s k q D (known0 D)) (hV : Valid D) (hG : Gl H) :
    AFun Tryd.prog 80 [planV D b w s k q] H (fun r B => ∃ v, r = .tuple #[v, .int .i64 (choose (legalL D (known0 D)) (payN D) (2 ^ segN D - 1)).pay, .bool (choose (legalL D (known0 D)) (payN D) (2 ^ segN D - 1)).ok] ∧ RowsAt B v ((planOf (legalL D (known0 D)) (payN D) (2 ^ segN D - 1)).map rowOf) ∧ Ge H B) := by
  refine AFun.mk ok80 hm (Nat.le_of_ble_eq_true rfl) ?_
  have hb := hP.day.blocks.one
  have hw := hP.day.walk.one
  have hs := hP.segs.one
  have hk := hP.known.one
  have hq : one q = true := SlR.one hP.quest
  obtain ⟨hp1, hp2⟩ := pow_segN hV
  simp [a80, r80, hb, hw, hs, hk, hq]
  generalize hH1 : Heap.set _ (H.next + 4) _ = H1
  have g1 : Ge H H1 := by
    rw [← hH1]
    exact (((((Ge.new _ _).newOf _).newOf _).setNew (by simp) _).newOf _).newOf _ |>.setNew (by simp) _
  have n1 : H1.next = H.next + 5 := by rw [← hH1]; simp
  have k0 : H1.get H.next = .cells true (planCells D b w s k q) 13 := by rw [← hH1]; simp
  have k1 : H1.get (H.next + 1) = .map [] 0 := by rw [← hH1]; simp
  have k2 : H1.get (H.next + 2) = .cells true [.map (some (H.next + 1))] 1 := by rw [← hH1]; simp
  have k3 : H1.get (H.next + 3) = .map [] 0 := by rw [← hH1]; simp
  have k4 : H1.get (H.next + 4) = .cells true [.map (some (H.next + 3))] 1 := by rw [← hH1]; simp
  clear hH1
  refine fcall_fun (legalDuties_spec (hP.ge g1) hV (known0_ok hV)) ?_
  rintro v H2 ⟨o2, g2⟩
  have n2 := g2.next
  replace k0 := g2.got (by omega) k0
  replace k1 := g2.got (by omega) k1
  replace k2 := g2.got (by omega) k2
  replace k3 := g2.got (by omega) k3
  replace k4 := g2.got (by omega) k4
  have G2 := g1.trans g2
  have hsl := o2.slr
  simp only [List.length_map] at hsl
  have hLok := LL_ok hV
  have hLlen := LL_len hV
  have hLd : ∀ d ∈ legalL D (known0 D), d < 2 ^ segN D := fun d hd => (passL_mem.1 hd).1.2
  simp [hsl.lenV]
  generalize hLL : legalL D (known0 D) = L at *
  refine floop_intro (fun z => z.d = [] ∧ H2.next ≤ z.H.next ∧ (∀ n, n < H2.next → n ≠ H.next + 1 → n ≠ H.next + 3 → z.H.get n = H2.get n) ∧ z.t 1 = .pointer (some ⟨H.next, 0, none⟩) ∧ z.t 5 = .pointer (some ⟨H.next + 2, 0, none⟩) ∧ z.t 6 = .pointer (some ⟨H.next + 4, 0, none⟩) ∧ z.t 15 = v ∧ z.t 16 = .int .i64 (L.length : Int) ∧
    ∃ (i : Nat) (fp fb : Nat → Option Value), i ≤ L.length ∧ z.t 17 = .int .i64 (i : Int) ∧ MapFn z.H (H.next + 1) fp ∧ (∀ d ∈ L.take i, fp d = some (.int .i64 (payN D d))) ∧ MapFn z.H (H.next + 3) fb ∧ Begs z.H H2.next (L.take i) fb) (fun z => L.length - (intOf (z.t 17)).toNat) ?_ ?_
  · refine ⟨rfl, Nat.le_refl _, fun n _ _ _ => rfl, by simp, by simp, by simp, by simp, by simp, 0, fun _ => none, fun _ => none, by omega, by simp, MapFn.empty k1, fun d hd => by simp at hd, MapFn.empty k3, ⟨fun i _ => .inl ⟨rfl, rfl⟩, fun i j n _ _ _ h => by cases h⟩⟩
  rintro ⟨t, _, A⟩ ⟨rfl, hn, hkeep, t1, t5, t6, t15, t16, i, fp, fb, hi, t17, hmp, hfp, hmb, hbg⟩
  dsimp only at hn hkeep t1 t5 t6 t15 t16 t17 hmp hmb hbg
  have a0 := (hkeep H.next (by omega) (by omega) (by omega)).trans k0
  have a2 := (hkeep (H.next + 2) (by omega) (by omega) (by omega)).trans k2
  have a4 := (hkeep (H.next + 4) (by omega) (by omega) (by omega)).trans k4
  have hslA : SlR A 1 v L.length (L.map bitsV) := hsl.same hn fun n h1 ⟨_, _, _, h2⟩ => hkeep n h1 (fun e => by rw [e, k1] at h2; cases h2) (fun e => by rw [e, k3] at h2; cases h2)
  have gA : Ge H A := ⟨by omega, fun n h => (hkeep n (by have := G2.next; omega) (by omega) (by omega)).trans (G2.get n h)⟩
  simp [t16, t17]
  refine fcond_intro (fun hc => ?_) (fun hc => ?_)
  case refine_2 =>
    have : i = L.length := by simp at hc; omega
    subst this
    rw [List.take_length] at hfp hbg
    have zp : MapFn (A.new (.map [] 0)) A.next fun _ => none := MapFn.empty (by simp)
    obtain ⟨x, hx1, hx2⟩ := zp.put 0 (chV ⟨0, 0, 0, true⟩)
    have hx3 : mupH Tryd.prog 102 (A.new (.map [] 0)) (.int .u64 0) (.agg #[.int .u64 0, .int .i64 0, .int .i64 0, .bool true]) (.map (some A.next)) = some ((A.new (.map [] 0)).set A.next x) := hx1
    simp [hx3, t5, t6]
    have y0 : H.next ≠ A.next := by omega
    have y1 : H.next ≠ A.next + 1 := by omega
    have y2 : H.next ≠ A.next + 2 := by omega
    simp [t1, a0, y0, y1, y2]
    have gX : ∀ (c : AObj), Ge A (({ get := ((((((A.new (AObj.map [] 0)).set A.next x).new (AObj.cells true [Value.map none] 1)).set (A.next + 1) (AObj.cells true [Value.map (some A.next)] 1)).new (AObj.cells true [Value.nilFunc] 1)).set (A.next + 2) (AObj.cells true [Value.func (Fn.func 104) #[] #[.pointer (some ⟨A.next + 1, 0, none⟩), .pointer (some ⟨H.next + 4, 0, none⟩), .pointer (some ⟨A.next + 2, 0, none⟩), .pointer (some ⟨H.next + 2, 0, none⟩)]] 1)).get, next := A.next + 9 } : Heap).set (A.next + 7) c) := fun c => by
      refine Ge.setNew (Ge.grow_le (by omega) ?_) (by omega) _
      exact (((((Ge.new A _).setNew (Nat.le_refl _) _).newOf _).setNew (by omega) _).newOf _).setNew (by omega) _
    refine fcall_fun (all_spec (hP.ge (gA.trans (gX _))) hV) ?_
    rintro _ C ⟨rfl, gC⟩
    have nC := gC.next
    simp at nC
    have gAC := (gX _).trans gC
    have ck := gC.got (n := A.next) (by simp) rfl
    have c1 := gC.got (n := A.next + 1) (by simp) rfl
    have c3 := gC.got (n := A.next + 2) (by simp) rfl
    have c7 := gC.got (n := A.next + 7) (by simp) rfl
    simp at ck c1 c3 c7
    clear gX gC
    have c0 := gAC.got (n := H.next) (by omega) a0
    have c2 := gAC.got (n := H.next + 2) (by omega) a2
    have c4 := gAC.got (n := H.next + 4) (by omega) a4
    have gHC := gA.trans gAC
    have hK : KnownC C L (payN D) A.next (putF (fun _ => none) 0 (chV ⟨0, 0, 0, true⟩)) := by
      refine ⟨hx2 _ ck, by simp [putF], fun k v hv => ?_⟩
      unfold putF at hv
      by_cases e : k = 0
      · subst e
        rw [choose_zero]
        rw [if_pos rfl] at hv
        exact ⟨(Option.some.inj hv).symm, fun h => absurd rfl h⟩
      · rw [if_neg e] at hv; cases hv
    have hS : Sit C L (payN D) (A.next + 1) (H.next + 4) (A.next + 2) (H.next + 2) A.next (H.next + 3) (H.next + 1) := by
      refine ⟨c1, c4, c3, c2, by omega, by omega, ⟨fp, hmp.ge gAC (by omega), hfp⟩, ⟨fb, hmb.ge gAC (by omega), fun j hj => ?_⟩⟩
      have := ((hbg.own j hj).ge gAC).slr
      simpa using this
    have hpay : ∀ d ∈ L, 0 ≤ payN D d ∧ payN D d ≤ 100000 := fun d _ => payN_bounds hV d
    simp [t1, c0, c3]
    refine fcall_intro ((ACall.of_fun (R := fun r B => r = chV (choose L (payN D) (2 ^ segN D - 1)) ∧ GeX A.next C B ∧ ∃ f', KnownC B L (payN D) A.next f' ∧ (∀ k, (putF (fun _ => none) 0 (chV ⟨0, 0, 0, true⟩) k).isSome = true → (f' k).isSome = true) ∧ (f' (2 ^ segN D - 1)).isSome = true) (by simpa using chooseF_spec hLok hpay hLlen (2 ^ segN D - 1) (by omega) C _ hS hK)).mono ?_)
    rintro _ E ⟨rfl, gE, f2, hK2, _, hsome⟩
    have nE := gE.next
    have e0 := (gE.get H.next (by omega) (by omega)).trans c0
    have e1 := (gE.get (A.next + 1) (by omega) (by omega)).trans c1
    have e7 := (gE.get (A.next + 7) (by omega) (by omega)).trans c7
    have gHE : Ge H E := ⟨by have := gHC.next; omega, fun n hn => (gE.get n (by have := gHC.next; omega) (by omega)).trans (gHC.get n hn)⟩
    generalize hch : choose L (payN D) (2 ^ segN D - 1) = c at *
    have y7 : H.next ≠ A.next + 7 := by omega
    have y7k : A.next ≠ A.next + 7 := by omega
    simp [t1, e7, e0, e1, y7]
    have gX : Ge H ({ get := (E.set (A.next + 7) (.cells true (chC c) 4)).get, next := E.next + 11 } : Heap) := Ge.grow_le (by have := gHE.next; omega) (gHE.setNew (by omega) _)
    refine fcall_fun (all_spec (hP.ge gX) hV) ?_
    rintro _ F ⟨rfl, gF⟩
    have nF := gF.next
    simp at nF
    have f0 := gF.got (n := H.next) (by simp; omega) (by simp [y7]; exact e0)
    have f1 := gF.got (n := A.next + 1) (by simp; omega) (by simp; exact e1)
    have f7 := gF.got (n := A.next + 7) (by simp; omega) rfl
    simp at f7
    have hK3 : KnownC F L (payN D) A.next f2 := hK2.keep ((gF.get A.next (by simp; omega)).trans (by simp [y7k]))
    have gHF := gX.trans gF
    simp [t1, f0, f1, f7]
    refine fcall_fun (plan_spec hLok (by omega) hK3 (by omega) hsome (hG.ge gHF)) ?_
    rintro r R ⟨hr, gR⟩
    have r7 := gR.got (n := A.next + 7) (by omega) f7
    simp [f7, r7]
    exact ⟨hr, gHF.trans gR⟩
  have h1 : i < L.length := by simpa using hc
  obtain ⟨p, e1, e2⟩ := hslA.at1 (k := .i64) (i := i) (by simpa using h1)
  have e3 : (L.map bitsV)[i]? = some (bitsV L[i]) := by simp [h1]
  rw [e3] at e2
  have hdL := List.getElem_mem h1
  have hd0 := hLok _ hdL
  have hdn := hLd _ hdL
  have htk : L.take (i + 1) = L.take i ++ [L[i]] := List.take_succ_eq_append_getElem h1
  generalize L[i] = d at *
  simp [t1, t5, t15, t17, e1, e2, a0, a2]
  refine fcall_fun (pay_spec (hP.ge (gA.grow 6)) hV (known0_ok hV) hdn hd0.1) ?_
  rintro _ B ⟨rfl, gB⟩
  have nB := gB.next
  simp only at nB
  have hd10 : d < 1024 := hd0.2
  have b0 := gB.got (n := H.next) (by simp; omega) a0
  have b2 := gB.got (n := H.next + 2) (by simp; omega) a2
  have b4 := gB.got (n := H.next + 4) (by simp; omega) a4
  obtain ⟨x, hx1, hx2⟩ := (hmp.keep (B := B) (gB.get _ (by simp; omega))).put d (.int .i64 (payN D d))
  have hpd : payOf D (known0 D) (piecesL D d) = payN D d := rfl
  simp [t1, t5, b0, b2, hpd, hx1, t6, b4]
  refine fcall_fun (lowest_spec hd0.1 hd10 _) ?_
  rintro _ C ⟨rfl, hC⟩
  have nC : C.next = B.next + 11 := by rw [hC]; simp
  have hCg : ∀ n, n ≠ H.next + 1 → n ≠ B.next + 8 → C.get n = B.get n := fun n h1 h2 => by rw [hC]; simp [h1, h2]
  have c8 : C.get (B.next + 8) = .cells true [bitsV d] 1 := by rw [hC]; simp
  have c1 : C.get (H.next + 1) = x := by rw [hC]; simp; omega
  clear hC
  have c4 := (hCg (H.next + 4) (by omega) (by omega)).trans b4
  simp [t6, c4]
  refine fcall_fun (lowest_spec hd0.1 hd10 _) ?_
  rintro _ C' ⟨rfl, hC⟩
  subst hC
  obtain ⟨_, l10, _⟩ := low_facts hd0.1 hd10
  have cb : MapFn C' (H.next + 3) fb := hmb.keep ((hCg _ (by omega) (by omega)).trans (gB.get _ (by simp; omega)))
  have hl1 := cb.lk1 flat_nil (2 ^ low d)
  simp [t6, c4, hl1]
  have hkC : ∀ m, H2.next ≤ m → m < A.next → C'.get m = A.get m := fun m h1 h2 => (hCg m (by omega) (by omega)).trans (gB.get m (by show m < A.next + 6; omega))
  have ho := (hbg.own (low d) l10).keep (B := C') (by omega) fun m hm => hkC m ((hbg.own (low d) l10).names hm).1 ((hbg.own (low d) l10).names hm).2
  have hnm := fun m hm => (hbg.own (low d) l10).names (n := m) hm
  generalize hold : (fb (2 ^ low d)).getD (.slice none 0 0) = old at *
  have hfl : ((L.take i).filter fun x => low x == low d).length ≤ 1024 := Nat.le_trans (List.length_filter_le _ _) (by rw [List.length_take]; omega)
  refine fapp_own' (lo := H2.next) (x := bitsV d) ho (slCells_new (rw := true) (c := 1) c8) rfl (by simp; omega) (by omega) (by omega) (by omega) fun u E k5 k6 k7 k8 => ?_
  have hE : ∀ n, n < H2.next → E.get n = C'.get n := fun n hn => k8 n (by omega) fun e => by have := (hnm n e).1; omega
  have e4 := (hE (H.next + 4) (by omega)).trans c4
  have eb : MapFn E (H.next + 3) fb := cb.keep (hE _ (by omega))
  obtain ⟨y, hy1, hy2⟩ := eb.put (2 ^ low d) u
  simp [t6, e4, hy1, t17, add_in (x := i) (y := 1) (by omega) (by omega)]
  have kF : ∀ n, n ≠ H.next + 3 → (E.set (H.next + 3) y).get n = E.get n := fun n hn => by simp [hn]
  refine ⟨⟨by omega, fun n h1 h2 h3 => ?_, t1, t5, t15, t16, i + 1, by omega, by omega, putF fp d (.int .i64 (payN D d)), hx2 _ ?_, fun d' hd' => ?_, putF fb (2 ^ low d) u, hy2 _ (by simp), ?_⟩, by omega⟩
  · rw [if_neg h3, hE n h1, hCg n h2 (by omega), gB.get n (by show n < A.next + 6; omega)]
    exact hkeep n h1 h2 h3
  · rw [kF _ (by omega), hE _ (by omega)]; exact c1
  · unfold putF
    by_cases e : d' = d
    · rw [if_pos e, e]
    · rw [if_neg e]
      rw [htk] at hd'
      rcases List.mem_append.1 hd' with hd' | hd'
      · exact hfp d' hd'
      · exact absurd (by simpa using hd') e
  · rw [htk]
    refine hbg.push l10 (n := B.next + 9) ?_ k6 (by omega) (by simp; omega) fun m h1 h2 h3 => ?_
    · exact k5.keep (by simp) fun n hn => kF n (by have := (k5.names hn).1; omega)
    · rw [kF m (by omega), k8 m (by omega) (by rw [← hold]; exact h3)]
      exact hkC m h1 h2

/-- The best choice of a day; the answers of Best. -/
def bestC (D : Dy) : Ch := choose (legalL D (known0 D)) (payN D) (2 ^ segN D - 1)
def bestL (D : Dy) : List Nat := planOf (legalL D (known0 D)) (payN D) (2 ^ segN D - 1)
def bestE (D : Dy) : Int := if checkD D = 0 then (if (bestC D).ok then 0 else 9) else checkD D
def bestPay (D : Dy) : Int := if bestE D = 0 then (bestC D).pay else 0
def bestR (D : Dy) : List (List Int) := if bestE D = 0 then (bestL D).map rowOf else []

theorem rows_nil {H : Heap} : RowsAt H (.slice none 0 0) [] := ⟨[], ⟨rfl, fun _ _ _ h => by cases h⟩, by simp, fun i h => by simp at h⟩

theorem bestF_spec {D : Dy} {b w : Value} {H : Heap} (h : DayAt H b w D) (hT : D.Thin) (hG : Gl H) :
    AFun Tryd.prog 45 [dayV D b w] H (fun r B => ∃ v, r = .tuple #[v, .int .i64 (bestPay D), .int .i64 (bestE D)] ∧ RowsAt B v (bestR D) ∧ Ge H B) := by
  refine AFun.mk ok45 hm (Nat.le_of_ble_eq_true rfl) ?_
  have hb := h.blocks.one
  have hw := h.walk.one
  simp [a45, r45, hb, hw]
  refine fcall_fun (checkDay_spec (h.ge (by simp)) hT) ?_
  rintro _ H1 ⟨rfl, g1⟩
  have G1 : Ge H H1 := Ge.trans (by simp) g1
  have k1 := g1.got (n := H.next) (by simp) rfl
  have n1 := g1.next
  simp at k1 n1
  by_cases hc : checkD D = 0
  case neg =>
    have he : bestE D = checkD D := by simp [bestE, hc]
    have hp : bestPay D = 0 := by simp [bestPay, he, hc]
    have hr : bestR D = [] := by simp [bestR, he, hc]
    simp [hc, he, hp, hr]
    exact ⟨rows_nil, G1⟩
  have hV := valid_of hc
  simp [hc, k1]
  refine fcall_fun (newPlanned_spec (h.ge G1) hV) ?_
  rintro _ H2 ⟨s, k, q, rfl, hO, g2⟩
  have G2 := G1.trans g2
  have hP : PlanAt H2 b w s k q D (known0 D) := hO.at (h.ge G2)
  simp
  refine fcall_fun (best_spec hP hV (hG.ge G2)) ?_
  rintro _ H3 ⟨v, rfl, hv, g3⟩
  have G3 := G2.trans g3
  have hcc : choose (legalL D (known0 D)) (payN D) (2 ^ segN D - 1) = bestC D := rfl
  have hll : planOf (legalL D (known0 D)) (payN D) (2 ^ segN D - 1) = bestL D := rfl
  rw [hcc]
  rw [hll] at hv
  cases hok : (bestC D).ok
  · have he : bestE D = 9 := by simp [bestE, hc, hok]
    have hp : bestPay D = 0 := by simp [bestPay, he]
    have hr : bestR D = [] := by simp [bestR, he]
    simp [he, hp, hr]
    exact ⟨rows_nil, G3⟩
  · have he : bestE D = 0 := by simp [bestE, hc, hok]
    have hp : bestPay D = (bestC D).pay := by simp [bestPay, he]
    have hr : bestR D = (bestL D).map rowOf := by simp [bestR, he]
    simp [he, hp]
    rw [hr]
    exact ⟨hv, G3⟩

end Go.Proofs.YtllkhaabcfnlpaaDoor


/-
  Weights of sets, fair weights, and the bound by them.
-/
namespace Go.Proofs.YtllkhaabcfnlpaaDoor
open Go Go.Ab

section
variable {D : Dy} {b w s k q : Value} {H : Heap}
end

end Go.Proofs.YtllkhaabcfnlpaaDoor


/-
  Which plans are right; days that a statement may play.
-/
namespace Go.Proofs.YtllkhaabcfnlpaaDoor
open Go Go.Ab

def readyB (D : Dy) : Bool := thinB D && decide (checkD D = 0)
def lightB (D : Dy) : Bool := readyB D && decide (segN D ≤ 8)
theorem ready_spec {D : Dy} {b w : Value} {H : Heap} (h : DayAt H b w D) : AFun Tryd.prog 52 [dayV D b w] H (fun r B => r = .bool (readyB D) ∧ Ge H B) := by
  refine AFun.mk ok52 hm (Nat.le_of_ble_eq_true rfl) ?_
  have hb := h.blocks.one
  have hw := h.walk.one
  simp [a52, r52, hb, hw]
  refine fcall_fun (thin_spec (h.ge (by simp))) ?_
  rintro _ H1 ⟨rfl, g1⟩
  have G1 : Ge H H1 := Ge.trans (by simp) g1
  have k1 := g1.got (n := H.next) (by simp) rfl
  simp at k1
  unfold readyB
  cases hth : thinB D
  · simp
    exact G1
  simp [k1]
  refine fcall_fun (fault36_spec (h.ge G1) (thinB_thin hth)) ?_
  rintro _ H2 ⟨rfl, g2⟩
  simp
  exact G1.trans g2
theorem ready_facts {D : Dy} (h : readyB D = true) : D.Thin ∧ checkD D = 0 ∧ Valid D := by
  unfold readyB at h
  rw [Bool.and_eq_true, decide_eq_true_eq] at h
  exact ⟨thinB_thin h.1, h.2, valid_of h.2⟩
theorem light_spec {D : Dy} {b w : Value} {H : Heap} (h : DayAt H b w D) : AFun Tryd.prog 47 [dayV D b w] H (fun r B => r = .bool (lightB D) ∧ Ge H B) := by
  refine AFun.mk ok47 hm (Nat.le_of_ble_eq_true rfl) ?_
  have hb := h.blocks.one
  have hw := h.walk.one
  simp [a47, r47, hb, hw]
  refine fcall_fun (ready_spec (h.ge (by simp))) ?_
  rintro _ H1 ⟨rfl, g1⟩
  have G1 : Ge H H1 := Ge.trans (by simp) g1
  have k1 := g1.got (n := H.next) (by simp) rfl
  simp at k1
  unfold lightB
  cases hr : readyB D
  · simp
    exact G1
  obtain ⟨hT, _, _⟩ := ready_facts hr
  simp [k1]
  refine fcall_fun (segments_spec (h.ge G1) hT) ?_
  rintro _ H2 ⟨rfl, g2⟩
  have hseg : segsOf D.blocks = segN D := segPs_length.symm
  rw [hseg]
  simp
  refine ⟨?_, G1.trans g2⟩
  by_cases h8 : segN D ≤ 8
  · simp [h8]; omega
  · simp [h8]; omega

section
variable {I : Nat → Heap → Prop} {F : Heap → Prop} {H : Heap} {v pv : Value}
end

section
variable {D : Dy} {b w s k q : Value}
end

end Go.Proofs.YtllkhaabcfnlpaaDoor


/-
  What DutyBounds answers.
-/
namespace Go.Proofs.YtllkhaabcfnlpaaDoor
open Go Go.Ab

end Go.Proofs.YtllkhaabcfnlpaaDoor


/-
  The best plan is a right one, in order; no right one is better.
-/
namespace Go.Proofs.YtllkhaabcfnlpaaDoor
open Go Go.Ab

section
variable {D : Dy}
end

end Go.Proofs.YtllkhaabcfnlpaaDoor


/-
  What is legal with a segment is legal with that segment alone.
-/
namespace Go.Proofs.YtllkhaabcfnlpaaDoor
open Go Go.Ab

section
variable {α : Type}
end

section
variable {D : Dy}
/-- The segments of a piece lie in it. -/
structure SegIn (D : Dy) (p : Pc) : Prop where
  same : p.e = p.b
  lt : p.f < p.t
  seg : ∀ q, p.s.testBit q = true → (spD D q).1 = p.b ∧ p.f ≤ (spD D q).2 ∧ (spD D q).2 + 1 ≤ p.t
theorem kAt0 {b n : Nat} (hs : D.has b n) : kAt (known0 D) b n = ((D.rel b n).lo, (D.rel b n).hi) := by
  obtain ⟨x, h1, h2⟩ := hs
  have e1 : D.rel b n = x[n] := by simp [Dy.rel, h1, h2]
  rw [e1]
  simp [kAt, known0, h1, h2]
end

/-- What the law asks of pieces. -/
structure LegalP (D : Dy) (K : List (List (Int × Int))) (ps : List Pc) : Prop where
  count : (ps.length : Int) ≤ D.law.pieces
  piece : ∀ p ∈ ps, lastOf K p ≤ D.law.piece
  drive : (ps.map (lastOf K)).sum ≤ D.law.drive
  free : ∀ j, j + 1 < ps.length → D.law.brk ≤ freeOf D K (ps[j]?.getD fz) (ps[j + 1]?.getD fz)
  spread : spreadOf D K ps ≤ D.law.spread
theorem legalB_iff {D : Dy} (hV : Valid D) {K : List (List (Int × Int))} {ps : List Pc} : legalB D K ps = true ↔ LegalP D K ps := by
  have hl := law_bounds hV
  have hlT : lTo K ps ps.length = ps.map (lastOf K) := by unfold lTo; rw [List.take_length]
  unfold legalB answers
  rw [hlT]
  simp only [List.all_cons, List.all_nil, id, Bool.and_true, Bool.and_eq_true, decide_eq_true_eq, List.length_map]
  constructor
  · rintro ⟨h1, h2, h3, h4, h5⟩
    refine ⟨h1, fun p hp => ?_, h3, fun j hj => ?_, h5⟩
    · exact ((foldl_max (ps.map (lastOf K)) 0 D.law.piece).1 h2).2 _ (List.mem_map.2 ⟨p, hp, rfl⟩)
    · have := List.all_eq_true.1 h4 (freeOf D K (ps[j]?.getD fz) (ps[j + 1]?.getD fz)) (by unfold bTo; exact List.mem_map.2 ⟨j, by simp; omega, rfl⟩)
      simpa using this
  · rintro ⟨h1, h2, h3, h4, h5⟩
    refine ⟨h1, ?_, h3, ?_, h5⟩
    · refine (foldl_max (ps.map (lastOf K)) 0 D.law.piece).2 ⟨by omega, fun x hx => ?_⟩
      obtain ⟨p, hp, rfl⟩ := List.mem_map.1 hx
      exact h2 p hp
    · rw [List.all_eq_true]
      intro x hx
      unfold bTo at hx
      obtain ⟨j, hj, rfl⟩ := List.mem_map.1 hx
      rw [List.mem_range] at hj
      exact decide_eq_true (h4 j (by omega))

end Go.Proofs.YtllkhaabcfnlpaaDoor


/-
  Duties by bits; which segments are barred.
-/
namespace Go.Proofs.YtllkhaabcfnlpaaDoor
open Go Go.Ab

theorem aval_eqT2 {t : Nat → Value} {H : Heap} {N x y : Nat} {a b : Bool} {d : Option Tmp} {ty U : TypeId} {pos : String} {af : Array Edge} {g : Option (Nat × Bool)} (hx : t x = .bool a) (hy : t y = .bool b) (h1 : x < N) (h2 : y < N) :
    aval Tryd.prog t H (.gen N ⟨d, .binOp .eql 4 (.tmp x) (.tmp y) U, ty, pos, af, g⟩) = some (.bool (a == b)) := by
  refine aval_gen ?_ rfl fun w => ?_
  · simp [Op.operands, flatO, hx, hy, h1, h2, flat, flat1]
  · have hg : Tryd.prog.eqGuardType Tryd.prog.depth 4 = false := by kernel_rfl
    simp only [execOp, evO, hx, hy, Sem.run_bind]
    have he := run_equalIn_bool' (P := Tryd.prog) w 9999 4 a b Tryd.underlying4
    simp [eqGuard, binOp, Op.equal, Op.maxDepth, he]
theorem aval_shr16 {P : Program} {t : Nat → Value} {H : Heap} {N x y : Nat} {d : Option Tmp} {T U ty : TypeId} {pos : String} {af : Array Edge} {g : Option (Nat × Bool)} {m s : Nat} (hx : t x = .int .u16 (m : Int)) (hy : t y = .int .u64 (s : Int)) (h1 : x < N) (h2 : y < N) (hs : s < 16) :
    aval P t H (.gen N ⟨d, .binOp .shr T (.tmp x) (.tmp y) U, ty, pos, af, g⟩) = some (.int .u16 ((m / 2 ^ s : Nat) : Int)) := by
  refine aval_gen ?_ rfl fun w => ?_
  · simp [Op.operands, flatO, hx, hy, h1, h2, flat, flat1]
  · have e2 : min s IntKind.u16.bits = s := by simp [IntKind.bits]; omega
    simp [execOp, evO, hx, hy, eqGuard, binOp, Op.shift, e2]
theorem rem16 {q : Nat} : binI BinOp.rem (.int .u16 (q : Int)) (.int .u16 2) = some (.int .u16 ((q % 2 : Nat) : Int)) := by
  have e : binI BinOp.rem (.int .u16 (q : Int)) (.int .u16 2) = some (.int .u16 ((q : Int).tmod 2)) := rfl
  have e2 : ((q : Int).tmod 2) = ((q % 2 : Nat) : Int) := (Int.ofNat_tmod q 2).symm
  rw [e, e2]

/-- A duty by bits; at least one segment. -/
def setB (n m : Nat) : List Int := if setR n m = [] then [0] else setR n m
theorem setB_duty {n m : Nat} (hn : 0 < n) : isDutyB n (setB n m) = true := by
  unfold setB
  split
  · have := rise_duty (n := n) (l := [0]) (by simp) (fun x hx => by simp at hx; omega) (by simp)
    simpa [bitsI] using this
  · rename_i h
    exact rise_duty bitsFrom_rise (fun x hx => (bitsFrom_mem.1 hx).1) fun e => h (by rw [setR, e]; rfl)
theorem setB_length {n m : Nat} (h : n ≤ 10) : (setB n m).length ≤ 10 := by
  unfold setB
  split
  · simp
  · have := setR_length (n := n) (m := m); omega
theorem set_spec {D : Dy} {b w : Value} {H : Heap} {m : Nat} (h : DayAt H b w D) (hT : D.Thin) (hV : Valid D) :
    AFun Tryd.prog 49 [dayV D b w, .int .u16 (m : Int)] H (fun r B => OwnSl B H.next r ((setB (segN D) m).map (Value.int .i64)) ∧ Ge H B) := by
  refine AFun.mk ok49 hm (Nat.le_of_ble_eq_true rfl) ?_
  have hb := h.blocks.one
  have hw := h.walk.one
  have h10 := segN_le hV
  have hseg : segsOf D.blocks = segN D := segPs_length.symm
  simp [a49, r49, hb, hw]
  refine floop_intro (fun z => z.d = [] ∧ Ge H z.H ∧ H.next < z.H.next ∧ z.t 1 = .int .u16 (m : Int) ∧ z.t 2 = .pointer (some ⟨H.next, 0, none⟩) ∧ z.H.get H.next = .cells true (dayV D b w).cells.toList 10 ∧ ∃ j : Nat, j ≤ segN D ∧ z.t 6 = .int .i64 (j : Int) ∧ OwnSl z.H (H.next + 1) (z.t 5) ((setR j m).map (Value.int .i64))) (fun z => segN D - (intOf (z.t 6)).toNat) ?_ ?_
  · exact ⟨rfl, by simp, by simp, by simp, by simp, by simp [Value.cells], 0, by omega, by simp, .inl ⟨by simp, by simp [setR, bitsI, bitsFrom]⟩⟩
  rintro ⟨t, _, A⟩ ⟨rfl, g, hn, t1, t2, kd, j, hj, t6, o5⟩
  dsimp only at g hn t1 t2 kd t6 o5
  simp [Value.cells] at kd
  generalize t5 : t 5 = v5 at o5
  simp [t2, t6, kd]
  refine fcall_fun (segments_spec (h.ge g) hT) ?_
  rintro _ A1 ⟨rfl, g1⟩
  have n1 := g1.next
  have kd1 := g1.got hn kd
  have G1 := g.trans g1
  rw [hseg]
  simp [t6]
  have hlen := setR_length (n := j) (m := m)
  by_cases hjn : j < segN D
  case neg =>
    have : j = segN D := by omega
    subst this
    have hl := (o5.ge g1).lenV
    simp only [List.length_map] at hl
    simp [hjn, t5, hl]
    by_cases h0 : setR (segN D) m = []
    · have hsb : setB (segN D) m = [0] := by simp [setB, h0]
      rw [h0] at o5
      simp [h0, t5]
      refine fapp_own (lo := H.next + 1) (x := .int .i64 0) ((o5.ge g1).ge (Ge.new _ _)) (slCells_new (rw := true) (c := 1) (by simp)) rfl (by simp) (by omega) (by simp) (by omega) (by simp; omega) fun u3 C k3 k4 k5 k6 => ?_
      have h5n : ∀ m, slName v5 = some m → H.next + 1 ≤ m := fun m hm => (o5.names hm).1
      simp
      rw [hsb]
      refine ⟨OwnSl.lower (by simpa using k3) (by omega), by have := G1.next; omega, fun n hn => ?_⟩
      have f0 := G1.next
      have f3 : n ≠ A1.next := by omega
      rw [k6 n (by omega) (fun e => by have := h5n n e; omega)]; simp [f3, G1.get n hn]
    · have hsb : setB (segN D) m = setR (segN D) m := by simp [setB, h0]
      simp [h0, t5]
      rw [hsb]
      exact ⟨(o5.ge g1).lower (by omega), G1⟩
  have hw64 : IntKind.u64.wrap (j : Int) = (j : Int) := wrap_u64 (by omega)
  simp [hjn, t1, t6, hw64]
  have hstep := setR_step (m := m) (j := j)
  have hbit : m.testBit j = decide (m / 2 ^ j % 2 = 1) := Nat.testBit_eq_decide_div_mod_eq
  obtain ⟨q, hq⟩ : ∃ q, m / 2 ^ j = q := ⟨_, rfl⟩
  rw [hq] at hbit
  have hmod : q % 2 = 0 ∨ q % 2 = 1 := by omega
  rw [aval_shr16 (m := m) (s := j) (by simp) (by simp) (by decide) (by decide) (by omega), hq]
  simp [rem16]
  rcases hmod with h0 | h1
  · have hb0 : m.testBit j = false := by rw [hbit, h0]; rfl
    have hc0 : ¬ (q : Int) % 2 = 1 := by omega
    rw [hb0] at hstep
    simp only [Bool.false_eq_true, if_false] at hstep
    simp [hc0, t6, add_in (x := j) (y := 1) (by omega) (by omega)]
    exact ⟨⟨G1, by omega, t1, t2, by simpa [Value.cells] using kd1, j + 1, by omega, by omega, by rw [hstep, t5]; exact o5.ge g1⟩, by omega⟩
  · have hb1 : m.testBit j = true := by rw [hbit, h1]; rfl
    have hc1 : (q : Int) % 2 = 1 := by omega
    rw [hb1] at hstep
    simp only [if_true] at hstep
    simp [hc1, t5, t6]
    refine fapp_own (lo := H.next + 1) (x := .int .i64 (j : Int)) ((o5.ge g1).ge (Ge.new _ _)) (slCells_new (rw := true) (c := 1) (by simp)) rfl (by simp; omega) (by omega) (by simp) (by omega) (by simp; omega) fun u3 C k3 k4 k5 k6 => ?_
    have h5n : ∀ m, slName v5 = some m → H.next + 1 ≤ m := fun m hm => (o5.names hm).1
    have gC : Ge H C := ⟨by have := G1.next; omega, fun n hn => by
      have f0 := G1.next
      have f3 : n ≠ A1.next := by omega
      rw [k6 n (by omega) (fun e => by have := h5n n e; omega)]; simp [f3, G1.get n hn]⟩
    have kC : C.get H.next = A1.get H.next := (k6 H.next (by omega) (fun e => by have := h5n _ e; omega)).trans (by rw [Heap.new_get, if_neg (by omega)])
    simp [t6, add_in (x := j) (y := 1) (by omega) (by omega)]
    exact ⟨⟨gC, by omega, t1, t2, by simpa [Value.cells] using kC.trans kd1, j + 1, by omega, by omega, by rw [hstep, List.map_append]; exact k3⟩, by omega⟩

section
variable {D : Dy}
end

end Go.Proofs.YtllkhaabcfnlpaaDoor


/-
  Days alike: when the same duties are legal, and are paid as much.
-/
namespace Go.Proofs.YtllkhaabcfnlpaaDoor
open Go Go.Ab

theorem fold_pay {rec : Nat → Ch} {pay pay' : Nat → Int} {m : Nat} : ∀ (l : List Nat) (b : Ch), (∀ d ∈ l, pay d = pay' d) → l.foldl (stepC rec pay m) b = l.foldl (stepC rec pay' m) b
  | [], _, _ => rfl
  | x :: l, b, h => by
    rw [List.foldl_cons, List.foldl_cons]
    have e : stepC rec pay m b x = stepC rec pay' m b x := by
      unfold stepC
      rw [h x (List.mem_cons_self ..)]
    rw [e]
    exact fold_pay l _ fun d hd => h d (List.mem_cons_of_mem _ hd)
theorem chooseK_pay {L : List Nat} {pay pay' : Nat → Int} (h : ∀ d ∈ L, pay d = pay' d) : ∀ k, chooseK L pay k = chooseK L pay' k
  | 0 => rfl
  | k + 1 => by
    funext m
    simp only [chooseK, chooseK_pay h k]
    split
    · rfl
    · exact fold_pay _ _ fun d hd => h d (List.mem_filter.1 hd).1
theorem choose_pay {L : List Nat} {pay pay' : Nat → Int} (h : ∀ d ∈ L, pay d = pay' d) : choose L pay = choose L pay' := by
  funext m
  unfold choose
  rw [chooseK_pay h]
theorem passL_congr {p p' : Nat → Bool} {i : Nat} (h : ∀ d, d ≠ 0 → d < i → p d = p' d) : passL p i = passL p' i := by
  unfold passL
  refine List.filter_congr fun d hd => ?_
  obtain ⟨j, hj, rfl⟩ := List.mem_range'.1 hd
  exact h _ (by omega) (by omega)

/-- Two days in which the same sets are legal, and are paid as much. -/
structure SameD (D D' : Dy) : Prop where
  segs : segN D' = segN D
  legal : ∀ m, m ≠ 0 → m < 2 ^ segN D → legalN D' (known0 D') m = legalN D (known0 D) m
  pay : ∀ m, m ≠ 0 → m < 2 ^ segN D → payN D' m = payN D m
theorem SameD.list {D D' : Dy} (h : SameD D D') : legalL D' (known0 D') = legalL D (known0 D) := by
  unfold legalL
  rw [h.segs]
  exact passL_congr h.legal
theorem SameD.best {D D' : Dy} (h : SameD D D') : bestC D' = bestC D ∧ bestL D' = bestL D := by
  have hp : ∀ d ∈ legalL D (known0 D), payN D' d = payN D d := fun d hd => h.pay d (by have := (passL_mem.1 hd).1; omega) (passL_mem.1 hd).1.2
  unfold bestC bestL planOf
  rw [h.list, h.segs, choose_pay hp]
  exact ⟨rfl, rfl⟩

def Rl.later (x : Int) (r : Rl) : Rl := ⟨r.place, r.lo + x, r.hi + x⟩
/-- The day so many minutes later. -/
def Dy.later (D : Dy) (x : Int) : Dy := { D with blocks := D.blocks.map fun b => b.map (Rl.later x) }

section
variable {D : Dy} {x : Int}
theorem later_segs : segsOf (D.later x).blocks = segsOf D.blocks := by
  unfold segsOf Dy.later
  rw [List.map_map]
  congr 1
  exact List.map_congr_left fun b _ => by simp
theorem later_spots (i : Nat) : spotsTo (D.later x).blocks i = spotsTo D.blocks i := by
  have h : ∀ b : Nat, ((D.later x).blocks[b]?.map List.length).getD 0 = (D.blocks[b]?.map List.length).getD 0 := fun b => by
    simp only [Dy.later, List.getElem?_map]
    cases D.blocks[b]? <;> simp
  unfold spotsTo
  simp only [h]
theorem later_segPs : segPs (D.later x) = segPs D := by
  unfold segPs
  rw [later_spots]
  simp [Dy.later]
theorem later_runs : ∀ k m, runsK (D.later x) k m = runsK D k m
  | 0, _ => rfl
  | k + 1, m => by
    simp only [runsK, later_segPs, later_runs k]
theorem later_rel {b n : Nat} (h : D.has b n) : (D.later x).rel b n = (D.rel b n).later x := by
  obtain ⟨r, h1, h2⟩ := h
  simp [Dy.rel, Dy.later, h1, h2]
theorem later_has {b n : Nat} (h : D.has b n) : (D.later x).has b n := by
  obtain ⟨r, h1, h2⟩ := h
  exact ⟨r.map (Rl.later x), by simp [Dy.later, h1], by simpa using h2⟩
theorem later_pieces {m : Nat} (hlt : m < 2 ^ segN D) : piecesL (D.later x) m = piecesL D m := by
  unfold piecesL
  rw [later_runs]
  refine insSort_congr _ _ _ fun i k hi hk => ?_
  have o1 := runsK_ok 16 m hlt _ (List.getElem_mem hi)
  have o2 := runsK_ok 16 m hlt _ (List.getElem_mem (show k < (runsK D 16 m).length by omega))
  unfold loOf
  rw [later_rel o1.fst, later_rel o2.fst]
  exact decide_eq_decide.2 (by simp only [Rl.later]; omega)
theorem later_kAt {b n : Nat} (h : D.has b n) : kAt (known0 (D.later x)) b n = ((kAt (known0 D) b n).1 + x, (kAt (known0 D) b n).2 + x) := by
  rw [kAt0 h, kAt0 (later_has h), later_rel h]
  rfl
theorem later_parts {m : Nat} (hlt : m < 2 ^ segN D) : (∀ p ∈ piecesL D m, lastOf (known0 (D.later x)) p = lastOf (known0 D) p) ∧ (∀ p ∈ piecesL D m, ∀ q ∈ piecesL D m, freeOf (D.later x) (known0 (D.later x)) p q = freeOf D (known0 D) p q) ∧ (0 < (piecesL D m).length → spreadOf (D.later x) (known0 (D.later x)) (piecesL D m) = spreadOf D (known0 D) (piecesL D m)) := by
  have hok : ∀ p ∈ piecesL D m, PcOk D m p := fun p hp => piecesL_mem hlt hp
  refine ⟨fun p hp => ?_, fun p hp q hq => ?_, fun h0 => ?_⟩
  · have o := hok p hp
    unfold lastOf
    rw [o.same, later_kAt o.lst, later_kAt o.fst]
    simp only; omega
  · have o := hok p hp
    have o' := hok q hq
    unfold freeOf restOf Dy.walkOf
    rw [o.same, later_kAt o'.fst, later_kAt o.lst, later_rel o.lst, later_rel o'.fst]
    simp only [Rl.later, Dy.later]; omega
  · have o := hok _ (List.getElem_mem h0)
    have o' := hok _ (List.getElem_mem (show (piecesL D m).length - 1 < (piecesL D m).length by omega))
    have g0 : (piecesL D m)[0]?.getD fz = (piecesL D m)[0] := by simp [h0]
    have gn : (piecesL D m)[(piecesL D m).length - 1]?.getD fz = (piecesL D m)[(piecesL D m).length - 1] := by simp [(by omega : (piecesL D m).length - 1 < (piecesL D m).length)]
    unfold spreadOf
    rw [g0, gn, o'.same, later_kAt o'.lst, later_kAt o.fst]
    simp only [Dy.later]; omega
theorem later_spread {m : Nat} (hlt : m < 2 ^ segN D) (h0 : m ≠ 0) : spreadOf (D.later x) (known0 (D.later x)) (piecesL D m) = spreadOf D (known0 D) (piecesL D m) := (later_parts hlt).2.2 (piecesL_pos h0)
theorem later_alike (hV : Valid D) (hV' : Valid (D.later x)) : SameD D (D.later x) := by
  refine ⟨by rw [segN, later_segPs], fun m h0 hlt => ?_, fun m h0 hlt => ?_⟩
  · unfold legalN
    rw [later_pieces hlt, Bool.eq_iff_iff, legalB_iff hV, legalB_iff hV']
    obtain ⟨p1, p2, _⟩ := later_parts (x := x) hlt
    have p3 := later_spread (x := x) hlt h0
    have hmap : (piecesL D m).map (lastOf (known0 (D.later x))) = (piecesL D m).map (lastOf (known0 D)) := List.map_congr_left p1
    have hfr : ∀ j, j + 1 < (piecesL D m).length → freeOf (D.later x) (known0 (D.later x)) ((piecesL D m)[j]?.getD fz) ((piecesL D m)[j + 1]?.getD fz) = freeOf D (known0 D) ((piecesL D m)[j]?.getD fz) ((piecesL D m)[j + 1]?.getD fz) := fun j hj => by
      have e1 : (piecesL D m)[j]?.getD fz = (piecesL D m)[j] := by simp [(by omega : j < (piecesL D m).length)]
      have e2 : (piecesL D m)[j + 1]?.getD fz = (piecesL D m)[j + 1] := by simp [hj]
      rw [e1, e2]
      exact p2 _ (List.getElem_mem (by omega)) _ (List.getElem_mem hj)
    constructor
    · rintro ⟨l1, l2, l3, l4, l5⟩
      exact ⟨l1, fun p hp => by rw [← p1 p hp]; exact l2 p hp, by rw [← hmap]; exact l3, fun j hj => by rw [← hfr j hj]; exact l4 j hj, by rw [← p3]; exact l5⟩
    · rintro ⟨l1, l2, l3, l4, l5⟩
      exact ⟨l1, fun p hp => by rw [p1 p hp]; exact l2 p hp, by rw [hmap]; exact l3, fun j hj => by rw [hfr j hj]; exact l4 j hj, by rw [p3]; exact l5⟩
  · unfold payN payOf
    rw [later_pieces hlt, later_spread hlt h0]
    rfl
end

end Go.Proofs.YtllkhaabcfnlpaaDoor


/-
  What DutyLater answers.
-/
namespace Go.Proofs.YtllkhaabcfnlpaaDoor
open Go Go.Ab

theorem rem_thou {a : Nat} : binI BinOp.rem (.int .i64 (a : Int)) (.int .i64 1000) = some (.int .i64 ((a % 1000 : Nat) : Int)) := by
  have e : binI BinOp.rem (.int .i64 (a : Int)) (.int .i64 1000) = some (.int .i64 ((a : Int).tmod 1000)) := rfl
  have e2 : ((a : Int).tmod 1000) = ((a % 1000 : Nat) : Int) := (Int.ofNat_tmod a 1000).symm
  rw [e, e2]

theorem wr_rel {a b : Int} : ∀ (l : List Rl) (i : Nat) (h : i < l.length), wrL (l.flatMap Rl.cells) (i * 3 + 1) [.int .i64 a, .int .i64 b] = (l.set i ⟨(l[i]'h).place, a, b⟩).flatMap Rl.cells
  | [], i, h => by simp at h
  | r :: l, 0, _ => by simp [wrL, Rl.cells]
  | r :: l, i + 1, h => by
    have hi : i < l.length := by simpa using h
    have ih := wr_rel (a := a) (b := b) l i (by simpa using h)
    have ih2 : (l.flatMap Rl.cells).take (i * 3 + 1) ++ (Value.int .i64 a :: Value.int .i64 b :: (l.flatMap Rl.cells).drop (i * 3 + 1 + 2)) = (l.set i ⟨l[i].place, a, b⟩).flatMap Rl.cells := ih
    have e : (i + 1) * 3 + 1 = i * 3 + 1 + 3 := by omega
    have e' : (i + 1) * 3 + 1 + 2 = i * 3 + 1 + 2 + 3 := by omega
    have e3 : ((r :: l).set (i + 1) ⟨(r :: l)[i + 1].place, a, b⟩).flatMap Rl.cells = .int .i64 r.place :: .int .i64 r.lo :: .int .i64 r.hi :: (l.set i ⟨l[i].place, a, b⟩).flatMap Rl.cells := rfl
    rw [e3, ← ih2]
    show ((r :: l).flatMap Rl.cells).take ((i + 1) * 3 + 1) ++ (Value.int .i64 a :: Value.int .i64 b :: ((r :: l).flatMap Rl.cells).drop ((i + 1) * 3 + 1 + 2)) = _
    rw [e', e]
    rfl

theorem cells_len : ∀ (l : List Rl), (l.flatMap Rl.cells).length = l.length * 3
  | [] => rfl
  | r :: l => by
    have ih := cells_len l
    have e : ((r :: l).flatMap Rl.cells).length = (l.flatMap Rl.cells).length + 3 := by simp [Rl.cells]
    rw [e, ih, List.length_cons]; omega
theorem cells_one : ∀ (l : List Rl), (l.flatMap Rl.cells).all one = true
  | [] => rfl
  | r :: l => by
    have ih := cells_one l
    have e1 : (r :: l).flatMap Rl.cells = .int .i64 r.place :: .int .i64 r.lo :: .int .i64 r.hi :: l.flatMap Rl.cells := rfl
    rw [e1]
    simpa using ih
theorem rel_ld : ∀ (l : List Rl) (i : Nat) (h : i < l.length), (l.flatMap Rl.cells)[i * 3 + 1]? = some (.int .i64 (l[i]'h).lo) ∧ (l.flatMap Rl.cells)[i * 3 + 2]? = some (.int .i64 (l[i]'h).hi)
  | [], i, h => by simp at h
  | r :: l, 0, _ => ⟨rfl, rfl⟩
  | r :: l, i + 1, h => by
    have hi : i < l.length := by simpa using h
    have ih := rel_ld l i hi
    have e : (i + 1) * 3 + 1 = i * 3 + 1 + 3 := by omega
    have e' : (i + 1) * 3 + 2 = i * 3 + 2 + 3 := by omega
    have e1 : (r :: l).flatMap Rl.cells = .int .i64 r.place :: .int .i64 r.lo :: .int .i64 r.hi :: l.flatMap Rl.cells := rfl
    rw [e, e', e1]
    simpa using ih
theorem rels_cells {A : Heap} {lo q cap c : Nat} {l : List Rl} (hlo : lo ≤ q) (hq : q < A.next) (h : A.get q = .cells true (l.flatMap Rl.cells) c) (hl : l.length ≤ cap) (hc : cap * 3 ≤ c) : OwnS A lo 3 (.slice (some ⟨q, 0, none⟩) l.length cap) l.length (l.flatMap Rl.cells) :=
  .inr ⟨q, cap, c, rfl, hlo, hq, h, (cells_len l).symm, hl, hc⟩
/-- Some reliefs are later, the others as they were. -/
def partL (x : Int) (r : List Rl) (j : Nat) : List Rl := (r.take j).map (Rl.later x) ++ r.drop j
theorem partL_length {x : Int} {r : List Rl} {j : Nat} (h : j ≤ r.length) : (partL x r j).length = r.length := by simp [partL]; omega
theorem partL_at {x : Int} {r : List Rl} {j : Nat} (h : j < r.length) : (partL x r j)[j]'(by rw [partL_length (by omega)]; exact h) = r[j] := by
  simp [partL, List.getElem_append]
  have : ¬ j < min j r.length := by omega
  simp [this, Nat.min_eq_left (Nat.le_of_lt h)]
theorem partL_set {x : Int} {r : List Rl} {j : Nat} (h : j < r.length) : (partL x r j).set j (r[j].later x) = partL x r (j + 1) := by
  unfold partL
  have hl : ((r.take j).map (Rl.later x)).length = j := by simp; omega
  rw [List.set_append_right _ _ (by omega), hl, Nat.sub_self, List.drop_eq_getElem_cons h, List.set_cons_zero, List.take_succ_eq_append_getElem h, List.map_append]
  simp

theorem dutyLater_of {D : Dy} {b w : Value} {H : Heap} {y z : Int} (h : DayAt H b w D) (hy : 0 ≤ y ∧ y < 2 ^ 16) (hz : 0 ≤ z ∧ z < 2 ^ 16) (hG : Gl H) (hwk : ∀ A, Ge H A → AFun Tryd.prog 16 [] A (fun r B => r = .bool true ∧ Ge A B)) :
    AFun Tryd.prog 14 [dayV D b w, .int .u16 y, .int .u16 z] H (fun r _ => r = .bool true) := by
  obtain ⟨m, rfl⟩ : ∃ m : Nat, z = (m : Int) := ⟨z.toNat, by omega⟩
  obtain ⟨n, rfl⟩ : ∃ n : Nat, y = (n : Int) := ⟨y.toNat, by omega⟩
  refine AFun.mk ok14 hm (Nat.le_of_ble_eq_true rfl) ?_
  have hb := h.blocks.one
  have hw := h.walk.one
  simp [a14, r14, hb, hw]
  refine fcall_fun (light_spec (h.ge (by simp))) ?_
  rintro _ H1 ⟨rfl, g1⟩
  have G1 : Ge H H1 := Ge.trans (by simp) g1
  have k1 := g1.got (n := H.next) (by simp) rfl
  have n1 := g1.next
  simp at k1 n1
  cases hli : lightB D
  · simp
    refine fcall_fun (hwk _ G1) ?_
    rintro _ _ ⟨rfl, _⟩
    simp
  have hli2 := hli
  unfold lightB at hli2
  rw [Bool.and_eq_true, decide_eq_true_eq] at hli2
  obtain ⟨hT, hc, hV⟩ := ready_facts hli2.1
  have hseg : segsOf D.blocks = segN D := segPs_length.symm
  have h10 := segN_le hV
  simp [k1]
  refine fcall_fun (segments_spec (h.ge G1) hT) ?_
  rintro _ H2 ⟨rfl, g2⟩
  have G2 := G1.trans g2
  have k2 := g2.got (n := H.next) (by omega) k1
  have n2 := g2.next
  rw [hseg]
  by_cases h0 : segPs D = []
  · simp [h0]
    refine fcall_fun (hwk _ G2) ?_
    rintro _ _ ⟨rfl, _⟩
    simp
  have hpos : 0 < segN D := List.length_pos_iff.2 h0
  have hne : H.next ≠ H2.next := by omega
  simp [h0, k2, hb, hw]
  obtain ⟨x, hx⟩ : ∃ x : Nat, n % 1000 = x := ⟨_, rfl⟩
  have hx1 : x < 1000 := by omega
  have G2x : Ge H2 ((H2.new (.cells true [.int .i64 0, .int .i64 0, .int .i64 0, .int .i64 0, .int .i64 0, .int .i64 0, .int .i64 0, .int .i64 0, .slice none 0 0, .slice none 0 0] 10))) := Ge.new _ _
  have hlatL : (D.later x).blocks.length = D.blocks.length := by simp [Dy.later]
  have hfew := hT.few
  refine floop_intro (fun z => z.d = [] ∧ Ge H2 z.H ∧ H2.next + 1 ≤ z.H.next ∧ z.t 1 = .int .u16 (n : Int) ∧ z.t 2 = .int .u16 (m : Int) ∧ z.t 3 = .pointer (some ⟨H.next, 0, none⟩) ∧ z.t 7 = .pointer (some ⟨H2.next, 0, none⟩) ∧
    ∃ i : Nat, i ≤ D.blocks.length ∧ z.t 8 = .int .i64 (i : Int) ∧ ∃ v8, z.H.get H2.next = .cells true [.int .i64 D.law.piece, .int .i64 D.law.drive, .int .i64 D.law.spread, .int .i64 D.law.brk, .int .i64 D.law.on, .int .i64 D.law.off, .int .i64 D.law.least, .int .i64 D.law.pieces, v8, w] 10 ∧ RowsG 3 Rl.cells z.H (H2.next + 1) (fun _ => False) v8 ((D.later x).blocks.take i)) (fun z => D.blocks.length - (intOf (z.t 8)).toNat) ?_ ?_
  · exact ⟨rfl, (((Ge.new _ _).setNew (Nat.le_refl _) _).setNew (Nat.le_refl _) _), by simp, by simp, by simp, by simp, by simp, 0, by omega, by simp, .slice none 0 0, by simp, RowsG.nil rfl⟩
  rintro ⟨t, _, A⟩ ⟨rfl, g, hn, t1, t2, t3, t7, i, hi, t8, v8, kx, hR⟩
  dsimp only at g hn t1 t2 t3 t7 t8 kx hR
  have kA := g.got (n := H.next) (by omega) k2
  simp [t3, t8, kA, h.blocks.lenV]
  by_cases hin : i < D.blocks.length
  case neg =>
    have hie : i = D.blocks.length := by omega
    rw [hie, List.take_of_length_le (by omega)] at hR
    have hv8 := hR.one
    simp [hin, t7, kx, hv8, hw]
    have GA := G2.trans g
    have hT' : (D.later x).Thin := ⟨by rw [hlatL]; exact hT.few, fun r hr => by
      simp only [Dy.later, List.mem_map] at hr
      obtain ⟨r0, hr0, rfl⟩ := hr
      simpa using hT.short r0 hr0, hT.places, hT.rows⟩
    have hDA : DayAt A v8 w (D.later x) := ⟨hR.rows (R := RelsAt) (by omega) fun u r hr ho => ⟨ho.slr, by have := hT'.short r hr; omega⟩, RowsOf.ge h.walk GA⟩
    refine fcall_fun (fault36_spec (D := D.later x) hDA hT') ?_
    rintro _ B1 ⟨rfl, gB1⟩
    have GB1 := GA.trans gB1
    have nA := g.next
    have kB1 := gB1.got (n := H.next) (by omega) kA
    have xB1 := gB1.got (n := H2.next) (by omega) kx
    by_cases hc' : checkD (D.later x) = 0
    case neg =>
      simp [hc']
      refine fcall_fun (hwk _ GB1) ?_
      rintro _ _ ⟨rfl, _⟩
      simp
    have hV' := valid_of hc'
    have hsame := later_alike hV hV'
    obtain ⟨hbC, hbL⟩ := hsame.best
    have hseg' : segsOf (D.later x).blocks = segN D := by rw [later_segs, hseg]
    simp [hc', t2, t3, kB1]
    refine fcall_fun (set_spec (h.ge GB1) hT hV) ?_
    rintro vs C1 ⟨os, gC1⟩
    have GC1 := GB1.trans gC1
    have hsl := setB_length (n := segN D) (m := m) h10
    have is1 : IntsAt C1 vs (setB (segN D) m) := own_ints os (by omega)
    have hdm := setB_duty (n := segN D) (m := m) hpos
    obtain ⟨hlt, hm0⟩ := duty_mask (D := D) (xs := setB (segN D) m) (by rw [hseg]; exact hdm)
    have hem : errD D (setB (segN D) m) = 0 := by simp [errD, hc, hseg, hdm]
    have hem' : errD (D.later x) (setB (segN D) m) = 0 := by simp [errD, hc', hseg', hdm]
    have hleg : legalD (D.later x) (setB (segN D) m) = legalD D (setB (segN D) m) := hsame.legal _ hm0 hlt
    generalize hX : setB (segN D) m = X at *
    have kC1 := gC1.got (n := H.next) (by have := gB1.next; omega) kB1
    have xC1 := gC1.got (n := H2.next) (by have := gB1.next; omega) xB1
    have iv := IntsAt.one is1
    simp [t3, kC1]
    -- Legal of both
    refine fcall_fun (day18_spec (h.ge GC1) hT) ?_
    rintro _ C2 ⟨b2, w2, rfl, hd2, gC2⟩
    have GC2 := GC1.trans gC2
    simp
    refine fcall_fun (list_spec (IntsAt.ge is1 gC2) (by omega)) ?_
    rintro v3 C3 ⟨o3, gC3⟩
    simp
    refine fcall_fun (legal_spec (hd2.ge gC3) hT (own_ints o3 (by omega)) (by omega)) ?_
    rintro _ C4 ⟨rfl, gC4⟩
    have g14 := gC2.trans (gC3.trans gC4)
    have GC4 := GC1.trans g14
    have n14 := g14.next
    have hn1 := gB1.next
    have hn2 := gC1.next
    have xC4 := g14.got (n := H2.next) (by omega) xC1
    have kC4 := g14.got (n := H.next) (by omega) kC1
    have hDC4 : DayAt C4 v8 w (D.later x) := hDA.ge (gB1.trans (gC1.trans g14))
    simp [t7, xC4, hv8, hw]
    refine fcall_fun (day18_spec (D := D.later x) hDC4 hT') ?_
    rintro _ C5 ⟨b5, w5, rfl, hd5, gC5⟩
    simp
    refine fcall_fun (list_spec (IntsAt.ge is1 (g14.trans gC5)) (by omega)) ?_
    rintro v6 C6 ⟨o6, gC6⟩
    simp
    refine fcall_fun (legal_spec (hd5.ge gC6) hT' (own_ints o6 (by omega)) (by omega)) ?_
    rintro _ C7 ⟨rfl, gC7⟩
    have g47 := gC5.trans (gC6.trans gC7)
    have GC7 := GC4.trans g47
    have n47 := g47.next
    have xC7 := g47.got (n := H2.next) (by omega) xC4
    have kC7 := g47.got (n := H.next) (by omega) kC4
    simp [t3, kC7]
    -- Best of both
    refine fcall_fun (day18_spec (h.ge GC7) hT) ?_
    rintro _ C8 ⟨b8, w8, rfl, hd8, gC8⟩
    simp
    refine fcall_fun (bestF_spec hd8 hT (hG.ge (GC7.trans gC8))) ?_
    rintro _ C9 ⟨vp, rfl, hp, gC9⟩
    have g79 := gC8.trans gC9
    have GC9 := GC7.trans g79
    have n79 := g79.next
    have xC9 := g79.got (n := H2.next) (by omega) xC7
    have hp1 := hp.one
    simp [t7, xC9, hv8, hw, hp1]
    refine fcall_fun (day18_spec (D := D.later x) (hDC4.ge (g47.trans g79)) hT') ?_
    rintro _ E1 ⟨bE, wE, rfl, hdE, gE1⟩
    simp
    refine fcall_fun (bestF_spec hdE hT' (hG.ge (GC9.trans gE1))) ?_
    rintro _ E2 ⟨vq, rfl, hq, gE2⟩
    have GE2 := GC9.trans (gE1.trans gE2)
    have hq1 := hq.one
    have hE' : bestE (D.later x) = bestE D := by unfold bestE; rw [hc, hc', hbC]
    have hP' : bestPay (D.later x) = bestPay D := by unfold bestPay; rw [hE', hbC]
    have hR' : bestR (D.later x) = bestR D := by unfold bestR; rw [hE', hbL]
    have hpl := hp.lenV
    have hql := hq.lenV
    rw [hR'] at hql
    rw [hem, hem', hleg, hE', hP']
    simp [hq1]
    rw [aval_eqT2 (a := legalD D X) (b := legalD D X) (by simp) (by simp) (by decide) (by decide)]
    simp [hpl, hql]
    refine fcall_fun (hwk _ GE2) ?_
    rintro _ _ ⟨rfl, _⟩
    simp
  obtain ⟨p, u, e1, e2, e3⟩ := h.blocks.atAll hin
  have e2A := e2 (A.new (.cells true [] 0)) ((G2.trans g).newOf _)
  have hrl := hT.short _ (List.getElem_mem hin)
  have hne2 : H.next ≠ A.next := by omega
  simp [hin, t3, t8, kA, hne2, e1, e2A]
  generalize hr : D.blocks[i] = r at *
  have hcells := cells_len r
  have hc0 : r.length ≤ capN 0 0 r.length := by unfold capN; split <;> omega
  generalize hcap : capN 0 0 r.length = cap at hc0
  have e3A := (e3.ge ((G2.trans g).newOf (.cells true [] 0))).1.1
  have hone := cells_one r
  refine ⟨0, [], some A.next, 0, r.length, r.flatMap Rl.cells, by simp [baseOf], e3A, hone, by omega, ?_⟩
  rw [if_neg (by simp), hcap]
  simp
  generalize hB : appHeap _ (A.next + 1) (A.next + 2) (some A.next) _ _ = B
  have gAB : Ge A B := by rw [← hB]; exact Ge.app (Ge.new _ _) (by omega) (by simp) (by simp)
  have nB : B.next = A.next + 2 := by rw [← hB]; simp [appHeap]
  have kB : B.get (A.next + 1) = .cells true (r.flatMap Rl.cells) (cap * 3) := by rw [← hB]; simp [appHeap]
  clear hB
  refine floop_intro (fun z => z.d = [] ∧ Ge A z.H ∧ A.next + 2 ≤ z.H.next ∧ z.t 1 = .int .u16 (n : Int) ∧ z.t 2 = .int .u16 (m : Int) ∧ z.t 3 = .pointer (some ⟨H.next, 0, none⟩) ∧ z.t 7 = .pointer (some ⟨H2.next, 0, none⟩) ∧ z.t 8 = .int .i64 (i : Int) ∧ z.t 9 = .slice (some ⟨A.next + 1, 0, none⟩) r.length cap ∧
    ∃ j : Nat, j ≤ r.length ∧ z.t 10 = .int .i64 (j : Int) ∧ z.H.get (A.next + 1) = .cells true ((partL x r j).flatMap Rl.cells) (cap * 3)) (fun z => r.length - (intOf (z.t 10)).toNat) ?_ ?_
  · exact ⟨rfl, gAB, by show A.next + 2 ≤ B.next; omega, by simp [t1], by simp [t2], by simp [t3], by simp [t7], by simp [t8], by simp, 0, by omega, by simp, by simpa [partL] using kB⟩
  have t8o := t8
  clear t1 t2 t3 t7 t8 kB nB gAB
  rintro ⟨t, _, B⟩ ⟨rfl, gB, nB, t1, t2, t3, t7, t8, t9, j, hj, t10, kq⟩
  dsimp only at gB nB t1 t2 t3 t7 t8 t9 t10 kq
  simp [t9, t10]
  by_cases hjn : j < r.length
  case neg =>
    have hje : j = r.length := by omega
    have hpl : partL x r j = r.map (Rl.later x) := by rw [hje]; simp [partL]
    rw [hpl] at kq
    have kxB := gB.got (n := H2.next) (by omega) kx
    have hRB : RowsG 3 Rl.cells (B.new (.cells true [.slice (some ⟨A.next + 1, 0, none⟩) r.length cap] 1)) (H2.next + 1) (fun m => slName (.slice (some ⟨A.next + 1, 0, none⟩) r.length cap) = some m) v8 ((D.later x).blocks.take i) := hR.keep (by simp; omega) (fun n h1 h2 _ => by
      have : n ≠ B.next := by omega
      simp [this, gB.get n h2]) fun m hm hx => by simp [slName] at hx; omega
    have hlen' : (r.map (Rl.later x)).length = r.length := by simp
    have hown : OwnS (B.new (.cells true [.slice (some ⟨A.next + 1, 0, none⟩) r.length cap] 1)) (H2.next + 1) 3 (.slice (some ⟨A.next + 1, 0, none⟩) r.length cap) (r.map (Rl.later x)).length ((r.map (Rl.later x)).flatMap Rl.cells) := by
      have hqn : A.next + 1 ≠ B.next := by omega
      have := rels_cells (A := B.new (.cells true [.slice (some ⟨A.next + 1, 0, none⟩) r.length cap] 1)) (lo := H2.next + 1) (q := A.next + 1) (cap := cap) (c := cap * 3) (l := r.map (Rl.later x)) (by omega) (by simp; omega) (by simp [hqn]; exact kq) (by rw [hlen']; exact hc0) (Nat.le_refl _)
      rwa [hlen'] at this ⊢
    simp [hjn, t7, t9, kxB]
    refine hRB.push (r := r.map (Rl.later x)) (x := .slice (some ⟨A.next + 1, 0, none⟩) r.length cap) (X' := fun _ => False) hown (fun m hm => ⟨fun e => hRB.own m e hm, fun hf => hf⟩) (fun m hm => hm.elim) (slCells_new (rw := true) (c := 1) (by simp)) (by rw [List.length_take]; omega) (by simp) (by omega) (by simp; omega) fun u' C k1 k2 k3 k4 => ?_
    have h8 : ∀ m, slName v8 = some m → H2.next + 1 ≤ m := fun m hm => (hR.names hm).1
    have kC : ∀ q, q < H2.next + 1 → C.get q = B.get q := fun q hq => by
      rw [k4 q (by omega) (fun e => by have := h8 q e; omega), Heap.new_get, if_neg (by omega)]
    have kCx := (kC H2.next (by omega)).trans kxB
    have hu' := k1.one
    simp [t7, kCx, hu', hw, one_cells, t8, add_in (x := i) (y := 1) (by omega) (by omega)]
    refine ⟨⟨⟨by have := g.next; simp; omega, fun q hq => ?_⟩, by omega, t1, t2, t3, i + 1, by omega, by omega, ?_⟩, by rw [t8o]; simp; omega⟩
    · have e1 : q ≠ H2.next := by omega
      simp [e1]
      rw [kC q (by omega), gB.get q (by have := g.next; omega), g.get q hq]
    · have hstep : (D.later x).blocks.take (i + 1) = (D.later x).blocks.take i ++ [r.map (Rl.later x)] := by
        rw [List.take_succ_eq_append_getElem (by omega)]
        congr 2
        simp only [Dy.later, List.getElem_map, hr]
      rw [hstep]
      exact k1.keep (by simp) (fun q h1 _ _ => by rw [Heap.set_get, if_neg (by omega)]) (fun _ _ hf => hf)
  have hvr := hV.rel (b := r) (by rw [← hr]; exact List.getElem_mem hin) (List.getElem_mem hjn)
  have he : islV 3 (.slice (some ⟨A.next + 1, 0, none⟩) r.length cap) (.int .i64 (j : Int)) = some (.pointer (some ⟨A.next + 1, j * 3, none⟩)) := by
    rw [islV_in (by omega) (by omega)]; simp
  have hpj : j < (partL x r j).length := by rw [partL_length hj]; exact hjn
  obtain ⟨ld1, ld2⟩ := rel_ld (partL x r j) j hpj
  have hat := partL_at (x := x) hjn
  rw [hat] at ld1 ld2
  have hwn : IntKind.i64.wrap (n : Int) = (n : Int) := wrap_i64n (by omega)
  have hwr := wr_rel (a := r[j].lo + x) (b := r[j].hi + x) (partL x r j) j hpj
  rw [hat] at hwr
  have hset := partL_set (x := x) hjn
  have hlat : Rl.later x r[j] = ⟨r[j].place, r[j].lo + x, r[j].hi + x⟩ := rfl
  rw [hlat] at hset
  rw [hset] at hwr
  have hclen : ((partL x r j).flatMap Rl.cells).length = r.length * 3 := by rw [cells_len, partL_length hj]
  have hroom : j * 3 + 1 + 2 ≤ r.length * 3 := by omega
  simp [hjn, t1, t9, t10, he, kq, ld1, ld2, hwn, rem_thou, hx, add_in (x := r[j].lo) (y := (x : Int)) (by omega) (by omega), add_in (x := r[j].hi) (y := (x : Int)) (by omega) (by omega)]
  have hclen2 : ((partL x r j).map fun a => a.cells.length).sum = r.length * 3 := by rw [← hclen, List.length_flatMap]
  rw [hclen2, if_pos hroom, hwr]
  simp [t10, add_in (x := j) (y := 1) (by omega) (by omega)]
  exact ⟨⟨Ge.setNew (Ge.grow_le (by have := gB.next; omega) gB) (by omega) _, by omega, t1, t2, t3, t7, t8, t9, j + 1, by omega, by omega, rfl⟩, by omega⟩

end Go.Proofs.YtllkhaabcfnlpaaDoor


/-
  The tables of math/bits, and a world for the witness, as the laws of package duty need them.
-/
namespace Go.Proofs.YtllkhaabcfnlpaaDoor
open Go Go.Ab Go.ChangeShapes Go.WideShapes Go.ChangeAt Go.RowKit

theorem ownT : ownKnob Tryd.prog.godebug = none := by kernel_rfl
theorem gTab0 : Tryd.prog.globalNamed "math/bits.deBruijn32tab" = some 0 := by kernel_rfl
theorem gTab1 : Tryd.prog.globalNamed "math/bits.deBruijn64tab" = some 1 := by kernel_rfl
theorem gType0 : (Tryd.prog.globals[0]?).map (·.type) = some 180 := by kernel_rfl
theorem gType1 : (Tryd.prog.globals[1]?).map (·.type) = some 181 := by kernel_rfl
theorem cellsT180 : Tryd.prog.cellsOf 180 = 32 := by kernel_rfl
theorem cellsT181 : Tryd.prog.cellsOf 181 = 64 := by kernel_rfl
theorem cellsT5 : Tryd.prog.cellsOf 5 = 1 := by kernel_rfl

theorem laidT : laidOutB Tryd.prog = true := by kernel_rfl
theorem readT {l : List Nat} (h : l.all (fun t => Tryd.prog.readableRec t && decide (t < Tryd.prog.types.size)) = true) : ∀ t ∈ l, Tryd.prog.readableRec t = true ∧ t < Tryd.prog.types.size := by
  intro t ht
  have := List.all_eq_true.1 h t ht
  simpa using this

/-- What the row's list gives. -/
abbrev tabsL {H : Type} : List (String × DataW H) := [("math/bits.deBruijn32tab", Rows.laid_math_bits_deBruijn32tab), ("math/bits.deBruijn64tab", Rows.laid_math_bits_deBruijn64tab)]
theorem tables {W : World} (h : laidMetH Tryd.prog tabsL W) : gmax ≤ W.heap.size ∧ ∀ g, g < gmax → ∃ cs c, [gl0, gl1][g]? = some (some (false, cs, c)) ∧ cs.all flat1 = true ∧ (absH W.heap).get g = .cells false cs c := by
  have t0 := abs_tab (Lib.tabIs_of_head (k := .u8) (zs := [0, 1, 28, 2, 29, 14, 24, 3, 30, 22, 20, 15, 25, 17, 4, 8, 31, 27, 13, 23, 21, 19, 16, 7, 26, 12, 18, 6, 11, 5, 10, 9]) gTab0 gType0 Tryd.underlying180 Tryd.underlying5 cellsT5 cellsT180 h) gTab0
  have t1 := abs_tab (Lib.tabIs_of_head (k := .u8) (zs := [0, 1, 56, 2, 57, 49, 28, 3, 61, 58, 42, 50, 38, 29, 17, 4, 62, 47, 59, 36, 45, 43, 51, 22, 53, 39, 33, 30, 24, 18, 12, 5, 63, 55, 48, 27, 60, 41, 37, 16, 46, 35, 44, 21, 52, 32, 23, 11, 54, 26, 40, 15, 34, 20, 31, 10, 25, 14, 19, 9, 13, 8, 7, 6]) (rest := []) gTab1 gType1 Tryd.underlying181 Tryd.underlying5 cellsT5 cellsT181 (laidMet.tail h)) gTab1
  refine ⟨t1.1, fun g hg => ?_⟩
  match g, hg with
  | 0, _ => exact ⟨_, _, rfl, rfl, t0.2⟩
  | 1, _ => exact ⟨_, _, rfl, rfl, t1.2⟩

/-- A world for the witness: the settled one with the arguments' memory, the tables holding what their initialisers lay. -/
noncomputable def laidCells (l : Array Value) : Obj → Obj
  | .cells _ t frozen => .cells l t frozen
  | o => o
noncomputable def laidWorld (os : Os) (args : Array Value) : World :=
  { World.holding Tryd.prog os ⟨#[], args, []⟩ with heap := ((World.holding Tryd.prog os ⟨#[], args, []⟩).heap.modify 0 (laidCells #[.int .u8 0, .int .u8 1, .int .u8 28, .int .u8 2, .int .u8 29, .int .u8 14, .int .u8 24, .int .u8 3, .int .u8 30, .int .u8 22, .int .u8 20, .int .u8 15, .int .u8 25, .int .u8 17, .int .u8 4, .int .u8 8, .int .u8 31, .int .u8 27, .int .u8 13, .int .u8 23, .int .u8 21, .int .u8 19, .int .u8 16, .int .u8 7, .int .u8 26, .int .u8 12, .int .u8 18, .int .u8 6, .int .u8 11, .int .u8 5, .int .u8 10, .int .u8 9])).modify 1 (laidCells #[.int .u8 0, .int .u8 1, .int .u8 56, .int .u8 2, .int .u8 57, .int .u8 49, .int .u8 28, .int .u8 3, .int .u8 61, .int .u8 58, .int .u8 42, .int .u8 50, .int .u8 38, .int .u8 29, .int .u8 17, .int .u8 4, .int .u8 62, .int .u8 47, .int .u8 59, .int .u8 36, .int .u8 45, .int .u8 43, .int .u8 51, .int .u8 22, .int .u8 53, .int .u8 39, .int .u8 33, .int .u8 30, .int .u8 24, .int .u8 18, .int .u8 12, .int .u8 5, .int .u8 63, .int .u8 55, .int .u8 48, .int .u8 27, .int .u8 60, .int .u8 41, .int .u8 37, .int .u8 16, .int .u8 46, .int .u8 35, .int .u8 44, .int .u8 21, .int .u8 52, .int .u8 32, .int .u8 23, .int .u8 11, .int .u8 54, .int .u8 26, .int .u8 40, .int .u8 15, .int .u8 34, .int .u8 20, .int .u8 31, .int .u8 10, .int .u8 25, .int .u8 14, .int .u8 19, .int .u8 9, .int .u8 13, .int .u8 8, .int .u8 7, .int .u8 6]) }

end Go.Proofs.YtllkhaabcfnlpaaDoor


/-
  The arguments of the laws of package duty, as the calculus has them: days, lists, rows, words, numbers.
-/
namespace Go.Proofs.YtllkhaabcfnlpaaDoor
open Go Go.Ab Go.RowKit Go.ChangeShapes Go.WideShapes

theorem cells3 : Tryd.prog.cellsOf 3 = 1 := by kernel_rfl
theorem cells28 : Tryd.prog.cellsOf 28 = 1 := by kernel_rfl
theorem cells80 : Tryd.prog.cellsOf 80 = 1 := by kernel_rfl
theorem cells24 : Tryd.prog.cellsOf 24 = 1 := by kernel_rfl
theorem cells25 : Tryd.prog.cellsOf 25 = 1 := by kernel_rfl
theorem cells82 : Tryd.prog.cellsOf 82 = 2 := by kernel_rfl
theorem cells84 : Tryd.prog.cellsOf 84 = 3 := by kernel_rfl
theorem cells23 : Tryd.prog.cellsOf 23 = 8 := by kernel_rfl
theorem cells27 : Tryd.prog.cellsOf 27 = 10 := by kernel_rfl
theorem abs_size (hp : Array Obj) : hp.size ≤ (absH hp).next := Nat.le_succ_of_le (Nat.le_mul_of_pos_right _ (Nat.succ_pos _))

theorem list3 {l : List Value} (h : l.length = 3) : ∃ a b c, l = [a, b, c] := by
  match l, h with
  | [a, b, c], _ => exact ⟨a, b, c, rfl⟩
theorem list10 {l : List Value} (h : l.length = 10) : ∃ a b c d e f g i j k, l = [a, b, c, d, e, f, g, i, j, k] := by
  match l, h with
  | [a, b, c, d, e, f, g, i, j, k], _ => exact ⟨a, b, c, d, e, f, g, i, j, k, rfl⟩

section
variable {H : Type} {enc : TypeId × Value → H} {w : World} {fuel : Nat} {v : Value} {x : DataW H × List MemPlace}

theorem maxLen_lt {n : Nat} (h : n ≤ maxLen) : n < 2 ^ 63 := by
  have : maxLen = 9223372036854775807 := rfl
  omega

theorem read_list (h : DataW.trod enc Tryd.prog w 0 (fun _ => true) true fuel 28 [v] = some x) : goodV w.heap.size (capM w.heap) v = true ∧ ∃ xs : List Int, IntsAt (absH w.heap) (absV w.heap.size v) xs := by
  obtain ⟨h1, xs, h2, h3, _⟩ := read_ints Tryd.underlying28 Tryd.underlying3 cells3 h
  exact ⟨h1, xs, h2, maxLen_lt h3⟩

theorem read_of {t e : TypeId} {α : Type} {R : Heap → Value → α → Prop} (ht : Tryd.prog.underlying t = some (.slice e)) (hc : Tryd.prog.cellsOf e = 1)
    (hs : ∀ n cs y, DataW.trod enc Tryd.prog w 0 (fun _ => true) true n e cs = some y → ∃ u, cs = [u])
    (hr : ∀ n u y, DataW.trod enc Tryd.prog w 0 (fun _ => true) true n e [u] = some y → goodV w.heap.size (capM w.heap) u = true ∧ ∃ x : α, R (absH w.heap) (absV w.heap.size u) x)
    (h : DataW.trod enc Tryd.prog w 0 (fun _ => true) true fuel t [v] = some x) : goodV w.heap.size (capM w.heap) v = true ∧ ∃ xs : List α, RowsOf R (absH w.heap) (absV w.heap.size v) xs := by
  obtain ⟨h1, l, h2, h3, h4⟩ := read_slice (α := α × Value) (f := fun x => [x.2]) (Q := fun x => R (absH w.heap) x.2 x.1) ht (by rw [hc]; omega) (fun n cs y hy => by
    obtain ⟨u, rfl⟩ := hs _ _ _ hy
    obtain ⟨k1, xs, k2⟩ := hr _ _ _ hy
    exact ⟨by simpa using k1, (xs, absV w.heap.size u), rfl, k2⟩) h
  refine ⟨h1, l.map (·.1), l.map (·.2), ?_, by simpa using maxLen_lt h3, fun i hi => ?_⟩
  · rw [hc] at h2
    have e : l.flatMap (fun x => [x.2]) = l.map (·.2) := by
      clear h2 h3 h4
      induction l with
      | nil => rfl
      | cons x l ih => simp [ih]
    rw [← e, List.length_map]
    exact h2
  · simp at hi
    exact ⟨l[i].2, by simp [hi], by simpa using h4 _ (List.getElem_mem hi)⟩

theorem one_slice {t e : TypeId} (ht : Tryd.prog.underlying t = some (.slice e)) {n : Nat} {cs : List Value} {y : DataW H × List MemPlace} (hy : DataW.trod enc Tryd.prog w 0 (fun _ => true) true n t cs = some y) : ∃ u, cs = [u] := by
  rcases Deep.open_slice ht hy with ⟨hv, _⟩ | ⟨a, len, cap, m, n, D, Pl, hv, _⟩ <;> exact ⟨_, hv⟩

theorem read_rows (h : DataW.trod enc Tryd.prog w 0 (fun _ => true) true fuel 25 [v] = some x) : goodV w.heap.size (capM w.heap) v = true ∧ ∃ xs : List (List Int), RowsAt (absH w.heap) (absV w.heap.size v) xs :=
  read_of Tryd.underlying25 cells28 (fun _ _ _ hy => one_slice Tryd.underlying28 hy) (fun _ _ _ hy => read_list hy) h

theorem read_relief {cs : List Value} (h : DataW.trod enc Tryd.prog w 0 (fun _ => true) true fuel 84 cs = some x) : (∀ u ∈ cs, goodV w.heap.size (capM w.heap) u = true) ∧ ∃ t : Rl, cs.map (absV w.heap.size) = t.cells ∧ True := by
  obtain ⟨ys, n, _, _, hl, hyl, hf⟩ := DataW.trod_struct Tryd.underlying84 h
  rw [cells84] at hl
  obtain ⟨c0, c1, c2, rfl⟩ := list3 hl
  have hy2 : ys.length = 2 := by simpa using hyl
  have e0 := hf 0 _ rfl
  have e1 := hf 1 _ rfl
  simp [cells3, cells82, hy2] at e0 e1
  obtain ⟨zs, m, _, _, hl', hyl', hf'⟩ := DataW.trod_struct Tryd.underlying82 e1
  have hz2 : zs.length = 2 := by simpa using hyl'
  have e2 := hf' 0 _ rfl
  have e3 := hf' 1 _ rfl
  simp [cells3, hz2] at e2 e3
  obtain ⟨z0, hz0, _⟩ := DataW.trod_int Tryd.underlying3 e0
  obtain ⟨z1, hz1, _⟩ := DataW.trod_int Tryd.underlying3 e2
  obtain ⟨z2, hz2, _⟩ := DataW.trod_int Tryd.underlying3 e3
  simp at hz0 hz1 hz2
  subst hz0 hz1 hz2
  exact ⟨by simp [goodV], ⟨z0, z1, z2⟩, rfl, trivial⟩

theorem read_rels (h : DataW.trod enc Tryd.prog w 0 (fun _ => true) true fuel 80 [v] = some x) : goodV w.heap.size (capM w.heap) v = true ∧ ∃ xs : List Rl, RelsAt (absH w.heap) (absV w.heap.size v) xs := by
  obtain ⟨h1, xs, h2, h3, _⟩ := read_slice (α := Rl) (f := Rl.cells) (Q := fun _ => True) Tryd.underlying80 (by rw [cells84]; omega) (fun n cs y hy => read_relief hy) h
  rw [cells84] at h2
  exact ⟨h1, xs, h2, maxLen_lt h3⟩

theorem read_blks (h : DataW.trod enc Tryd.prog w 0 (fun _ => true) true fuel 24 [v] = some x) : goodV w.heap.size (capM w.heap) v = true ∧ ∃ xs : List (List Rl), BlksAt (absH w.heap) (absV w.heap.size v) xs :=
  read_of Tryd.underlying24 cells80 (fun _ _ _ hy => one_slice Tryd.underlying80 hy) (fun _ _ _ hy => read_rels hy) h
end

section
variable {H : Type} {enc : TypeId × Value → H} {w : World} {base : Nat} {v : Value} {d : DataW H} {p : List MemPlace}

set_option maxRecDepth 100000 in
theorem read_dayV (hval : Value.okWide Tryd.prog w .any base 27 v) (h : DataW.Trod enc Tryd.prog w 0 (fun _ => true) true 27 v d p) :
    ∃ D b u, VR (absB w.heap) (dayV D b u) v ∧ DayAt (absH w.heap) b u D := by
  obtain ⟨cs, rfl, hsz⟩ := okWide_struct Tryd.underlying27 hval
  obtain ⟨fuel, h⟩ := h
  simp only [Value.cells] at h
  obtain ⟨ys, n, _, _, hl, hyl, hf⟩ := DataW.trod_struct Tryd.underlying27 h
  rw [cells27] at hl
  obtain ⟨l, rfl⟩ : ∃ l : List Value, cs = l.toArray := ⟨cs.toList, by simp⟩
  simp only at hl hf
  obtain ⟨c0, c1, c2, c3, c4, c5, c6, c7, c8, c9, rfl⟩ := list10 hl
  have hy3 : ys.length = 3 := by simpa using hyl
  have e0 := hf 0 _ rfl
  have e1 := hf 1 _ rfl
  have e2 := hf 2 _ rfl
  simp [cells23, cells24, cells25, hy3] at e0 e1 e2
  obtain ⟨zs, m, _, _, hl', hyl', hf'⟩ := DataW.trod_struct Tryd.underlying23 e0
  have hz8 : zs.length = 8 := by simpa using hyl'
  have f0 := hf' 0 _ rfl
  have f1 := hf' 1 _ rfl
  have f2 := hf' 2 _ rfl
  have f3 := hf' 3 _ rfl
  have f4 := hf' 4 _ rfl
  have f5 := hf' 5 _ rfl
  have f6 := hf' 6 _ rfl
  have f7 := hf' 7 _ rfl
  simp [cells3, hz8] at f0 f1 f2 f3 f4 f5 f6 f7
  obtain ⟨z0, h0, _⟩ := DataW.trod_int Tryd.underlying3 f0
  obtain ⟨z1, h1, _⟩ := DataW.trod_int Tryd.underlying3 f1
  obtain ⟨z2, h2, _⟩ := DataW.trod_int Tryd.underlying3 f2
  obtain ⟨z3, h3, _⟩ := DataW.trod_int Tryd.underlying3 f3
  obtain ⟨z4, h4, _⟩ := DataW.trod_int Tryd.underlying3 f4
  obtain ⟨z5, h5, _⟩ := DataW.trod_int Tryd.underlying3 f5
  obtain ⟨z6, h6, _⟩ := DataW.trod_int Tryd.underlying3 f6
  obtain ⟨z7, h7, _⟩ := DataW.trod_int Tryd.underlying3 f7
  obtain ⟨g8, xs, k8⟩ := read_blks e1
  obtain ⟨g9, us, k9⟩ := read_rows e2
  simp at h0 h1 h2 h3 h4 h5 h6 h7
  subst h0 h1 h2 h3 h4 h5 h6 h7
  refine ⟨⟨⟨z0, z1, z2, z3, z4, z5, z6, z7⟩, xs, us⟩, absV w.heap.size c8, absV w.heap.size c9, VR.mk_agg ?_, ⟨k8, k9⟩⟩
  exact ⟨.int _ _, .int _ _, .int _ _, .int _ _, .int _ _, .int _ _, .int _ _, .int _ _, good_VR g8, good_VR g9, trivial⟩

set_option maxRecDepth 100000 in
theorem read_u16V (hval : Value.okWide Tryd.prog w .any base 71 v) (h : DataW.Trod enc Tryd.prog w 0 (fun _ => true) true 71 v d p) : ∃ x : Int, VR (absB w.heap) (.int .u16 x) v ∧ (0 ≤ x ∧ x < 65536) := by
  obtain ⟨x, rfl⟩ := okWide_int Tryd.underlying71 hval
  obtain ⟨fuel, h⟩ := h
  obtain ⟨z, hz, _, hw⟩ := DataW.trod_int Tryd.underlying71 h
  simp [Value.cells] at hz
  subst hz
  simp [Lit.wf, IntKind.min, IntKind.max, IntKind.signed, IntKind.bits] at hw
  exact ⟨x, .int _ _, by omega⟩
end

end Go.Proofs.YtllkhaabcfnlpaaDoor


/-
  The table of the package math/bits in the program's memory.
-/
namespace Go.Proofs.YtllkhaabcfnlpaaDoor
open Go Go.Ab

theorem gl_of {W : World} (hgl : gmax ≤ W.heap.size) (hgc : ∀ g, g < gmax → ∃ cs c, [gl0, gl1][g]? = some (some (false, cs, c)) ∧ cs.all flat1 = true ∧ (absH W.heap).get g = .cells false cs c) : Gl (absH W.heap) := by
  obtain ⟨cs, c, k1, _, k3⟩ := hgc 1 (by decide)
  have e := Option.some.inj (Option.some.inj k1)
  have e1 : tz64 = cs := congrArg (fun p => p.2.1) e
  subst e1
  exact ⟨Nat.le_trans hgl (abs_size _), c, k3⟩

end Go.Proofs.YtllkhaabcfnlpaaDoor

