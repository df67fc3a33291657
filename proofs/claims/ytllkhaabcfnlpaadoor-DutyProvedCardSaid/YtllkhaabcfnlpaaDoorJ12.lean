/-
  Joined texts of a calculus of abstract memory, of the program's code in it, and of contracts.
-/
import Derived.Test.YtllkhaabcfnlpaaDoorJ6
import Derived.Test.YtllkhaabcfnlpaaDoorJ9
import Derived.Test.YtllkhaabcfnlpaaDoorJ10
import Derived.Test.YtllkhaabcfnlpaaDoorJ11
import Derived.WalkKit
import Derived.ProofKit
import Derived.OpenShut
import Derived.Deep.DeepHandedRow
import Derived.Test.YtllkhaabcfnlpaaDoorCards
import Derived.Test.YtllkhaabcfnlpaaDoorTie
/-
  A best plan of a planned day.
-/
namespace Go.Proofs.YtllkhaabcfnlpaaDoor
open Go Go.Ab

/-- The pay of a set of segments. -/
def payN (D : Dy) (d : Nat) : Int := payOf D (known0 D) (piecesL D d)
theorem payN_bounds {D : Dy} (hV : Valid D) (d : Nat) : 0 ≤ payN D d ∧ payN D d ≤ 100000 := by
  have h1 := law_bounds hV
  have hK : ∀ b n, (0 ≤ (kAt (known0 D) b n).1 ∧ (kAt (known0 D) b n).1 ≤ 3000) ∧ (0 ≤ (kAt (known0 D) b n).2 ∧ (kAt (known0 D) b n).2 ≤ 3000) := fun b n => by
    have hb := (known0_ok hV).bound
    unfold kAt
    cases hx : (known0 D)[b]? with
    | none => simp
    | some x =>
      cases hy : x[n]? with
      | none => simp [hy]
      | some y =>
        have := hb x (List.mem_of_getElem? hx) y (List.mem_of_getElem? hy)
        simpa [hy] using this
  unfold payN payOf spreadOf
  have h2 := hK ((piecesL D d)[(piecesL D d).length - 1]?.getD fz).e ((piecesL D d)[(piecesL D d).length - 1]?.getD fz).t
  have h3 := hK ((piecesL D d)[0]?.getD fz).b ((piecesL D d)[0]?.getD fz).f
  omega
theorem LL_ok {D : Dy} (hV : Valid D) : SetsOk (legalL D (known0 D)) := fun d hd => by
  have h := (passL_mem.1 hd).1
  have := (pow_segN hV).2
  omega
theorem LL_len {D : Dy} (hV : Valid D) : (legalL D (known0 D)).length ≤ 1024 := Nat.le_trans passL_length (pow_segN hV).2

/-- The slices of the duties that begin with each segment. -/
structure Begs (A : Heap) (lo : Nat) (L : List Nat) (f : Nat → Option Value) : Prop where
  own : ∀ i, i < 10 → OwnSl A lo ((f (2 ^ i)).getD (.slice none 0 0)) ((L.filter fun d => low d == i).map bitsV)
  apart : ∀ i j n, i < 10 → j < 10 → i ≠ j → slName ((f (2 ^ i)).getD (.slice none 0 0)) = some n → slName ((f (2 ^ j)).getD (.slice none 0 0)) ≠ some n

section
variable {A B : Heap} {lo : Nat} {L : List Nat} {f : Nat → Option Value}
theorem Begs.keep (h : Begs A lo L f) (hn : A.next ≤ B.next) (hk : ∀ n, lo ≤ n → n < A.next → (∃ b cs c, A.get n = .cells b cs c) → B.get n = A.get n) : Begs B lo L f := by
  refine ⟨fun i hi => (h.own i hi).keep hn fun n hs => ?_, h.apart⟩
  have hnm := (h.own i hi).names hs
  refine hk n hnm.1 hnm.2 ?_
  rcases h.own i hi with ⟨e, _⟩ | ⟨m, cap, c, e, h1, h2, h3, _⟩
  · rw [e] at hs; cases hs
  · rw [e] at hs; cases hs
    exact ⟨_, _, _, h3⟩
theorem pow_inj {i j : Nat} (h : 2 ^ i = 2 ^ j) : i = j := (Nat.pow_right_inj (by omega : 1 < 2)).1 h
theorem Begs.push {d n : Nat} {u : Value} (h : Begs A lo L f) (_hd : low d < 10) (hu : OwnSl B lo u (((L.filter fun x => low x == low d).map bitsV) ++ [bitsV d])) (hun : slName u = some n) (hn : A.next ≤ n) (hnext : A.next ≤ B.next)
    (hk : ∀ m, lo ≤ m → m < A.next → slName ((f (2 ^ low d)).getD (.slice none 0 0)) ≠ some m → B.get m = A.get m) : Begs B lo (L ++ [d]) (putF f (2 ^ low d) u) := by
  have hsame : ∀ j, j = low d → (putF f (2 ^ low d) u (2 ^ j)).getD (.slice none 0 0) = u := fun j e => by subst e; simp [putF]
  have hother : ∀ j, j ≠ low d → (putF f (2 ^ low d) u (2 ^ j)).getD (.slice none 0 0) = (f (2 ^ j)).getD (.slice none 0 0) := fun j e => by
    have : ¬ 2 ^ j = 2 ^ low d := fun e2 => e (pow_inj e2)
    simp [putF, this]
  refine ⟨fun j hj => ?_, fun i j m hi hj hij hm => ?_⟩
  · rw [List.filter_append, List.map_append]
    by_cases e : j = low d
    · rw [hsame j e, e]
      simpa using hu
    · rw [hother j e]
      have e2 : ¬ low d = j := fun e3 => e e3.symm
      simp only [List.filter_cons, List.filter_nil, beq_iff_eq, e2, if_false, List.map_nil, List.append_nil]
      exact (h.own j hj).keep hnext fun m hs => hk m ((h.own j hj).names hs).1 ((h.own j hj).names hs).2 fun e3 => h.apart j (low d) m hj _hd e hs e3
  · by_cases e1 : i = low d
    · rw [hsame i e1, hun] at hm
      have e2 : j ≠ low d := fun e2 => hij (e1.trans e2.symm)
      rw [hother j e2]
      cases hm
      intro hs
      have := ((h.own j hj).names hs).2
      omega
    · rw [hother i e1] at hm
      by_cases e2 : j = low d
      · rw [hsame j e2, hun]
        intro hs
        cases hs
        have := ((h.own i hi).names hm).2
        omega
      · rw [hother j e2]; exact h.apart i j m hi hj hij hm

/-- A slice stays if the cells stay. -/
theorem _root_.Go.Ab.SlR.same {sz len : Nat} {v : Value} {cs : List Value} (h : SlR A sz v len cs) (hn : A.next ≤ B.next) (hk : ∀ n, n < A.next → (∃ b cs c, A.get n = .cells b cs c) → B.get n = A.get n) : SlR B sz v len cs := by
  refine ⟨?_, fun a n c e => Nat.lt_of_lt_of_le (h.2 a n c e) hn⟩
  rcases h.cases with ⟨rfl | rfl, rfl, rfl⟩ | ⟨n, o, cap, rw, ds, c, rfl, hg, hr⟩
  · rfl
  · rfl
  · simp only [slCells, hk n (h.2 _ _ _ rfl) ⟨_, _, _, hg⟩, hg, hr, Option.map_some]
end

theorem best_spec {D : Dy} {b w s k q : Value} {H : Heap} (hP : PlanAt H b w s k q D (known0 D)) (hV : Valid D) (hG : Gl H) :
    AFun Tryd.prog 80 [planV D b w s k q] H (fun r B => ∃ v, r = .tuple #[v, .int .i64 (choose (legalL D (known0 D)) (payN D) (2 ^ segN D - 1)).pay, .bool (choose (legalL D (known0 D)) (payN D) (2 ^ segN D - 1)).ok] ∧ RowsAt B v ((planOf (legalL D (known0 D)) (payN D) (2 ^ segN D - 1)).map rowOf) ∧ Ge H B) := by
  refine AFun.mk ok80 hm (Nat.le_of_ble_eq_true rfl) ?_
  have hb := hP.day.blocks.one
  have hw := hP.day.walk.one
  have hs := hP.segs.one
  have hk := hP.known.one
  have hq : one q = true := SlR.one hP.quest
  obtain ⟨hp1, hp2⟩ := pow_segN hV
  simp [a80, r80, hb, hw, hs, hk, hq]
  generalize hH1 : Heap.set _ (H.next + 4) _ = H1
  have g1 : Ge H H1 := by
    rw [← hH1]
    exact (((((Ge.new _ _).newOf _).newOf _).setNew (by simp) _).newOf _).newOf _ |>.setNew (by simp) _
  have n1 : H1.next = H.next + 5 := by rw [← hH1]; simp
  have k0 : H1.get H.next = .cells true (planCells D b w s k q) 13 := by rw [← hH1]; simp
  have k1 : H1.get (H.next + 1) = .map [] 0 := by rw [← hH1]; simp
  have k2 : H1.get (H.next + 2) = .cells true [.map (some (H.next + 1))] 1 := by rw [← hH1]; simp
  have k3 : H1.get (H.next + 3) = .map [] 0 := by rw [← hH1]; simp
  have k4 : H1.get (H.next + 4) = .cells true [.map (some (H.next + 3))] 1 := by rw [← hH1]; simp
  clear hH1
  refine fcall_fun (legalDuties_spec (hP.ge g1) hV (known0_ok hV)) ?_
  rintro v H2 ⟨o2, g2⟩
  have n2 := g2.next
  replace k0 := g2.got (by omega) k0
  replace k1 := g2.got (by omega) k1
  replace k2 := g2.got (by omega) k2
  replace k3 := g2.got (by omega) k3
  replace k4 := g2.got (by omega) k4
  have G2 := g1.trans g2
  have hsl := o2.slr
  simp only [List.length_map] at hsl
  have hLok := LL_ok hV
  have hLlen := LL_len hV
  have hLd : ∀ d ∈ legalL D (known0 D), d < 2 ^ segN D := fun d hd => (passL_mem.1 hd).1.2
  simp [hsl.lenV]
  generalize hLL : legalL D (known0 D) = L at *
  refine floop_intro (fun z => z.d = [] ∧ H2.next ≤ z.H.next ∧ (∀ n, n < H2.next → n ≠ H.next + 1 → n ≠ H.next + 3 → z.H.get n = H2.get n) ∧ z.t 1 = .pointer (some ⟨H.next, 0, none⟩) ∧ z.t 5 = .pointer (some ⟨H.next + 2, 0, none⟩) ∧ z.t 6 = .pointer (some ⟨H.next + 4, 0, none⟩) ∧ z.t 15 = v ∧ z.t 16 = .int .i64 (L.length : Int) ∧
    ∃ (i : Nat) (fp fb : Nat → Option Value), i ≤ L.length ∧ z.t 17 = .int .i64 (i : Int) ∧ MapFn z.H (H.next + 1) fp ∧ (∀ d ∈ L.take i, fp d = some (.int .i64 (payN D d))) ∧ MapFn z.H (H.next + 3) fb ∧ Begs z.H H2.next (L.take i) fb) (fun z => L.length - (intOf (z.t 17)).toNat) ?_ ?_
  · refine ⟨rfl, Nat.le_refl _, fun n _ _ _ => rfl, by simp, by simp, by simp, by simp, by simp, 0, fun _ => none, fun _ => none, by omega, by simp, MapFn.empty k1, fun d hd => by simp at hd, MapFn.empty k3, ⟨fun i _ => .inl ⟨rfl, rfl⟩, fun i j n _ _ _ h => by cases h⟩⟩
  rintro ⟨t, _, A⟩ ⟨rfl, hn, hkeep, t1, t5, t6, t15, t16, i, fp, fb, hi, t17, hmp, hfp, hmb, hbg⟩
  dsimp only at hn hkeep t1 t5 t6 t15 t16 t17 hmp hmb hbg
  have a0 := (hkeep H.next (by omega) (by omega) (by omega)).trans k0
  have a2 := (hkeep (H.next + 2) (by omega) (by omega) (by omega)).trans k2
  have a4 := (hkeep (H.next + 4) (by omega) (by omega) (by omega)).trans k4
  have hslA : SlR A 1 v L.length (L.map bitsV) := hsl.same hn fun n h1 ⟨_, _, _, h2⟩ => hkeep n h1 (fun e => by rw [e, k1] at h2; cases h2) (fun e => by rw [e, k3] at h2; cases h2)
  have gA : Ge H A := ⟨by omega, fun n h => (hkeep n (by have := G2.next; omega) (by omega) (by omega)).trans (G2.get n h)⟩
  simp [t16, t17]
  refine fcond_intro (fun hc => ?_) (fun hc => ?_)
  case refine_2 =>
    have : i = L.length := by simp at hc; omega
    subst this
    rw [List.take_length] at hfp hbg
    have zp : MapFn (A.new (.map [] 0)) A.next fun _ => none := MapFn.empty (by simp)
    obtain ⟨x, hx1, hx2⟩ := zp.put 0 (chV ⟨0, 0, 0, true⟩)
    have hx3 : mupH Tryd.prog 102 (A.new (.map [] 0)) (.int .u64 0) (.agg #[.int .u64 0, .int .i64 0, .int .i64 0, .bool true]) (.map (some A.next)) = some ((A.new (.map [] 0)).set A.next x) := hx1
    simp [hx3, t5, t6]
    have y0 : H.next ≠ A.next := by omega
    have y1 : H.next ≠ A.next + 1 := by omega
    have y2 : H.next ≠ A.next + 2 := by omega
    simp [t1, a0, y0, y1, y2]
    have gX : ∀ (c : AObj), Ge A (({ get := ((((((A.new (AObj.map [] 0)).set A.next x).new (AObj.cells true [Value.map none] 1)).set (A.next + 1) (AObj.cells true [Value.map (some A.next)] 1)).new (AObj.cells true [Value.nilFunc] 1)).set (A.next + 2) (AObj.cells true [Value.func (Fn.func 104) #[] #[.pointer (some ⟨A.next + 1, 0, none⟩), .pointer (some ⟨H.next + 4, 0, none⟩), .pointer (some ⟨A.next + 2, 0, none⟩), .pointer (some ⟨H.next + 2, 0, none⟩)]] 1)).get, next := A.next + 9 } : Heap).set (A.next + 7) c) := fun c => by
      refine Ge.setNew (Ge.grow_le (by omega) ?_) (by omega) _
      exact (((((Ge.new A _).setNew (Nat.le_refl _) _).newOf _).setNew (by omega) _).newOf _).setNew (by omega) _
    refine fcall_fun (all_spec (hP.ge (gA.trans (gX _))) hV) ?_
    rintro _ C ⟨rfl, gC⟩
    have nC := gC.next
    simp at nC
    have gAC := (gX _).trans gC
    have ck := gC.got (n := A.next) (by simp) rfl
    have c1 := gC.got (n := A.next + 1) (by simp) rfl
    have c3 := gC.got (n := A.next + 2) (by simp) rfl
    have c7 := gC.got (n := A.next + 7) (by simp) rfl
    simp at ck c1 c3 c7
    clear gX gC
    have c0 := gAC.got (n := H.next) (by omega) a0
    have c2 := gAC.got (n := H.next + 2) (by omega) a2
    have c4 := gAC.got (n := H.next + 4) (by omega) a4
    have gHC := gA.trans gAC
    have hK : KnownC C L (payN D) A.next (putF (fun _ => none) 0 (chV ⟨0, 0, 0, true⟩)) := by
      refine ⟨hx2 _ ck, by simp [putF], fun k v hv => ?_⟩
      unfold putF at hv
      by_cases e : k = 0
      · subst e
        rw [choose_zero]
        rw [if_pos rfl] at hv
        exact ⟨(Option.some.inj hv).symm, fun h => absurd rfl h⟩
      · rw [if_neg e] at hv; cases hv
    have hS : Sit C L (payN D) (A.next + 1) (H.next + 4) (A.next + 2) (H.next + 2) A.next (H.next + 3) (H.next + 1) := by
      refine ⟨c1, c4, c3, c2, by omega, by omega, ⟨fp, hmp.ge gAC (by omega), hfp⟩, ⟨fb, hmb.ge gAC (by omega), fun j hj => ?_⟩⟩
      have := ((hbg.own j hj).ge gAC).slr
      simpa using this
    have hpay : ∀ d ∈ L, 0 ≤ payN D d ∧ payN D d ≤ 100000 := fun d _ => payN_bounds hV d
    simp [t1, c0, c3]
    refine fcall_intro ((ACall.of_fun (R := fun r B => r = chV (choose L (payN D) (2 ^ segN D - 1)) ∧ GeX A.next C B ∧ ∃ f', KnownC B L (payN D) A.next f' ∧ (∀ k, (putF (fun _ => none) 0 (chV ⟨0, 0, 0, true⟩) k).isSome = true → (f' k).isSome = true) ∧ (f' (2 ^ segN D - 1)).isSome = true) (by simpa using chooseF_spec hLok hpay hLlen (2 ^ segN D - 1) (by omega) C _ hS hK)).mono ?_)
    rintro _ E ⟨rfl, gE, f2, hK2, _, hsome⟩
    have nE := gE.next
    have e0 := (gE.get H.next (by omega) (by omega)).trans c0
    have e1 := (gE.get (A.next + 1) (by omega) (by omega)).trans c1
    have e7 := (gE.get (A.next + 7) (by omega) (by omega)).trans c7
    have gHE : Ge H E := ⟨by have := gHC.next; omega, fun n hn => (gE.get n (by have := gHC.next; omega) (by omega)).trans (gHC.get n hn)⟩
    generalize hch : choose L (payN D) (2 ^ segN D - 1) = c at *
    have y7 : H.next ≠ A.next + 7 := by omega
    have y7k : A.next ≠ A.next + 7 := by omega
    simp [t1, e7, e0, e1, y7]
    have gX : Ge H ({ get := (E.set (A.next + 7) (.cells true (chC c) 4)).get, next := E.next + 11 } : Heap) := Ge.grow_le (by have := gHE.next; omega) (gHE.setNew (by omega) _)
    refine fcall_fun (all_spec (hP.ge gX) hV) ?_
    rintro _ F ⟨rfl, gF⟩
    have nF := gF.next
    simp at nF
    have f0 := gF.got (n := H.next) (by simp; omega) (by simp [y7]; exact e0)
    have f1 := gF.got (n := A.next + 1) (by simp; omega) (by simp; exact e1)
    have f7 := gF.got (n := A.next + 7) (by simp; omega) rfl
    simp at f7
    have hK3 : KnownC F L (payN D) A.next f2 := hK2.keep ((gF.get A.next (by simp; omega)).trans (by simp [y7k]))
    have gHF := gX.trans gF
    simp [t1, f0, f1, f7]
    refine fcall_fun (plan_spec hLok (by omega) hK3 (by omega) hsome (hG.ge gHF)) ?_
    rintro r R ⟨hr, gR⟩
    have r7 := gR.got (n := A.next + 7) (by omega) f7
    simp [f7, r7]
    exact ⟨hr, gHF.trans gR⟩
  have h1 : i < L.length := by simpa using hc
  obtain ⟨p, e1, e2⟩ := hslA.at1 (k := .i64) (i := i) (by simpa using h1)
  have e3 : (L.map bitsV)[i]? = some (bitsV L[i]) := by simp [h1]
  rw [e3] at e2
  have hdL := List.getElem_mem h1
  have hd0 := hLok _ hdL
  have hdn := hLd _ hdL
  have htk : L.take (i + 1) = L.take i ++ [L[i]] := List.take_succ_eq_append_getElem h1
  generalize L[i] = d at *
  simp [t1, t5, t15, t17, e1, e2, a0, a2]
  refine fcall_fun (pay_spec (hP.ge (gA.grow 6)) hV (known0_ok hV) hdn hd0.1) ?_
  rintro _ B ⟨rfl, gB⟩
  have nB := gB.next
  simp only at nB
  have hd10 : d < 1024 := hd0.2
  have b0 := gB.got (n := H.next) (by simp; omega) a0
  have b2 := gB.got (n := H.next + 2) (by simp; omega) a2
  have b4 := gB.got (n := H.next + 4) (by simp; omega) a4
  obtain ⟨x, hx1, hx2⟩ := (hmp.keep (B := B) (gB.get _ (by simp; omega))).put d (.int .i64 (payN D d))
  have hpd : payOf D (known0 D) (piecesL D d) = payN D d := rfl
  simp [t1, t5, b0, b2, hpd, hx1, t6, b4]
  refine fcall_fun (lowest_spec hd0.1 hd10 _) ?_
  rintro _ C ⟨rfl, hC⟩
  have nC : C.next = B.next + 11 := by rw [hC]; simp
  have hCg : ∀ n, n ≠ H.next + 1 → n ≠ B.next + 8 → C.get n = B.get n := fun n h1 h2 => by rw [hC]; simp [h1, h2]
  have c8 : C.get (B.next + 8) = .cells true [bitsV d] 1 := by rw [hC]; simp
  have c1 : C.get (H.next + 1) = x := by rw [hC]; simp; omega
  clear hC
  have c4 := (hCg (H.next + 4) (by omega) (by omega)).trans b4
  simp [t6, c4]
  refine fcall_fun (lowest_spec hd0.1 hd10 _) ?_
  rintro _ C' ⟨rfl, hC⟩
  subst hC
  obtain ⟨_, l10, _⟩ := low_facts hd0.1 hd10
  have cb : MapFn C' (H.next + 3) fb := hmb.keep ((hCg _ (by omega) (by omega)).trans (gB.get _ (by simp; omega)))
  have hl1 := cb.lk1 flat_nil (2 ^ low d)
  simp [t6, c4, hl1]
  have hkC : ∀ m, H2.next ≤ m → m < A.next → C'.get m = A.get m := fun m h1 h2 => (hCg m (by omega) (by omega)).trans (gB.get m (by show m < A.next + 6; omega))
  have ho := (hbg.own (low d) l10).keep (B := C') (by omega) fun m hm => hkC m ((hbg.own (low d) l10).names hm).1 ((hbg.own (low d) l10).names hm).2
  have hnm := fun m hm => (hbg.own (low d) l10).names (n := m) hm
  generalize hold : (fb (2 ^ low d)).getD (.slice none 0 0) = old at *
  have hfl : ((L.take i).filter fun x => low x == low d).length ≤ 1024 := Nat.le_trans (List.length_filter_le _ _) (by rw [List.length_take]; omega)
  refine fapp_own' (lo := H2.next) (x := bitsV d) ho (slCells_new (rw := true) (c := 1) c8) rfl (by simp; omega) (by omega) (by omega) (by omega) fun u E k5 k6 k7 k8 => ?_
  have hE : ∀ n, n < H2.next → E.get n = C'.get n := fun n hn => k8 n (by omega) fun e => by have := (hnm n e).1; omega
  have e4 := (hE (H.next + 4) (by omega)).trans c4
  have eb : MapFn E (H.next + 3) fb := cb.keep (hE _ (by omega))
  obtain ⟨y, hy1, hy2⟩ := eb.put (2 ^ low d) u
  simp [t6, e4, hy1, t17, add_in (x := i) (y := 1) (by omega) (by omega)]
  have kF : ∀ n, n ≠ H.next + 3 → (E.set (H.next + 3) y).get n = E.get n := fun n hn => by simp [hn]
  refine ⟨⟨by omega, fun n h1 h2 h3 => ?_, t1, t5, t15, t16, i + 1, by omega, by omega, putF fp d (.int .i64 (payN D d)), hx2 _ ?_, fun d' hd' => ?_, putF fb (2 ^ low d) u, hy2 _ (by simp), ?_⟩, by omega⟩
  · rw [if_neg h3, hE n h1, hCg n h2 (by omega), gB.get n (by show n < A.next + 6; omega)]
    exact hkeep n h1 h2 h3
  · rw [kF _ (by omega), hE _ (by omega)]; exact c1
  · unfold putF
    by_cases e : d' = d
    · rw [if_pos e, e]
    · rw [if_neg e]
      rw [htk] at hd'
      rcases List.mem_append.1 hd' with hd' | hd'
      · exact hfp d' hd'
      · exact absurd (by simpa using hd') e
  · rw [htk]
    refine hbg.push l10 (n := B.next + 9) ?_ k6 (by omega) (by simp; omega) fun m h1 h2 h3 => ?_
    · exact k5.keep (by simp) fun n hn => kF n (by have := (k5.names hn).1; omega)
    · rw [kF m (by omega), k8 m (by omega) (by rw [← hold]; exact h3)]
      exact hkC m h1 h2

/-- The best choice of a day; the answers of Best. -/
def bestC (D : Dy) : Ch := choose (legalL D (known0 D)) (payN D) (2 ^ segN D - 1)
def bestL (D : Dy) : List Nat := planOf (legalL D (known0 D)) (payN D) (2 ^ segN D - 1)
def bestE (D : Dy) : Int := if checkD D = 0 then (if (bestC D).ok then 0 else 9) else checkD D
def bestPay (D : Dy) : Int := if bestE D = 0 then (bestC D).pay else 0
def bestR (D : Dy) : List (List Int) := if bestE D = 0 then (bestL D).map rowOf else []

theorem rows_nil {H : Heap} : RowsAt H (.slice none 0 0) [] := ⟨[], ⟨rfl, fun _ _ _ h => by cases h⟩, by simp, fun i h => by simp at h⟩

theorem bestF_spec {D : Dy} {b w : Value} {H : Heap} (h : DayAt H b w D) (hT : D.Thin) (hG : Gl H) :
    AFun Tryd.prog 45 [dayV D b w] H (fun r B => ∃ v, r = .tuple #[v, .int .i64 (bestPay D), .int .i64 (bestE D)] ∧ RowsAt B v (bestR D) ∧ Ge H B) := by
  refine AFun.mk ok45 hm (Nat.le_of_ble_eq_true rfl) ?_
  have hb := h.blocks.one
  have hw := h.walk.one
  simp [a45, r45, hb, hw]
  refine fcall_fun (checkDay_spec (h.ge (by simp)) hT) ?_
  rintro _ H1 ⟨rfl, g1⟩
  have G1 : Ge H H1 := Ge.trans (by simp) g1
  have k1 := g1.got (n := H.next) (by simp) rfl
  have n1 := g1.next
  simp at k1 n1
  by_cases hc : checkD D = 0
  case neg =>
    have he : bestE D = checkD D := by simp [bestE, hc]
    have hp : bestPay D = 0 := by simp [bestPay, he, hc]
    have hr : bestR D = [] := by simp [bestR, he, hc]
    simp [hc, he, hp, hr]
    exact ⟨rows_nil, G1⟩
  have hV := valid_of hc
  simp [hc, k1]
  refine fcall_fun (newPlanned_spec (h.ge G1) hV) ?_
  rintro _ H2 ⟨s, k, q, rfl, hO, g2⟩
  have G2 := G1.trans g2
  have hP : PlanAt H2 b w s k q D (known0 D) := hO.at (h.ge G2)
  simp
  refine fcall_fun (best_spec hP hV (hG.ge G2)) ?_
  rintro _ H3 ⟨v, rfl, hv, g3⟩
  have G3 := G2.trans g3
  have hcc : choose (legalL D (known0 D)) (payN D) (2 ^ segN D - 1) = bestC D := rfl
  have hll : planOf (legalL D (known0 D)) (payN D) (2 ^ segN D - 1) = bestL D := rfl
  rw [hcc]
  rw [hll] at hv
  cases hok : (bestC D).ok
  · have he : bestE D = 9 := by simp [bestE, hc, hok]
    have hp : bestPay D = 0 := by simp [bestPay, he]
    have hr : bestR D = [] := by simp [bestR, he]
    simp [he, hp, hr]
    exact ⟨rows_nil, G3⟩
  · have he : bestE D = 0 := by simp [bestE, hc, hok]
    have hp : bestPay D = (bestC D).pay := by simp [bestPay, he]
    have hr : bestR D = (bestL D).map rowOf := by simp [bestR, he]
    simp [he, hp]
    rw [hr]
    exact ⟨hv, G3⟩

end Go.Proofs.YtllkhaabcfnlpaaDoor


/-
  Weights of sets, fair weights, and the bound by them.
-/
namespace Go.Proofs.YtllkhaabcfnlpaaDoor
open Go Go.Ab

/-- What some segments weigh. -/
def sumTo (ws : List Int) (l : List Nat) : Int := (l.map fun s => ws[s]?.getD 0).sum
theorem sumTo_append {ws : List Int} {l : List Nat} {s : Nat} : sumTo ws (l ++ [s]) = sumTo ws l + ws[s]?.getD 0 := by simp [sumTo]
theorem sumTo_bounds {ws : List Int} (h : ∀ x ∈ ws, 0 ≤ x ∧ x ≤ 1000000) : ∀ (l : List Nat), 0 ≤ sumTo ws l ∧ sumTo ws l ≤ 1000000 * l.length
  | [] => by simp [sumTo]
  | s :: l => by
    have ih := sumTo_bounds h l
    have e : sumTo ws (s :: l) = ws[s]?.getD 0 + sumTo ws l := by simp [sumTo]
    have hb : 0 ≤ ws[s]?.getD 0 ∧ ws[s]?.getD 0 ≤ 1000000 := by
      by_cases hs : s < ws.length
      · simp only [List.getElem?_eq_getElem hs, Option.getD_some]; exact h _ (List.getElem_mem hs)
      · simp only [List.getElem?_eq_none (Nat.le_of_not_lt hs), Option.getD_none]; omega
    rw [e, List.length_cons]
    omega
theorem sum_bounds {ws : List Int} (h : ∀ x ∈ ws, 0 ≤ x ∧ x ≤ 1000000) : 0 ≤ ws.sum ∧ ws.sum ≤ 1000000 * ws.length := by
  induction ws with
  | nil => simp
  | cons x l ih =>
    have h1 := h x (List.mem_cons_self ..)
    have h2 := ih fun y hy => h y (List.mem_cons_of_mem _ hy)
    rw [List.sum_cons, List.length_cons]
    omega

theorem quo_in {x y : Int} (h0 : 0 ≤ x) (hx : x < 2 ^ 62) (hy : 0 < y) : binI BinOp.quo (.int .i64 x) (.int .i64 y) = some (.int .i64 (x / y)) := by
  have e : binI BinOp.quo (.int .i64 x) (.int .i64 y) = if y = 0 then none else some (.int .i64 (IntKind.i64.wrap (x.tdiv y))) := rfl
  have h1 : 0 ≤ x / y := Int.ediv_nonneg h0 (by omega)
  have h2 : x / y ≤ x := Int.ediv_le_self y h0
  rw [e, if_neg (by omega), Int.tdiv_eq_ediv_of_nonneg h0, wrap_i64 (by omega) (by omega)]

/-- All of a list of sets pass. -/
theorem every_set_spec {H : Heap} {v pv : Value} {L : List Nat} {p : Nat → Bool} (hv : SlR H 1 v L.length (L.map bitsV)) (hl : L.length < 2 ^ 62)
    (hp : ∀ d A, d ∈ L → Ge H A → ACall Tryd.prog pv [bitsV d] A (fun r B => r = .bool (p d) ∧ Ge A B)) : AFun Tryd.prog 102 [v, pv] H (fun r B => r = .bool (L.all p) ∧ Ge H B) := by
  refine AFun.mk ok102 hm (Nat.le_of_ble_eq_true rfl) ?_
  simp [a102, r102, hv.lenV]
  refine floop_intro (fun z => z.d = [] ∧ Ge H z.H ∧ z.t 1 = pv ∧ z.t 7 = v ∧ z.t 8 = .int .i64 (L.length : Int) ∧ ∃ i : Nat, i ≤ L.length ∧ z.t 9 = .int .i64 (i : Int) ∧ (L.take i).all p = true) (fun z => L.length - (intOf (z.t 9)).toNat) ?_ ?_
  · exact ⟨rfl, by simp, by simp, by simp, by simp, 0, by omega, by simp, by simp⟩
  rintro ⟨t, _, A⟩ ⟨rfl, g, t1, t7, t8, i, hi, t9, hall⟩
  dsimp only at g t1 t7 t8 t9
  simp [t8, t9]
  refine fcond_intro (fun hc => ?_) (fun hc => ?_)
  case refine_2 =>
    have : i = L.length := by simp at hc; omega
    subst this
    rw [List.take_length] at hall
    simp [g, hall]
  have h1 : i < L.length := by simpa using hc
  obtain ⟨q, e1, e2⟩ := (hv.ge g).at1 (k := .i64) (i := i) (by simpa using h1)
  have e3 : (L.map bitsV)[i]? = some (bitsV L[i]) := by simp [h1]
  rw [e3] at e2
  simp [t1, t7, t9, e1, e2]
  refine fcall_intro ((hp L[i] A (List.getElem_mem h1) g).mono ?_)
  rintro _ B ⟨rfl, gB⟩
  cases hpi : p L[i]
  · have hf : L.all p = false := by rw [List.all_eq_false]; exact ⟨L[i], List.getElem_mem h1, by simp [hpi]⟩
    simp [hf, g.trans gB]
  · simp [t9, add_in (x := i) (y := 1) (by omega) (by omega)]
    refine ⟨⟨g.trans gB, t1, t7, t8, i + 1, by omega, by omega, ?_⟩, by omega⟩
    rw [← List.all_eq_true, List.take_succ_eq_append_getElem h1, List.all_append, hall]
    simp [hpi]

theorem fair_spec {ws : List Int} {nb c d : Nat} {rw' : Bool} {v : Value} {H : Heap} (hG : Gl H) (hb : H.get nb = .cells rw' [v] c) (hnb : nb < H.next) (hv : IntsAt H v ws) (hw : ∀ x ∈ ws, 0 ≤ x ∧ x ≤ 1000000) (hd : d < 2 ^ ws.length) (h10 : ws.length ≤ 10) :
    AFun Tryd.prog 103 [bitsV d, .pointer (some ⟨nb, 0, none⟩)] H (fun r B => r = .bool (decide (sumTo ws (bitsL d) ≤ 1000)) ∧ Ge H B) := by
  refine AFun.mk ok103 hm (Nat.le_of_ble_eq_true rfl) ?_
  have hd10 : d < 1024 := Nat.lt_of_lt_of_le hd (Nat.pow_le_pow_right (n := 2) (by omega) h10)
  simp [a103, r103]
  refine fcall_fun (setList_spec hd10 hG) ?_
  rintro v8 H1 ⟨o8, g1⟩
  have k1 := g1.got hnb hb
  have hs8 := o8.slr
  have hlV := o8.lenV
  have hbl : (bitsL d).length ≤ 10 := by
    have := List.length_filter_le (fun x => d.testBit x) (List.range' 0 10)
    simpa [bitsL, bitsFrom] using this
  have hlt : ∀ s ∈ bitsL d, s < ws.length := fun s hs => bit_lt hd (bitsFrom_mem.1 hs).2
  generalize bitsL d = L at *
  simp at hlV
  simp [hlV]
  refine floop_intro (fun z => z.d = [] ∧ z.H = H1 ∧ z.t 1 = .pointer (some ⟨nb, 0, none⟩) ∧ z.t 8 = v8 ∧ z.t 9 = .int .i64 (L.length : Int) ∧ ∃ i : Nat, i ≤ L.length ∧ z.t 10 = .int .i64 (i : Int) ∧ z.t 4 = .int .i64 (sumTo ws (L.take i))) (fun z => L.length - (intOf (z.t 10)).toNat) ?_ ?_
  · exact ⟨rfl, by simp, by simp, by simp, by simp, 0, by omega, by simp, by simp [sumTo]⟩
  rintro ⟨t, _, A⟩ ⟨rfl, rfl, t1, t8, t9, i, hi, t10, t4⟩
  dsimp only at t1 t8 t9 t10 t4 g1 k1 o8 hs8
  simp [t9, t10]
  refine fcond_intro (fun hc => ?_) (fun hc => ?_)
  case refine_2 =>
    have : i = L.length := by simp at hc; omega
    subst this
    rw [List.take_length] at t4
    simp [t4]
    exact g1
  have h1 : i < L.length := by simpa using hc
  obtain ⟨q, e1, e2⟩ := hs8.at1 (k := .i64) (i := i) (by simpa using h1)
  have e3 : (intL L)[i]? = some (.int .i64 (L[i] : Int)) := by simp [h1]
  rw [e3] at e2
  have hli := hlt L[i] (List.getElem_mem h1)
  obtain ⟨p, e4, e5⟩ := (hv.ge g1).at hli
  have hsb := sumTo_bounds hw (L.take (i + 1))
  have hst : sumTo ws (L.take (i + 1)) = sumTo ws (L.take i) + ws[L[i]] := by
    rw [List.take_succ_eq_append_getElem h1, sumTo_append, List.getElem?_eq_getElem hli, Option.getD_some]
  have hl1 : (L.take (i + 1)).length ≤ 10 := by rw [List.length_take]; omega
  have hsb0 := sumTo_bounds hw (L.take i)
  have hin : 0 ≤ sumTo ws (L.take i) + ws[L[i]] ∧ sumTo ws (L.take i) + ws[L[i]] ≤ 10000000 := by rw [← hst]; omega
  simp [t1, t8, t10, e1, e2, t4, k1, e4, e5, add_in (x := sumTo ws (L.take i)) (y := ws[L[i]]) (by omega) (by omega), add_in (x := i) (y := 1) (by omega) (by omega)]
  exact ⟨⟨t9, i + 1, by omega, by omega, by rw [hst]⟩, by omega⟩

/-- Are weights fair? -/
def fairB (D : Dy) (ws : List Int) : Bool := (legalL D (known0 D)).all fun d => decide (sumTo ws (bitsL d) ≤ 1000)
section
variable {D : Dy} {b w s k q : Value} {H : Heap}
theorem isFair_spec {ws : List Int} {v : Value} (hP : PlanAt H b w s k q D (known0 D)) (hV : Valid D) (hG : Gl H) (hv : IntsAt H v ws) (hw : ∀ x ∈ ws, 0 ≤ x ∧ x ≤ 1000000) (hn : ws.length = segN D) :
    AFun Tryd.prog 77 [planV D b w s k q, v] H (fun r B => r = .bool (fairB D ws) ∧ Ge H B) := by
  refine AFun.mk ok77 hm (Nat.le_of_ble_eq_true rfl) ?_
  have hb := hP.day.blocks.one
  have hw' := hP.day.walk.one
  have hs := hP.segs.one
  have hk := hP.known.one
  have hq : one q = true := SlR.one hP.quest
  have hv1 := IntsAt.one hv
  obtain ⟨hp1, hp2⟩ := pow_segN hV
  simp [a77, r77, hb, hw', hs, hk, hq, hv1, one_cells]
  have G0 : Ge H ((H.new (.cells true (planCells D b w s k q) 13)).new (.cells true [v] 1)) := (Ge.new _ _).newOf _
  refine fcall_fun (legalDuties_spec (hP.ge G0) hV (known0_ok hV)) ?_
  rintro v6 H1 ⟨o6, g1⟩
  have G1 := G0.trans g1
  have k1 := g1.got (n := H.next + 1) (by simp) rfl
  simp at k1
  have n1 := g1.next
  simp at n1
  have hs6 := o6.slr
  simp only [List.length_map] at hs6
  have hlen := passL_length (p := legalN D (known0 D)) (i := 2 ^ segN D)
  simp
  refine fcall_fun (every_set_spec (p := fun d => decide (sumTo ws (bitsL d) ≤ 1000)) hs6 (by unfold legalL; omega) fun d A hd gA => ?_) ?_
  · have hd2 : d < 2 ^ segN D := (passL_mem.1 hd).1.2
    refine ACall.of_fun ?_
    have := fair_spec (d := d) ((hG.ge G1).ge gA) (gA.got (by omega) k1) (by have := gA.next; omega) ((hv.ge G1).ge gA) hw (by rw [hn]; exact hd2) (by rw [hn]; exact segN_le hV)
    simpa using this
  rintro _ H2 ⟨rfl, g2⟩
  simp [fairB]
  exact G1.trans g2
end

theorem bound_spec {H : Heap} {v : Value} {ws : List Int} (hv : IntsAt H v ws) (hw : ∀ x ∈ ws, 0 ≤ x ∧ x ≤ 1000000) (h10 : ws.length ≤ 10) :
    AFun Tryd.prog 78 [v] H (fun r B => r = .int .i64 ((ws.sum + 999) / 1000) ∧ B = H) := by
  refine AFun.mk ok78 hm (Nat.le_of_ble_eq_true rfl) ?_
  simp [a78, r78, hv.lenV]
  refine floop_intro (fun z => z.d = [] ∧ z.H = H ∧ z.t 6 = v ∧ z.t 7 = .int .i64 (ws.length : Int) ∧ ∃ i : Nat, i ≤ ws.length ∧ z.t 8 = .int .i64 (i : Int) ∧ z.t 3 = .int .i64 (ws.take i).sum) (fun z => ws.length - (intOf (z.t 8)).toNat) ?_ ?_
  · exact ⟨rfl, by simp, by simp, by simp, 0, by omega, by simp, by simp⟩
  rintro ⟨t, _, A⟩ ⟨rfl, rfl, t6, t7, i, hi, t8, t3⟩
  dsimp only at t6 t7 t8 t3 hv
  simp [t7, t8]
  refine fcond_intro (fun hc => ?_) (fun hc => ?_)
  case refine_2 =>
    have : i = ws.length := by simp at hc; omega
    subst this
    rw [List.take_length] at t3
    have hsb := sum_bounds hw
    have e : ws.sum + 1000 - 1 = ws.sum + 999 := by omega
    simp [t3, add_in (x := ws.sum) (y := 1000) (by omega) (by omega), sub_in (x := ws.sum + 1000) (y := 1) (by omega) (by omega), e, quo_in (x := ws.sum + 999) (y := 1000) (by omega) (by omega) (by omega)]
  have h1 : i < ws.length := by simpa using hc
  obtain ⟨p, e1, e2⟩ := hv.at h1
  have hsb := sum_bounds (ws := ws.take (i + 1)) fun x hx => hw x (List.mem_of_mem_take hx)
  have hst : (ws.take (i + 1)).sum = (ws.take i).sum + ws[i] := by rw [List.take_succ_eq_append_getElem h1]; simp only [List.sum_append, List.sum_cons, List.sum_nil, Int.add_zero]
  have hl1 : (ws.take (i + 1)).length ≤ 10 := by rw [List.length_take]; omega
  simp [t6, t8, e1, e2, t3, add_in (x := (ws.take i).sum) (y := ws[i]) (by omega) (by omega), add_in (x := i) (y := 1) (by omega) (by omega)]
  exact ⟨⟨t7, i + 1, by omega, by omega, by rw [hst]⟩, by omega⟩

end Go.Proofs.YtllkhaabcfnlpaaDoor


/-
  Which plans are right; days that a statement may play.
-/
namespace Go.Proofs.YtllkhaabcfnlpaaDoor
open Go Go.Ab

def readyB (D : Dy) : Bool := thinB D && decide (checkD D = 0)
theorem ready_spec {D : Dy} {b w : Value} {H : Heap} (h : DayAt H b w D) : AFun Tryd.prog 52 [dayV D b w] H (fun r B => r = .bool (readyB D) ∧ Ge H B) := by
  refine AFun.mk ok52 hm (Nat.le_of_ble_eq_true rfl) ?_
  have hb := h.blocks.one
  have hw := h.walk.one
  simp [a52, r52, hb, hw]
  refine fcall_fun (thin_spec (h.ge (by simp))) ?_
  rintro _ H1 ⟨rfl, g1⟩
  have G1 : Ge H H1 := Ge.trans (by simp) g1
  have k1 := g1.got (n := H.next) (by simp) rfl
  simp at k1
  unfold readyB
  cases hth : thinB D
  · simp
    exact G1
  simp [k1]
  refine fcall_fun (fault36_spec (h.ge G1) (thinB_thin hth)) ?_
  rintro _ H2 ⟨rfl, g2⟩
  simp
  exact G1.trans g2
theorem ready_facts {D : Dy} (h : readyB D = true) : D.Thin ∧ checkD D = 0 ∧ Valid D := by
  unfold readyB at h
  rw [Bool.and_eq_true, decide_eq_true_eq] at h
  exact ⟨thinB_thin h.1, h.2, valid_of h.2⟩
section
variable {I : Nat → Heap → Prop} {F : Heap → Prop} {H : Heap} {v pv : Value}
end

section
variable {D : Dy} {b w s k q : Value}
end

end Go.Proofs.YtllkhaabcfnlpaaDoor


/-
  What DutyBounds answers.
-/
namespace Go.Proofs.YtllkhaabcfnlpaaDoor
open Go Go.Ab

theorem weights_ok {ws : List Int} (h : ws.all okWeight = true) : ∀ x ∈ ws, 0 ≤ x ∧ x ≤ 1000000 := fun x hx => by
  have := List.all_eq_true.1 h x hx
  simpa [okWeight] using this

def rightB (D : Dy) (ws : List Int) : Bool := ws.all okWeight && decide (ws.length = segN D)
def boundE (D : Dy) (ws : List Int) : Int := if checkD D = 0 then (if rightB D ws then (if fairB D ws then 0 else 9) else 2) else checkD D
def boundN (D : Dy) (ws : List Int) : Int := if boundE D ws = 0 then (ws.sum + 999) / 1000 else 0

theorem boundF_spec {D : Dy} {b w v : Value} {H : Heap} {ws : List Int} (h : DayAt H b w D) (hT : D.Thin) (hG : Gl H) (hv : IntsAt H v ws) :
    AFun Tryd.prog 41 [dayV D b w, v] H (fun r B => r = .tuple #[.int .i64 (boundN D ws), .int .i64 (boundE D ws)] ∧ Ge H B) := by
  refine AFun.mk ok41 hm (Nat.le_of_ble_eq_true rfl) ?_
  have hb := h.blocks.one
  have hw := h.walk.one
  simp [a41, r41, hb, hw]
  refine fcall_fun (checkDay_spec (h.ge (by simp)) hT) ?_
  rintro _ H1 ⟨rfl, g1⟩
  have G1 : Ge H H1 := Ge.trans (by simp) g1
  have k1 := g1.got (n := H.next) (by simp) rfl
  have n1 := g1.next
  simp at k1 n1
  by_cases hc : checkD D = 0
  case neg =>
    have he : boundE D ws = checkD D := by simp [boundE, hc]
    have hn : boundN D ws = 0 := by simp [boundN, he, hc]
    simp [hc, he, hn]
    exact G1
  have hV := valid_of hc
  simp [hc, k1]
  refine fcall_fun (newPlanned_spec (h.ge G1) hV) ?_
  rintro _ H2 ⟨s, k, q, rfl, hO, g2⟩
  have G2 := G1.trans g2
  have hP : PlanAt H2 b w s k q D (known0 D) := hO.at (h.ge G2)
  have hs := hP.segs.one
  have hk := hP.known.one
  have hq : one q = true := SlR.one hP.quest
  have hsl := hP.segs.lenV
  have G3 : ∀ c, Ge H2 ((H2.new (.cells true [.int .i64 0, .int .i64 0, .int .i64 0, .int .i64 0, .int .i64 0, .int .i64 0, .int .i64 0, .int .i64 0, .slice none 0 0, .slice none 0 0, .slice none 0 0, .slice none 0 0, .slice none 0 0] 13)).set H2.next c) := fun c => (Ge.new _ _).setNew (Nat.le_refl _) _
  simp [hb, hw, hs, hk, hq, hv.lenV, hsl]
  by_cases hli : (ws.length : Int) = ((segPs D).length : Int)
  case neg =>
    have hlen : ¬ ws.length = segN D := fun e => hli (by rw [e])
    have hr : rightB D ws = false := by simp [rightB, hlen]
    have he : boundE D ws = 2 := by simp [boundE, hc, hr]
    have hn : boundN D ws = 0 := by simp [boundN, he]
    simp [hli, he, hn]
    exact G2.trans (G3 _)
  have hlen : ws.length = segN D := by have : ws.length = (segPs D).length := by omega
                                       exact this
  simp [hli]
  refine fcall_fun (every_int_spec (p := okWeight) ((hv.ge G2).ge (G3 _)) fun n A gA => ACall.of_fun ?_) ?_
  · refine (validWeight_spec n A).mono ?_
    rintro _ _ ⟨rfl, rfl⟩
    exact ⟨rfl, Ge.refl _⟩
  rintro _ H3 ⟨rfl, g3⟩
  have G23 := (G3 _).trans g3
  have k3 := g3.got (n := H2.next) (by simp) rfl
  have n3 := g3.next
  simp at k3 n3
  cases hall : ws.all okWeight
  · have hr : rightB D ws = false := by simp only [rightB, hall]; rfl
    have he : boundE D ws = 2 := by simp [boundE, hc, hr]
    have hn : boundN D ws = 0 := by simp [boundN, he]
    simp [he, hn]
    exact G2.trans G23
  have hr : rightB D ws = true := by simp only [rightB, hall, hlen]; simp
  have hwok := weights_ok hall
  simp [k3]
  refine fcall_fun (isFair_spec (hP.ge G23) hV (hG.ge (G2.trans G23)) (hv.ge (G2.trans G23)) hwok hlen) ?_
  rintro _ H4 ⟨rfl, g4⟩
  have G4 := (G2.trans G23).trans g4
  cases hf : fairB D ws
  · have he : boundE D ws = 9 := by simp [boundE, hc, hr, hf]
    have hn : boundN D ws = 0 := by simp [boundN, he]
    simp [he, hn]
    exact G4
  have he : boundE D ws = 0 := by simp [boundE, hc, hr, hf]
  have hn : boundN D ws = (ws.sum + 999) / 1000 := by simp [boundN, he]
  simp
  refine fcall_fun (bound_spec (hv.ge G4) hwok (by rw [hlen]; exact segN_le hV)) ?_
  rintro _ _ ⟨rfl, hB⟩
  subst hB
  simp [he, hn]
  exact G4

end Go.Proofs.YtllkhaabcfnlpaaDoor


/-
  The best plan is a right one, in order; no right one is better.
-/
namespace Go.Proofs.YtllkhaabcfnlpaaDoor
open Go Go.Ab

section
variable {D : Dy}
theorem full_lt (hV : Valid D) : 2 ^ segN D - 1 < 1024 := by have := pow_segN hV; omega

theorem best_ok (hc : checkD D = 0) (hE : bestE D = 0) : (bestC D).ok = true := by
  unfold bestE at hE
  rw [if_pos hc] at hE
  cases h : (bestC D).ok
  · rw [h] at hE; simp at hE
  · rfl
theorem best_part (hV : Valid D) (hok : (bestC D).ok = true) : Part (legalL D (known0 D)) (2 ^ segN D - 1) (bestL D) ∧ (bestL D).length = (bestC D).n ∧ sumP (payN D) (bestL D) = (bestC D).pay ∧ (bestL D).Pairwise (fun a b => low a < low b) := by
  obtain ⟨h1, h2, h3, h4, _⟩ := plan_part (pay := payN D) (LL_ok hV) _ (full_lt hV) hok
  exact ⟨h1, h2, h3, h4⟩
end

end Go.Proofs.YtllkhaabcfnlpaaDoor


/-
  What is legal with a segment is legal with that segment alone.
-/
namespace Go.Proofs.YtllkhaabcfnlpaaDoor
open Go Go.Ab

section
variable {α : Type}
end

section
variable {D : Dy}
/-- The segments of a piece lie in it. -/
structure SegIn (D : Dy) (p : Pc) : Prop where
  same : p.e = p.b
  lt : p.f < p.t
  seg : ∀ q, p.s.testBit q = true → (spD D q).1 = p.b ∧ p.f ≤ (spD D q).2 ∧ (spD D q).2 + 1 ≤ p.t
end

/-- What the law asks of pieces. -/
structure LegalP (D : Dy) (K : List (List (Int × Int))) (ps : List Pc) : Prop where
  count : (ps.length : Int) ≤ D.law.pieces
  piece : ∀ p ∈ ps, lastOf K p ≤ D.law.piece
  drive : (ps.map (lastOf K)).sum ≤ D.law.drive
  free : ∀ j, j + 1 < ps.length → D.law.brk ≤ freeOf D K (ps[j]?.getD fz) (ps[j + 1]?.getD fz)
  spread : spreadOf D K ps ≤ D.law.spread
end Go.Proofs.YtllkhaabcfnlpaaDoor


/-
  Duties by bits; which segments are barred.
-/
namespace Go.Proofs.YtllkhaabcfnlpaaDoor
open Go Go.Ab

theorem aval_shr16 {P : Program} {t : Nat → Value} {H : Heap} {N x y : Nat} {d : Option Tmp} {T U ty : TypeId} {pos : String} {af : Array Edge} {g : Option (Nat × Bool)} {m s : Nat} (hx : t x = .int .u16 (m : Int)) (hy : t y = .int .u64 (s : Int)) (h1 : x < N) (h2 : y < N) (hs : s < 16) :
    aval P t H (.gen N ⟨d, .binOp .shr T (.tmp x) (.tmp y) U, ty, pos, af, g⟩) = some (.int .u16 ((m / 2 ^ s : Nat) : Int)) := by
  refine aval_gen ?_ rfl fun w => ?_
  · simp [Op.operands, flatO, hx, hy, h1, h2, flat, flat1]
  · have e2 : min s IntKind.u16.bits = s := by simp [IntKind.bits]; omega
    simp [execOp, evO, hx, hy, eqGuard, binOp, Op.shift, e2]
theorem rem16 {q : Nat} : binI BinOp.rem (.int .u16 (q : Int)) (.int .u16 2) = some (.int .u16 ((q % 2 : Nat) : Int)) := by
  have e : binI BinOp.rem (.int .u16 (q : Int)) (.int .u16 2) = some (.int .u16 ((q : Int).tmod 2)) := rfl
  have e2 : ((q : Int).tmod 2) = ((q % 2 : Nat) : Int) := (Int.ofNat_tmod q 2).symm
  rw [e, e2]

/-- A duty by bits; at least one segment. -/
def setB (n m : Nat) : List Int := if setR n m = [] then [0] else setR n m
theorem setB_length {n m : Nat} (h : n ≤ 10) : (setB n m).length ≤ 10 := by
  unfold setB
  split
  · simp
  · have := setR_length (n := n) (m := m); omega
theorem set_spec {D : Dy} {b w : Value} {H : Heap} {m : Nat} (h : DayAt H b w D) (hT : D.Thin) (hV : Valid D) :
    AFun Tryd.prog 49 [dayV D b w, .int .u16 (m : Int)] H (fun r B => OwnSl B H.next r ((setB (segN D) m).map (Value.int .i64)) ∧ Ge H B) := by
  refine AFun.mk ok49 hm (Nat.le_of_ble_eq_true rfl) ?_
  have hb := h.blocks.one
  have hw := h.walk.one
  have h10 := segN_le hV
  have hseg : segsOf D.blocks = segN D := segPs_length.symm
  simp [a49, r49, hb, hw]
  refine floop_intro (fun z => z.d = [] ∧ Ge H z.H ∧ H.next < z.H.next ∧ z.t 1 = .int .u16 (m : Int) ∧ z.t 2 = .pointer (some ⟨H.next, 0, none⟩) ∧ z.H.get H.next = .cells true (dayV D b w).cells.toList 10 ∧ ∃ j : Nat, j ≤ segN D ∧ z.t 6 = .int .i64 (j : Int) ∧ OwnSl z.H (H.next + 1) (z.t 5) ((setR j m).map (Value.int .i64))) (fun z => segN D - (intOf (z.t 6)).toNat) ?_ ?_
  · exact ⟨rfl, by simp, by simp, by simp, by simp, by simp [Value.cells], 0, by omega, by simp, .inl ⟨by simp, by simp [setR, bitsI, bitsFrom]⟩⟩
  rintro ⟨t, _, A⟩ ⟨rfl, g, hn, t1, t2, kd, j, hj, t6, o5⟩
  dsimp only at g hn t1 t2 kd t6 o5
  simp [Value.cells] at kd
  generalize t5 : t 5 = v5 at o5
  simp [t2, t6, kd]
  refine fcall_fun (segments_spec (h.ge g) hT) ?_
  rintro _ A1 ⟨rfl, g1⟩
  have n1 := g1.next
  have kd1 := g1.got hn kd
  have G1 := g.trans g1
  rw [hseg]
  simp [t6]
  have hlen := setR_length (n := j) (m := m)
  by_cases hjn : j < segN D
  case neg =>
    have : j = segN D := by omega
    subst this
    have hl := (o5.ge g1).lenV
    simp only [List.length_map] at hl
    simp [hjn, t5, hl]
    by_cases h0 : setR (segN D) m = []
    · have hsb : setB (segN D) m = [0] := by simp [setB, h0]
      rw [h0] at o5
      simp [h0, t5]
      refine fapp_own (lo := H.next + 1) (x := .int .i64 0) ((o5.ge g1).ge (Ge.new _ _)) (slCells_new (rw := true) (c := 1) (by simp)) rfl (by simp) (by omega) (by simp) (by omega) (by simp; omega) fun u3 C k3 k4 k5 k6 => ?_
      have h5n : ∀ m, slName v5 = some m → H.next + 1 ≤ m := fun m hm => (o5.names hm).1
      simp
      rw [hsb]
      refine ⟨OwnSl.lower (by simpa using k3) (by omega), by have := G1.next; omega, fun n hn => ?_⟩
      have f0 := G1.next
      have f3 : n ≠ A1.next := by omega
      rw [k6 n (by omega) (fun e => by have := h5n n e; omega)]; simp [f3, G1.get n hn]
    · have hsb : setB (segN D) m = setR (segN D) m := by simp [setB, h0]
      simp [h0, t5]
      rw [hsb]
      exact ⟨(o5.ge g1).lower (by omega), G1⟩
  have hw64 : IntKind.u64.wrap (j : Int) = (j : Int) := wrap_u64 (by omega)
  simp [hjn, t1, t6, hw64]
  have hstep := setR_step (m := m) (j := j)
  have hbit : m.testBit j = decide (m / 2 ^ j % 2 = 1) := Nat.testBit_eq_decide_div_mod_eq
  obtain ⟨q, hq⟩ : ∃ q, m / 2 ^ j = q := ⟨_, rfl⟩
  rw [hq] at hbit
  have hmod : q % 2 = 0 ∨ q % 2 = 1 := by omega
  rw [aval_shr16 (m := m) (s := j) (by simp) (by simp) (by decide) (by decide) (by omega), hq]
  simp [rem16]
  rcases hmod with h0 | h1
  · have hb0 : m.testBit j = false := by rw [hbit, h0]; rfl
    have hc0 : ¬ (q : Int) % 2 = 1 := by omega
    rw [hb0] at hstep
    simp only [Bool.false_eq_true, if_false] at hstep
    simp [hc0, t6, add_in (x := j) (y := 1) (by omega) (by omega)]
    exact ⟨⟨G1, by omega, t1, t2, by simpa [Value.cells] using kd1, j + 1, by omega, by omega, by rw [hstep, t5]; exact o5.ge g1⟩, by omega⟩
  · have hb1 : m.testBit j = true := by rw [hbit, h1]; rfl
    have hc1 : (q : Int) % 2 = 1 := by omega
    rw [hb1] at hstep
    simp only [if_true] at hstep
    simp [hc1, t5, t6]
    refine fapp_own (lo := H.next + 1) (x := .int .i64 (j : Int)) ((o5.ge g1).ge (Ge.new _ _)) (slCells_new (rw := true) (c := 1) (by simp)) rfl (by simp; omega) (by omega) (by simp) (by omega) (by simp; omega) fun u3 C k3 k4 k5 k6 => ?_
    have h5n : ∀ m, slName v5 = some m → H.next + 1 ≤ m := fun m hm => (o5.names hm).1
    have gC : Ge H C := ⟨by have := G1.next; omega, fun n hn => by
      have f0 := G1.next
      have f3 : n ≠ A1.next := by omega
      rw [k6 n (by omega) (fun e => by have := h5n n e; omega)]; simp [f3, G1.get n hn]⟩
    have kC : C.get H.next = A1.get H.next := (k6 H.next (by omega) (fun e => by have := h5n _ e; omega)).trans (by rw [Heap.new_get, if_neg (by omega)])
    simp [t6, add_in (x := j) (y := 1) (by omega) (by omega)]
    exact ⟨⟨gC, by omega, t1, t2, by simpa [Value.cells] using kC.trans kd1, j + 1, by omega, by omega, by rw [hstep, List.map_append]; exact k3⟩, by omega⟩

section
variable {D : Dy}
end

end Go.Proofs.YtllkhaabcfnlpaaDoor


/-
  Weights of sets: what partitions weigh, and weights of segments that lie apart.
-/
namespace Go.Proofs.YtllkhaabcfnlpaaDoor
open Go Go.Ab

theorem sum_filter {f : Nat → Int} {p : Nat → Bool} : ∀ (l : List Nat), ((l.filter p).map f).sum = (l.map fun i => if p i then f i else 0).sum
  | [] => rfl
  | x :: l => by
    have ih := sum_filter (f := f) (p := p) l
    cases hp : p x
    · simp [List.filter_cons, hp, ih]
    · simp [List.filter_cons, hp, ih]
theorem sum_add {f g : Nat → Int} : ∀ (l : List Nat), (l.map fun i => f i + g i).sum = (l.map f).sum + (l.map g).sum
  | [] => rfl
  | x :: l => by
    have ih := sum_add (f := f) (g := g) l
    simp only [List.map_cons, List.sum_cons, ih]
    omega
theorem weigh_bits {ws : List Int} {m : Nat} : sumTo ws (bitsL m) = ((List.range' 0 10).map fun i => if m.testBit i then ws[i]?.getD 0 else 0).sum := by
  unfold sumTo bitsL bitsFrom
  exact sum_filter _
theorem weigh_split {ws : List Int} {m d : Nat} (hs : diffN d m = 0) : sumTo ws (bitsL m) = sumTo ws (bitsL d) + sumTo ws (bitsL (diffN m d)) := by
  rw [weigh_bits, weigh_bits, weigh_bits, ← sum_add]
  congr 1
  refine List.map_congr_left fun i _ => ?_
  rw [testBit_diff]
  have := sub_iff.1 hs i
  cases hd : d.testBit i
  · simp
  · rw [this hd]; simp
theorem bitsL_zero : bitsL 0 = [] := bits_zero
theorem weigh_part {L : List Nat} {ws : List Int} : ∀ {l : List Nat} {m : Nat}, Part L m l → sumTo ws (bitsL m) = (l.map fun d => sumTo ws (bitsL d)).sum
  | [], m, h => by
    have : m = 0 := by
      refine Nat.eq_of_testBit_eq fun i => ?_
      rw [h.all i, Nat.zero_testBit]; rfl
    rw [this, bitsL_zero]; rfl
  | d :: l, m, h => by
    obtain ⟨hs, ht⟩ := h.tail
    rw [weigh_split hs, weigh_part ht]
    simp
theorem weigh_full {ws : List Int} {n : Nat} (hn : ws.length = n) (h10 : n ≤ 10) : sumTo ws (bitsL (2 ^ n - 1)) = ws.sum := by
  have hb : bitsL (2 ^ n - 1) = List.range n := by
    refine rise_ext bitsFrom_rise List.pairwise_lt_range fun x => ?_
    rw [bitsFrom_mem, Nat.testBit_two_pow_sub_one, decide_eq_true_eq, List.mem_range]
    omega
  rw [hb]
  unfold sumTo
  congr 1
  apply List.ext_getElem
  · simp [hn]
  · intro i h1 h2
    simp
    rw [List.getElem?_eq_getElem h2]; rfl
/-- Fair weights prove how many duties are needed. -/
theorem bound_le {D : Dy} (hV : Valid D) {ws : List Int} (hr : rightB D ws = true) (hf : fairB D ws = true) {l : List Nat} (hp : Part (legalL D (known0 D)) (2 ^ segN D - 1) l) : (ws.sum + 999) / 1000 ≤ (l.length : Int) := by
  unfold rightB at hr
  rw [Bool.and_eq_true, decide_eq_true_eq] at hr
  have h1 := weigh_part (ws := ws) hp
  rw [weigh_full hr.2 (segN_le hV)] at h1
  have h2 : ∀ (l : List Nat), (∀ d ∈ l, sumTo ws (bitsL d) ≤ 1000) → (l.map fun d => sumTo ws (bitsL d)).sum ≤ 1000 * (l.length : Int) := by
    intro l
    induction l with
    | nil => intro _; simp
    | cons d l ih =>
      intro h
      have := ih fun x hx => h x (List.mem_cons_of_mem _ hx)
      have := h d (List.mem_cons_self ..)
      simp only [List.map_cons, List.sum_cons, List.length_cons]
      omega
  have h3 := h2 l fun d hd => by
    unfold fairB at hf
    have := List.all_eq_true.1 hf d (hp.mem d hd)
    simpa using this
  omega

/-- The weights of chosen segments. -/
def apL (n c : Nat) : List Int := (List.range n).map fun s => if c.testBit s then 1000 else 0
/-- No legal duty has two of the chosen. -/
def ApartC (D : Dy) (c : Nat) : Prop := ∀ d ∈ legalL D (known0 D), ∀ i j, c.testBit i = true → c.testBit j = true → d.testBit i = true → d.testBit j = true → i = j
theorem apL_length {n c : Nat} : (apL n c).length = n := by simp [apL]
theorem apL_at {n c s : Nat} (h : s < n) : (apL n c)[s]? = some (if c.testBit s then 1000 else 0) := by simp [apL, h]
theorem apL_zero {n : Nat} : apL n 0 = List.replicate n 0 := by
  apply List.ext_getElem
  · simp [apL]
  · intro i h1 h2; simp [apL]
theorem apL_set {n c s : Nat} (h : s < n) : (apL n c).set s 1000 = apL n (c ||| 2 ^ s) := by
  apply List.ext_getElem
  · simp [apL]
  · intro i h1 h2
    simp only [apL, List.getElem_set, List.getElem_map, List.getElem_range, Nat.testBit_or, Nat.testBit_two_pow]
    by_cases e : s = i
    · subst e; simp
    · simp [e]
theorem sum_set : ∀ (l : List Int) (s : Nat) (x : Int) (h : s < l.length), (l.set s x).sum = l.sum - l[s] + x
  | [], s, x, h => by simp at h
  | y :: l, 0, x, _ => by simp only [List.set_cons_zero, List.sum_cons, List.getElem_cons_zero]; omega
  | y :: l, s + 1, x, h => by
    have := sum_set l s x (by simpa using h)
    simp only [List.set_cons_succ, List.sum_cons, List.getElem_cons_succ, this]
    omega
theorem apL_sum {n c s : Nat} (h : s < n) (hc : c.testBit s = false) : (apL n (c ||| 2 ^ s)).sum = (apL n c).sum + 1000 := by
  rw [← apL_set h, sum_set _ _ _ (by rw [apL_length]; exact h)]
  have : (apL n c)[s]'(by rw [apL_length]; exact h) = 0 := by simp [apL, hc]
  omega
theorem one_only {c : Nat} : ∀ (l : List Nat), l.Pairwise (· < ·) → (∀ i ∈ l, ∀ j ∈ l, c.testBit i = true → c.testBit j = true → i = j) → (l.map fun i => if c.testBit i then (1000 : Int) else 0).sum ≤ 1000 ∧ ((∀ i ∈ l, c.testBit i = false) → (l.map fun i => if c.testBit i then (1000 : Int) else 0).sum = 0)
  | [], _, _ => by simp
  | x :: l, hp, h => by
    rw [List.pairwise_cons] at hp
    obtain ⟨i1, i2⟩ := one_only l hp.2 fun i hi j hj => h i (List.mem_cons_of_mem _ hi) j (List.mem_cons_of_mem _ hj)
    rw [List.map_cons, List.sum_cons]
    cases hx : c.testBit x
    · simp only [Bool.false_eq_true, if_false, Int.zero_add]
      exact ⟨i1, fun hh => i2 fun i hi => hh i (List.mem_cons_of_mem _ hi)⟩
    · have hno : ∀ i ∈ l, c.testBit i = false := fun i hi => by
        cases hb : c.testBit i
        · rfl
        · have e := h i (List.mem_cons_of_mem _ hi) x (List.mem_cons_self ..) hb hx
          have := hp.1 i hi
          omega
      rw [i2 hno]
      simp only [if_true]
      refine ⟨by omega, fun hh => ?_⟩
      have := hh x (List.mem_cons_self ..)
      rw [hx] at this; cases this
theorem apart_fair {D : Dy} {c : Nat} (hV : Valid D) (h : ApartC D c) : fairB D (apL (segN D) c) = true := by
  unfold fairB
  rw [List.all_eq_true]
  intro d hd
  have hlt := (passL_mem.1 hd).1.2
  refine decide_eq_true ?_
  have e : sumTo (apL (segN D) c) (bitsL d) = ((bitsL d).map fun i => if c.testBit i then (1000 : Int) else 0).sum := by
    unfold sumTo
    congr 1
    refine List.map_congr_left fun i hi => ?_
    rw [apL_at (bit_lt hlt (bitsFrom_mem.1 hi).2)]
    rfl
  rw [e]
  exact (one_only _ bitsFrom_rise fun i hi j hj hci hcj => h d hd i j hci hcj (bitsFrom_mem.1 hi).2 (bitsFrom_mem.1 hj).2).1
theorem apart_right {D : Dy} {c : Nat} : rightB D (apL (segN D) c) = true := by
  unfold rightB
  rw [Bool.and_eq_true, decide_eq_true_eq, List.all_eq_true]
  refine ⟨fun x hx => ?_, apL_length⟩
  unfold apL at hx
  obtain ⟨s, _, rfl⟩ := List.mem_map.1 hx
  split <;> rfl

end Go.Proofs.YtllkhaabcfnlpaaDoor


/-
  What DutyProved answers.
-/
namespace Go.Proofs.YtllkhaabcfnlpaaDoor
open Go Go.Ab

theorem aval_shl16 {P : Program} {t : Nat → Value} {H : Heap} {N x : Nat} {d : Option Tmp} {T U ty : TypeId} {pos : String} {af : Array Edge} {g : Option (Nat × Bool)} {s : Nat} (hx : t x = .int .u64 (s : Int)) (h1 : x < N) (hs : s < 15) :
    aval P t H (.gen N ⟨d, .binOp .shl T (.const (.int .u16 1)) (.tmp x) U, ty, pos, af, g⟩) = some (.int .u16 ((2 ^ s : Nat) : Int)) := by
  refine aval_gen ?_ rfl fun w => ?_
  · simp [Op.operands, flatO, hx, h1, flat, flat1]
  · have h16 : 2 ^ s < 2 ^ 15 := Nat.pow_lt_pow_right (by omega) hs
    have e0 : ∀ p : Nat, p < 2 ^ 15 → IntKind.u16.wrap (p : Int) = (p : Int) := fun p hp => by
      simp [IntKind.wrap, IntKind.bits, IntKind.signed]
      omega
    have e : IntKind.u16.wrap (2 ^ s : Int) = ((2 ^ s : Nat) : Int) := by
      rw [← e0 _ h16]; push_cast; rfl
    have e2 : min s IntKind.u16.bits = s := by simp [IntKind.bits]; omega
    simp [execOp, evO, hx, eqGuard, binOp, Op.shift, e2, e]
theorem add16 {a : Nat} (h : a < 2 ^ 15) : binI BinOp.add (.int .u16 (a : Int)) (.int .u16 1) = some (.int .u16 ((a + 1 : Nat) : Int)) := by
  have e : binI BinOp.add (.int .u16 (a : Int)) (.int .u16 1) = some (.int .u16 (IntKind.u16.wrap ((a : Int) + 1))) := rfl
  have e2 : (a : Int) + 1 = ((a + 1 : Nat) : Int) := by omega
  have e3 : IntKind.u16.wrap ((a + 1 : Nat) : Int) = ((a + 1 : Nat) : Int) := by
    simp [IntKind.wrap, IntKind.bits, IntKind.signed]
    omega
  rw [e, e2, e3]

theorem setB_lt {n k : Nat} (h0 : k ≠ 0) (h : k < 2 ^ n) : setB n k = setR n k := by
  unfold setB
  rw [if_neg]
  intro e
  have := setR_duty h0 h
  rw [e] at this
  simp [isDutyB] at this

theorem apart_own {A : Heap} {q n c : Nat} (hq : q < A.next) (h : A.get q = .cells true ((apL n c).map (Value.int .i64)) n) : OwnSl A q (.slice (some ⟨q, 0, none⟩) n n) ((apL n c).map (Value.int .i64)) :=
  .inr ⟨q, n, n, by simp [apL_length], Nat.le_refl _, hq, h, by simp [apL_length], Nat.le_refl _⟩
theorem apart_at {A : Heap} {q n c : Nat} (hq : q < A.next) (h : A.get q = .cells true ((apL n c).map (Value.int .i64)) n) (h10 : n ≤ 10) : IntsAt A (.slice (some ⟨q, 0, none⟩) n n) (apL n c) := own_ints (apart_own hq h) (by rw [apL_length]; omega)

/-- A truth value that promises something. -/
def FitB (v : Value) (Q : Prop) : Prop := ∃ f : Bool, v = .bool f ∧ (f = true → Q)

set_option maxHeartbeats 8000000 in
theorem dutyProved_of {D : Dy} {b w v : Value} {H : Heap} {ws : List Int} {z : Int} (h : DayAt H b w D) (hv : IntsAt H v ws) (hz : 0 ≤ z ∧ z < 2 ^ 16) (hG : Gl H) (hwk : ∀ A, Ge H A → AFun Tryd.prog 16 [] A (fun r B => r = .bool true ∧ Ge A B)) :
    AFun Tryd.prog 10 [dayV D b w, v, .int .u16 z] H (fun r _ => r = .bool true) := by
  obtain ⟨m, rfl⟩ : ∃ m : Nat, z = (m : Int) := ⟨z.toNat, by omega⟩
  refine AFun.mk ok10 hm (Nat.le_of_ble_eq_true rfl) ?_
  have hb := h.blocks.one
  have hw := h.walk.one
  simp [a10, r10, hb, hw]
  refine fcall_fun (ready_spec (h.ge (by simp))) ?_
  rintro _ H1 ⟨rfl, g1⟩
  have G1 : Ge H H1 := Ge.trans (by simp) g1
  have k1 := g1.got (n := H.next) (by simp) rfl
  have n1 := g1.next
  simp at k1 n1
  cases hli : readyB D
  · simp
    refine fcall_fun (hwk _ G1) ?_
    rintro _ _ ⟨rfl, _⟩
    simp
  obtain ⟨hT, hc, hV⟩ := ready_facts hli
  have hseg : segsOf D.blocks = segN D := segPs_length.symm
  have h10 := segN_le hV
  obtain ⟨hp1, hp2⟩ := pow_segN hV
  simp [k1]
  refine fcall_fun (segments_spec (h.ge G1) hT) ?_
  rintro _ H2 ⟨rfl, g2⟩
  have G2 := G1.trans g2
  have k2 := g2.got (n := H.next) (by omega) k1
  have n2 := g2.next
  rw [hseg]
  by_cases h7 : (7 : Int) < segN D
  · simp [h7]
    refine fcall_fun (hwk _ G2) ?_
    rintro _ _ ⟨rfl, _⟩
    simp
  have hn7 : segN D ≤ 7 := by omega
  simp [h7, hv.lenV]
  by_cases h14 : (14 : Int) < ws.length
  · simp [h7, h14]
    refine fcall_fun (hwk _ G2) ?_
    rintro _ _ ⟨rfl, _⟩
    simp
  have hl14 : ws.length ≤ 14 := by omega
  simp [h7, h14, k2]
  refine fcall_fun (day18_spec (h.ge G2) hT) ?_
  rintro _ H3 ⟨b3, w3, rfl, hd3, g3⟩
  have G3 := G2.trans g3
  have k3 := g3.got (n := H.next) (by omega) k2
  have n3 := g3.next
  simp
  refine fcall_fun (bestF_spec hd3 hT (hG.ge G3)) ?_
  rintro _ H4 ⟨vp, rfl, hp, g4⟩
  have G4 := G3.trans g4
  have k4 := g4.got (n := H.next) (by omega) k3
  have n4 := g4.next
  have hp1' := hp.one
  have hplen := hp.lenV
  simp [k4, hp1']
  refine fcall_fun (day18_spec (h.ge G4) hT) ?_
  rintro _ H5 ⟨b5, w5, rfl, hd5, g5⟩
  have G5 := G4.trans g5
  have k5 := g5.got (n := H.next) (by omega) k4
  have n5 := g5.next
  simp
  refine fcall_fun (list_spec (hv.ge G5) (by omega)) ?_
  rintro v6 H6 ⟨o6, g6⟩
  have G6 := G5.trans g6
  have k6 := g6.got (n := H.next) (by omega) k5
  have n6 := g6.next
  simp
  refine fcall_fun (boundF_spec (hd5.ge g6) hT (hG.ge G6) (own_ints o6 (by omega))) ?_
  rintro _ H7 ⟨rfl, g7⟩
  have G7 := G6.trans g7
  have k7 := g7.got (n := H.next) (by omega) k6
  have n7 := g7.next
  -- what is known of the answers
  have hbE : boundE D ws = 0 ∨ boundE D ws = 2 ∨ boundE D ws = 9 := by
    unfold boundE
    rw [if_pos hc]
    split
    · split
      · left; rfl
      · right; right; rfl
    · right; left; rfl
  have hRl : bestE D = 0 → ((bestR D).length : Int) = ((bestC D).n : Int) := fun e => by
    have hok := best_ok hc e
    have := (best_part hV hok).2.1
    simp [bestR, e, this]
  have hle : bestE D = 0 → boundE D ws = 0 → ¬ ((bestR D).length : Int) < boundN D ws := fun e1 e2 => by
    have hok := best_ok hc e1
    obtain ⟨p1, p2, _⟩ := best_part hV hok
    have hr : rightB D ws = true := by
      unfold boundE at e2
      rw [if_pos hc] at e2
      cases hr : rightB D ws
      · rw [hr] at e2; simp at e2
      · rfl
    have hf : fairB D ws = true := by
      unfold boundE at e2
      rw [if_pos hc, if_pos hr] at e2
      cases hf : fairB D ws
      · rw [hf] at e2; simp at e2
      · rfl
    have := bound_le hV hr hf p1
    rw [p2] at this
    rw [hRl e1]
    have hbn : boundN D ws = (ws.sum + 999) / 1000 := by simp [boundN, e2]
    omega
  have hmk : ∀ k, mksV k 1 8 [.int .i64 0] (.int .i64 (segN D : Int)) (.int .i64 (segN D : Int)) = some _ := fun k => mksV_at (by omega) (by omega)
  have hzr : zrep (segN D) [Value.int .i64 0] = (apL (segN D) 0).map (Value.int .i64) := by
    rw [apL_zero, List.map_replicate]
    have : ∀ n, zrep n [Value.int .i64 0] = List.replicate n (.int .i64 0) := by
      intro n; induction n with
      | zero => rfl
      | succ n ih => rw [zrep_succ, ih]; rfl
    exact this _
  have hmany : ∀ many : Nat, (1000 * (many : Int) + 999) / 1000 = many := fun many => by omega
  by_cases hE : bestE D = 0
  case' pos => rcases hbE with e | e | e
  case' neg => rcases hbE with e | e | e
  case' pos.inl => simp [hE, e, hplen, hle hE e, k7]
  case' pos.inr.inl => simp [hE, e, hplen, k7]
  case' pos.inr.inr => simp [hE, e, hplen, k7]
  case' neg.inl => simp [hE, e, hplen, k7]
  case' neg.inr.inl => simp [hE, e, hplen, k7]
  case' neg.inr.inr => simp [hE, e, hplen, k7]
  all_goals
    clear e
    refine fcall_fun (segments_spec (h.ge G7) hT) ?_
    rintro _ H8 ⟨rfl, g8⟩
    have G8 := G7.trans g8
    have k8 := g8.got (n := H.next) (by omega) k7
    have n8 := g8.next
    rw [hseg]
    simp [hmk, hzr]
    have hx : H8.next ≠ H.next := by omega
    refine floop_intro (fun z => z.d = [] ∧ Ge H8 z.H ∧ H8.next < z.H.next ∧ z.t 2 = .int .u16 (m : Int) ∧ z.t 3 = .pointer (some ⟨H.next, 0, none⟩) ∧ z.t 7 = vp ∧ z.t 9 = .int .i64 (bestE D) ∧ z.t 12 = .slice (some ⟨H8.next, 0, none⟩) (segN D) (segN D) ∧
      ∃ s c many : Nat, s ≤ segN D ∧ z.t 14 = .int .i64 (s : Int) ∧ z.t 13 = .int .i64 (many : Int) ∧ many ≤ s ∧ c < 2 ^ s ∧ ApartC D c ∧ (apL (segN D) c).sum = 1000 * (many : Int) ∧ z.H.get H8.next = .cells true ((apL (segN D) c).map (Value.int .i64)) (segN D)) (fun z => segN D - (intOf (z.t 14)).toNat) ?_ ?_
    · refine ⟨rfl, by simp, by simp, by simp, by simp, by simp, by simp [hE], by simp, 0, 0, 0, by omega, by simp, by simp, by omega, by omega, fun d _ i j hi => by simp at hi, ?_, by simp⟩
      have : ∀ n : Nat, (List.replicate n (0 : Int)).sum = 0 := by intro n; induction n with | zero => rfl | succ n ih => rw [List.replicate_succ, List.sum_cons, ih]; rfl
      rw [apL_zero, this]; rfl
    rintro ⟨t, _, A⟩ ⟨rfl, g, hn, t2, t3, t7, t9, t12, s, c, many, hs, t14, t13, hms, hcs, hap, hsum, hcell⟩
    dsimp only at g hn t2 t3 t7 t9 t12 t14 t13 hcell
    simp [t12, t14]
    by_cases hsn : s < segN D
    case neg =>
      have hpw : 2 ^ s ≤ 2 ^ segN D := Nat.pow_le_pow_right (by omega) hs
      have kA := g.got (n := H.next) (by omega) k8
      simp [hsn, t3, t12, kA]
      refine fcall_fun (day18_spec (h.ge (G8.trans g)) hT) ?_
      rintro _ B1 ⟨bB, wB, rfl, hdB, gB1⟩
      have GB1 := g.trans gB1
      have hcell1 := gB1.got hn hcell
      simp [t12]
      refine fcall_fun (boundF_spec hdB hT (hG.ge (G8.trans GB1)) (apart_at (by have := gB1.next; omega) hcell1 h10)) ?_
      rintro _ B2 ⟨rfl, gB2⟩
      have GB2 := GB1.trans gB2
      have hae : boundE D (apL (segN D) c) = 0 := by
        unfold boundE
        rw [if_pos hc, if_pos apart_right, if_pos (apart_fair hV hap)]
      have han : boundN D (apL (segN D) c) = (many : Int) := by
        unfold boundN
        rw [if_pos hae, hsum]
        exact hmany many
      rw [hae, han]
      simp [t9, t13]
      by_cases hE2 : bestE D = 0
      · have hml : (many : Int) ≤ ((bestR D).length : Int) := by
          have hok := best_ok hc hE2
          obtain ⟨p1, p2, _⟩ := best_part hV hok
          have := bound_le hV (ws := apL (segN D) c) apart_right (apart_fair hV hap) p1
          rw [hsum, hmany, p2] at this
          rw [hRl hE2]
          exact this
        simp [hE2, t7, hplen, t13, hml]
        refine fcall_fun (hwk _ (G8.trans GB2)) ?_
        rintro _ _ ⟨rfl, _⟩
        simp [hE2]
      · simp [hE2]
        refine fcall_fun (hwk _ (G8.trans GB2)) ?_
        rintro _ _ ⟨rfl, _⟩
        simp [hE2]
    have hcell0 := hcell
    have hw64 : IntKind.u64.wrap (s : Int) = (s : Int) := wrap_u64 (by omega)
    obtain ⟨q, hq⟩ : ∃ q, m / 2 ^ s = q := ⟨_, rfl⟩
    obtain ⟨M, hM⟩ : ∃ M, 2 ^ segN D = M := ⟨_, rfl⟩
    simp [hsn, t2, t14, hw64]
    rw [aval_shr16 (m := m) (s := s) (by simp) (by simp) (by decide) (by decide) (by omega), hq]
    simp [rem16]
    refine floop_intro (fun z => z.d = [] ∧ Ge H8 z.H ∧ H8.next < z.H.next ∧ z.t 2 = .int .u16 (m : Int) ∧ z.t 3 = .pointer (some ⟨H.next, 0, none⟩) ∧ z.t 7 = vp ∧ z.t 9 = .int .i64 (bestE D) ∧ z.t 12 = .slice (some ⟨H8.next, 0, none⟩) (segN D) (segN D) ∧ z.t 14 = .int .i64 (s : Int) ∧ z.t 13 = .int .i64 (many : Int) ∧ z.H.get H8.next = .cells true ((apL (segN D) c).map (Value.int .i64)) (segN D) ∧
      ∃ k : Nat, 1 ≤ k ∧ k ≤ M ∧ z.t 16 = .int .u16 (k : Int) ∧ FitB (z.t 15) (∀ d, 1 ≤ d → d < k → legalN D (known0 D) d = true → d.testBit s = true → ∀ j, j < s → c.testBit j = true → d.testBit j = false)) (fun z => M - (intOf (z.t 16)).toNat) ?_ ?_
    · exact ⟨rfl, g, hn, by simp [t2], by simp [t3], by simp [t7], by simp [t9], by simp [t12], by simp [t14], by simp [t13], hcell, 1, by omega, by omega, by simp, ⟨_, by simp; rfl, fun _ d h1 h2 => by omega⟩⟩
    have t14o := t14
    clear t2 t3 t7 t9 t12 t14 t13 hcell g hn
    rintro ⟨t, _, A⟩ ⟨rfl, g, hn, t2, t3, t7, t9, t12, t14, t13, hcell, k, hk1, hk, t16, f, t15, hf⟩
    dsimp only at g hn t2 t3 t7 t9 t12 t14 t13 hcell t16 t15
    have hwn : IntKind.u64.wrap (segN D : Int) = (segN D : Int) := wrap_u64 (by omega)
    simp [t12, t16, hwn]
    rw [aval_shl16 (s := segN D) (by simp) (by decide) (by omega), hM]
    have hcs1 : c < 2 ^ (s + 1) := by rw [Nat.pow_succ]; omega
    have hbs : c.testBit s = false := Nat.testBit_lt_two_pow hcs
    cases hff : f
    · rw [hff] at t15
      have hexit : k < M ∨ ¬ k < M := by omega
      rcases hexit with hkM | hkM
      all_goals
        simp [hkM, t15]
        simp [t14, add_in (x := s) (y := 1) (by omega) (by omega)]
        exact ⟨⟨g, hn, t2, t3, t7, t9, t12, s + 1, by omega, by omega, c, many, t13, by omega, hcs1, hap, hsum, hcell⟩, by rw [t14o]; simp; omega⟩
    rw [hff] at t15
    have hf' := hf hff
    by_cases hkM : k < M
    case neg =>
      have hkM2 : k = M := by omega
      have he : islV 1 (.slice (some ⟨H8.next, 0, none⟩) (segN D) (segN D)) (.int .i64 (s : Int)) = some (.pointer (some ⟨H8.next, s, none⟩)) := by
        rw [islV_in (by omega) (by omega)]; simp
      have hwr : wrL ((apL (segN D) c).map (Value.int .i64)) s [.int .i64 1000] = (apL (segN D) (c ||| 2 ^ s)).map (Value.int .i64) := by
        rw [wrL_one _ _ _ (by simp [apL_length]; exact hsn), ← apL_set hsn, List.map_set]
      have hsle : s + 1 ≤ segN D := by omega
      simp [hkM, t15, t12, t14, he, hcell, apL_length, hsle, hwr]
      simp [t13, t14, add_in (x := many) (y := 1) (by omega) (by omega), add_in (x := s) (y := 1) (by omega) (by omega)]
      refine ⟨⟨g.setNew (Nat.le_refl _) _, hn, t2, t3, t7, t9, t12, s + 1, by omega, by omega, c ||| 2 ^ s, many + 1, by omega, by omega, ?_, ?_, ?_, rfl⟩, by rw [t14o]; simp; omega⟩
      · exact Nat.or_lt_two_pow hcs1 (Nat.pow_lt_pow_right (by omega) (by omega))
      · intro d hd i j hi hj hdi hdj
        have hdm := passL_mem.1 hd
        have hno := hf' d hdm.1.1 (by omega) hdm.2
        simp only [Nat.testBit_or, Bool.or_eq_true, Nat.testBit_two_pow, decide_eq_true_eq] at hi hj
        rcases hi with hi | hi
        · rcases hj with hj | hj
          · exact hap d hd i j hi hj hdi hdj
          · subst hj
            have := hno hdj i (bit_lt hcs hi) hi
            rw [hdi] at this; cases this
        · rcases hj with hj | hj
          · subst hi
            have := hno hdi j (bit_lt hcs hj) hj
            rw [hdj] at this; cases this
          · omega
      · rw [apL_sum hsn hbs, hsum]; omega
    have t16o := t16
    have hkn : k < 2 ^ segN D := by omega
    have kA := g.got (n := H.next) (by omega) k8
    have nA := g.next
    simp [hkM, t3, t15, t16, kA]
    refine fcall_fun (set_spec (m := k) (h.ge (G8.trans g)) hT hV) ?_
    rintro vl B1 ⟨ol, gB1⟩
    have GB1 := g.trans gB1
    have nB1 := gB1.next
    have c1 := gB1.got hn hcell
    have hsl := setB_length (n := segN D) (m := k) h10
    have il : IntsAt B1 vl (setB (segN D) k) := own_ints ol (by omega)
    have hsk := setB_lt (n := segN D) (k := k) (by omega) hkn
    have hhas : ∀ j : Nat, j < segN D → decide ((j : Int) ∈ setB (segN D) k) = k.testBit j := fun j hj => by
      rw [hsk, Bool.eq_iff_iff, decide_eq_true_eq, setR_has]
      exact ⟨fun hh => hh.2, fun hh => ⟨hj, hh⟩⟩
    have hdk : isDutyB (segN D) (setB (segN D) k) = true := by rw [hsk]; exact setR_duty (by omega) hkn
    have hek : errD D (setB (segN D) k) = 0 := by simp [errD, hc, hseg, hdk]
    have hlk : legalD D (setB (segN D) k) = legalN D (known0 D) k := by
      unfold legalD legalN
      rw [hsk, setR_mask hkn]
    have hadd := add16 (a := k) (by omega)
    simp [t14]
    refine fcall_fun (has40_spec il) ?_
    rintro _ B2 ⟨rfl, hB2⟩
    subst hB2
    rw [hhas s hsn]
    cases hks : k.testBit s
    · simp [t16, hadd]
      exact ⟨⟨GB1, by omega, t2, t3, t7, t9, t12, t14, t13, c1, k + 1, by omega, by omega, rfl, true, t15, fun _ d h1 h2 hl hds => by
        by_cases e : d = k
        · rw [e, hks] at hds; cases hds
        · exact hf' d h1 (by omega) hl hds⟩, by omega⟩
    have kB1 := GB1.got (n := H.next) (by omega) k8
    simp [t3, kB1]
    refine fcall_fun (day18_spec (h.ge (G8.trans GB1)) hT) ?_
    rintro _ B2 ⟨bB, wB, rfl, hdB, gB2⟩
    have GB2 := GB1.trans gB2
    simp
    refine fcall_fun (list_spec (IntsAt.ge il gB2) (by omega)) ?_
    rintro v4 B3 ⟨o4, gB3⟩
    have GB3 := GB2.trans gB3
    simp
    refine fcall_fun (legal_spec (hdB.ge gB3) hT (own_ints o4 (by omega)) (by omega)) ?_
    rintro _ B4 ⟨rfl, gB4⟩
    have GB4 := GB3.trans gB4
    have nB4 := (gB2.trans (gB3.trans gB4)).next
    have c4 := (gB2.trans (gB3.trans gB4)).got (n := H8.next) (by omega) c1
    have il4 := IntsAt.ge il (gB2.trans (gB3.trans gB4))
    have ia4 := apart_at (n := segN D) (c := c) (by omega) c4 h10
    rw [hek, hlk]
    generalize hX : setB (segN D) k = X at *
    simp
    refine floop_intro (fun z => z.d = [] ∧ z.H = B4 ∧ z.t 2 = .int .u16 (m : Int) ∧ z.t 3 = .pointer (some ⟨H.next, 0, none⟩) ∧ z.t 7 = vp ∧ z.t 9 = .int .i64 (bestE D) ∧ z.t 12 = .slice (some ⟨H8.next, 0, none⟩) (segN D) (segN D) ∧ z.t 14 = .int .i64 (s : Int) ∧ z.t 13 = .int .i64 (many : Int) ∧ z.t 16 = .int .u16 (k : Int) ∧ z.t 17 = vl ∧ z.t 18 = .bool (legalN D (known0 D) k) ∧
      ∃ j : Nat, j ≤ s ∧ z.t 20 = .int .i64 (j : Int) ∧ FitB (z.t 15) (∀ i, i < j → c.testBit i = true → k.testBit i = false)) (fun z => s - (intOf (z.t 20)).toNat) ?_ ?_
    · exact ⟨rfl, by simp, by simp [t2], by simp [t3], by simp [t7], by simp [t9], by simp [t12], by simp [t14], by simp [t13], by simp [t16], by simp, by simp, 0, by omega, by simp, ⟨true, by simp [t15], fun _ i hi => by omega⟩⟩
    clear t2 t3 t7 t9 t12 t14 t13 t16 t15 kA
    rintro ⟨t, _, E⟩ ⟨rfl, hEE, t2, t3, t7, t9, t12, t14, t13, t16, t17, t18, j, hj, t20, f', t15, hff'⟩
    dsimp only at hEE t2 t3 t7 t9 t12 t14 t13 t16 t17 t18 t20 t15
    subst hEE
    simp [t14, t20]
    by_cases hjs : j < s
    case neg =>
      have hje : j = s := by omega
      simp [hjs, t16, hadd]
      exact ⟨⟨GB4, by omega, t2, t3, t7, t9, t12, t14, t13, c4, k + 1, by omega, by omega, rfl, f', t15, fun e d h1 h2 hl hds => by
        by_cases e2 : d = k
        · rw [e2, ← hje]; exact hff' e
        · exact hf' d h1 (by omega) hl hds⟩, by rw [t16o]; simp; omega⟩
    cases hlg : legalN D (known0 D) k
    · rw [hlg] at t18
      simp [hjs, t18, t16, hadd]
      exact ⟨⟨GB4, by omega, t2, t3, t7, t9, t12, t14, t13, c4, k + 1, by omega, by omega, rfl, f', t15, fun e d h1 h2 hl hds => by
        by_cases e2 : d = k
        · rw [e2, hlg] at hl; cases hl
        · exact hf' d h1 (by omega) hl hds⟩, by rw [t16o]; simp; omega⟩
    rw [hlg] at t18
    obtain ⟨p, f1, f2⟩ := ia4.at (i := j) (by rw [apL_length]; omega)
    have fv : (apL (segN D) c)[j]'(by rw [apL_length]; omega) = if c.testBit j then 1000 else 0 := by simp [apL]
    rw [fv] at f2
    cases hf2 : f'
    · rw [hf2] at t15
      simp [hjs, t18, t15, t20, add_in (x := j) (y := 1) (by omega) (by omega)]
      exact ⟨⟨t2, t3, t7, t9, t12, t14, t13, t16, t17, j + 1, by omega, by omega, false, rfl, fun e => by cases e⟩, by omega⟩
    rw [hf2] at t15
    cases hcj : c.testBit j
    · rw [hcj] at f2
      simp at f2
      simp [hjs, t12, t18, t15, t20, f1, f2, add_in (x := j) (y := 1) (by omega) (by omega)]
      exact ⟨⟨t2, t3, t7, t9, t14, t13, t16, t17, j + 1, by omega, by omega, true, rfl, fun _ i hi hci => by
        by_cases e : i = j
        · rw [e, hcj] at hci; cases hci
        · exact hff' hf2 i (by omega) hci⟩, by omega⟩
    · rw [hcj] at f2
      simp at f2
      simp [hjs, t12, t17, t18, t15, t20, f1, f2]
      refine fcall_fun (has40_spec il4) ?_
      rintro _ E2 ⟨rfl, hE2⟩
      subst hE2
      rw [hhas j (by omega)]
      cases hkj : k.testBit j
      · simp [t15, t20, add_in (x := j) (y := 1) (by omega) (by omega)]
        exact ⟨⟨t2, t3, t7, t9, t12, t14, t13, t16, t17, t18, j + 1, by omega, by omega, true, rfl, fun _ i hi hci => by
          by_cases e : i = j
          · rw [e]; exact hkj
          · exact hff' hf2 i (by omega) hci⟩, by omega⟩
      · simp [t15, t20, add_in (x := j) (y := 1) (by omega) (by omega)]
        exact ⟨⟨t2, t3, t7, t9, t12, t14, t13, t16, t17, t18, j + 1, by omega, by omega, false, rfl, fun e => by cases e⟩, by omega⟩

end Go.Proofs.YtllkhaabcfnlpaaDoor


/-
  The tables of math/bits, and a world for the witness, as the laws of package duty need them.
-/
namespace Go.Proofs.YtllkhaabcfnlpaaDoor
open Go Go.Ab Go.ChangeShapes Go.WideShapes Go.ChangeAt Go.RowKit

theorem ownT : ownKnob Tryd.prog.godebug = none := by kernel_rfl
theorem gTab0 : Tryd.prog.globalNamed "math/bits.deBruijn32tab" = some 0 := by kernel_rfl
theorem gTab1 : Tryd.prog.globalNamed "math/bits.deBruijn64tab" = some 1 := by kernel_rfl
theorem gType0 : (Tryd.prog.globals[0]?).map (·.type) = some 180 := by kernel_rfl
theorem gType1 : (Tryd.prog.globals[1]?).map (·.type) = some 181 := by kernel_rfl
theorem cellsT180 : Tryd.prog.cellsOf 180 = 32 := by kernel_rfl
theorem cellsT181 : Tryd.prog.cellsOf 181 = 64 := by kernel_rfl
theorem cellsT5 : Tryd.prog.cellsOf 5 = 1 := by kernel_rfl

theorem laidT : laidOutB Tryd.prog = true := by kernel_rfl
theorem readT {l : List Nat} (h : l.all (fun t => Tryd.prog.readableRec t && decide (t < Tryd.prog.types.size)) = true) : ∀ t ∈ l, Tryd.prog.readableRec t = true ∧ t < Tryd.prog.types.size := by
  intro t ht
  have := List.all_eq_true.1 h t ht
  simpa using this

/-- What the row's list gives. -/
abbrev tabsL {H : Type} : List (String × DataW H) := [("math/bits.deBruijn32tab", Rows.laid_math_bits_deBruijn32tab), ("math/bits.deBruijn64tab", Rows.laid_math_bits_deBruijn64tab)]
theorem tables {W : World} (h : laidMetH Tryd.prog tabsL W) : gmax ≤ W.heap.size ∧ ∀ g, g < gmax → ∃ cs c, [gl0, gl1][g]? = some (some (false, cs, c)) ∧ cs.all flat1 = true ∧ (absH W.heap).get g = .cells false cs c := by
  have t0 := abs_tab (Lib.tabIs_of_head (k := .u8) (zs := [0, 1, 28, 2, 29, 14, 24, 3, 30, 22, 20, 15, 25, 17, 4, 8, 31, 27, 13, 23, 21, 19, 16, 7, 26, 12, 18, 6, 11, 5, 10, 9]) gTab0 gType0 Tryd.underlying180 Tryd.underlying5 cellsT5 cellsT180 h) gTab0
  have t1 := abs_tab (Lib.tabIs_of_head (k := .u8) (zs := [0, 1, 56, 2, 57, 49, 28, 3, 61, 58, 42, 50, 38, 29, 17, 4, 62, 47, 59, 36, 45, 43, 51, 22, 53, 39, 33, 30, 24, 18, 12, 5, 63, 55, 48, 27, 60, 41, 37, 16, 46, 35, 44, 21, 52, 32, 23, 11, 54, 26, 40, 15, 34, 20, 31, 10, 25, 14, 19, 9, 13, 8, 7, 6]) (rest := []) gTab1 gType1 Tryd.underlying181 Tryd.underlying5 cellsT5 cellsT181 (laidMet.tail h)) gTab1
  refine ⟨t1.1, fun g hg => ?_⟩
  match g, hg with
  | 0, _ => exact ⟨_, _, rfl, rfl, t0.2⟩
  | 1, _ => exact ⟨_, _, rfl, rfl, t1.2⟩

/-- A world for the witness: the settled one with the arguments' memory, the tables holding what their initialisers lay. -/
noncomputable def laidCells (l : Array Value) : Obj → Obj
  | .cells _ t frozen => .cells l t frozen
  | o => o
noncomputable def laidWorld (os : Os) (args : Array Value) : World :=
  { World.holding Tryd.prog os ⟨#[], args, []⟩ with heap := ((World.holding Tryd.prog os ⟨#[], args, []⟩).heap.modify 0 (laidCells #[.int .u8 0, .int .u8 1, .int .u8 28, .int .u8 2, .int .u8 29, .int .u8 14, .int .u8 24, .int .u8 3, .int .u8 30, .int .u8 22, .int .u8 20, .int .u8 15, .int .u8 25, .int .u8 17, .int .u8 4, .int .u8 8, .int .u8 31, .int .u8 27, .int .u8 13, .int .u8 23, .int .u8 21, .int .u8 19, .int .u8 16, .int .u8 7, .int .u8 26, .int .u8 12, .int .u8 18, .int .u8 6, .int .u8 11, .int .u8 5, .int .u8 10, .int .u8 9])).modify 1 (laidCells #[.int .u8 0, .int .u8 1, .int .u8 56, .int .u8 2, .int .u8 57, .int .u8 49, .int .u8 28, .int .u8 3, .int .u8 61, .int .u8 58, .int .u8 42, .int .u8 50, .int .u8 38, .int .u8 29, .int .u8 17, .int .u8 4, .int .u8 62, .int .u8 47, .int .u8 59, .int .u8 36, .int .u8 45, .int .u8 43, .int .u8 51, .int .u8 22, .int .u8 53, .int .u8 39, .int .u8 33, .int .u8 30, .int .u8 24, .int .u8 18, .int .u8 12, .int .u8 5, .int .u8 63, .int .u8 55, .int .u8 48, .int .u8 27, .int .u8 60, .int .u8 41, .int .u8 37, .int .u8 16, .int .u8 46, .int .u8 35, .int .u8 44, .int .u8 21, .int .u8 52, .int .u8 32, .int .u8 23, .int .u8 11, .int .u8 54, .int .u8 26, .int .u8 40, .int .u8 15, .int .u8 34, .int .u8 20, .int .u8 31, .int .u8 10, .int .u8 25, .int .u8 14, .int .u8 19, .int .u8 9, .int .u8 13, .int .u8 8, .int .u8 7, .int .u8 6]) }

end Go.Proofs.YtllkhaabcfnlpaaDoor


/-
  The arguments of the laws of package duty, as the calculus has them: days, lists, rows, words, numbers.
-/
namespace Go.Proofs.YtllkhaabcfnlpaaDoor
open Go Go.Ab Go.RowKit Go.ChangeShapes Go.WideShapes

theorem cells3 : Tryd.prog.cellsOf 3 = 1 := by kernel_rfl
theorem cells28 : Tryd.prog.cellsOf 28 = 1 := by kernel_rfl
theorem cells80 : Tryd.prog.cellsOf 80 = 1 := by kernel_rfl
theorem cells24 : Tryd.prog.cellsOf 24 = 1 := by kernel_rfl
theorem cells25 : Tryd.prog.cellsOf 25 = 1 := by kernel_rfl
theorem cells82 : Tryd.prog.cellsOf 82 = 2 := by kernel_rfl
theorem cells84 : Tryd.prog.cellsOf 84 = 3 := by kernel_rfl
theorem cells23 : Tryd.prog.cellsOf 23 = 8 := by kernel_rfl
theorem cells27 : Tryd.prog.cellsOf 27 = 10 := by kernel_rfl
theorem abs_size (hp : Array Obj) : hp.size ≤ (absH hp).next := Nat.le_succ_of_le (Nat.le_mul_of_pos_right _ (Nat.succ_pos _))

theorem list3 {l : List Value} (h : l.length = 3) : ∃ a b c, l = [a, b, c] := by
  match l, h with
  | [a, b, c], _ => exact ⟨a, b, c, rfl⟩
theorem list10 {l : List Value} (h : l.length = 10) : ∃ a b c d e f g i j k, l = [a, b, c, d, e, f, g, i, j, k] := by
  match l, h with
  | [a, b, c, d, e, f, g, i, j, k], _ => exact ⟨a, b, c, d, e, f, g, i, j, k, rfl⟩

section
variable {H : Type} {enc : TypeId × Value → H} {w : World} {fuel : Nat} {v : Value} {x : DataW H × List MemPlace}

theorem maxLen_lt {n : Nat} (h : n ≤ maxLen) : n < 2 ^ 63 := by
  have : maxLen = 9223372036854775807 := rfl
  omega

theorem read_list (h : DataW.trod enc Tryd.prog w 0 (fun _ => true) true fuel 28 [v] = some x) : goodV w.heap.size (capM w.heap) v = true ∧ ∃ xs : List Int, IntsAt (absH w.heap) (absV w.heap.size v) xs := by
  obtain ⟨h1, xs, h2, h3, _⟩ := read_ints Tryd.underlying28 Tryd.underlying3 cells3 h
  exact ⟨h1, xs, h2, maxLen_lt h3⟩

theorem read_of {t e : TypeId} {α : Type} {R : Heap → Value → α → Prop} (ht : Tryd.prog.underlying t = some (.slice e)) (hc : Tryd.prog.cellsOf e = 1)
    (hs : ∀ n cs y, DataW.trod enc Tryd.prog w 0 (fun _ => true) true n e cs = some y → ∃ u, cs = [u])
    (hr : ∀ n u y, DataW.trod enc Tryd.prog w 0 (fun _ => true) true n e [u] = some y → goodV w.heap.size (capM w.heap) u = true ∧ ∃ x : α, R (absH w.heap) (absV w.heap.size u) x)
    (h : DataW.trod enc Tryd.prog w 0 (fun _ => true) true fuel t [v] = some x) : goodV w.heap.size (capM w.heap) v = true ∧ ∃ xs : List α, RowsOf R (absH w.heap) (absV w.heap.size v) xs := by
  obtain ⟨h1, l, h2, h3, h4⟩ := read_slice (α := α × Value) (f := fun x => [x.2]) (Q := fun x => R (absH w.heap) x.2 x.1) ht (by rw [hc]; omega) (fun n cs y hy => by
    obtain ⟨u, rfl⟩ := hs _ _ _ hy
    obtain ⟨k1, xs, k2⟩ := hr _ _ _ hy
    exact ⟨by simpa using k1, (xs, absV w.heap.size u), rfl, k2⟩) h
  refine ⟨h1, l.map (·.1), l.map (·.2), ?_, by simpa using maxLen_lt h3, fun i hi => ?_⟩
  · rw [hc] at h2
    have e : l.flatMap (fun x => [x.2]) = l.map (·.2) := by
      clear h2 h3 h4
      induction l with
      | nil => rfl
      | cons x l ih => simp [ih]
    rw [← e, List.length_map]
    exact h2
  · simp at hi
    exact ⟨l[i].2, by simp [hi], by simpa using h4 _ (List.getElem_mem hi)⟩

theorem one_slice {t e : TypeId} (ht : Tryd.prog.underlying t = some (.slice e)) {n : Nat} {cs : List Value} {y : DataW H × List MemPlace} (hy : DataW.trod enc Tryd.prog w 0 (fun _ => true) true n t cs = some y) : ∃ u, cs = [u] := by
  rcases Deep.open_slice ht hy with ⟨hv, _⟩ | ⟨a, len, cap, m, n, D, Pl, hv, _⟩ <;> exact ⟨_, hv⟩

theorem read_rows (h : DataW.trod enc Tryd.prog w 0 (fun _ => true) true fuel 25 [v] = some x) : goodV w.heap.size (capM w.heap) v = true ∧ ∃ xs : List (List Int), RowsAt (absH w.heap) (absV w.heap.size v) xs :=
  read_of Tryd.underlying25 cells28 (fun _ _ _ hy => one_slice Tryd.underlying28 hy) (fun _ _ _ hy => read_list hy) h

theorem read_relief {cs : List Value} (h : DataW.trod enc Tryd.prog w 0 (fun _ => true) true fuel 84 cs = some x) : (∀ u ∈ cs, goodV w.heap.size (capM w.heap) u = true) ∧ ∃ t : Rl, cs.map (absV w.heap.size) = t.cells ∧ True := by
  obtain ⟨ys, n, _, _, hl, hyl, hf⟩ := DataW.trod_struct Tryd.underlying84 h
  rw [cells84] at hl
  obtain ⟨c0, c1, c2, rfl⟩ := list3 hl
  have hy2 : ys.length = 2 := by simpa using hyl
  have e0 := hf 0 _ rfl
  have e1 := hf 1 _ rfl
  simp [cells3, cells82, hy2] at e0 e1
  obtain ⟨zs, m, _, _, hl', hyl', hf'⟩ := DataW.trod_struct Tryd.underlying82 e1
  have hz2 : zs.length = 2 := by simpa using hyl'
  have e2 := hf' 0 _ rfl
  have e3 := hf' 1 _ rfl
  simp [cells3, hz2] at e2 e3
  obtain ⟨z0, hz0, _⟩ := DataW.trod_int Tryd.underlying3 e0
  obtain ⟨z1, hz1, _⟩ := DataW.trod_int Tryd.underlying3 e2
  obtain ⟨z2, hz2, _⟩ := DataW.trod_int Tryd.underlying3 e3
  simp at hz0 hz1 hz2
  subst hz0 hz1 hz2
  exact ⟨by simp [goodV], ⟨z0, z1, z2⟩, rfl, trivial⟩

theorem read_rels (h : DataW.trod enc Tryd.prog w 0 (fun _ => true) true fuel 80 [v] = some x) : goodV w.heap.size (capM w.heap) v = true ∧ ∃ xs : List Rl, RelsAt (absH w.heap) (absV w.heap.size v) xs := by
  obtain ⟨h1, xs, h2, h3, _⟩ := read_slice (α := Rl) (f := Rl.cells) (Q := fun _ => True) Tryd.underlying80 (by rw [cells84]; omega) (fun n cs y hy => read_relief hy) h
  rw [cells84] at h2
  exact ⟨h1, xs, h2, maxLen_lt h3⟩

theorem read_blks (h : DataW.trod enc Tryd.prog w 0 (fun _ => true) true fuel 24 [v] = some x) : goodV w.heap.size (capM w.heap) v = true ∧ ∃ xs : List (List Rl), BlksAt (absH w.heap) (absV w.heap.size v) xs :=
  read_of Tryd.underlying24 cells80 (fun _ _ _ hy => one_slice Tryd.underlying80 hy) (fun _ _ _ hy => read_rels hy) h
end

section
variable {H : Type} {enc : TypeId × Value → H} {w : World} {base : Nat} {v : Value} {d : DataW H} {p : List MemPlace}

set_option maxRecDepth 100000 in
theorem read_dayV (hval : Value.okWide Tryd.prog w .any base 27 v) (h : DataW.Trod enc Tryd.prog w 0 (fun _ => true) true 27 v d p) :
    ∃ D b u, VR (absB w.heap) (dayV D b u) v ∧ DayAt (absH w.heap) b u D := by
  obtain ⟨cs, rfl, hsz⟩ := okWide_struct Tryd.underlying27 hval
  obtain ⟨fuel, h⟩ := h
  simp only [Value.cells] at h
  obtain ⟨ys, n, _, _, hl, hyl, hf⟩ := DataW.trod_struct Tryd.underlying27 h
  rw [cells27] at hl
  obtain ⟨l, rfl⟩ : ∃ l : List Value, cs = l.toArray := ⟨cs.toList, by simp⟩
  simp only at hl hf
  obtain ⟨c0, c1, c2, c3, c4, c5, c6, c7, c8, c9, rfl⟩ := list10 hl
  have hy3 : ys.length = 3 := by simpa using hyl
  have e0 := hf 0 _ rfl
  have e1 := hf 1 _ rfl
  have e2 := hf 2 _ rfl
  simp [cells23, cells24, cells25, hy3] at e0 e1 e2
  obtain ⟨zs, m, _, _, hl', hyl', hf'⟩ := DataW.trod_struct Tryd.underlying23 e0
  have hz8 : zs.length = 8 := by simpa using hyl'
  have f0 := hf' 0 _ rfl
  have f1 := hf' 1 _ rfl
  have f2 := hf' 2 _ rfl
  have f3 := hf' 3 _ rfl
  have f4 := hf' 4 _ rfl
  have f5 := hf' 5 _ rfl
  have f6 := hf' 6 _ rfl
  have f7 := hf' 7 _ rfl
  simp [cells3, hz8] at f0 f1 f2 f3 f4 f5 f6 f7
  obtain ⟨z0, h0, _⟩ := DataW.trod_int Tryd.underlying3 f0
  obtain ⟨z1, h1, _⟩ := DataW.trod_int Tryd.underlying3 f1
  obtain ⟨z2, h2, _⟩ := DataW.trod_int Tryd.underlying3 f2
  obtain ⟨z3, h3, _⟩ := DataW.trod_int Tryd.underlying3 f3
  obtain ⟨z4, h4, _⟩ := DataW.trod_int Tryd.underlying3 f4
  obtain ⟨z5, h5, _⟩ := DataW.trod_int Tryd.underlying3 f5
  obtain ⟨z6, h6, _⟩ := DataW.trod_int Tryd.underlying3 f6
  obtain ⟨z7, h7, _⟩ := DataW.trod_int Tryd.underlying3 f7
  obtain ⟨g8, xs, k8⟩ := read_blks e1
  obtain ⟨g9, us, k9⟩ := read_rows e2
  simp at h0 h1 h2 h3 h4 h5 h6 h7
  subst h0 h1 h2 h3 h4 h5 h6 h7
  refine ⟨⟨⟨z0, z1, z2, z3, z4, z5, z6, z7⟩, xs, us⟩, absV w.heap.size c8, absV w.heap.size c9, VR.mk_agg ?_, ⟨k8, k9⟩⟩
  exact ⟨.int _ _, .int _ _, .int _ _, .int _ _, .int _ _, .int _ _, .int _ _, .int _ _, good_VR g8, good_VR g9, trivial⟩

set_option maxRecDepth 100000 in
theorem read_listV (hval : Value.okWide Tryd.prog w .any base 28 v) (h : DataW.Trod enc Tryd.prog w 0 (fun _ => true) true 28 v d p) : VR (absB w.heap) (absV w.heap.size v) v ∧ ∃ xs, IntsAt (absH w.heap) (absV w.heap.size v) xs := by
  obtain ⟨a0, len, cap, rfl⟩ := okWide_slice Tryd.underlying28 hval
  obtain ⟨fuel, h⟩ := h
  obtain ⟨h1, h2⟩ := read_list h
  exact ⟨good_VR h1, h2⟩

set_option maxRecDepth 100000 in
theorem read_u16V (hval : Value.okWide Tryd.prog w .any base 71 v) (h : DataW.Trod enc Tryd.prog w 0 (fun _ => true) true 71 v d p) : ∃ x : Int, VR (absB w.heap) (.int .u16 x) v ∧ (0 ≤ x ∧ x < 65536) := by
  obtain ⟨x, rfl⟩ := okWide_int Tryd.underlying71 hval
  obtain ⟨fuel, h⟩ := h
  obtain ⟨z, hz, _, hw⟩ := DataW.trod_int Tryd.underlying71 h
  simp [Value.cells] at hz
  subst hz
  simp [Lit.wf, IntKind.min, IntKind.max, IntKind.signed, IntKind.bits] at hw
  exact ⟨x, .int _ _, by omega⟩
end

end Go.Proofs.YtllkhaabcfnlpaaDoor


/-
  The table of the package math/bits in the program's memory.
-/
namespace Go.Proofs.YtllkhaabcfnlpaaDoor
open Go Go.Ab

theorem gl_of {W : World} (hgl : gmax ≤ W.heap.size) (hgc : ∀ g, g < gmax → ∃ cs c, [gl0, gl1][g]? = some (some (false, cs, c)) ∧ cs.all flat1 = true ∧ (absH W.heap).get g = .cells false cs c) : Gl (absH W.heap) := by
  obtain ⟨cs, c, k1, _, k3⟩ := hgc 1 (by decide)
  have e := Option.some.inj (Option.some.inj k1)
  have e1 : tz64 = cs := congrArg (fun p => p.2.1) e
  subst e1
  exact ⟨Nat.le_trans hgl (abs_size _), c, k3⟩

end Go.Proofs.YtllkhaabcfnlpaaDoor

