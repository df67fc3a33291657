/-
  Joined texts of a calculus of abstract memory, of the program's code in it, and of contracts.
-/
import Derived.Test.YtllkhaabcfnlpaaDoorJ6
import Derived.Test.YtllkhaabcfnlpaaDoorJ9
import Derived.Test.YtllkhaabcfnlpaaDoorJ10
import Derived.Test.YtllkhaabcfnlpaaDoorJ11
import Derived.WalkKit
import Derived.ProofKit
import Derived.OpenShut
import Derived.Deep.DeepHandedRow
import Derived.Test.YtllkhaabcfnlpaaDoorCards
import Derived.Test.YtllkhaabcfnlpaaDoorTie
/-
  All duties that pass a test, the legal ones among them, and the segments that are barred.
-/
namespace Go.Proofs.YtllkhaabcfnlpaaDoor
open Go Go.Ab

theorem sub_bits {a : Nat} {z : Int} (hz : z = 1) (h0 : 1 ≤ a) (h : a < 2 ^ 64) : binI BinOp.sub (bitsV a) (.int .u64 z) = some (bitsV (a - 1)) := by
  have e : binI BinOp.sub (bitsV a) (.int .u64 z) = some (.int .u64 (IntKind.u64.wrap ((a : Int) - z))) := rfl
  have e2 : (a : Int) - z = ((a - 1 : Nat) : Int) := by omega
  rw [e, e2, wrap_u64 (by omega)]
theorem add_bits {a : Nat} {z : Int} (hz : z = 1) (h : a + 1 < 2 ^ 64) : binI BinOp.add (bitsV a) (.int .u64 z) = some (bitsV (a + 1)) := by
  have e : binI BinOp.add (bitsV a) (.int .u64 z) = some (.int .u64 (IntKind.u64.wrap ((a : Int) + z))) := rfl
  have e2 : (a : Int) + z = ((a + 1 : Nat) : Int) := by omega
  rw [e, e2, wrap_u64 h]

abbrev segN (D : Dy) : Nat := (segPs D).length
theorem segN_le {D : Dy} (hV : Valid D) : segN D ≤ 10 := by have := hV.segs; rw [← segPs_length] at this; exact this
theorem pow_segN {D : Dy} (hV : Valid D) : 1 ≤ 2 ^ segN D ∧ 2 ^ segN D ≤ 1024 := ⟨Nat.one_le_two_pow, Nat.pow_le_pow_right (n := 2) (by omega) (segN_le hV)⟩

section
variable {D : Dy} {K : List (List (Int × Int))} {b w s k q : Value} {H : Heap}
theorem all_spec (hP : PlanAt H b w s k q D K) (hV : Valid D) : AFun Tryd.prog 98 [planV D b w s k q] H (fun r B => r = bitsV (2 ^ segN D - 1) ∧ Ge H B) := by
  refine AFun.mk ok98 hm (Nat.le_of_ble_eq_true rfl) ?_
  have hb := hP.day.blocks.one
  have hw := hP.day.walk.one
  have hs := hP.segs.one
  have hk := hP.known.one
  have hq : one q = true := SlR.one hP.quest
  have h10 := segN_le hV
  obtain ⟨hp1, hp2⟩ := pow_segN hV
  simp [a98, r98, hb, hw, hs, hk, hq, hP.segs.lenV]
  refine fcall_fun (setOf_spec (segN D) (by omega) _) ?_
  rintro _ _ ⟨rfl, rfl⟩
  simp [sub_bits rfl hp1 (by omega)]

/-- The sets that pass. -/
def passL (p : Nat → Bool) (i : Nat) : List Nat := (List.range' 1 (i - 1)).filter p
theorem passL_step {p : Nat → Bool} {i : Nat} (h : 1 ≤ i) : passL p (i + 1) = if p i then passL p i ++ [i] else passL p i := by
  unfold passL
  obtain ⟨j, rfl⟩ : ∃ j, i = j + 1 := ⟨i - 1, by omega⟩
  simp only [Nat.add_sub_cancel]
  rw [List.range'_concat, List.filter_append]
  rw [show 1 + 1 * j = j + 1 by omega]
  cases hp : p (j + 1) <;> simp [hp]
theorem passL_length {p : Nat → Bool} {i : Nat} : (passL p i).length ≤ i := by
  unfold passL
  have := List.length_filter_le p (List.range' 1 (i - 1))
  simp at this
  omega
theorem passL_mem {p : Nat → Bool} {i d : Nat} : d ∈ passL p i ↔ (1 ≤ d ∧ d < i) ∧ p d = true := by
  unfold passL
  rw [List.mem_filter, List.mem_range']
  constructor
  · rintro ⟨⟨j, h1, rfl⟩, h2⟩; exact ⟨by omega, h2⟩
  · rintro ⟨h1, h2⟩; exact ⟨⟨d - 1, by omega, by omega⟩, h2⟩

theorem dutiesThat_spec {p : Nat → Bool} {pv : Value} (hP : PlanAt H b w s k q D K) (hV : Valid D) (hp : ∀ A m, Ge H A → m ≠ 0 → m < 2 ^ segN D → ACall Tryd.prog pv [bitsV m] A (fun r B => r = .bool (p m) ∧ Ge A B)) :
    AFun Tryd.prog 119 [planV D b w s k q, pv] H (fun r B => OwnSl B H.next r ((passL p (2 ^ segN D)).map bitsV) ∧ Ge H B) := by
  refine AFun.mk ok119 hm (Nat.le_of_ble_eq_true rfl) ?_
  have hb := hP.day.blocks.one
  have hw := hP.day.walk.one
  have hs := hP.segs.one
  have hk := hP.known.one
  have hq : one q = true := SlR.one hP.quest
  obtain ⟨hp1, hp2⟩ := pow_segN hV
  simp [a119, r119, hb, hw, hs, hk, hq]
  refine floop_intro (fun z => z.d = [] ∧ Ge H z.H ∧ H.next < z.H.next ∧ z.t 1 = pv ∧ z.t 2 = .pointer (some ⟨H.next, 0, none⟩) ∧ z.H.get H.next = .cells true (planV D b w s k q).cells.toList 13 ∧ ∃ i : Nat, 1 ≤ i ∧ i ≤ 2 ^ segN D ∧ z.t 6 = bitsV i ∧ OwnSl z.H (H.next + 1) (z.t 5) ((passL p i).map bitsV)) (fun z => 2 ^ segN D - (intOf (z.t 6)).toNat) ?_ ?_
  · exact ⟨rfl, by simp, by simp, by simp, by simp, by simp [Value.cells], 1, by omega, hp1, by simp, .inl ⟨by simp, by simp [passL]⟩⟩
  rintro ⟨t, _, A⟩ ⟨rfl, g, hn, t1, t2, kd, i, hi1, hi, t6, o5⟩
  dsimp only at g hn t1 t2 kd t6 o5
  simp [Value.cells] at kd
  generalize t5 : t 5 = v5 at o5
  simp [t1, t2, t6, kd]
  refine fcall_fun (all_spec (hP.ge g) hV) ?_
  rintro _ A1 ⟨rfl, gA⟩
  have g1 := gA
  have n1 := g1.next
  simp [t6]
  by_cases hc : i ≤ 2 ^ segN D - 1
  case neg =>
    have e : i = 2 ^ segN D := by omega
    subst e
    simp [hc, t5]
    exact ⟨(o5.ge gA).lower (by omega), g.trans gA⟩
  simp [hc, t1, t6]
  refine fcall_intro ((hp A1 i (g.trans gA) (by omega) (by omega)).mono ?_)
  rintro _ A2 ⟨rfl, g2⟩
  have G2 := gA.trans g2
  have n2 := g2.next
  have kd2 := G2.got hn kd
  have hstep := passL_step (p := p) hi1
  have hadd := add_bits (a := i) (z := 1) rfl (by omega)
  cases hpi : p i
  · simp [t6, hadd]
    rw [hpi] at hstep
    simp only [Bool.false_eq_true, if_false] at hstep
    exact ⟨⟨g.trans G2, by omega, t1, t2, by simpa [Value.cells] using kd2, i + 1, by omega, by omega, rfl, by rw [hstep, t5]; exact o5.ge G2⟩, by omega⟩
  · rw [hpi] at hstep
    simp only [if_true] at hstep
    simp [t5, t6]
    have hlen := passL_length (p := p) (i := i)
    refine fapp_own (lo := H.next + 1) (x := bitsV i) ((o5.ge G2).ge (Ge.new _ _)) (slCells_new (rw := true) (c := 1) (by simp)) rfl (by simp; omega) (by omega) (by simp) (by omega) (by simp; omega) fun u3 C k3 k4 k5 k6 => ?_
    have h5n : ∀ m, slName v5 = some m → H.next + 1 ≤ m := fun m hm => (o5.names hm).1
    have gC : Ge H C := ⟨by have := g.next; omega, fun n hn => by
      have f0 := g.next
      have f3 : n ≠ A2.next := by omega
      rw [k6 n (by omega) (fun e => by have := h5n n e; omega)]; simp [f3]
      rw [G2.get n (by omega)]; exact g.get n hn⟩
    have kC : C.get H.next = A2.get H.next := (k6 H.next (by omega) (fun e => by have := h5n _ e; omega)).trans (by rw [Heap.new_get, if_neg (by omega)])
    simp [t6, hadd]
    refine ⟨⟨gC, by omega, t1, t2, by simpa [Value.cells] using kC.trans kd2, i + 1, by omega, by omega, rfl, ?_⟩, by omega⟩
    rw [hstep, List.map_append]
    exact k3

/-- Is a set of segments a legal duty? -/
def legalN (D : Dy) (K : List (List (Int × Int))) (m : Nat) : Bool := legalB D K (piecesL D m)
def legalL (D : Dy) (K : List (List (Int × Int))) : List Nat := passL (legalN D K) (2 ^ segN D)

theorem legalDuties_spec (hP : PlanAt H b w s k q D K) (hV : Valid D) (hK : KOk D K) :
    AFun Tryd.prog 99 [planV D b w s k q] H (fun r B => OwnSl B H.next r ((legalL D K).map bitsV) ∧ Ge H B) := by
  refine AFun.mk ok99 hm (Nat.le_of_ble_eq_true rfl) ?_
  have hb := hP.day.blocks.one
  have hw := hP.day.walk.one
  have hs := hP.segs.one
  have hk := hP.known.one
  have hq : one q = true := SlR.one hP.quest
  simp [a99, r99, hb, hw, hs, hk, hq]
  have G0 : Ge H (H.new (.cells true (planCells D b w s k q) 13)) := Ge.new _ _
  refine fcall_fun (dutiesThat_spec (p := legalN D K) (hP.ge G0) hV fun A m gA h0 hlt => ?_) ?_
  · refine ACall.of_fun ?_
    exact isLegal_spec (hP.ge (G0.trans gA)) hV hK hlt h0
  rintro r B ⟨o, g⟩
  simp
  exact ⟨o.lower (by simp), G0.trans g⟩

/-- The segments that no set of a list has. -/
def barM (n : Nat) (L : List Nat) : Nat := L.foldl diffN (2 ^ n - 1)
theorem bar_lt {L : List Nat} : ∀ {n m : Nat}, m < 2 ^ n → L.foldl diffN m < 2 ^ n := by
  induction L with
  | nil => exact fun h => h
  | cons x L ih => exact fun h => ih (diff_lt h)
theorem bar_bit {L : List Nat} : ∀ {m i : Nat}, (L.foldl diffN m).testBit i = (m.testBit i && !L.any fun d => d.testBit i) := by
  induction L with
  | nil => simp
  | cons x L ih =>
    intro m i
    rw [List.foldl_cons, ih, testBit_diff, List.any_cons]
    cases m.testBit i <;> cases x.testBit i <;> simp
theorem barM_bit {n i : Nat} {L : List Nat} : (barM n L).testBit i = (decide (i < n) && !L.any fun d => d.testBit i) := by
  unfold barM
  rw [bar_bit, Nat.testBit_two_pow_sub_one]

theorem barred_spec (hP : PlanAt H b w s k q D K) (hV : Valid D) (hK : KOk D K) :
    AFun Tryd.prog 72 [planV D b w s k q] H (fun r B => r = bitsV (barM (segN D) (legalL D K)) ∧ Ge H B) := by
  refine AFun.mk ok72 hm (Nat.le_of_ble_eq_true rfl) ?_
  have hb := hP.day.blocks.one
  have hw := hP.day.walk.one
  have hs := hP.segs.one
  have hk := hP.known.one
  have hq : one q = true := SlR.one hP.quest
  obtain ⟨hp1, hp2⟩ := pow_segN hV
  simp [a72, r72, hb, hw, hs, hk, hq]
  have G0 : Ge H (H.new (.cells true (planCells D b w s k q) 13)) := Ge.new _ _
  refine fcall_fun (all_spec (hP.ge G0) hV) ?_
  rintro _ H1 ⟨rfl, g1⟩
  have G1 := G0.trans g1
  have k1 := g1.got (n := H.next) (by simp) rfl
  simp at k1
  have n1 := g1.next
  simp at n1
  simp [k1]
  refine fcall_fun (legalDuties_spec (hP.ge G1) hV hK) ?_
  rintro v9 H2 ⟨o9, g2⟩
  have G2 := G1.trans g2
  have hlen := passL_length (p := legalN D K) (i := 2 ^ segN D)
  have hsl := o9.slr
  have hlenV : lenV v9 = some (.int .i64 (legalL D K).length) := by have := o9.lenV; simpa using this
  generalize hL : legalL D K = L at *
  have hll : L.length ≤ 1024 := by rw [← hL]; exact Nat.le_trans hlen hp2
  simp [hlenV]
  refine floop_intro (fun z => z.d = [] ∧ z.H = H2 ∧ z.t 9 = v9 ∧ z.t 10 = .int .i64 L.length ∧ ∃ i : Nat, i ≤ L.length ∧ z.t 11 = .int .i64 i ∧ z.t 3 = bitsV ((L.take i).foldl diffN (2 ^ segN D - 1))) (fun z => L.length - (intOf (z.t 11)).toNat) ?_ ?_
  · exact ⟨rfl, by simp, by simp, by simp, 0, by omega, by simp, by simp⟩
  rintro ⟨t, _, A⟩ ⟨rfl, rfl, t9, t10, i, hi, t11, t3⟩
  dsimp only at t9 t10 t11 t3
  simp [t10, t11]
  refine fcond_intro (fun hc => ?_) (fun hc => ?_)
  case refine_2 =>
    have : i = L.length := by simp at hc; omega
    subst this
    simp [t3, barM]
    exact G2
  have h1 : i < L.length := by simpa using hc
  obtain ⟨p, e1, e2⟩ := hsl.at1 (k := .i64) (i := i) (by simpa using h1)
  have e3 : (L.map bitsV)[i]? = some (bitsV L[i]) := by simp [h1]
  rw [e3] at e2
  have hm64 : (L.take i).foldl diffN (2 ^ segN D - 1) < 2 ^ 64 := Nat.lt_of_lt_of_le (bar_lt (n := segN D) (by omega)) (by have := Nat.pow_le_pow_right (n := 2) (by omega) (segN_le hV); omega)
  have hd64 : L[i] < 2 ^ 64 := by
    have : L[i] ∈ legalL D K := by rw [hL]; exact List.getElem_mem h1
    have := (passL_mem.1 this).1.2
    omega
  simp [t9, t11, e1, e2, t3]
  rw [aval_diff (a := (L.take i).foldl diffN (2 ^ segN D - 1)) (b := L[i]) (by simp) (by simp) (by decide) (by decide) hm64 hd64]
  simp [t11, add_in (x := i) (y := 1) (by omega) (by omega)]
  refine ⟨⟨t9, t10, i + 1, by omega, by omega, ?_⟩, by omega⟩
  rw [List.take_succ_eq_append_getElem h1, List.foldl_append]
  rfl
end

/-- The answer of Barred. -/
def barE (D : Dy) : Int := if checkD D = 0 then (if barM (segN D) (legalL D (known0 D)) = 0 then 7 else 0) else checkD D
def barL (D : Dy) : List Nat := if barE D = 0 then bitsL (barM (segN D) (legalL D (known0 D))) else []
theorem barredF_spec {D : Dy} {b w : Value} {H : Heap} (h : DayAt H b w D) (hT : D.Thin) (hG : Gl H) :
    AFun Tryd.prog 38 [dayV D b w] H (fun r B => ∃ v, r = .tuple #[v, .int .i64 (barE D)] ∧ OwnSl B H.next v (intL (barL D)) ∧ Ge H B) := by
  refine AFun.mk ok38 hm (Nat.le_of_ble_eq_true rfl) ?_
  have hb := h.blocks.one
  have hw := h.walk.one
  simp [a38, r38, hb, hw]
  refine fcall_fun (checkDay_spec (h.ge (by simp)) hT) ?_
  rintro _ H1 ⟨rfl, g1⟩
  have G1 : Ge H H1 := Ge.trans (by simp) g1
  have k1 := g1.got (n := H.next) (by simp) rfl
  have n1 := g1.next
  simp at k1 n1
  by_cases hc : checkD D = 0
  case neg =>
    have he : barE D = checkD D := by simp [barE, hc]
    have hl : barL D = [] := by simp [barL, he, hc]
    simp [hc, he, hl]
    exact ⟨.inl ⟨rfl, rfl⟩, G1⟩
  have hV := valid_of hc
  simp [hc, k1]
  refine fcall_fun (newPlanned_spec (h.ge G1) hV) ?_
  rintro _ H2 ⟨s, k, q, rfl, hO, g2⟩
  have G2 := G1.trans g2
  have hP : PlanAt H2 b w s k q D (known0 D) := hO.at (h.ge G2)
  simp
  refine fcall_fun (barred_spec hP hV (known0_ok hV)) ?_
  rintro _ H3 ⟨rfl, g3⟩
  have G3 := G2.trans g3
  have hm10 : barM (segN D) (legalL D (known0 D)) < 1024 := Nat.lt_of_lt_of_le (bar_lt (n := segN D) (by have := pow_segN hV; omega)) (pow_segN hV).2
  by_cases h0 : barM (segN D) (legalL D (known0 D)) = 0
  · have he : barE D = 7 := by simp [barE, hc, h0]
    have hl : barL D = [] := by simp [barL, he]
    simp [h0, he, hl]
    exact ⟨.inl ⟨rfl, rfl⟩, G3⟩
  have he : barE D = 0 := by simp [barE, hc, h0]
  have hl : barL D = bitsL (barM (segN D) (legalL D (known0 D))) := by simp [barL, he]
  simp [h0, he, hl]
  refine fcall_fun (setList_spec hm10 (hG.ge G3)) ?_
  rintro v H4 ⟨o4, g4⟩
  simp
  exact ⟨v, ⟨rfl, he.symm⟩, by rw [hl]; exact o4.lower G3.next, G3.trans g4⟩

end Go.Proofs.YtllkhaabcfnlpaaDoor


/-
  The reference's list of all duties.
-/
namespace Go.Proofs.YtllkhaabcfnlpaaDoor
open Go Go.Ab

section
variable {P : Program} {t : Nat → Value} {H : Heap} {N x y : Nat} {d : Option Tmp} {T U ty : TypeId} {pos : String} {af : Array Edge} {g : Option (Nat × Bool)}
end

/-- Segments as the program's numbers. -/
def bitsI (l : List Nat) : List Int := l.map fun (x : Nat) => (x : Int)
/-- The segments of a set, among so many. -/
def setR (n m : Nat) : List Int := bitsI (bitsFrom n m 0)
theorem bitsUp {m j : Nat} : bitsFrom (j + 1) m 0 = if m.testBit j then bitsFrom j m 0 ++ [j] else bitsFrom j m 0 := by
  unfold bitsFrom
  simp only [Nat.sub_zero]
  rw [List.range'_concat, List.filter_append]
  simp only [Nat.zero_add, Nat.one_mul]
  cases hp : m.testBit j <;> simp [hp]
theorem setR_step {m j : Nat} : setR (j + 1) m = if m.testBit j then setR j m ++ [(j : Int)] else setR j m := by
  unfold setR
  rw [bitsUp]
  cases hp : m.testBit j <;> simp [bitsI]
theorem setR_length {n m : Nat} : (setR n m).length ≤ n := by
  have := List.length_filter_le (fun x => m.testBit x) (List.range' 0 (n - 0))
  simpa [setR, bitsI, bitsFrom] using this
end Go.Proofs.YtllkhaabcfnlpaaDoor


/-
  The reference's list of legal duties; what a list has.
-/
namespace Go.Proofs.YtllkhaabcfnlpaaDoor
open Go Go.Ab

theorem has40_spec {H : Heap} {v : Value} {xs : List Int} {x : Int} (hv : IntsAt H v xs) : AFun Tryd.prog 40 [v, .int .i64 x] H (fun r H' => r = .bool (decide (x ∈ xs)) ∧ H' = H) := by
  refine AFun.mk ok40 hm (Nat.le_of_ble_eq_true rfl) ?_
  simp [a40, r40]
  refine floop_intro (fun s => s.d = [] ∧ s.H = H ∧ s.t 0 = v ∧ s.t 1 = .int .i64 x ∧ ∃ i : Nat, i ≤ xs.length ∧ s.t 5 = .int .i64 i ∧ x ∉ xs.take i) (fun s => xs.length - (intOf (s.t 5)).toNat) ?_ ?_
  · exact ⟨rfl, rfl, by simp, by simp, 0, by simp, by simp, by simp⟩
  · rintro ⟨t, _, _⟩ ⟨rfl, rfl, h0, h1, i, hi, h5, hn⟩
    dsimp only at h0 h1 h5 hv
    have h62 := hv.2
    simp [h0, h5, hv.lenV]
    refine fcond_intro (fun hc => ?_) (fun hc => ?_)
    · have hi' : i < xs.length := by simpa using hc
      obtain ⟨p, e1, e2⟩ := hv.at hi'
      simp [h0, h1, h5, e1, e2]
      refine fcond_intro (fun hx => ?_) (fun hx => ?_)
      · have hx' : xs[i] = x := by simpa using hx
        simp
        rw [← hx']; exact List.getElem_mem hi'
      · have hx' : xs[i] ≠ x := by simpa using hx
        simp [h5, add_in (x := i) (y := 1) (by omega) (by omega)]
        refine ⟨⟨h0, h1, i + 1, by omega, by omega, ?_⟩, by omega⟩
        rw [List.take_succ_eq_append_getElem hi']
        simp only [List.mem_append, List.mem_singleton, hn, Ne.symm hx', or_self, not_false_eq_true]
    · have : xs.length ≤ i := by simpa using hc
      simpa [List.take_of_length_le this] using hn

theorem setR_mem {n m : Nat} {x : Int} : x ∈ setR n m ↔ ∃ s : Nat, x = (s : Int) ∧ s < n ∧ m.testBit s = true := by
  unfold setR bitsI
  rw [List.mem_map]
  constructor
  · rintro ⟨s, hs, rfl⟩; exact ⟨s, rfl, bitsFrom_mem.1 hs⟩
  · rintro ⟨s, rfl, hs⟩; exact ⟨s, bitsFrom_mem.2 hs, rfl⟩
theorem bit_lt {m n i : Nat} (hm : m < 2 ^ n) (hi : m.testBit i = true) : i < n := by
  refine Nat.lt_of_not_le fun hle => ?_
  have : m < 2 ^ i := Nat.lt_of_lt_of_le hm (Nat.pow_le_pow_right (n := 2) (by omega) hle)
  rw [Nat.testBit_lt_two_pow this] at hi
  cases hi
theorem rise_duty {n : Nat} {l : List Nat} (h : l.Pairwise (· < ·)) (hb : ∀ x ∈ l, x < n) (h0 : l ≠ []) : isDutyB n (bitsI l) = true := by
  unfold isDutyB riseB
  have hl : (bitsI l).length = l.length := by simp [bitsI]
  rw [Bool.and_eq_true, List.all_eq_true, decide_eq_true_eq]
  refine ⟨fun j hj => ?_, by rw [hl]; exact List.length_pos_iff.2 h0⟩
  rw [List.mem_range, hl] at hj
  have e1 : (bitsI l)[j]?.getD 0 = (l[j] : Int) := by simp [bitsI, hj]
  have hlt := hb l[j] (List.getElem_mem hj)
  unfold riseAt
  rw [e1, Bool.and_eq_true, decide_eq_true_eq, decide_eq_true_eq]
  refine ⟨?_, by omega⟩
  unfold lastAt
  by_cases hj0 : j = 0
  · simp [hj0]
  have hj1 : j - 1 < l.length := by omega
  have e2 : (bitsI l)[j - 1]?.getD 0 = (l[j - 1] : Int) := by simp [bitsI, hj1]
  rw [if_neg hj0, e2]
  have := List.pairwise_iff_getElem.1 h (j - 1) j hj1 hj (by omega)
  omega
end Go.Proofs.YtllkhaabcfnlpaaDoor


/-
  The plan that was chosen, as lists of segments.
-/
namespace Go.Proofs.YtllkhaabcfnlpaaDoor
open Go Go.Ab

theorem own_S {A : Heap} {lo : Nat} {u : Value} {l : List Int} (h : OwnSl A lo u (l.map (.int .i64))) : OwnS A lo 1 u l.length (l.flatMap iCell) := by
  rw [iCell_flat]
  rcases h with ⟨rfl, h0⟩ | ⟨n, cap, c, rfl, k1, k2, k3, k4, k5⟩
  · have h00 : l.length = 0 := by have := congrArg List.length h0; simpa using this
    exact .inl ⟨rfl, h00, h0⟩
  · exact .inr ⟨n, cap, c, by simp, k1, k2, k3, by simp, by simpa using k4, by omega⟩

/-- A duty as the program's list. -/
def rowOf (d : Nat) : List Int := bitsI (bitsL d)
theorem rowOf_length {d : Nat} : (rowOf d).length ≤ 10 := by
  have := List.length_filter_le (fun x => d.testBit x) (List.range' 0 10)
  simpa [rowOf, bitsI, bitsL, bitsFrom] using this

theorem first_mem {L : List Nat} {pay : Nat → Int} (hL : SetsOk L) {m : Nat} (hf : (choose L pay m).first ≠ 0) : (choose L pay m).first ∈ L ∧ diffN (choose L pay m).first m = 0 := by
  have h0 : m ≠ 0 := fun e => by subst e; rw [choose_zero] at hf; exact hf rfl
  rcases choose_made hL h0 with e | ⟨_, d, hd, hs, _, e⟩
  · rw [e] at hf; exact absurd rfl hf
  have ef : (choose L pay m).first = d := by rw [e]; rfl
  rw [ef]
  exact ⟨(List.mem_filter.1 hd).1, hs⟩

theorem plan_spec {L : List Nat} {pay : Nat → Int} {mk m : Nat} {H : Heap} {f : Nat → Option Value} (hL : SetsOk L) (hm10 : m < 1024) (hK : KnownC H L pay mk f) (hmk : mk < H.next) (hf : (f m).isSome = true) (hG : Gl H) :
    AFun Tryd.prog 106 [bitsV m, .map (some mk)] H (fun r B => RowsAt B r ((planOf L pay m).map rowOf) ∧ Ge H B) := by
  refine AFun.mk ok106 hm (Nat.le_of_ble_eq_true rfl) ?_
  simp [a106, r106]
  refine floop_intro (fun z => z.d = [] ∧ Ge H z.H ∧ H.next ≤ z.H.next ∧ z.t 1 = .map (some mk) ∧ ∃ (left : Nat) (done : List Nat), z.t 6 = bitsV left ∧ done.length + left ≤ m ∧ planOf L pay m = done ++ planOf L pay left ∧ (f left).isSome = true ∧ RowsG 1 iCell z.H H.next (fun _ => False) (z.t 5) (done.map rowOf)) (fun z => (intOf (z.t 6)).toNat) ?_ ?_
  · refine ⟨rfl, by simp, by simp, by simp, m, [], by simp, by simp, by simp, hf, ?_⟩
    exact ⟨⟨[], .inr ⟨H.next, 0, 0, by simp, Nat.le_refl _, by simp, by simp, by simp, by simp⟩, rfl, fun k hk => by simp at hk⟩, fun _ _ h => h⟩
  rintro ⟨t, _, A⟩ ⟨rfl, g, hn, t1, left, done, t6, hdl, hpl, hfl, hR⟩
  dsimp only at g hn t1 t6 hR
  generalize t5 : t 5 = v5 at hR
  have hval : f left = some (chV (choose L pay left)) := by
    obtain ⟨v, hv⟩ := Option.isSome_iff_exists.1 hfl
    rw [hv, (hK.val left v hv).1]
  have hcl := (hK.val left _ hval).2
  have hlk : ∀ X : Heap, X.get mk = H.get mk → lk1H Tryd.prog 102 (.agg #[.int .u64 0, .int .i64 0, .int .i64 0, .bool false]) X (bitsV left) (.map (some mk)) = some (chV (choose L pay left)) := fun X hX => by
    rw [(hK.map.keep hX).lk1 flat_ch0, hval]; rfl
  have hA := hlk A (g.get _ hmk)
  simp [t1, t6, hA]
  by_cases hz : (choose L pay left).first = 0
  · rw [planOf_end hz, List.append_nil] at hpl
    simp [hz, t5]
    rw [hpl]
    refine ⟨rows_done hR (by simp; omega) fun r hr => ?_, g⟩
    obtain ⟨d, _, rfl⟩ := List.mem_map.1 hr
    have := rowOf_length (d := d); omega
  obtain ⟨hfL, hsub⟩ := first_mem hL hz
  obtain ⟨hp1, hp2⟩ := planOf_step hL (pay := pay) hz
  have hf10 := (hL _ hfL).2
  have hcl2 := hcl hz
  have hl10 : left < 1024 := by omega
  generalize choose L pay left = c at *
  simp [hz, t5, t1, t6, hA]
  refine fcall_fun (setList_spec hf10 (hG.ge g)) ?_
  rintro u B ⟨ou, gB⟩
  have hu1 := ou.one
  have nB := gB.next
  simp [hu1, one_cells]
  have gB2 : Ge A (B.new (.cells true [u] 1)) := gB.newOf _
  have hR2 : RowsG 1 iCell (B.new (.cells true [u] 1)) H.next (fun _ => False) v5 (done.map rowOf) := hR.keep gB2.next (fun n _ hn _ => gB2.get n hn) (fun _ _ hf => hf)
  have hou : OwnSl (B.new (.cells true [u] 1)) H.next u ((rowOf c.first).map (.int .i64)) := by
    have e : (rowOf c.first).map (Value.int .i64) = intL (bitsL c.first) := by simp [rowOf, bitsI]
    rw [e]
    exact (ou.ge (Ge.new _ _)).lower hn
  refine hR2.push (r := rowOf c.first) (x := u) (X' := fun _ => False) (own_S hou) (fun m hm => ⟨fun e => ?_, fun hf => hf⟩) (fun m hf => hf.elim) (slCells_new (rw := true) (c := 1) (by simp)) (by simp; omega) (by simp) (by omega) (by simp; omega) fun u' C k1 k2 k3 k4 => ?_
  · have := (ou.names hm).1
    have := (hR.names e).2
    omega
  have h3 : ∀ m, slName v5 = some m → H.next ≤ m := fun m hm => (hR.names hm).1
  have gC : Ge H C := by
    refine ⟨by omega, fun n hn => ?_⟩
    have e1 : n ≠ B.next := by omega
    rw [k4 n (by omega) (fun e => by have := h3 n e; omega)]
    simp [e1, gB.get n (by omega), g.get n hn]
  have hC := hlk C (gC.get _ hmk)
  simp [t1, t6, hC]
  rw [aval_diff (a := left) (b := c.first) (by simp) (by simp) (by decide) (by decide) (by omega) (by omega)]
  simp
  exact ⟨⟨gC, by omega, t1, diffN left c.first, rfl, done ++ [c.first], by simp; omega, by rw [hpl, hp1]; simp, hcl2, by simpa using k1⟩, by rw [t6]; simp; exact hp2⟩

end Go.Proofs.YtllkhaabcfnlpaaDoor


/-
  Truths: what the program and the reference ask of times.
-/
namespace Go.Proofs.YtllkhaabcfnlpaaDoor
open Go Go.Ab

theorem _root_.Go.Ab.IntsAt.atAll {H : Heap} {v : Value} {xs : List Int} (h : IntsAt H v xs) {i : Nat} (hi : i < xs.length) : ∃ p, islV 1 v (.int .i64 i) = some p ∧ ∀ A, Ge H A → ldV A false 1 p = some (.int .i64 xs[i]) := by
  obtain ⟨p, h1, _⟩ := h.at hi
  refine ⟨p, h1, fun A g => ?_⟩
  obtain ⟨q, h2, h3⟩ := (h.ge g).at hi
  rw [h1] at h2; cases h2; exact h3

end Go.Proofs.YtllkhaabcfnlpaaDoor


/-
  What DutyBars answers.
-/
namespace Go.Proofs.YtllkhaabcfnlpaaDoor
open Go Go.Ab

/-- The segments that no legal duty has, before one. -/
def freeB (D : Dy) (s : Nat) : Bool := (legalL D (known0 D)).any fun d => d.testBit s
def barR (D : Dy) (i : Nat) : List Nat := (List.range i).filter fun s => !freeB D s
theorem bar_same {D : Dy} (hV : Valid D) : bitsL (barM (segN D) (legalL D (known0 D))) = barR D (segN D) := by
  have h10 := segN_le hV
  refine rise_ext bitsFrom_rise ?_ fun x => ?_
  · exact List.Pairwise.filter _ List.pairwise_lt_range
  · rw [bitsFrom_mem, barM_bit]
    simp only [barR, List.mem_filter, List.mem_range, freeB, Bool.and_eq_true, decide_eq_true_eq]
    exact ⟨fun k => ⟨k.2.1, k.2.2⟩, fun k => ⟨by omega, k.1, k.2⟩⟩

end Go.Proofs.YtllkhaabcfnlpaaDoor


/-
  A best plan of a planned day.
-/
namespace Go.Proofs.YtllkhaabcfnlpaaDoor
open Go Go.Ab

/-- The pay of a set of segments. -/
def payN (D : Dy) (d : Nat) : Int := payOf D (known0 D) (piecesL D d)
theorem payN_bounds {D : Dy} (hV : Valid D) (d : Nat) : 0 ≤ payN D d ∧ payN D d ≤ 100000 := by
  have h1 := law_bounds hV
  have hK : ∀ b n, (0 ≤ (kAt (known0 D) b n).1 ∧ (kAt (known0 D) b n).1 ≤ 3000) ∧ (0 ≤ (kAt (known0 D) b n).2 ∧ (kAt (known0 D) b n).2 ≤ 3000) := fun b n => by
    have hb := (known0_ok hV).bound
    unfold kAt
    cases hx : (known0 D)[b]? with
    | none => simp
    | some x =>
      cases hy : x[n]? with
      | none => simp [hy]
      | some y =>
        have := hb x (List.mem_of_getElem? hx) y (List.mem_of_getElem? hy)
        simpa [hy] using this
  unfold payN payOf spreadOf
  have h2 := hK ((piecesL D d)[(piecesL D d).length - 1]?.getD fz).e ((piecesL D d)[(piecesL D d).length - 1]?.getD fz).t
  have h3 := hK ((piecesL D d)[0]?.getD fz).b ((piecesL D d)[0]?.getD fz).f
  omega
theorem LL_ok {D : Dy} (hV : Valid D) : SetsOk (legalL D (known0 D)) := fun d hd => by
  have h := (passL_mem.1 hd).1
  have := (pow_segN hV).2
  omega
theorem LL_len {D : Dy} (hV : Valid D) : (legalL D (known0 D)).length ≤ 1024 := Nat.le_trans passL_length (pow_segN hV).2

/-- The slices of the duties that begin with each segment. -/
structure Begs (A : Heap) (lo : Nat) (L : List Nat) (f : Nat → Option Value) : Prop where
  own : ∀ i, i < 10 → OwnSl A lo ((f (2 ^ i)).getD (.slice none 0 0)) ((L.filter fun d => low d == i).map bitsV)
  apart : ∀ i j n, i < 10 → j < 10 → i ≠ j → slName ((f (2 ^ i)).getD (.slice none 0 0)) = some n → slName ((f (2 ^ j)).getD (.slice none 0 0)) ≠ some n

section
variable {A B : Heap} {lo : Nat} {L : List Nat} {f : Nat → Option Value}
theorem Begs.keep (h : Begs A lo L f) (hn : A.next ≤ B.next) (hk : ∀ n, lo ≤ n → n < A.next → (∃ b cs c, A.get n = .cells b cs c) → B.get n = A.get n) : Begs B lo L f := by
  refine ⟨fun i hi => (h.own i hi).keep hn fun n hs => ?_, h.apart⟩
  have hnm := (h.own i hi).names hs
  refine hk n hnm.1 hnm.2 ?_
  rcases h.own i hi with ⟨e, _⟩ | ⟨m, cap, c, e, h1, h2, h3, _⟩
  · rw [e] at hs; cases hs
  · rw [e] at hs; cases hs
    exact ⟨_, _, _, h3⟩
theorem pow_inj {i j : Nat} (h : 2 ^ i = 2 ^ j) : i = j := (Nat.pow_right_inj (by omega : 1 < 2)).1 h
theorem Begs.push {d n : Nat} {u : Value} (h : Begs A lo L f) (_hd : low d < 10) (hu : OwnSl B lo u (((L.filter fun x => low x == low d).map bitsV) ++ [bitsV d])) (hun : slName u = some n) (hn : A.next ≤ n) (hnext : A.next ≤ B.next)
    (hk : ∀ m, lo ≤ m → m < A.next → slName ((f (2 ^ low d)).getD (.slice none 0 0)) ≠ some m → B.get m = A.get m) : Begs B lo (L ++ [d]) (putF f (2 ^ low d) u) := by
  have hsame : ∀ j, j = low d → (putF f (2 ^ low d) u (2 ^ j)).getD (.slice none 0 0) = u := fun j e => by subst e; simp [putF]
  have hother : ∀ j, j ≠ low d → (putF f (2 ^ low d) u (2 ^ j)).getD (.slice none 0 0) = (f (2 ^ j)).getD (.slice none 0 0) := fun j e => by
    have : ¬ 2 ^ j = 2 ^ low d := fun e2 => e (pow_inj e2)
    simp [putF, this]
  refine ⟨fun j hj => ?_, fun i j m hi hj hij hm => ?_⟩
  · rw [List.filter_append, List.map_append]
    by_cases e : j = low d
    · rw [hsame j e, e]
      simpa using hu
    · rw [hother j e]
      have e2 : ¬ low d = j := fun e3 => e e3.symm
      simp only [List.filter_cons, List.filter_nil, beq_iff_eq, e2, if_false, List.map_nil, List.append_nil]
      exact (h.own j hj).keep hnext fun m hs => hk m ((h.own j hj).names hs).1 ((h.own j hj).names hs).2 fun e3 => h.apart j (low d) m hj _hd e hs e3
  · by_cases e1 : i = low d
    · rw [hsame i e1, hun] at hm
      have e2 : j ≠ low d := fun e2 => hij (e1.trans e2.symm)
      rw [hother j e2]
      cases hm
      intro hs
      have := ((h.own j hj).names hs).2
      omega
    · rw [hother i e1] at hm
      by_cases e2 : j = low d
      · rw [hsame j e2, hun]
        intro hs
        cases hs
        have := ((h.own i hi).names hm).2
        omega
      · rw [hother j e2]; exact h.apart i j m hi hj hij hm

/-- A slice stays if the cells stay. -/
theorem _root_.Go.Ab.SlR.same {sz len : Nat} {v : Value} {cs : List Value} (h : SlR A sz v len cs) (hn : A.next ≤ B.next) (hk : ∀ n, n < A.next → (∃ b cs c, A.get n = .cells b cs c) → B.get n = A.get n) : SlR B sz v len cs := by
  refine ⟨?_, fun a n c e => Nat.lt_of_lt_of_le (h.2 a n c e) hn⟩
  rcases h.cases with ⟨rfl | rfl, rfl, rfl⟩ | ⟨n, o, cap, rw, ds, c, rfl, hg, hr⟩
  · rfl
  · rfl
  · simp only [slCells, hk n (h.2 _ _ _ rfl) ⟨_, _, _, hg⟩, hg, hr, Option.map_some]
end

theorem best_spec {D : Dy} {b w s k q : Value} {H : Heap} (hP : PlanAt H b w s k q D (known0 D)) (hV : Valid D) (hG : Gl H) :
    AFun Tryd.prog 80 [planV D b w s k q] H (fun r B => ∃ v, r = .tuple #[v, .int .i64 (choose (legalL D (known0 D)) (payN D) (2 ^ segN D - 1)).pay, .bool (choose (legalL D (known0 D)) (payN D) (2 ^ segN D - 1)).ok] ∧ RowsAt B v ((planOf (legalL D (known0 D)) (payN D) (2 ^ segN D - 1)).map rowOf) ∧ Ge H B) := by
  refine AFun.mk ok80 hm (Nat.le_of_ble_eq_true rfl) ?_
  have hb := hP.day.blocks.one
  have hw := hP.day.walk.one
  have hs := hP.segs.one
  have hk := hP.known.one
  have hq : one q = true := SlR.one hP.quest
  obtain ⟨hp1, hp2⟩ := pow_segN hV
  simp [a80, r80, hb, hw, hs, hk, hq]
  generalize hH1 : Heap.set _ (H.next + 4) _ = H1
  have g1 : Ge H H1 := by
    rw [← hH1]
    exact (((((Ge.new _ _).newOf _).newOf _).setNew (by simp) _).newOf _).newOf _ |>.setNew (by simp) _
  have n1 : H1.next = H.next + 5 := by rw [← hH1]; simp
  have k0 : H1.get H.next = .cells true (planCells D b w s k q) 13 := by rw [← hH1]; simp
  have k1 : H1.get (H.next + 1) = .map [] 0 := by rw [← hH1]; simp
  have k2 : H1.get (H.next + 2) = .cells true [.map (some (H.next + 1))] 1 := by rw [← hH1]; simp
  have k3 : H1.get (H.next + 3) = .map [] 0 := by rw [← hH1]; simp
  have k4 : H1.get (H.next + 4) = .cells true [.map (some (H.next + 3))] 1 := by rw [← hH1]; simp
  clear hH1
  refine fcall_fun (legalDuties_spec (hP.ge g1) hV (known0_ok hV)) ?_
  rintro v H2 ⟨o2, g2⟩
  have n2 := g2.next
  replace k0 := g2.got (by omega) k0
  replace k1 := g2.got (by omega) k1
  replace k2 := g2.got (by omega) k2
  replace k3 := g2.got (by omega) k3
  replace k4 := g2.got (by omega) k4
  have G2 := g1.trans g2
  have hsl := o2.slr
  simp only [List.length_map] at hsl
  have hLok := LL_ok hV
  have hLlen := LL_len hV
  have hLd : ∀ d ∈ legalL D (known0 D), d < 2 ^ segN D := fun d hd => (passL_mem.1 hd).1.2
  simp [hsl.lenV]
  generalize hLL : legalL D (known0 D) = L at *
  refine floop_intro (fun z => z.d = [] ∧ H2.next ≤ z.H.next ∧ (∀ n, n < H2.next → n ≠ H.next + 1 → n ≠ H.next + 3 → z.H.get n = H2.get n) ∧ z.t 1 = .pointer (some ⟨H.next, 0, none⟩) ∧ z.t 5 = .pointer (some ⟨H.next + 2, 0, none⟩) ∧ z.t 6 = .pointer (some ⟨H.next + 4, 0, none⟩) ∧ z.t 15 = v ∧ z.t 16 = .int .i64 (L.length : Int) ∧
    ∃ (i : Nat) (fp fb : Nat → Option Value), i ≤ L.length ∧ z.t 17 = .int .i64 (i : Int) ∧ MapFn z.H (H.next + 1) fp ∧ (∀ d ∈ L.take i, fp d = some (.int .i64 (payN D d))) ∧ MapFn z.H (H.next + 3) fb ∧ Begs z.H H2.next (L.take i) fb) (fun z => L.length - (intOf (z.t 17)).toNat) ?_ ?_
  · refine ⟨rfl, Nat.le_refl _, fun n _ _ _ => rfl, by simp, by simp, by simp, by simp, by simp, 0, fun _ => none, fun _ => none, by omega, by simp, MapFn.empty k1, fun d hd => by simp at hd, MapFn.empty k3, ⟨fun i _ => .inl ⟨rfl, rfl⟩, fun i j n _ _ _ h => by cases h⟩⟩
  rintro ⟨t, _, A⟩ ⟨rfl, hn, hkeep, t1, t5, t6, t15, t16, i, fp, fb, hi, t17, hmp, hfp, hmb, hbg⟩
  dsimp only at hn hkeep t1 t5 t6 t15 t16 t17 hmp hmb hbg
  have a0 := (hkeep H.next (by omega) (by omega) (by omega)).trans k0
  have a2 := (hkeep (H.next + 2) (by omega) (by omega) (by omega)).trans k2
  have a4 := (hkeep (H.next + 4) (by omega) (by omega) (by omega)).trans k4
  have hslA : SlR A 1 v L.length (L.map bitsV) := hsl.same hn fun n h1 ⟨_, _, _, h2⟩ => hkeep n h1 (fun e => by rw [e, k1] at h2; cases h2) (fun e => by rw [e, k3] at h2; cases h2)
  have gA : Ge H A := ⟨by omega, fun n h => (hkeep n (by have := G2.next; omega) (by omega) (by omega)).trans (G2.get n h)⟩
  simp [t16, t17]
  refine fcond_intro (fun hc => ?_) (fun hc => ?_)
  case refine_2 =>
    have : i = L.length := by simp at hc; omega
    subst this
    rw [List.take_length] at hfp hbg
    have zp : MapFn (A.new (.map [] 0)) A.next fun _ => none := MapFn.empty (by simp)
    obtain ⟨x, hx1, hx2⟩ := zp.put 0 (chV ⟨0, 0, 0, true⟩)
    have hx3 : mupH Tryd.prog 102 (A.new (.map [] 0)) (.int .u64 0) (.agg #[.int .u64 0, .int .i64 0, .int .i64 0, .bool true]) (.map (some A.next)) = some ((A.new (.map [] 0)).set A.next x) := hx1
    simp [hx3, t5, t6]
    have y0 : H.next ≠ A.next := by omega
    have y1 : H.next ≠ A.next + 1 := by omega
    have y2 : H.next ≠ A.next + 2 := by omega
    simp [t1, a0, y0, y1, y2]
    have gX : ∀ (c : AObj), Ge A (({ get := ((((((A.new (AObj.map [] 0)).set A.next x).new (AObj.cells true [Value.map none] 1)).set (A.next + 1) (AObj.cells true [Value.map (some A.next)] 1)).new (AObj.cells true [Value.nilFunc] 1)).set (A.next + 2) (AObj.cells true [Value.func (Fn.func 104) #[] #[.pointer (some ⟨A.next + 1, 0, none⟩), .pointer (some ⟨H.next + 4, 0, none⟩), .pointer (some ⟨A.next + 2, 0, none⟩), .pointer (some ⟨H.next + 2, 0, none⟩)]] 1)).get, next := A.next + 9 } : Heap).set (A.next + 7) c) := fun c => by
      refine Ge.setNew (Ge.grow_le (by omega) ?_) (by omega) _
      exact (((((Ge.new A _).setNew (Nat.le_refl _) _).newOf _).setNew (by omega) _).newOf _).setNew (by omega) _
    refine fcall_fun (all_spec (hP.ge (gA.trans (gX _))) hV) ?_
    rintro _ C ⟨rfl, gC⟩
    have nC := gC.next
    simp at nC
    have gAC := (gX _).trans gC
    have ck := gC.got (n := A.next) (by simp) rfl
    have c1 := gC.got (n := A.next + 1) (by simp) rfl
    have c3 := gC.got (n := A.next + 2) (by simp) rfl
    have c7 := gC.got (n := A.next + 7) (by simp) rfl
    simp at ck c1 c3 c7
    clear gX gC
    have c0 := gAC.got (n := H.next) (by omega) a0
    have c2 := gAC.got (n := H.next + 2) (by omega) a2
    have c4 := gAC.got (n := H.next + 4) (by omega) a4
    have gHC := gA.trans gAC
    have hK : KnownC C L (payN D) A.next (putF (fun _ => none) 0 (chV ⟨0, 0, 0, true⟩)) := by
      refine ⟨hx2 _ ck, by simp [putF], fun k v hv => ?_⟩
      unfold putF at hv
      by_cases e : k = 0
      · subst e
        rw [choose_zero]
        rw [if_pos rfl] at hv
        exact ⟨(Option.some.inj hv).symm, fun h => absurd rfl h⟩
      · rw [if_neg e] at hv; cases hv
    have hS : Sit C L (payN D) (A.next + 1) (H.next + 4) (A.next + 2) (H.next + 2) A.next (H.next + 3) (H.next + 1) := by
      refine ⟨c1, c4, c3, c2, by omega, by omega, ⟨fp, hmp.ge gAC (by omega), hfp⟩, ⟨fb, hmb.ge gAC (by omega), fun j hj => ?_⟩⟩
      have := ((hbg.own j hj).ge gAC).slr
      simpa using this
    have hpay : ∀ d ∈ L, 0 ≤ payN D d ∧ payN D d ≤ 100000 := fun d _ => payN_bounds hV d
    simp [t1, c0, c3]
    refine fcall_intro ((ACall.of_fun (R := fun r B => r = chV (choose L (payN D) (2 ^ segN D - 1)) ∧ GeX A.next C B ∧ ∃ f', KnownC B L (payN D) A.next f' ∧ (∀ k, (putF (fun _ => none) 0 (chV ⟨0, 0, 0, true⟩) k).isSome = true → (f' k).isSome = true) ∧ (f' (2 ^ segN D - 1)).isSome = true) (by simpa using chooseF_spec hLok hpay hLlen (2 ^ segN D - 1) (by omega) C _ hS hK)).mono ?_)
    rintro _ E ⟨rfl, gE, f2, hK2, _, hsome⟩
    have nE := gE.next
    have e0 := (gE.get H.next (by omega) (by omega)).trans c0
    have e1 := (gE.get (A.next + 1) (by omega) (by omega)).trans c1
    have e7 := (gE.get (A.next + 7) (by omega) (by omega)).trans c7
    have gHE : Ge H E := ⟨by have := gHC.next; omega, fun n hn => (gE.get n (by have := gHC.next; omega) (by omega)).trans (gHC.get n hn)⟩
    generalize hch : choose L (payN D) (2 ^ segN D - 1) = c at *
    have y7 : H.next ≠ A.next + 7 := by omega
    have y7k : A.next ≠ A.next + 7 := by omega
    simp [t1, e7, e0, e1, y7]
    have gX : Ge H ({ get := (E.set (A.next + 7) (.cells true (chC c) 4)).get, next := E.next + 11 } : Heap) := Ge.grow_le (by have := gHE.next; omega) (gHE.setNew (by omega) _)
    refine fcall_fun (all_spec (hP.ge gX) hV) ?_
    rintro _ F ⟨rfl, gF⟩
    have nF := gF.next
    simp at nF
    have f0 := gF.got (n := H.next) (by simp; omega) (by simp [y7]; exact e0)
    have f1 := gF.got (n := A.next + 1) (by simp; omega) (by simp; exact e1)
    have f7 := gF.got (n := A.next + 7) (by simp; omega) rfl
    simp at f7
    have hK3 : KnownC F L (payN D) A.next f2 := hK2.keep ((gF.get A.next (by simp; omega)).trans (by simp [y7k]))
    have gHF := gX.trans gF
    simp [t1, f0, f1, f7]
    refine fcall_fun (plan_spec hLok (by omega) hK3 (by omega) hsome (hG.ge gHF)) ?_
    rintro r R ⟨hr, gR⟩
    have r7 := gR.got (n := A.next + 7) (by omega) f7
    simp [f7, r7]
    exact ⟨hr, gHF.trans gR⟩
  have h1 : i < L.length := by simpa using hc
  obtain ⟨p, e1, e2⟩ := hslA.at1 (k := .i64) (i := i) (by simpa using h1)
  have e3 : (L.map bitsV)[i]? = some (bitsV L[i]) := by simp [h1]
  rw [e3] at e2
  have hdL := List.getElem_mem h1
  have hd0 := hLok _ hdL
  have hdn := hLd _ hdL
  have htk : L.take (i + 1) = L.take i ++ [L[i]] := List.take_succ_eq_append_getElem h1
  generalize L[i] = d at *
  simp [t1, t5, t15, t17, e1, e2, a0, a2]
  refine fcall_fun (pay_spec (hP.ge (gA.grow 6)) hV (known0_ok hV) hdn hd0.1) ?_
  rintro _ B ⟨rfl, gB⟩
  have nB := gB.next
  simp only at nB
  have hd10 : d < 1024 := hd0.2
  have b0 := gB.got (n := H.next) (by simp; omega) a0
  have b2 := gB.got (n := H.next + 2) (by simp; omega) a2
  have b4 := gB.got (n := H.next + 4) (by simp; omega) a4
  obtain ⟨x, hx1, hx2⟩ := (hmp.keep (B := B) (gB.get _ (by simp; omega))).put d (.int .i64 (payN D d))
  have hpd : payOf D (known0 D) (piecesL D d) = payN D d := rfl
  simp [t1, t5, b0, b2, hpd, hx1, t6, b4]
  refine fcall_fun (lowest_spec hd0.1 hd10 _) ?_
  rintro _ C ⟨rfl, hC⟩
  have nC : C.next = B.next + 11 := by rw [hC]; simp
  have hCg : ∀ n, n ≠ H.next + 1 → n ≠ B.next + 8 → C.get n = B.get n := fun n h1 h2 => by rw [hC]; simp [h1, h2]
  have c8 : C.get (B.next + 8) = .cells true [bitsV d] 1 := by rw [hC]; simp
  have c1 : C.get (H.next + 1) = x := by rw [hC]; simp; omega
  clear hC
  have c4 := (hCg (H.next + 4) (by omega) (by omega)).trans b4
  simp [t6, c4]
  refine fcall_fun (lowest_spec hd0.1 hd10 _) ?_
  rintro _ C' ⟨rfl, hC⟩
  subst hC
  obtain ⟨_, l10, _⟩ := low_facts hd0.1 hd10
  have cb : MapFn C' (H.next + 3) fb := hmb.keep ((hCg _ (by omega) (by omega)).trans (gB.get _ (by simp; omega)))
  have hl1 := cb.lk1 flat_nil (2 ^ low d)
  simp [t6, c4, hl1]
  have hkC : ∀ m, H2.next ≤ m → m < A.next → C'.get m = A.get m := fun m h1 h2 => (hCg m (by omega) (by omega)).trans (gB.get m (by show m < A.next + 6; omega))
  have ho := (hbg.own (low d) l10).keep (B := C') (by omega) fun m hm => hkC m ((hbg.own (low d) l10).names hm).1 ((hbg.own (low d) l10).names hm).2
  have hnm := fun m hm => (hbg.own (low d) l10).names (n := m) hm
  generalize hold : (fb (2 ^ low d)).getD (.slice none 0 0) = old at *
  have hfl : ((L.take i).filter fun x => low x == low d).length ≤ 1024 := Nat.le_trans (List.length_filter_le _ _) (by rw [List.length_take]; omega)
  refine fapp_own' (lo := H2.next) (x := bitsV d) ho (slCells_new (rw := true) (c := 1) c8) rfl (by simp; omega) (by omega) (by omega) (by omega) fun u E k5 k6 k7 k8 => ?_
  have hE : ∀ n, n < H2.next → E.get n = C'.get n := fun n hn => k8 n (by omega) fun e => by have := (hnm n e).1; omega
  have e4 := (hE (H.next + 4) (by omega)).trans c4
  have eb : MapFn E (H.next + 3) fb := cb.keep (hE _ (by omega))
  obtain ⟨y, hy1, hy2⟩ := eb.put (2 ^ low d) u
  simp [t6, e4, hy1, t17, add_in (x := i) (y := 1) (by omega) (by omega)]
  have kF : ∀ n, n ≠ H.next + 3 → (E.set (H.next + 3) y).get n = E.get n := fun n hn => by simp [hn]
  refine ⟨⟨by omega, fun n h1 h2 h3 => ?_, t1, t5, t15, t16, i + 1, by omega, by omega, putF fp d (.int .i64 (payN D d)), hx2 _ ?_, fun d' hd' => ?_, putF fb (2 ^ low d) u, hy2 _ (by simp), ?_⟩, by omega⟩
  · rw [if_neg h3, hE n h1, hCg n h2 (by omega), gB.get n (by show n < A.next + 6; omega)]
    exact hkeep n h1 h2 h3
  · rw [kF _ (by omega), hE _ (by omega)]; exact c1
  · unfold putF
    by_cases e : d' = d
    · rw [if_pos e, e]
    · rw [if_neg e]
      rw [htk] at hd'
      rcases List.mem_append.1 hd' with hd' | hd'
      · exact hfp d' hd'
      · exact absurd (by simpa using hd') e
  · rw [htk]
    refine hbg.push l10 (n := B.next + 9) ?_ k6 (by omega) (by simp; omega) fun m h1 h2 h3 => ?_
    · exact k5.keep (by simp) fun n hn => kF n (by have := (k5.names hn).1; omega)
    · rw [kF m (by omega), k8 m (by omega) (by rw [← hold]; exact h3)]
      exact hkC m h1 h2

/-- The best choice of a day; the answers of Best. -/
def bestC (D : Dy) : Ch := choose (legalL D (known0 D)) (payN D) (2 ^ segN D - 1)
def bestL (D : Dy) : List Nat := planOf (legalL D (known0 D)) (payN D) (2 ^ segN D - 1)
def bestE (D : Dy) : Int := if checkD D = 0 then (if (bestC D).ok then 0 else 9) else checkD D
def bestPay (D : Dy) : Int := if bestE D = 0 then (bestC D).pay else 0
def bestR (D : Dy) : List (List Int) := if bestE D = 0 then (bestL D).map rowOf else []

theorem rows_nil {H : Heap} : RowsAt H (.slice none 0 0) [] := ⟨[], ⟨rfl, fun _ _ _ h => by cases h⟩, by simp, fun i h => by simp at h⟩

theorem bestF_spec {D : Dy} {b w : Value} {H : Heap} (h : DayAt H b w D) (hT : D.Thin) (hG : Gl H) :
    AFun Tryd.prog 45 [dayV D b w] H (fun r B => ∃ v, r = .tuple #[v, .int .i64 (bestPay D), .int .i64 (bestE D)] ∧ RowsAt B v (bestR D) ∧ Ge H B) := by
  refine AFun.mk ok45 hm (Nat.le_of_ble_eq_true rfl) ?_
  have hb := h.blocks.one
  have hw := h.walk.one
  simp [a45, r45, hb, hw]
  refine fcall_fun (checkDay_spec (h.ge (by simp)) hT) ?_
  rintro _ H1 ⟨rfl, g1⟩
  have G1 : Ge H H1 := Ge.trans (by simp) g1
  have k1 := g1.got (n := H.next) (by simp) rfl
  have n1 := g1.next
  simp at k1 n1
  by_cases hc : checkD D = 0
  case neg =>
    have he : bestE D = checkD D := by simp [bestE, hc]
    have hp : bestPay D = 0 := by simp [bestPay, he, hc]
    have hr : bestR D = [] := by simp [bestR, he, hc]
    simp [hc, he, hp, hr]
    exact ⟨rows_nil, G1⟩
  have hV := valid_of hc
  simp [hc, k1]
  refine fcall_fun (newPlanned_spec (h.ge G1) hV) ?_
  rintro _ H2 ⟨s, k, q, rfl, hO, g2⟩
  have G2 := G1.trans g2
  have hP : PlanAt H2 b w s k q D (known0 D) := hO.at (h.ge G2)
  simp
  refine fcall_fun (best_spec hP hV (hG.ge G2)) ?_
  rintro _ H3 ⟨v, rfl, hv, g3⟩
  have G3 := G2.trans g3
  have hcc : choose (legalL D (known0 D)) (payN D) (2 ^ segN D - 1) = bestC D := rfl
  have hll : planOf (legalL D (known0 D)) (payN D) (2 ^ segN D - 1) = bestL D := rfl
  rw [hcc]
  rw [hll] at hv
  cases hok : (bestC D).ok
  · have he : bestE D = 9 := by simp [bestE, hc, hok]
    have hp : bestPay D = 0 := by simp [bestPay, he]
    have hr : bestR D = [] := by simp [bestR, he]
    simp [he, hp, hr]
    exact ⟨rows_nil, G3⟩
  · have he : bestE D = 0 := by simp [bestE, hc, hok]
    have hp : bestPay D = (bestC D).pay := by simp [bestPay, he]
    have hr : bestR D = (bestL D).map rowOf := by simp [bestR, he]
    simp [he, hp]
    rw [hr]
    exact ⟨hv, G3⟩

end Go.Proofs.YtllkhaabcfnlpaaDoor


/-
  Weights of sets, fair weights, and the bound by them.
-/
namespace Go.Proofs.YtllkhaabcfnlpaaDoor
open Go Go.Ab

section
variable {D : Dy} {b w s k q : Value} {H : Heap}
end

end Go.Proofs.YtllkhaabcfnlpaaDoor


/-
  Which plans are right; days that a statement may play.
-/
namespace Go.Proofs.YtllkhaabcfnlpaaDoor
open Go Go.Ab

def readyB (D : Dy) : Bool := thinB D && decide (checkD D = 0)
def lightB (D : Dy) : Bool := readyB D && decide (segN D ≤ 8)
theorem ready_spec {D : Dy} {b w : Value} {H : Heap} (h : DayAt H b w D) : AFun Tryd.prog 52 [dayV D b w] H (fun r B => r = .bool (readyB D) ∧ Ge H B) := by
  refine AFun.mk ok52 hm (Nat.le_of_ble_eq_true rfl) ?_
  have hb := h.blocks.one
  have hw := h.walk.one
  simp [a52, r52, hb, hw]
  refine fcall_fun (thin_spec (h.ge (by simp))) ?_
  rintro _ H1 ⟨rfl, g1⟩
  have G1 : Ge H H1 := Ge.trans (by simp) g1
  have k1 := g1.got (n := H.next) (by simp) rfl
  simp at k1
  unfold readyB
  cases hth : thinB D
  · simp
    exact G1
  simp [k1]
  refine fcall_fun (fault36_spec (h.ge G1) (thinB_thin hth)) ?_
  rintro _ H2 ⟨rfl, g2⟩
  simp
  exact G1.trans g2
theorem ready_facts {D : Dy} (h : readyB D = true) : D.Thin ∧ checkD D = 0 ∧ Valid D := by
  unfold readyB at h
  rw [Bool.and_eq_true, decide_eq_true_eq] at h
  exact ⟨thinB_thin h.1, h.2, valid_of h.2⟩
theorem light_spec {D : Dy} {b w : Value} {H : Heap} (h : DayAt H b w D) : AFun Tryd.prog 47 [dayV D b w] H (fun r B => r = .bool (lightB D) ∧ Ge H B) := by
  refine AFun.mk ok47 hm (Nat.le_of_ble_eq_true rfl) ?_
  have hb := h.blocks.one
  have hw := h.walk.one
  simp [a47, r47, hb, hw]
  refine fcall_fun (ready_spec (h.ge (by simp))) ?_
  rintro _ H1 ⟨rfl, g1⟩
  have G1 : Ge H H1 := Ge.trans (by simp) g1
  have k1 := g1.got (n := H.next) (by simp) rfl
  simp at k1
  unfold lightB
  cases hr : readyB D
  · simp
    exact G1
  obtain ⟨hT, _, _⟩ := ready_facts hr
  simp [k1]
  refine fcall_fun (segments_spec (h.ge G1) hT) ?_
  rintro _ H2 ⟨rfl, g2⟩
  have hseg : segsOf D.blocks = segN D := segPs_length.symm
  rw [hseg]
  simp
  refine ⟨?_, G1.trans g2⟩
  by_cases h8 : segN D ≤ 8
  · simp [h8]; omega
  · simp [h8]; omega

section
variable {I : Nat → Heap → Prop} {F : Heap → Prop} {H : Heap} {v pv : Value}
end

section
variable {D : Dy} {b w s k q : Value}
end

end Go.Proofs.YtllkhaabcfnlpaaDoor


/-
  What DutyBounds answers.
-/
namespace Go.Proofs.YtllkhaabcfnlpaaDoor
open Go Go.Ab

end Go.Proofs.YtllkhaabcfnlpaaDoor


/-
  The best plan is a right one, in order; no right one is better.
-/
namespace Go.Proofs.YtllkhaabcfnlpaaDoor
open Go Go.Ab

section
variable {D : Dy}
theorem mem_LL {d : Nat} (h0 : d ≠ 0) (hlt : d < 2 ^ segN D) (hl : legalN D (known0 D) d = true) : d ∈ legalL D (known0 D) := passL_mem.2 ⟨by omega, hl⟩

theorem full_lt (hV : Valid D) : 2 ^ segN D - 1 < 1024 := by have := pow_segN hV; omega

theorem best_part (hV : Valid D) (hok : (bestC D).ok = true) : Part (legalL D (known0 D)) (2 ^ segN D - 1) (bestL D) ∧ (bestL D).length = (bestC D).n ∧ sumP (payN D) (bestL D) = (bestC D).pay ∧ (bestL D).Pairwise (fun a b => low a < low b) := by
  obtain ⟨h1, h2, h3, h4, _⟩ := plan_part (pay := payN D) (LL_ok hV) _ (full_lt hV) hok
  exact ⟨h1, h2, h3, h4⟩
end

end Go.Proofs.YtllkhaabcfnlpaaDoor


/-
  What is legal with a segment is legal with that segment alone.
-/
namespace Go.Proofs.YtllkhaabcfnlpaaDoor
open Go Go.Ab

section
variable {α : Type}
theorem swapL_mem' {l : List α} {j : Nat} {x : α} (h : x ∈ l) : x ∈ swapL l j := by
  by_cases hj : j + 1 < l.length
  · rw [swapL_eq hj]
    obtain ⟨k, hk, rfl⟩ := List.mem_iff_getElem.1 h
    rw [List.mem_iff_getElem]
    by_cases e1 : k = j
    · subst e1
      refine ⟨k + 1, by simp; omega, ?_⟩
      have e2 : ¬ k = k + 1 := by omega
      simp [List.getElem_set, e2]
    · by_cases e2 : k = j + 1
      · subst e2
        exact ⟨j, by simp; omega, by simp [List.getElem_set]⟩
      · refine ⟨k, by simp; omega, ?_⟩
        have e3 : ¬ j = k := fun e => e1 e.symm
        have e4 : ¬ j + 1 = k := fun e => e2 e.symm
        simp [List.getElem_set, e3, e4]
  · have e : swapL l j = l := by
      unfold swapL
      have : l[j + 1]? = none := List.getElem?_eq_none (by omega)
      rw [this]
      split
      · rename_i h1; cases h1
      · rfl
    rw [e]; exact h
theorem sink_mem' (lt : α → α → Bool) : ∀ (j : Nat) (l : List α) {x : α}, x ∈ l → x ∈ sink lt l j
  | 0, _, _, h => h
  | j + 1, l, x, h => by
    unfold sink
    split
    · split
      · exact sink_mem' lt j _ (swapL_mem' h)
      · exact h
    · exact h
theorem insTo_mem' (lt : α → α → Bool) (l : List α) : ∀ i {x : α}, x ∈ l → x ∈ insTo lt l i
  | 0, _, h => h
  | i + 1, _, h => sink_mem' lt i _ (insTo_mem' lt l i h)
end

section
variable {D : Dy}
/-- The segments of a piece lie in it. -/
structure SegIn (D : Dy) (p : Pc) : Prop where
  same : p.e = p.b
  lt : p.f < p.t
  seg : ∀ q, p.s.testBit q = true → (spD D q).1 = p.b ∧ p.f ≤ (spD D q).2 ∧ (spD D q).2 + 1 ≤ p.t
theorem segP_in {x : Nat} : SegIn D (segP D x) := by
  refine ⟨rfl, by simp [segP], fun q hq => ?_⟩
  simp only [segP, Nat.testBit_two_pow, decide_eq_true_eq] at hq
  subst hq
  simp [segP]
theorem ext_in {fo : Pc} {x : Nat} (h : SegIn D fo) (hj : joins D fo x = true) : SegIn D (ext D fo x) := by
  unfold joins at hj
  rw [Bool.and_eq_true, decide_eq_true_eq, decide_eq_true_eq] at hj
  obtain ⟨h1, h2⟩ := hj
  obtain ⟨k1, k2, k3⟩ := h
  refine ⟨by simp only [ext]; rw [← h1, k1], by simp only [ext]; omega, fun q hq => ?_⟩
  simp only [ext, Nat.testBit_or, Bool.or_eq_true, Nat.testBit_two_pow, decide_eq_true_eq] at hq
  simp only [ext]
  rcases hq with hq | rfl
  · have := k3 q hq
    refine ⟨this.1, this.2.1, by omega⟩
  · refine ⟨by rw [← h1, k1], by omega, Nat.le_refl _⟩
theorem goL_in : ∀ (l : List Nat) (fo : Pc), fo ≠ fz → fo.s ≠ 0 → SegIn D fo → SegIn D (goL D l fo)
  | [], _, _, _, h => h
  | x :: l, fo, hz, hs, h => by
    rw [goL, if_neg hz]
    cases hj : joins D fo x
    · exact h
    · simp only [if_true]
      refine goL_in l _ ?_ (or_nz hs) (ext_in h hj)
      intro e
      have := congrArg Pc.s e
      exact or_nz (b := 2 ^ x) hs this
theorem segs_in : ∀ (k : Nat) (l : List Nat) (p : Pc), p ∈ segs k D l → SegIn D p
  | 0, _, _, h => by cases h
  | _ + 1, [], _, h => by cases h
  | k + 1, x :: l, p, h => by
    simp only [segs, List.mem_cons] at h
    rcases h with rfl | h
    · exact goL_in l _ nz_segP (by simp [segP]) segP_in
    · exact segs_in k _ p h
theorem piece_in {m : Nat} (hlt : m < 2 ^ segN D) {p : Pc} (hp : p ∈ piecesL D m) : SegIn D p := by
  have h := insTo_mem _ _ _ hp
  rw [runsK_segs 16 m hlt] at h
  exact segs_in _ _ _ h

theorem run_has : ∀ (k m q : Nat), m < 2 ^ segN D → bitsN (segN D) m ≤ k → m.testBit q = true → ∃ p, p ∈ runsK D k m ∧ p.s.testBit q = true
  | 0, m, q, hlt, hk, hq => by
    exfalso
    have hqn := bit_lt hlt hq
    have : q ∈ (List.range (segN D)).filter fun i => m.testBit i := List.mem_filter.2 ⟨by simpa using hqn, hq⟩
    unfold bitsN at hk
    have := List.length_pos_of_mem this
    omega
  | k + 1, m, q, hlt, hk, hq => by
    have h0 : m ≠ 0 := fun e => by rw [e, Nat.zero_testBit] at hq; cases hq
    have hp := first_ok (D := D) h0 hlt
    unfold runsK
    rw [if_neg h0]
    cases hb : (firstGo m (segPs D) 0 fz).s.testBit q
    · have hless := bitsN_diff hp hlt
      have hq2 : (diffN m (firstGo m (segPs D) 0 fz).s).testBit q = true := by rw [testBit_diff, hq, hb]; rfl
      obtain ⟨p, h1, h2⟩ := run_has k _ q (diff_lt hlt) (by omega) hq2
      exact ⟨p, List.mem_cons_of_mem _ h1, h2⟩
    · exact ⟨_, List.mem_cons_self .., hb⟩
theorem piece_has (hV : Valid D) {m q : Nat} (hlt : m < 2 ^ segN D) (hq : m.testBit q = true) : ∃ p, p ∈ piecesL D m ∧ p.s.testBit q = true := by
  have hk : bitsN (segN D) m ≤ 16 := by
    unfold bitsN
    have := List.length_filter_le (fun i => m.testBit i) (List.range (segN D))
    have := segN_le hV
    simp at *
    omega
  obtain ⟨p, h1, h2⟩ := run_has 16 m q hlt hk hq
  exact ⟨p, insTo_mem' _ _ _ h1, h2⟩

theorem piece_single (hV : Valid D) {s : Nat} (hs : s < segN D) : piecesL D (2 ^ s) = [segP D s] := by
  have hlt : 2 ^ s < 2 ^ segN D := Nat.pow_lt_pow_right (by omega) hs
  have hb : bitsFrom (segN D) (2 ^ s) 0 = [s] := by
    refine rise_ext bitsFrom_rise (by simp) fun x => ?_
    rw [bitsFrom_mem]
    simp only [Nat.testBit_two_pow, decide_eq_true_eq, List.mem_singleton]
    omega
  unfold piecesL
  rw [runsK_segs 16 _ hlt, hb]
  rfl

theorem blk_mono (hV : Valid D) {b j : Nat} (hs : D.has b (j + 1)) : (D.rel b j).lo ≤ (D.rel b (j + 1)).lo ∧ (D.rel b j).hi ≤ (D.rel b (j + 1)).hi := by
  obtain ⟨x, h1, h2⟩ := hs
  have hb := hV.blk x (List.mem_of_getElem? h1)
  unfold okBlk at hb
  rw [Bool.and_eq_true, List.all_eq_true] at hb
  have := hb.2 (j + 1) (by simpa using h2)
  have hj : j < x.length := by omega
  simp only [okAt, bef, Nat.add_sub_cancel, Bool.and_eq_true, decide_eq_true_eq] at this
  have e1 : D.rel b j = x[j] := by simp [Dy.rel, h1, hj]
  have e2 : D.rel b (j + 1) = x[j + 1] := by simp [Dy.rel, h1, h2]
  rw [e1, e2]
  simpa [hj, h2] using this.1
theorem has_le {b i j : Nat} (hs : D.has b j) (h : i ≤ j) : D.has b i := by
  obtain ⟨x, h1, h2⟩ := hs
  exact ⟨x, h1, by omega⟩
theorem blk_le (hV : Valid D) {b i : Nat} : ∀ {j : Nat}, D.has b j → i ≤ j → (D.rel b i).lo ≤ (D.rel b j).lo ∧ (D.rel b i).hi ≤ (D.rel b j).hi
  | 0, _, h => by
    have : i = 0 := by omega
    subst this; exact ⟨Int.le_refl _, Int.le_refl _⟩
  | j + 1, hs, h => by
    by_cases e : i = j + 1
    · subst e; exact ⟨Int.le_refl _, Int.le_refl _⟩
    · have := blk_le hV (has_le hs (by omega : j ≤ j + 1)) (by omega : i ≤ j)
      have := blk_mono hV hs
      omega

theorem kAt0 {b n : Nat} (hs : D.has b n) : kAt (known0 D) b n = ((D.rel b n).lo, (D.rel b n).hi) := by
  obtain ⟨x, h1, h2⟩ := hs
  have e1 : D.rel b n = x[n] := by simp [Dy.rel, h1, h2]
  rw [e1]
  simp [kAt, known0, h1, h2]
end

theorem mem_le_sum {l : List Int} (h : ∀ x ∈ l, 0 ≤ x) : 0 ≤ l.sum ∧ ∀ x ∈ l, x ≤ l.sum := by
  induction l with
  | nil => exact ⟨by simp, fun x hx => by cases hx⟩
  | cons y l ih =>
    obtain ⟨h1, h2⟩ := ih fun x hx => h x (List.mem_cons_of_mem _ hx)
    have hy := h y (List.mem_cons_self ..)
    rw [List.sum_cons]
    refine ⟨by omega, fun x hx => ?_⟩
    rcases List.mem_cons.1 hx with rfl | hx
    · omega
    · have := h2 x hx; omega

/-- What the law asks of pieces. -/
structure LegalP (D : Dy) (K : List (List (Int × Int))) (ps : List Pc) : Prop where
  count : (ps.length : Int) ≤ D.law.pieces
  piece : ∀ p ∈ ps, lastOf K p ≤ D.law.piece
  drive : (ps.map (lastOf K)).sum ≤ D.law.drive
  free : ∀ j, j + 1 < ps.length → D.law.brk ≤ freeOf D K (ps[j]?.getD fz) (ps[j + 1]?.getD fz)
  spread : spreadOf D K ps ≤ D.law.spread
theorem legalB_iff {D : Dy} (hV : Valid D) {K : List (List (Int × Int))} {ps : List Pc} : legalB D K ps = true ↔ LegalP D K ps := by
  have hl := law_bounds hV
  have hlT : lTo K ps ps.length = ps.map (lastOf K) := by unfold lTo; rw [List.take_length]
  unfold legalB answers
  rw [hlT]
  simp only [List.all_cons, List.all_nil, id, Bool.and_true, Bool.and_eq_true, decide_eq_true_eq, List.length_map]
  constructor
  · rintro ⟨h1, h2, h3, h4, h5⟩
    refine ⟨h1, fun p hp => ?_, h3, fun j hj => ?_, h5⟩
    · exact ((foldl_max (ps.map (lastOf K)) 0 D.law.piece).1 h2).2 _ (List.mem_map.2 ⟨p, hp, rfl⟩)
    · have := List.all_eq_true.1 h4 (freeOf D K (ps[j]?.getD fz) (ps[j + 1]?.getD fz)) (by unfold bTo; exact List.mem_map.2 ⟨j, by simp; omega, rfl⟩)
      simpa using this
  · rintro ⟨h1, h2, h3, h4, h5⟩
    refine ⟨h1, ?_, h3, ?_, h5⟩
    · refine (foldl_max (ps.map (lastOf K)) 0 D.law.piece).2 ⟨by omega, fun x hx => ?_⟩
      obtain ⟨p, hp, rfl⟩ := List.mem_map.1 hx
      exact h2 p hp
    · rw [List.all_eq_true]
      intro x hx
      unfold bTo at hx
      obtain ⟨j, hj, rfl⟩ := List.mem_map.1 hx
      rw [List.mem_range] at hj
      exact decide_eq_true (h4 j (by omega))

/-- A legal duty is legal in each of its segments. -/
theorem single_legal {D : Dy} (hV : Valid D) {m s : Nat} (hlt : m < 2 ^ segN D) (hs : m.testBit s = true) (hl : legalN D (known0 D) m = true) : legalN D (known0 D) (2 ^ s) = true := by
  have hsn := bit_lt hlt hs
  obtain ⟨p, hp, hps⟩ := piece_has hV hlt hs
  have hin := piece_in hlt hp
  have hok : ∀ x ∈ piecesL D m, PcOk D m x := fun x hx => piecesL_mem hlt hx
  have hlaw := law_bounds hV
  obtain ⟨l1, l2, l3, l4, l5⟩ := (legalB_iff hV).1 hl
  obtain ⟨s1, s2, s3⟩ := hin.seg s hps
  have hpo := hok p hp
  -- the piece's times
  have hlast : ∀ x ∈ piecesL D m, lastOf (known0 D) x = (D.rel x.b x.t).hi - (D.rel x.b x.f).lo ∧ (D.rel x.b x.f).lo ≤ (D.rel x.b x.t).hi := fun x hx => by
    have h := hok x hx
    unfold lastOf
    rw [h.same, kAt0 h.lst, kAt0 h.fst]
    have h1 := blk_le hV h.lst (Nat.le_of_lt h.lt)
    have h2 := rel_valid hV h.fst
    exact ⟨rfl, by omega⟩
  have hsum := (mem_le_sum (l := (piecesL D m).map (lastOf (known0 D))) (fun x hx => by
    obtain ⟨y, hy, rfl⟩ := List.mem_map.1 hx
    have := hlast y hy
    omega)).2 _ (List.mem_map.2 ⟨p, hp, rfl⟩)
  have hpp := l2 p hp
  obtain ⟨hp1, _⟩ := hlast p hp
  have t1 := has_le hpo.lst s3
  have t0 := has_le hpo.lst (by omega : (spD D s).2 ≤ p.t)
  have m1 := blk_le hV hpo.lst s3
  have m0 := blk_le hV t0 s2
  have hsl : lastOf (known0 D) (segP D s) = (D.rel p.b ((spD D s).2 + 1)).hi - (D.rel p.b (spD D s).2).lo := by
    unfold lastOf segP
    simp only
    rw [s1, kAt0 t1, kAt0 t0]
  -- the duty's ends
  have hchain : ∀ i, (hi : i < (piecesL D m).length) → ∀ k, k ≤ i → (D.rel ((piecesL D m)[k]?.getD fz).b ((piecesL D m)[k]?.getD fz).f).lo ≤ (D.rel ((piecesL D m)[i]?.getD fz).b ((piecesL D m)[i]?.getD fz).f).lo ∧ (D.rel ((piecesL D m)[k]?.getD fz).b ((piecesL D m)[k]?.getD fz).t).hi ≤ (D.rel ((piecesL D m)[i]?.getD fz).b ((piecesL D m)[i]?.getD fz).t).hi := by
    intro i
    induction i with
    | zero =>
      intro hi k hk
      have : k = 0 := by omega
      subst this; exact ⟨Int.le_refl _, Int.le_refl _⟩
    | succ i ih =>
      intro hi k hk
      by_cases e : k = i + 1
      · subst e; exact ⟨Int.le_refl _, Int.le_refl _⟩
      · obtain ⟨i1, i2⟩ := ih (by omega) k (by omega)
        have hf := l4 i hi
        have ha : (piecesL D m)[i]?.getD fz = (piecesL D m)[i] := by simp [(by omega : i < (piecesL D m).length)]
        have hb : (piecesL D m)[i + 1]?.getD fz = (piecesL D m)[i + 1] := by simp [hi]
        have oa := hok _ (List.getElem_mem (show i < (piecesL D m).length by omega))
        have ob := hok _ (List.getElem_mem hi)
        have ea := (hlast _ (List.getElem_mem (show i < (piecesL D m).length by omega))).2
        have eb := (hlast _ (List.getElem_mem hi)).2
        rw [ha] at i1 i2 hf
        rw [hb] at hf ⊢
        unfold freeOf restOf at hf
        rw [oa.same, kAt0 ob.fst, kAt0 oa.lst] at hf
        simp only at hf
        have hw : 0 ≤ D.walkOf (piecesL D m)[i].b (piecesL D m)[i].t (piecesL D m)[i + 1].b (piecesL D m)[i + 1].f := (walkOf_bound hV oa.lst ob.fst).1
        omega
  have hpos : 0 < (piecesL D m).length := List.length_pos_of_mem hp
  obtain ⟨j, hj, hjp⟩ := List.mem_iff_getElem.1 hp
  have hjd : (piecesL D m)[j]?.getD fz = p := by rw [← hjp]; simp [hj]
  have c1 := (hchain j hj 0 (by omega)).1
  have c2 := (hchain ((piecesL D m).length - 1) (by omega) j (by omega)).2
  rw [hjd] at c1 c2
  have o0 := hok _ (List.getElem_mem hpos)
  have on := hok _ (List.getElem_mem (show (piecesL D m).length - 1 < (piecesL D m).length by omega))
  have g0 : (piecesL D m)[0]?.getD fz = (piecesL D m)[0] := by simp [hpos]
  have gn : (piecesL D m)[(piecesL D m).length - 1]?.getD fz = (piecesL D m)[(piecesL D m).length - 1] := by simp [(by omega : (piecesL D m).length - 1 < (piecesL D m).length)]
  unfold spreadOf at l5
  rw [g0, gn, on.same, kAt0 on.lst, kAt0 o0.fst] at l5
  rw [g0] at c1
  rw [gn] at c2
  unfold legalN
  rw [piece_single hV hsn]
  refine (legalB_iff hV).2 ⟨by simp; omega, fun x hx => ?_, ?_, fun j hj => by simp at hj, ?_⟩
  · have : x = segP D s := by simpa using hx
    rw [this, hsl]
    omega
  · simp only [List.map_cons, List.map_nil, List.sum_cons, List.sum_nil, Int.add_zero]
    rw [hsl]
    omega
  · have e1 : spreadOf D (known0 D) [segP D s] = D.law.on + lastOf (known0 D) (segP D s) + D.law.off := by
      unfold spreadOf lastOf
      simp
    rw [e1, hsl]
    simp only at l5
    omega

end Go.Proofs.YtllkhaabcfnlpaaDoor


/-
  Duties by bits; which segments are barred.
-/
namespace Go.Proofs.YtllkhaabcfnlpaaDoor
open Go Go.Ab

theorem aval_eqT2 {t : Nat → Value} {H : Heap} {N x y : Nat} {a b : Bool} {d : Option Tmp} {ty U : TypeId} {pos : String} {af : Array Edge} {g : Option (Nat × Bool)} (hx : t x = .bool a) (hy : t y = .bool b) (h1 : x < N) (h2 : y < N) :
    aval Tryd.prog t H (.gen N ⟨d, .binOp .eql 4 (.tmp x) (.tmp y) U, ty, pos, af, g⟩) = some (.bool (a == b)) := by
  refine aval_gen ?_ rfl fun w => ?_
  · simp [Op.operands, flatO, hx, hy, h1, h2, flat, flat1]
  · have hg : Tryd.prog.eqGuardType Tryd.prog.depth 4 = false := by kernel_rfl
    simp only [execOp, evO, hx, hy, Sem.run_bind]
    have he := run_equalIn_bool' (P := Tryd.prog) w 9999 4 a b Tryd.underlying4
    simp [eqGuard, binOp, Op.equal, Op.maxDepth, he]
theorem aval_shr16 {P : Program} {t : Nat → Value} {H : Heap} {N x y : Nat} {d : Option Tmp} {T U ty : TypeId} {pos : String} {af : Array Edge} {g : Option (Nat × Bool)} {m s : Nat} (hx : t x = .int .u16 (m : Int)) (hy : t y = .int .u64 (s : Int)) (h1 : x < N) (h2 : y < N) (hs : s < 16) :
    aval P t H (.gen N ⟨d, .binOp .shr T (.tmp x) (.tmp y) U, ty, pos, af, g⟩) = some (.int .u16 ((m / 2 ^ s : Nat) : Int)) := by
  refine aval_gen ?_ rfl fun w => ?_
  · simp [Op.operands, flatO, hx, hy, h1, h2, flat, flat1]
  · have e2 : min s IntKind.u16.bits = s := by simp [IntKind.bits]; omega
    simp [execOp, evO, hx, hy, eqGuard, binOp, Op.shift, e2]
theorem rem16 {q : Nat} : binI BinOp.rem (.int .u16 (q : Int)) (.int .u16 2) = some (.int .u16 ((q % 2 : Nat) : Int)) := by
  have e : binI BinOp.rem (.int .u16 (q : Int)) (.int .u16 2) = some (.int .u16 ((q : Int).tmod 2)) := rfl
  have e2 : ((q : Int).tmod 2) = ((q % 2 : Nat) : Int) := (Int.ofNat_tmod q 2).symm
  rw [e, e2]

/-- A duty by bits; at least one segment. -/
def setB (n m : Nat) : List Int := if setR n m = [] then [0] else setR n m
theorem setB_duty {n m : Nat} (hn : 0 < n) : isDutyB n (setB n m) = true := by
  unfold setB
  split
  · have := rise_duty (n := n) (l := [0]) (by simp) (fun x hx => by simp at hx; omega) (by simp)
    simpa [bitsI] using this
  · rename_i h
    exact rise_duty bitsFrom_rise (fun x hx => (bitsFrom_mem.1 hx).1) fun e => h (by rw [setR, e]; rfl)
theorem setB_length {n m : Nat} (h : n ≤ 10) : (setB n m).length ≤ 10 := by
  unfold setB
  split
  · simp
  · have := setR_length (n := n) (m := m); omega
theorem setB_mem {n m : Nat} (hn : 0 < n) {x : Int} (hx : x ∈ setB n m) : ∃ s : Nat, x = (s : Int) ∧ s < n ∧ (maskL (setB n m)).testBit s = true := by
  have hs : ∃ s : Nat, x = (s : Int) ∧ s < n := by
    unfold setB at hx
    split at hx
    · exact ⟨0, by simpa using hx, hn⟩
    · obtain ⟨s, h1, h2, _⟩ := setR_mem.1 hx
      exact ⟨s, h1, h2⟩
  obtain ⟨s, rfl, h2⟩ := hs
  exact ⟨s, rfl, h2, by rw [maskL_bit, List.any_eq_true]; exact ⟨_, hx, by simp⟩⟩

theorem set_spec {D : Dy} {b w : Value} {H : Heap} {m : Nat} (h : DayAt H b w D) (hT : D.Thin) (hV : Valid D) :
    AFun Tryd.prog 49 [dayV D b w, .int .u16 (m : Int)] H (fun r B => OwnSl B H.next r ((setB (segN D) m).map (Value.int .i64)) ∧ Ge H B) := by
  refine AFun.mk ok49 hm (Nat.le_of_ble_eq_true rfl) ?_
  have hb := h.blocks.one
  have hw := h.walk.one
  have h10 := segN_le hV
  have hseg : segsOf D.blocks = segN D := segPs_length.symm
  simp [a49, r49, hb, hw]
  refine floop_intro (fun z => z.d = [] ∧ Ge H z.H ∧ H.next < z.H.next ∧ z.t 1 = .int .u16 (m : Int) ∧ z.t 2 = .pointer (some ⟨H.next, 0, none⟩) ∧ z.H.get H.next = .cells true (dayV D b w).cells.toList 10 ∧ ∃ j : Nat, j ≤ segN D ∧ z.t 6 = .int .i64 (j : Int) ∧ OwnSl z.H (H.next + 1) (z.t 5) ((setR j m).map (Value.int .i64))) (fun z => segN D - (intOf (z.t 6)).toNat) ?_ ?_
  · exact ⟨rfl, by simp, by simp, by simp, by simp, by simp [Value.cells], 0, by omega, by simp, .inl ⟨by simp, by simp [setR, bitsI, bitsFrom]⟩⟩
  rintro ⟨t, _, A⟩ ⟨rfl, g, hn, t1, t2, kd, j, hj, t6, o5⟩
  dsimp only at g hn t1 t2 kd t6 o5
  simp [Value.cells] at kd
  generalize t5 : t 5 = v5 at o5
  simp [t2, t6, kd]
  refine fcall_fun (segments_spec (h.ge g) hT) ?_
  rintro _ A1 ⟨rfl, g1⟩
  have n1 := g1.next
  have kd1 := g1.got hn kd
  have G1 := g.trans g1
  rw [hseg]
  simp [t6]
  have hlen := setR_length (n := j) (m := m)
  by_cases hjn : j < segN D
  case neg =>
    have : j = segN D := by omega
    subst this
    have hl := (o5.ge g1).lenV
    simp only [List.length_map] at hl
    simp [hjn, t5, hl]
    by_cases h0 : setR (segN D) m = []
    · have hsb : setB (segN D) m = [0] := by simp [setB, h0]
      rw [h0] at o5
      simp [h0, t5]
      refine fapp_own (lo := H.next + 1) (x := .int .i64 0) ((o5.ge g1).ge (Ge.new _ _)) (slCells_new (rw := true) (c := 1) (by simp)) rfl (by simp) (by omega) (by simp) (by omega) (by simp; omega) fun u3 C k3 k4 k5 k6 => ?_
      have h5n : ∀ m, slName v5 = some m → H.next + 1 ≤ m := fun m hm => (o5.names hm).1
      simp
      rw [hsb]
      refine ⟨OwnSl.lower (by simpa using k3) (by omega), by have := G1.next; omega, fun n hn => ?_⟩
      have f0 := G1.next
      have f3 : n ≠ A1.next := by omega
      rw [k6 n (by omega) (fun e => by have := h5n n e; omega)]; simp [f3, G1.get n hn]
    · have hsb : setB (segN D) m = setR (segN D) m := by simp [setB, h0]
      simp [h0, t5]
      rw [hsb]
      exact ⟨(o5.ge g1).lower (by omega), G1⟩
  have hw64 : IntKind.u64.wrap (j : Int) = (j : Int) := wrap_u64 (by omega)
  simp [hjn, t1, t6, hw64]
  have hstep := setR_step (m := m) (j := j)
  have hbit : m.testBit j = decide (m / 2 ^ j % 2 = 1) := Nat.testBit_eq_decide_div_mod_eq
  obtain ⟨q, hq⟩ : ∃ q, m / 2 ^ j = q := ⟨_, rfl⟩
  rw [hq] at hbit
  have hmod : q % 2 = 0 ∨ q % 2 = 1 := by omega
  rw [aval_shr16 (m := m) (s := j) (by simp) (by simp) (by decide) (by decide) (by omega), hq]
  simp [rem16]
  rcases hmod with h0 | h1
  · have hb0 : m.testBit j = false := by rw [hbit, h0]; rfl
    have hc0 : ¬ (q : Int) % 2 = 1 := by omega
    rw [hb0] at hstep
    simp only [Bool.false_eq_true, if_false] at hstep
    simp [hc0, t6, add_in (x := j) (y := 1) (by omega) (by omega)]
    exact ⟨⟨G1, by omega, t1, t2, by simpa [Value.cells] using kd1, j + 1, by omega, by omega, by rw [hstep, t5]; exact o5.ge g1⟩, by omega⟩
  · have hb1 : m.testBit j = true := by rw [hbit, h1]; rfl
    have hc1 : (q : Int) % 2 = 1 := by omega
    rw [hb1] at hstep
    simp only [if_true] at hstep
    simp [hc1, t5, t6]
    refine fapp_own (lo := H.next + 1) (x := .int .i64 (j : Int)) ((o5.ge g1).ge (Ge.new _ _)) (slCells_new (rw := true) (c := 1) (by simp)) rfl (by simp; omega) (by omega) (by simp) (by omega) (by simp; omega) fun u3 C k3 k4 k5 k6 => ?_
    have h5n : ∀ m, slName v5 = some m → H.next + 1 ≤ m := fun m hm => (o5.names hm).1
    have gC : Ge H C := ⟨by have := G1.next; omega, fun n hn => by
      have f0 := G1.next
      have f3 : n ≠ A1.next := by omega
      rw [k6 n (by omega) (fun e => by have := h5n n e; omega)]; simp [f3, G1.get n hn]⟩
    have kC : C.get H.next = A1.get H.next := (k6 H.next (by omega) (fun e => by have := h5n _ e; omega)).trans (by rw [Heap.new_get, if_neg (by omega)])
    simp [t6, add_in (x := j) (y := 1) (by omega) (by omega)]
    exact ⟨⟨gC, by omega, t1, t2, by simpa [Value.cells] using kC.trans kd1, j + 1, by omega, by omega, by rw [hstep, List.map_append]; exact k3⟩, by omega⟩

section
variable {D : Dy}
theorem free_iff (hV : Valid D) {s : Nat} (hs : s < segN D) : freeB D s = legalN D (known0 D) (2 ^ s) := by
  have hlt : 2 ^ s < 2 ^ segN D := Nat.pow_lt_pow_right (by omega) hs
  rw [Bool.eq_iff_iff]
  unfold freeB
  rw [List.any_eq_true]
  constructor
  · rintro ⟨d, hd, hb⟩
    have h := passL_mem.1 hd
    exact single_legal hV h.1.2 hb h.2
  · intro h
    exact ⟨2 ^ s, mem_LL (Nat.pos_iff_ne_zero.1 (Nat.two_pow_pos s)) hlt h, by simp⟩
theorem bar_zero : barM (segN D) (legalL D (known0 D)) = 0 ↔ ∀ s, s < segN D → freeB D s = true := by
  constructor
  · intro h s hs
    have := @barM_bit (segN D) s (legalL D (known0 D))
    rw [h, Nat.zero_testBit] at this
    simp only [hs, decide_true, Bool.true_and] at this
    unfold freeB
    cases hf : (legalL D (known0 D)).any fun d => d.testBit s
    · rw [hf] at this; cases this
    · rfl
  · intro h
    refine Nat.eq_of_testBit_eq fun i => ?_
    rw [barM_bit, Nat.zero_testBit]
    by_cases hi : i < segN D
    · have := h i hi
      unfold freeB at this
      rw [this]; simp
    · simp [hi]
theorem bar_best (hV : Valid D) : barM (segN D) (legalL D (known0 D)) = 0 ↔ (bestC D).ok = true := by
  rw [bar_zero]
  constructor
  · intro h
    have hpart : Part (legalL D (known0 D)) (2 ^ segN D - 1) ((List.range (segN D)).map fun s => 2 ^ s) := by
      refine ⟨fun d hd => ?_, ?_, fun i => ?_⟩
      · obtain ⟨s, hs, rfl⟩ := List.mem_map.1 hd
        rw [List.mem_range] at hs
        exact mem_LL (Nat.pos_iff_ne_zero.1 (Nat.two_pow_pos s)) (Nat.pow_lt_pow_right (by omega) hs) (by rw [← free_iff hV hs]; exact h s hs)
      · rw [List.pairwise_map]
        refine List.Pairwise.imp ?_ (List.pairwise_lt_range (n := segN D))
        intro a b hab
        refine and_zero_of fun i hi => ?_
        simp only [Nat.testBit_two_pow, decide_eq_true_eq, decide_eq_false_iff_not] at hi ⊢
        omega
      · rw [Nat.testBit_two_pow_sub_one, List.any_map, Bool.eq_iff_iff, List.any_eq_true, decide_eq_true_eq]
        constructor
        · intro hi
          exact ⟨i, by simpa using hi, by simp⟩
        · rintro ⟨s, hs, hb⟩
          simp only [Function.comp, Nat.testBit_two_pow, decide_eq_true_eq] at hb
          rw [List.mem_range] at hs
          omega
    exact (choose_least (pay := payN D) (LL_ok hV) _ (full_lt hV) _ hpart).1
  · intro hok s hs
    obtain ⟨h1, _⟩ := best_part hV hok
    have := h1.all s
    rw [Nat.testBit_two_pow_sub_one, decide_eq_true hs] at this
    obtain ⟨d, hd, hb⟩ := List.any_eq_true.1 this.symm
    unfold freeB
    rw [List.any_eq_true]
    exact ⟨d, h1.mem d hd, hb⟩
theorem barL_mem (hV : Valid D) (hc : checkD D = 0) {s : Nat} : s ∈ barL D ↔ s < segN D ∧ freeB D s = false := by
  unfold barL barE
  rw [if_pos hc]
  by_cases h0 : barM (segN D) (legalL D (known0 D)) = 0
  · have := bar_zero.1 h0
    simp only [h0, if_true]
    constructor
    · intro h; simp at h
    · rintro ⟨h1, h2⟩
      rw [this s h1] at h2; cases h2
  · rw [if_neg h0, if_pos rfl, bar_same hV]
    simp [barR]
theorem barL_rise (hV : Valid D) : (barL D).Pairwise (· < ·) := by
  unfold barL
  split
  · exact bitsFrom_rise
  · exact List.Pairwise.nil
theorem barL_length : (barL D).length ≤ 10 := by
  unfold barL
  split
  · have := List.length_filter_le (fun x => (barM (segN D) (legalL D (known0 D))).testBit x) (List.range' 0 10)
    simpa [bitsL, bitsFrom] using this
  · simp
end

end Go.Proofs.YtllkhaabcfnlpaaDoor


/-
  What DutyBarred answers.
-/
namespace Go.Proofs.YtllkhaabcfnlpaaDoor
open Go Go.Ab

theorem dutyBarred_of {D : Dy} {b w : Value} {H : Heap} {z : Int} (h : DayAt H b w D) (hz : 0 ≤ z ∧ z < 2 ^ 16) (hG : Gl H) (hwk : ∀ A, Ge H A → AFun Tryd.prog 16 [] A (fun r B => r = .bool true ∧ Ge A B)) :
    AFun Tryd.prog 11 [dayV D b w, .int .u16 z] H (fun r _ => r = .bool true) := by
  obtain ⟨m, rfl⟩ : ∃ m : Nat, z = (m : Int) := ⟨z.toNat, by omega⟩
  refine AFun.mk ok11 hm (Nat.le_of_ble_eq_true rfl) ?_
  have hb := h.blocks.one
  have hw := h.walk.one
  simp [a11, r11, hb, hw]
  refine fcall_fun (light_spec (h.ge (by simp))) ?_
  rintro _ H1 ⟨rfl, g1⟩
  have G1 : Ge H H1 := Ge.trans (by simp) g1
  have k1 := g1.got (n := H.next) (by simp) rfl
  have n1 := g1.next
  simp at k1 n1
  cases hli : lightB D
  · simp
    refine fcall_fun (hwk _ G1) ?_
    rintro _ _ ⟨rfl, _⟩
    simp
  have hli2 := hli
  unfold lightB at hli2
  rw [Bool.and_eq_true, decide_eq_true_eq] at hli2
  obtain ⟨hT, hc, hV⟩ := ready_facts hli2.1
  have hseg : segsOf D.blocks = segN D := segPs_length.symm
  have h10 := segN_le hV
  simp [k1]
  refine fcall_fun (day18_spec (h.ge G1) hT) ?_
  rintro _ H2 ⟨b2, w2, rfl, hd2, g2⟩
  have G2 := G1.trans g2
  have k2 := g2.got (n := H.next) (by omega) k1
  have n2 := g2.next
  simp
  refine fcall_fun (barredF_spec hd2 hT (hG.ge G2)) ?_
  rintro _ H3 ⟨vl, rfl, ol, g3⟩
  have G3 := G2.trans g3
  have k3 := g3.got (n := H.next) (by omega) k2
  have n3 := g3.next
  have hint : intL (barL D) = (bitsI (barL D)).map (Value.int .i64) := by simp [bitsI]
  have hlb := barL_length (D := D)
  have hlb2 : (bitsI (barL D)).length = (barL D).length := by simp [bitsI]
  rw [hint] at ol
  have il : IntsAt H3 vl (bitsI (barL D)) := own_ints ol (by omega)
  have il1 := IntsAt.one il
  have illen := IntsAt.lenV il
  simp [k3, il1]
  refine fcall_fun (day18_spec (h.ge G3) hT) ?_
  rintro _ H4 ⟨b4, w4, rfl, hd4, g4⟩
  have G4 := G3.trans g4
  have k4 := g4.got (n := H.next) (by omega) k3
  have n4 := g4.next
  simp
  refine fcall_fun (bestF_spec hd4 hT (hG.ge G4)) ?_
  rintro _ H5 ⟨vp, rfl, hp, g5⟩
  have G5 := G4.trans g5
  have k5 := g5.got (n := H.next) (by omega) k4
  have n5 := g5.next
  have hp1 := hp.one
  have il5 : IntsAt H5 vl (bitsI (barL D)) := IntsAt.ge il (g4.trans g5)
  have hbb := bar_best hV
  simp [hp1]
  -- the errors agree
  have hE : (barE D = 7 ∧ bestE D = 0) ∨ (barE D = 0 ∧ ¬ bestE D = 0 ∧ 0 < (barL D).length) := by
    by_cases h0 : barM (segN D) (legalL D (known0 D)) = 0
    · left
      have hok := hbb.1 h0
      exact ⟨by simp [barE, hc, h0], by simp [bestE, hc, hok]⟩
    · right
      have hno : (bestC D).ok = false := by
        cases hok : (bestC D).ok
        · rfl
        · exact absurd (hbb.2 hok) h0
      have he : barE D = 0 := by simp [barE, hc, h0]
      refine ⟨he, by simp [bestE, hc, hno], ?_⟩
      have hlt : barM (segN D) (legalL D (known0 D)) < 1024 := Nat.lt_of_lt_of_le (bar_lt (n := segN D) (by have := pow_segN hV; omega)) (pow_segN hV).2
      obtain ⟨_, _, f3, _⟩ := low_facts h0 hlt
      have : barL D = bitsL (barM (segN D) (legalL D (known0 D))) := by simp [barL, he]
      rw [this, f3]; simp

  rw [aval_neTr (a := decide (barE D = 7)) (b := decide (bestE D = 0)) (by simp) (by simp) (by decide) (by decide)]

  have hcase : ∀ s, s < segN D → (freeB D s = !decide ((s : Int) ∈ bitsI (barL D))) := fun s hs => by
    have : ((s : Int) ∈ bitsI (barL D)) ↔ s ∈ barL D := by
      unfold bitsI
      rw [List.mem_map]
      exact ⟨fun ⟨x, hx, e⟩ => by have : x = s := by omega
                                  rw [← this]; exact hx, fun hx => ⟨s, hx, rfl⟩⟩
    cases hf : freeB D s
    · symm
      simp only [Bool.not_eq_false', decide_eq_true_eq]
      exact this.2 ((barL_mem hV hc).2 ⟨hs, hf⟩)
    · symm
      simp only [Bool.not_eq_true', decide_eq_false_iff_not]
      intro hm
      have := ((barL_mem hV hc).1 (this.1 hm)).2
      rw [hf] at this; cases this
  have hxl : (0 < (barL D).length) → ¬ bitsI (barL D) = [] := fun hh e => by rw [e] at hlb2; simp at hlb2; omega
  have hrise := barL_rise hV
  rcases hE with ⟨e1, e2⟩ | ⟨e1, e2, e3⟩
  case' inl => simp [e1, e2]
  case' inr => simp [e1, e2, illen, hxl e3]
  all_goals
    clear e1 e2
    refine floop_intro (fun z => z.d = [] ∧ Ge H5 z.H ∧ z.t 1 = .int .u16 (m : Int) ∧ z.t 2 = .pointer (some ⟨H.next, 0, none⟩) ∧ z.t 5 = vl ∧ ∃ s : Nat, s ≤ segN D ∧ z.t 10 = .int .i64 (s : Int)) (fun z => segN D - (intOf (z.t 10)).toNat) ?_ ?_
    · exact ⟨rfl, by simp, by simp, by simp, by simp, 0, by omega, by simp⟩
    rintro ⟨t, _, A⟩ ⟨rfl, g, t1, t2, t5, s, hs, t10⟩
    dsimp only at g t1 t2 t5 t10
    have kA := g.got (n := H.next) (by omega) k5
    have nA := g.next
    simp [t2, t10, kA]
    refine fcall_fun (segments_spec (h.ge (G5.trans g)) hT) ?_
    rintro _ A1 ⟨rfl, gA1⟩
    have GA1 := g.trans gA1
    have kA1 := GA1.got (n := H.next) (by omega) k5
    rw [hseg]
    simp [t10]
    by_cases hsn : s < segN D
    case pos =>
      simp [hsn, t2, t10, kA1]
      refine fcall_fun (day18_spec (h.ge (G5.trans GA1)) hT) ?_
      rintro _ A2 ⟨bA, wA, rfl, hdA, gA2⟩
      have GA2 := GA1.trans gA2
      simp [t10]
      have hi1 : IntsAt (A2.new (.cells true [.int .i64 (s : Int)] 1)) (.slice (some ⟨A2.next, 0, none⟩) 1 1) [(s : Int)] := by
        refine ⟨⟨by simp [slCells, rdL], fun a n c e => ?_⟩, by simp⟩
        simp at e; rw [← e.1]; simp
      refine fcall_fun (legal_spec (hdA.ge (Ge.new _ _)) hT hi1 (by simp)) ?_
      rintro _ A3 ⟨rfl, gA3⟩
      have GA3 := GA2.trans ((Ge.new _ _).trans gA3)
      have hd1 : isDutyB (segN D) [(s : Int)] = true := by
        have := rise_duty (n := segN D) (l := [s]) (by simp) (fun x hx => by simp at hx; omega) (by simp)
        simpa [bitsI] using this
      have he1 : errD D [(s : Int)] = 0 := by simp [errD, hc, hseg, hd1]
      have hm1 : maskL [(s : Int)] = 2 ^ s := by simp [maskL]
      have hl1 : legalD D [(s : Int)] = freeB D s := by
        rw [free_iff hV hsn]
        unfold legalD legalN
        rw [hm1]
      have hh := hcase s hsn
      rw [he1, hl1]
      simp [t5, t10]
      refine fcall_fun (has40_spec (IntsAt.ge il5 GA3)) ?_
      rintro _ B ⟨rfl, hB⟩
      subst hB
      simp
      rw [aval_eqT2 (a := freeB D s) (b := decide ((s : Int) ∈ bitsI (barL D))) (by simp) (by simp) (by decide) (by decide)]
      have hne : (freeB D s == decide ((s : Int) ∈ bitsI (barL D))) = false := by
        rw [hh]; cases decide ((s : Int) ∈ bitsI (barL D)) <;> rfl
      rw [hne]
      simp [t10, add_in (x := s) (y := 1) (by omega) (by omega)]
      exact ⟨⟨GA3, t1, t2, t5, s + 1, by omega, by omega⟩, by omega⟩
    simp [hsn]
    refine floop_intro (fun z => z.d = [] ∧ Ge A1 z.H ∧ z.t 1 = .int .u16 (m : Int) ∧ z.t 2 = .pointer (some ⟨H.next, 0, none⟩) ∧ z.t 5 = vl ∧ ∃ i : Nat, 1 ≤ i ∧ i ≤ 11 ∧ z.t 13 = .int .i64 (i : Int)) (fun z => 11 - (intOf (z.t 13)).toNat) ?_ ?_
    · exact ⟨rfl, by simp, by simp [t1], by simp [t2], by simp [t5], 1, by omega, by omega, by simp⟩
    clear t1 t2 t5 t10
    rintro ⟨t, _, B⟩ ⟨rfl, gB, t1, t2, t5, i, hi1, hi, t13⟩
    dsimp only at gB t1 t2 t5 t13
    have GB := GA1.trans gB
    have ilB := IntsAt.ge il5 GB
    simp [t5, t13, IntsAt.lenV ilB, hlb2]
    by_cases hil : i < (barL D).length
    case pos =>
      have g10 : Ge B (⟨B.get, B.next + 10⟩ : Heap) := Ge.grow_le (by omega) (Ge.refl _)
      obtain ⟨p, f1, f2⟩ := (IntsAt.ge ilB g10).at (i := i) (by omega)
      obtain ⟨p', f3, f4⟩ := (IntsAt.ge ilB g10).at (i := i - 1) (by omega)
      have hcast : ((i - 1 : Nat) : Int) = (i : Int) - 1 := by omega
      rw [hcast] at f3
      have v1 : (bitsI (barL D))[i]'(by omega) = ((barL D)[i] : Int) := by simp [bitsI]
      have v2 : (bitsI (barL D))[i - 1]'(by omega) = ((barL D)[i - 1] : Int) := by simp [bitsI]
      have hlt := List.pairwise_iff_getElem.1 hrise (i - 1) i (by omega) hil (by omega)
      rw [v1] at f2
      rw [v2] at f4
      have hle : ¬ (((barL D)[i] : Nat) : Int) ≤ (((barL D)[i - 1] : Nat) : Int) := by omega
      simp [hil, t5, t13, f1, f2, sub_in (x := (i : Int)) (y := 1) (by omega) (by omega), f3, f4, hle]
      simp [t13, add_in (x := i) (y := 1) (by omega) (by omega)]
      exact ⟨⟨gB.trans g10, t1, t2, t5, i + 1, by omega, by omega, by omega⟩, by omega⟩
    have kB := GB.got (n := H.next) (by omega) k5
    have nB := GB.next
    simp [hil, t2, kB]
    refine fcall_fun (segments_spec (h.ge (G5.trans GB)) hT) ?_
    rintro _ C1 ⟨rfl, gC1⟩
    have GC1 := GB.trans gC1
    have kC1 := GC1.got (n := H.next) (by omega) k5
    rw [hseg]
    by_cases h0 : segN D = 0
    · simp [h0]
      refine fcall_fun (hwk _ (G5.trans GC1)) ?_
      rintro _ _ ⟨rfl, _⟩
      simp
    have hpos : 0 < segN D := by omega
    have hn0 : ¬ ((segN D : Nat) : Int) = 0 := by omega
    simp [h0, t1, t2, kC1]
    refine fcall_fun (set_spec (h.ge (G5.trans GC1)) hT hV) ?_
    rintro vs C2 ⟨os, gC2⟩
    have GC2 := GC1.trans gC2
    have kC2 := GC2.got (n := H.next) (by omega) k5
    have hsl := setB_length (n := segN D) (m := m) h10
    have is2 : IntsAt C2 vs (setB (segN D) m) := own_ints os (by omega)
    have is1 := IntsAt.one is2
    simp [t2, kC2]
    refine fcall_fun (day18_spec (h.ge (G5.trans GC2)) hT) ?_
    rintro _ C3 ⟨bC, wC, rfl, hdC, gC3⟩
    have GC3 := GC2.trans gC3
    simp
    refine fcall_fun (list_spec (IntsAt.ge is2 gC3) (by omega)) ?_
    rintro v4 C4 ⟨o4, gC4⟩
    have GC4 := GC3.trans gC4
    simp
    refine fcall_fun (legal_spec (hdC.ge gC4) hT (own_ints o4 (by omega)) (by omega)) ?_
    rintro _ C5 ⟨rfl, gC5⟩
    have GC5 := GC4.trans gC5
    have hdm := setB_duty (n := segN D) (m := m) hpos
    have hem : errD D (setB (segN D) m) = 0 := by simp [errD, hc, hseg, hdm]
    have is5 : IntsAt C5 vs (setB (segN D) m) := IntsAt.ge is2 (gC3.trans (gC4.trans gC5))
    have il6 := IntsAt.ge il5 GC5
    obtain ⟨hlt, hm0⟩ := duty_mask (D := D) (xs := setB (segN D) m) (by rw [hseg]; exact hdm)
    have hfree : ∀ x ∈ setB (segN D) m, legalD D (setB (segN D) m) = true → x ∉ bitsI (barL D) := fun x hx hl hmem => by
      obtain ⟨s, rfl, hsn, hbit⟩ := setB_mem hpos hx
      have := hcase s hsn
      rw [decide_eq_true hmem] at this
      have hlegal : legalN D (known0 D) (maskL (setB (segN D) m)) = true := hl
      rw [free_iff hV hsn, single_legal hV hlt hbit hlegal] at this
      cases this
    rw [hem]
    simp
    generalize hX : setB (segN D) m = X at *
    refine floop_intro (fun z => z.d = [] ∧ z.H = C5 ∧ z.t 5 = vl ∧ z.t 14 = vs ∧ z.t 15 = .bool (legalD D X) ∧ z.t 16 = .int .i64 0 ∧ ∃ j : Nat, j ≤ X.length ∧ z.t 17 = .int .i64 (j : Int)) (fun z => X.length - (intOf (z.t 17)).toNat) ?_ ?_
    · exact ⟨rfl, by simp, by simp [t5], by simp, by simp, by simp, 0, by omega, by simp⟩
    clear t1 t2 t5 t13
    rintro ⟨t, _, E⟩ ⟨rfl, hE, t5, t14, t15, t16, j, hj, t17⟩
    dsimp only at hE t5 t14 t15 t16 t17
    subst hE
    simp [t14, t17, IntsAt.lenV is5]
    by_cases hjn : j < X.length
    case pos =>
      obtain ⟨p, f1, f2⟩ := is5.at hjn
      have hx := List.getElem_mem hjn
      cases hl : legalD D X
      · rw [hl] at t15
        simp [hjn, t15, t17, add_in (x := j) (y := 1) (by omega) (by omega)]
        exact ⟨⟨t5, t14, t16, j + 1, by omega, by omega⟩, by omega⟩
      · rw [hl] at t15
        simp [hjn, t5, t14, t15, t17, f1, f2]
        refine fcall_fun (has40_spec il6) ?_
        rintro _ F ⟨rfl, hF⟩
        subst hF
        simp [t15, hfree _ hx hl, t17, add_in (x := j) (y := 1) (by omega) (by omega)]
        exact ⟨⟨t5, t14, t16, j + 1, by omega, by omega⟩, by omega⟩
    simp [hjn, t16]
    refine fcall_fun (hwk _ (G5.trans GC5)) ?_
    rintro _ _ ⟨rfl, _⟩
    simp

end Go.Proofs.YtllkhaabcfnlpaaDoor


/-
  The tables of math/bits, and a world for the witness, as the laws of package duty need them.
-/
namespace Go.Proofs.YtllkhaabcfnlpaaDoor
open Go Go.Ab Go.ChangeShapes Go.WideShapes Go.ChangeAt Go.RowKit

theorem ownT : ownKnob Tryd.prog.godebug = none := by kernel_rfl
theorem gTab0 : Tryd.prog.globalNamed "math/bits.deBruijn32tab" = some 0 := by kernel_rfl
theorem gTab1 : Tryd.prog.globalNamed "math/bits.deBruijn64tab" = some 1 := by kernel_rfl
theorem gType0 : (Tryd.prog.globals[0]?).map (·.type) = some 180 := by kernel_rfl
theorem gType1 : (Tryd.prog.globals[1]?).map (·.type) = some 181 := by kernel_rfl
theorem cellsT180 : Tryd.prog.cellsOf 180 = 32 := by kernel_rfl
theorem cellsT181 : Tryd.prog.cellsOf 181 = 64 := by kernel_rfl
theorem cellsT5 : Tryd.prog.cellsOf 5 = 1 := by kernel_rfl

theorem laidT : laidOutB Tryd.prog = true := by kernel_rfl
theorem readT {l : List Nat} (h : l.all (fun t => Tryd.prog.readableRec t && decide (t < Tryd.prog.types.size)) = true) : ∀ t ∈ l, Tryd.prog.readableRec t = true ∧ t < Tryd.prog.types.size := by
  intro t ht
  have := List.all_eq_true.1 h t ht
  simpa using this

/-- What the row's list gives. -/
abbrev tabsL {H : Type} : List (String × DataW H) := [("math/bits.deBruijn32tab", Rows.laid_math_bits_deBruijn32tab), ("math/bits.deBruijn64tab", Rows.laid_math_bits_deBruijn64tab)]
theorem tables {W : World} (h : laidMetH Tryd.prog tabsL W) : gmax ≤ W.heap.size ∧ ∀ g, g < gmax → ∃ cs c, [gl0, gl1][g]? = some (some (false, cs, c)) ∧ cs.all flat1 = true ∧ (absH W.heap).get g = .cells false cs c := by
  have t0 := abs_tab (Lib.tabIs_of_head (k := .u8) (zs := [0, 1, 28, 2, 29, 14, 24, 3, 30, 22, 20, 15, 25, 17, 4, 8, 31, 27, 13, 23, 21, 19, 16, 7, 26, 12, 18, 6, 11, 5, 10, 9]) gTab0 gType0 Tryd.underlying180 Tryd.underlying5 cellsT5 cellsT180 h) gTab0
  have t1 := abs_tab (Lib.tabIs_of_head (k := .u8) (zs := [0, 1, 56, 2, 57, 49, 28, 3, 61, 58, 42, 50, 38, 29, 17, 4, 62, 47, 59, 36, 45, 43, 51, 22, 53, 39, 33, 30, 24, 18, 12, 5, 63, 55, 48, 27, 60, 41, 37, 16, 46, 35, 44, 21, 52, 32, 23, 11, 54, 26, 40, 15, 34, 20, 31, 10, 25, 14, 19, 9, 13, 8, 7, 6]) (rest := []) gTab1 gType1 Tryd.underlying181 Tryd.underlying5 cellsT5 cellsT181 (laidMet.tail h)) gTab1
  refine ⟨t1.1, fun g hg => ?_⟩
  match g, hg with
  | 0, _ => exact ⟨_, _, rfl, rfl, t0.2⟩
  | 1, _ => exact ⟨_, _, rfl, rfl, t1.2⟩

/-- A world for the witness: the settled one with the arguments' memory, the tables holding what their initialisers lay. -/
noncomputable def laidCells (l : Array Value) : Obj → Obj
  | .cells _ t frozen => .cells l t frozen
  | o => o
noncomputable def laidWorld (os : Os) (args : Array Value) : World :=
  { World.holding Tryd.prog os ⟨#[], args, []⟩ with heap := ((World.holding Tryd.prog os ⟨#[], args, []⟩).heap.modify 0 (laidCells #[.int .u8 0, .int .u8 1, .int .u8 28, .int .u8 2, .int .u8 29, .int .u8 14, .int .u8 24, .int .u8 3, .int .u8 30, .int .u8 22, .int .u8 20, .int .u8 15, .int .u8 25, .int .u8 17, .int .u8 4, .int .u8 8, .int .u8 31, .int .u8 27, .int .u8 13, .int .u8 23, .int .u8 21, .int .u8 19, .int .u8 16, .int .u8 7, .int .u8 26, .int .u8 12, .int .u8 18, .int .u8 6, .int .u8 11, .int .u8 5, .int .u8 10, .int .u8 9])).modify 1 (laidCells #[.int .u8 0, .int .u8 1, .int .u8 56, .int .u8 2, .int .u8 57, .int .u8 49, .int .u8 28, .int .u8 3, .int .u8 61, .int .u8 58, .int .u8 42, .int .u8 50, .int .u8 38, .int .u8 29, .int .u8 17, .int .u8 4, .int .u8 62, .int .u8 47, .int .u8 59, .int .u8 36, .int .u8 45, .int .u8 43, .int .u8 51, .int .u8 22, .int .u8 53, .int .u8 39, .int .u8 33, .int .u8 30, .int .u8 24, .int .u8 18, .int .u8 12, .int .u8 5, .int .u8 63, .int .u8 55, .int .u8 48, .int .u8 27, .int .u8 60, .int .u8 41, .int .u8 37, .int .u8 16, .int .u8 46, .int .u8 35, .int .u8 44, .int .u8 21, .int .u8 52, .int .u8 32, .int .u8 23, .int .u8 11, .int .u8 54, .int .u8 26, .int .u8 40, .int .u8 15, .int .u8 34, .int .u8 20, .int .u8 31, .int .u8 10, .int .u8 25, .int .u8 14, .int .u8 19, .int .u8 9, .int .u8 13, .int .u8 8, .int .u8 7, .int .u8 6]) }

end Go.Proofs.YtllkhaabcfnlpaaDoor


/-
  The arguments of the laws of package duty, as the calculus has them: days, lists, rows, words, numbers.
-/
namespace Go.Proofs.YtllkhaabcfnlpaaDoor
open Go Go.Ab Go.RowKit Go.ChangeShapes Go.WideShapes

theorem cells3 : Tryd.prog.cellsOf 3 = 1 := by kernel_rfl
theorem cells28 : Tryd.prog.cellsOf 28 = 1 := by kernel_rfl
theorem cells80 : Tryd.prog.cellsOf 80 = 1 := by kernel_rfl
theorem cells24 : Tryd.prog.cellsOf 24 = 1 := by kernel_rfl
theorem cells25 : Tryd.prog.cellsOf 25 = 1 := by kernel_rfl
theorem cells82 : Tryd.prog.cellsOf 82 = 2 := by kernel_rfl
theorem cells84 : Tryd.prog.cellsOf 84 = 3 := by kernel_rfl
theorem cells23 : Tryd.prog.cellsOf 23 = 8 := by kernel_rfl
theorem cells27 : Tryd.prog.cellsOf 27 = 10 := by kernel_rfl
theorem abs_size (hp : Array Obj) : hp.size ≤ (absH hp).next := Nat.le_succ_of_le (Nat.le_mul_of_pos_right _ (Nat.succ_pos _))

theorem list3 {l : List Value} (h : l.length = 3) : ∃ a b c, l = [a, b, c] := by
  match l, h with
  | [a, b, c], _ => exact ⟨a, b, c, rfl⟩
theorem list10 {l : List Value} (h : l.length = 10) : ∃ a b c d e f g i j k, l = [a, b, c, d, e, f, g, i, j, k] := by
  match l, h with
  | [a, b, c, d, e, f, g, i, j, k], _ => exact ⟨a, b, c, d, e, f, g, i, j, k, rfl⟩

section
variable {H : Type} {enc : TypeId × Value → H} {w : World} {fuel : Nat} {v : Value} {x : DataW H × List MemPlace}

theorem maxLen_lt {n : Nat} (h : n ≤ maxLen) : n < 2 ^ 63 := by
  have : maxLen = 9223372036854775807 := rfl
  omega

theorem read_list (h : DataW.trod enc Tryd.prog w 0 (fun _ => true) true fuel 28 [v] = some x) : goodV w.heap.size (capM w.heap) v = true ∧ ∃ xs : List Int, IntsAt (absH w.heap) (absV w.heap.size v) xs := by
  obtain ⟨h1, xs, h2, h3, _⟩ := read_ints Tryd.underlying28 Tryd.underlying3 cells3 h
  exact ⟨h1, xs, h2, maxLen_lt h3⟩

theorem read_of {t e : TypeId} {α : Type} {R : Heap → Value → α → Prop} (ht : Tryd.prog.underlying t = some (.slice e)) (hc : Tryd.prog.cellsOf e = 1)
    (hs : ∀ n cs y, DataW.trod enc Tryd.prog w 0 (fun _ => true) true n e cs = some y → ∃ u, cs = [u])
    (hr : ∀ n u y, DataW.trod enc Tryd.prog w 0 (fun _ => true) true n e [u] = some y → goodV w.heap.size (capM w.heap) u = true ∧ ∃ x : α, R (absH w.heap) (absV w.heap.size u) x)
    (h : DataW.trod enc Tryd.prog w 0 (fun _ => true) true fuel t [v] = some x) : goodV w.heap.size (capM w.heap) v = true ∧ ∃ xs : List α, RowsOf R (absH w.heap) (absV w.heap.size v) xs := by
  obtain ⟨h1, l, h2, h3, h4⟩ := read_slice (α := α × Value) (f := fun x => [x.2]) (Q := fun x => R (absH w.heap) x.2 x.1) ht (by rw [hc]; omega) (fun n cs y hy => by
    obtain ⟨u, rfl⟩ := hs _ _ _ hy
    obtain ⟨k1, xs, k2⟩ := hr _ _ _ hy
    exact ⟨by simpa using k1, (xs, absV w.heap.size u), rfl, k2⟩) h
  refine ⟨h1, l.map (·.1), l.map (·.2), ?_, by simpa using maxLen_lt h3, fun i hi => ?_⟩
  · rw [hc] at h2
    have e : l.flatMap (fun x => [x.2]) = l.map (·.2) := by
      clear h2 h3 h4
      induction l with
      | nil => rfl
      | cons x l ih => simp [ih]
    rw [← e, List.length_map]
    exact h2
  · simp at hi
    exact ⟨l[i].2, by simp [hi], by simpa using h4 _ (List.getElem_mem hi)⟩

theorem one_slice {t e : TypeId} (ht : Tryd.prog.underlying t = some (.slice e)) {n : Nat} {cs : List Value} {y : DataW H × List MemPlace} (hy : DataW.trod enc Tryd.prog w 0 (fun _ => true) true n t cs = some y) : ∃ u, cs = [u] := by
  rcases Deep.open_slice ht hy with ⟨hv, _⟩ | ⟨a, len, cap, m, n, D, Pl, hv, _⟩ <;> exact ⟨_, hv⟩

theorem read_rows (h : DataW.trod enc Tryd.prog w 0 (fun _ => true) true fuel 25 [v] = some x) : goodV w.heap.size (capM w.heap) v = true ∧ ∃ xs : List (List Int), RowsAt (absH w.heap) (absV w.heap.size v) xs :=
  read_of Tryd.underlying25 cells28 (fun _ _ _ hy => one_slice Tryd.underlying28 hy) (fun _ _ _ hy => read_list hy) h

theorem read_relief {cs : List Value} (h : DataW.trod enc Tryd.prog w 0 (fun _ => true) true fuel 84 cs = some x) : (∀ u ∈ cs, goodV w.heap.size (capM w.heap) u = true) ∧ ∃ t : Rl, cs.map (absV w.heap.size) = t.cells ∧ True := by
  obtain ⟨ys, n, _, _, hl, hyl, hf⟩ := DataW.trod_struct Tryd.underlying84 h
  rw [cells84] at hl
  obtain ⟨c0, c1, c2, rfl⟩ := list3 hl
  have hy2 : ys.length = 2 := by simpa using hyl
  have e0 := hf 0 _ rfl
  have e1 := hf 1 _ rfl
  simp [cells3, cells82, hy2] at e0 e1
  obtain ⟨zs, m, _, _, hl', hyl', hf'⟩ := DataW.trod_struct Tryd.underlying82 e1
  have hz2 : zs.length = 2 := by simpa using hyl'
  have e2 := hf' 0 _ rfl
  have e3 := hf' 1 _ rfl
  simp [cells3, hz2] at e2 e3
  obtain ⟨z0, hz0, _⟩ := DataW.trod_int Tryd.underlying3 e0
  obtain ⟨z1, hz1, _⟩ := DataW.trod_int Tryd.underlying3 e2
  obtain ⟨z2, hz2, _⟩ := DataW.trod_int Tryd.underlying3 e3
  simp at hz0 hz1 hz2
  subst hz0 hz1 hz2
  exact ⟨by simp [goodV], ⟨z0, z1, z2⟩, rfl, trivial⟩

theorem read_rels (h : DataW.trod enc Tryd.prog w 0 (fun _ => true) true fuel 80 [v] = some x) : goodV w.heap.size (capM w.heap) v = true ∧ ∃ xs : List Rl, RelsAt (absH w.heap) (absV w.heap.size v) xs := by
  obtain ⟨h1, xs, h2, h3, _⟩ := read_slice (α := Rl) (f := Rl.cells) (Q := fun _ => True) Tryd.underlying80 (by rw [cells84]; omega) (fun n cs y hy => read_relief hy) h
  rw [cells84] at h2
  exact ⟨h1, xs, h2, maxLen_lt h3⟩

theorem read_blks (h : DataW.trod enc Tryd.prog w 0 (fun _ => true) true fuel 24 [v] = some x) : goodV w.heap.size (capM w.heap) v = true ∧ ∃ xs : List (List Rl), BlksAt (absH w.heap) (absV w.heap.size v) xs :=
  read_of Tryd.underlying24 cells80 (fun _ _ _ hy => one_slice Tryd.underlying80 hy) (fun _ _ _ hy => read_rels hy) h
end

section
variable {H : Type} {enc : TypeId × Value → H} {w : World} {base : Nat} {v : Value} {d : DataW H} {p : List MemPlace}

set_option maxRecDepth 100000 in
theorem read_dayV (hval : Value.okWide Tryd.prog w .any base 27 v) (h : DataW.Trod enc Tryd.prog w 0 (fun _ => true) true 27 v d p) :
    ∃ D b u, VR (absB w.heap) (dayV D b u) v ∧ DayAt (absH w.heap) b u D := by
  obtain ⟨cs, rfl, hsz⟩ := okWide_struct Tryd.underlying27 hval
  obtain ⟨fuel, h⟩ := h
  simp only [Value.cells] at h
  obtain ⟨ys, n, _, _, hl, hyl, hf⟩ := DataW.trod_struct Tryd.underlying27 h
  rw [cells27] at hl
  obtain ⟨l, rfl⟩ : ∃ l : List Value, cs = l.toArray := ⟨cs.toList, by simp⟩
  simp only at hl hf
  obtain ⟨c0, c1, c2, c3, c4, c5, c6, c7, c8, c9, rfl⟩ := list10 hl
  have hy3 : ys.length = 3 := by simpa using hyl
  have e0 := hf 0 _ rfl
  have e1 := hf 1 _ rfl
  have e2 := hf 2 _ rfl
  simp [cells23, cells24, cells25, hy3] at e0 e1 e2
  obtain ⟨zs, m, _, _, hl', hyl', hf'⟩ := DataW.trod_struct Tryd.underlying23 e0
  have hz8 : zs.length = 8 := by simpa using hyl'
  have f0 := hf' 0 _ rfl
  have f1 := hf' 1 _ rfl
  have f2 := hf' 2 _ rfl
  have f3 := hf' 3 _ rfl
  have f4 := hf' 4 _ rfl
  have f5 := hf' 5 _ rfl
  have f6 := hf' 6 _ rfl
  have f7 := hf' 7 _ rfl
  simp [cells3, hz8] at f0 f1 f2 f3 f4 f5 f6 f7
  obtain ⟨z0, h0, _⟩ := DataW.trod_int Tryd.underlying3 f0
  obtain ⟨z1, h1, _⟩ := DataW.trod_int Tryd.underlying3 f1
  obtain ⟨z2, h2, _⟩ := DataW.trod_int Tryd.underlying3 f2
  obtain ⟨z3, h3, _⟩ := DataW.trod_int Tryd.underlying3 f3
  obtain ⟨z4, h4, _⟩ := DataW.trod_int Tryd.underlying3 f4
  obtain ⟨z5, h5, _⟩ := DataW.trod_int Tryd.underlying3 f5
  obtain ⟨z6, h6, _⟩ := DataW.trod_int Tryd.underlying3 f6
  obtain ⟨z7, h7, _⟩ := DataW.trod_int Tryd.underlying3 f7
  obtain ⟨g8, xs, k8⟩ := read_blks e1
  obtain ⟨g9, us, k9⟩ := read_rows e2
  simp at h0 h1 h2 h3 h4 h5 h6 h7
  subst h0 h1 h2 h3 h4 h5 h6 h7
  refine ⟨⟨⟨z0, z1, z2, z3, z4, z5, z6, z7⟩, xs, us⟩, absV w.heap.size c8, absV w.heap.size c9, VR.mk_agg ?_, ⟨k8, k9⟩⟩
  exact ⟨.int _ _, .int _ _, .int _ _, .int _ _, .int _ _, .int _ _, .int _ _, .int _ _, good_VR g8, good_VR g9, trivial⟩

set_option maxRecDepth 100000 in
theorem read_u16V (hval : Value.okWide Tryd.prog w .any base 71 v) (h : DataW.Trod enc Tryd.prog w 0 (fun _ => true) true 71 v d p) : ∃ x : Int, VR (absB w.heap) (.int .u16 x) v ∧ (0 ≤ x ∧ x < 65536) := by
  obtain ⟨x, rfl⟩ := okWide_int Tryd.underlying71 hval
  obtain ⟨fuel, h⟩ := h
  obtain ⟨z, hz, _, hw⟩ := DataW.trod_int Tryd.underlying71 h
  simp [Value.cells] at hz
  subst hz
  simp [Lit.wf, IntKind.min, IntKind.max, IntKind.signed, IntKind.bits] at hw
  exact ⟨x, .int _ _, by omega⟩
end

end Go.Proofs.YtllkhaabcfnlpaaDoor


/-
  The table of the package math/bits in the program's memory.
-/
namespace Go.Proofs.YtllkhaabcfnlpaaDoor
open Go Go.Ab

theorem gl_of {W : World} (hgl : gmax ≤ W.heap.size) (hgc : ∀ g, g < gmax → ∃ cs c, [gl0, gl1][g]? = some (some (false, cs, c)) ∧ cs.all flat1 = true ∧ (absH W.heap).get g = .cells false cs c) : Gl (absH W.heap) := by
  obtain ⟨cs, c, k1, _, k3⟩ := hgc 1 (by decide)
  have e := Option.some.inj (Option.some.inj k1)
  have e1 : tz64 = cs := congrArg (fun p => p.2.1) e
  subst e1
  exact ⟨Nat.le_trans hgl (abs_size _), c, k3⟩

end Go.Proofs.YtllkhaabcfnlpaaDoor

