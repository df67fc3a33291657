/-
  Joined texts of a calculus of abstract memory, and of contracts of the program's functions.
-/
import Derived.Test.YtnbkclhjpekkcaaJ13
/-
  What RunLeft answers.
-/
namespace Go.Proofs.Ytnbkclhjpekkcaa
open Go Go.Ab

theorem aval_minC {t : Nat → Value} {H : Heap} {N y : Nat} {k : IntKind} {m n : Int} {d : Option Tmp} {T U ty : TypeId} {pos : String} {af : Array Edge} {g : Option (Nat × Bool)} (hy : t y = .int k n) (h2 : y < N) :
    aval Try.prog t H (.gen N ⟨d, .call ⟨.builtin .min, #[.const (.int k m), .tmp y], #[T, U]⟩, ty, pos, af, g⟩) = some (.int k (min m n)) := by
  refine aval_gen ?_ rfl fun w => ?_
  · simp [Op.operands, Call.operands, flatO, hy, h2, flat, flat1]
  · simp [execOp, resolve, invoke, builtin, Builtin.min_, Builtin.min2, evO, hy]
    split <;> omega

set_option maxHeartbeats 4000000 in
theorem runLeft_of {e s wv : Value} {T : Tab} {x y z kd : Int} {w : List Int} {H : Heap} (h : TabAt H e s T) (hf : (0 ≤ x ∧ x < 256) ∧ (0 ≤ y ∧ y < 256) ∧ (0 ≤ z ∧ z < 256)) (hk : 0 ≤ kd ∧ kd < 256) (hw : IntsAt H wv w) :
    AFun Try.prog 13 [tabV T e s, .agg #[.int .u8 x, .int .u8 y, .int .u8 z], .int .u8 kd, wv] H (fun v B => v = .bool true ∧ Ge H B) := by
  refine AFun.mk ok13 hm (Nat.le_of_ble_eq_true rfl) ?_
  have g0 : Ge H ((H.new (.cells true [.int .i64 T.places, .int .i64 T.layover, e, s] 4)).new (.cells true [.int .u8 x, .int .u8 y, .int .u8 z] 3)) := (Ge.new _ _).newOf _
  simp [a13, r13]
  refine fcall_fun (readyS_spec (h.ge g0)) ?_
  rintro _ H1 ⟨rfl, g1⟩
  have G1 := g0.trans g1
  have n1 := g1.next
  simp at n1
  have b1 := g1.got (n := H.next) (by simp) rfl
  have f1 := g1.got (n := H.next + 1) (by simp) rfl
  simp at b1 f1
  cases hrd : readyT T
  · simp
    refine fcall_fun (awake_spec _) ?_
    rintro _ B ⟨rfl, gB⟩
    simp
    exact G1.trans gB
  have hrd2 : thin T = true ∧ checkT T = 0 := by simpa [readyT] using hrd
  obtain ⟨hth, hc⟩ := hrd2
  have hT := checkT_zero.1 hc
  have hfew := hT.few
  by_cases hl : 15 < (w.length : Int)
  · simp [hw.lenV, hl]
    refine fcall_fun (awake_spec _) ?_
    rintro _ B ⟨rfl, gB⟩
    simp
    exact G1.trans gB
  have hI : ∀ (q : Nat) (i : Nat), i < 3 → iarV 3 1 (.pointer (some ⟨q, 0, none⟩)) (.int .i64 i) = some (.pointer (some ⟨q, i, none⟩)) := fun q i hi => by
    rw [iarV_in (by omega) (by omega)]; simp
  have hI0 := fun q => hI q 0 (by omega)
  have hI1 := fun q => hI q 1 (by omega)
  have hI2 := fun q => hI q 2 (by omega)
  simp at hI0 hI1 hI2
  have wx := wrap_i64 (n := x) (by omega) (by omega)
  have wy := wrap_i64 (n := y) (by omega) (by omega)
  have wz := wrap_i64 (n := z) (by omega) (by omega)
  have wk := wrap_i64 (n := kd) (by omega) (by omega)
  have mx : x.tmod 13 = x % 13 := Int.tmod_eq_emod_of_nonneg hf.1.1
  have my : y.tmod 13 = y % 13 := Int.tmod_eq_emod_of_nonneg hf.2.1.1
  have mz : z.tmod 13 = z % 13 := Int.tmod_eq_emod_of_nonneg hf.2.2.1
  have mk : kd.tmod 3 = kd % 3 := Int.tmod_eq_emod_of_nonneg hk.1
  simp [hw.lenV, hl, hI0, hI1, hI2, f1, wx, wy, wz, binI_rem, mx, my, mz]
  have ha : 0 ≤ x % 13 ∧ x % 13 ≤ 12 := by omega
  have hb : 0 ≤ y % 13 ∧ y % 13 ≤ 12 := by omega
  have hcc : 0 ≤ z % 13 ∧ z % 13 ≤ 12 := by omega
  have hkk : 0 ≤ kd % 3 ∧ kd % 3 < 3 := by omega
  generalize x % 13 = a at ha
  generalize y % 13 = b at hb
  generalize z % 13 = c at hcc
  generalize kd % 3 = k3 at hkk mk
  have hA0 : ∃ A0, A0 = H1.new (.cells true [.int .i64 a, .int .i64 b, .int .i64 c] 3) := ⟨_, rfl⟩
  obtain ⟨A0, hA0⟩ := hA0
  rw [← hA0]
  have nA0 : A0.next = H1.next + 1 := by rw [hA0]; rfl
  have gA0 : Ge H1 A0 := by rw [hA0]; exact Ge.new _ _
  have kA0 : A0.get H1.next = .cells true [.int .i64 a, .int .i64 b, .int .i64 c] 3 := by rw [hA0]; simp
  have bA0 := gA0.got (by omega) b1
  have hF := ints_lit (A := A0) (c := 3) (k := 3) [a, b, c] rfl (by simpa using kA0) (by omega) (by omega) (by omega)
  have hFok : fleetOk [a, b, c] = true := by simp [fleetOk]; omega
  refine fcall_fun (list_spec hF (by simp)) ?_
  rintro r H2 ⟨hr, g2⟩
  have G2 := (G1.trans gA0).trans g2
  have n2 := g2.next
  have b2 := g2.got (by omega) bA0
  have kF2 := g2.got (by omega) kA0
  rcases hr with ⟨rfl, hnil⟩ | ⟨q, cap, cc, rfl, q1, q2, q3, q4, q5⟩
  · simp at hnil
  simp at q3 q4
  have hX : islV 1 (.slice (some ⟨q, 0, none⟩) 3 cap) (.int .i64 k3) = some (.pointer (some ⟨q, k3.toNat, none⟩)) := by
    rw [islV_in (by omega) (by omega)]; simp
  have hk3 : k3.toNat < 3 := by omega
  obtain ⟨v3, hv3, hv3b⟩ : ∃ v3 : Int, [Value.int .i64 a, .int .i64 b, .int .i64 c][k3.toNat]? = some (.int .i64 v3) ∧ ([a, b, c] : List Int)[k3.toNat]? = some v3 := by
    rcases (by omega : k3.toNat = 0 ∨ k3.toNat = 1 ∨ k3.toNat = 2) with e | e | e <;> rw [e] <;> exact ⟨_, rfl, rfl⟩
  have hv3c : 0 ≤ v3 ∧ v3 ≤ 12 := by
    rcases (by omega : k3.toNat = 0 ∨ k3.toNat = 1 ∨ k3.toNat = 2) with e | e | e <;> rw [e] at hv3b <;> simp at hv3b <;> omega
  simp [wk, mk, binI_rem, hX, q3, hv3, add_in (x := v3) (y := 1) (by omega) (by omega)]
  rw [aval_minC (k := .i64) (m := 12) (n := v3 + 1) (by simp) (by decide)]
  have hM : wrL [Value.int .i64 a, Value.int .i64 b, Value.int .i64 c] k3.toNat [.int .i64 (min 12 (v3 + 1))] = (([a, b, c] : List Int).set k3.toNat (min 12 (v3 + 1))).map (.int .i64) := by
    rw [wr_one (by simpa using hk3), List.map_set]; rfl
  have hMl : (([a, b, c] : List Int).set k3.toNat (min 12 (v3 + 1))).length = 3 := by simp
  have hMok : fleetOk (([a, b, c] : List Int).set k3.toNat (min 12 (v3 + 1))) = true := by
    rcases (by omega : k3.toNat = 0 ∨ k3.toNat = 1 ∨ k3.toNat = 2) with e | e | e <;> rw [e] <;> simp [fleetOk] <;> omega
  have hMore : ∀ l, fits3 T [a, b, c] l → fits3 T (([a, b, c] : List Int).set k3.toNat (min 12 (v3 + 1))) l := by
    intro l hl k hk
    have h1 := hl k hk
    rcases (by omega : k3.toNat = 0 ∨ k3.toNat = 1 ∨ k3.toNat = 2) with e | e | e <;> rw [e] at hv3b ⊢ <;> simp at hv3b <;> rcases (by omega : k = 0 ∨ k = 1 ∨ k = 2) with rfl | rfl | rfl <;> simp at h1 ⊢ <;> omega
  generalize ([a, b, c] : List Int).set k3.toNat (min 12 (v3 + 1)) = M at hM hMl hMok hMore
  have hk3' : k3.toNat + 1 ≤ 3 := hk3
  have qn : H.next ≠ q := by omega
  have qf : H1.next ≠ q := by omega
  have hA1 : ∃ A1, A1 = H2.set q (.cells true (M.map (.int .i64)) cc) := ⟨_, rfl⟩
  obtain ⟨A1, hA1⟩ := hA1
  have GA : Ge H A1 := by rw [hA1]; exact Ge.setNew G2 (by have := (G1.trans gA0).next; omega) _
  have nA1 : A1.next = H2.next := by rw [hA1]; rfl
  have aT : A1.get H.next = .cells true [.int .i64 T.places, .int .i64 T.layover, e, s] 4 := by rw [hA1]; simp [qn, b2]
  have aF : A1.get H1.next = .cells true [.int .i64 a, .int .i64 b, .int .i64 c] 3 := by rw [hA1]; simp [qf, kF2]
  have aM : A1.get q = .cells true (M.map (.int .i64)) cc := by rw [hA1]; simp
  have hFA : IntsAt A1 (.slice (some ⟨H1.next, 0, none⟩) 3 3) [a, b, c] := ints_lit (c := 3) (k := 3) [a, b, c] rfl (by simpa using aF) (by omega) (by omega) (by omega)
  have hMA : IntsAt A1 (.slice (some ⟨q, 0, none⟩) 3 cap) M := by
    have : OwnSl A1 0 (.slice (some ⟨q, 0, none⟩) 3 cap) (M.map (.int .i64)) := .inr ⟨q, cap, cc, by simp [hMl], by omega, by omega, aM, by simp [hMl]; omega, q5⟩
    exact ⟨by rw [hMl]; simpa [hMl] using this.slr, by omega⟩
  simp [hX, q3, hM, hk3', qn, b2]
  rw [← hA1]
  clear hA1
  refine fcall_fun (table_spec (h.ge GA) hth) ?_
  rintro _ K1 ⟨⟨e1, s1, rfl, u1⟩, k1⟩
  simp
  refine fcall_fun (list_spec (hFA.ge k1) (by simp)) ?_
  rintro r2 K2 ⟨hr2, k2⟩
  simp
  refine fcall_fun (lacks_spec (fleet := [a, b, c]) (u1.ge k2) ⟨by simpa using hr2.slr, by simp⟩) ?_
  rintro _ K3 ⟨k3', _, _, hlk⟩
  obtain ⟨lv, rfl, hlv⟩ := hlk hc hFok
  clear hlk
  have y3 := (k1.trans k2).trans k3'
  have t3 := y3.got (by omega) aT
  simp [t3]
  refine fcall_fun (table_spec (h.ge (GA.trans y3)) hth) ?_
  rintro _ K4 ⟨⟨e4, s4, rfl, u4⟩, k4⟩
  have y4 := y3.trans k4
  simp
  refine fcall_fun (lacks_spec (fleet := M) u4 (hMA.ge y4)) ?_
  rintro _ K5 ⟨k5, _, _, hlk⟩
  obtain ⟨mv, rfl, hmv⟩ := hlk hc hMok
  clear hlk
  have y5 := y4.trans k5
  have t5 := y5.got (by omega) aT
  simp [t5]
  refine fcall_fun (fewestS_spec (w := []) (h.ge (GA.trans y5)) hT hth ⟨⟨by simp [slCells], fun a n c e => by cases e⟩, by simp⟩) ?_
  rintro _ K6 ⟨rfl, k6⟩
  have y6 := y5.trans k6
  have t6 := y6.got (by omega) aT
  have v6 := y6.next
  have tq : H.next ≠ K6.next := by omega
  simp [t6, tq]
  have hL1 := leftL_rises (T := T) (fleet := [a, b, c])
  have hL2 : fits3 T [a, b, c] (leftL T [a, b, c]) := leftL_good hT rfl (by simp; omega)
  have hML : (leftL T M).length ≤ (leftL T [a, b, c]).length := leftL_least hT hMl hL1 (hMore _ hL2)
  have hmin : ∀ u, risL T u = true → fits3 T [a, b, c] u → (leftL T [a, b, c]).length ≤ u.length := fun u hu hg => leftL_least hT rfl hu hg
  have hfit : ∀ u, fits3 T [a, b, c] u ↔ ((fewK T u 0 : Int) ≤ a ∧ (fewK T u 1 : Int) ≤ b ∧ (fewK T u 2 : Int) ≤ c) := fun u => by
    constructor
    · intro hu; exact ⟨by simpa using hu 0 (by omega), by simpa using hu 1 (by omega), by simpa using hu 2 (by omega)⟩
    · rintro ⟨h0, h1, h2⟩ k hk
      rcases (by omega : k = 0 ∨ k = 1 ∨ k = 2) with rfl | rfl | rfl
      · simpa using h0
      · simpa using h1
      · simpa using h2
  have hemp : ((fewK T [] 0 : Int) ≤ a ∧ (fewK T [] 1 : Int) ≤ b ∧ (fewK T [] 2 : Int) ≤ c) ↔ leftL T [a, b, c] = [] := by
    rw [← hfit]
    constructor
    · intro hg
      have := hmin [] rfl hg
      exact List.length_eq_zero_iff.1 (by simpa using this)
    · intro he; rw [he] at hL2; exact hL2
  generalize leftL T [a, b, c] = L at hL1 hL2 hML hmin hemp hlv
  generalize leftL T M = Mx at hML hmv
  have hA6 : ∃ A6, A6 = (K6.new (.cells true [.int .i64 0, .int .i64 0, .int .i64 0] 3)).set K6.next (.cells true [.int .i64 (fewK T [] 0), .int .i64 (fewK T [] 1), .int .i64 (fewK T [] 2)] 3) := ⟨_, rfl⟩
  obtain ⟨A6, hA6⟩ := hA6
  rw [← hA6]
  have g6 : Ge K6 A6 := by rw [hA6]; exact Ge.setNew (Ge.new _ _) (Nat.le_refl _) _
  have b6 : A6.get K6.next = .cells true [.int .i64 (fewK T [] 0), .int .i64 (fewK T [] 1), .int .i64 (fewK T [] 2)] 3 := by rw [hA6]; simp
  have n6 : A6.next = K6.next + 1 := by rw [hA6]; rfl
  clear hA6
  have y6' := y6.trans g6
  have lv3 : IntsAt A6 lv L := hlv.ge (((k4.trans k5).trans k6).trans g6)
  have mv5 : IntsAt A6 mv Mx := hmv.ge (k6.trans g6)
  refine fcall_fun (refRising_spec (h.ge (GA.trans y6')) lv3) ?_
  rintro _ K7 ⟨rfl, k7⟩
  have y7 := y6'.trans k7
  have v7 := y7.next
  have n7 := k7.next
  have b7 := k7.got (by omega) b6
  have f7 := y7.got (by omega) aF
  have t7 := y7.got (by omega) aT
  have hML' : ¬ (L.length : Int) < Mx.length := by omega
  have hS : ∀ (i : Nat), i < 3 → islV 1 (.slice (some ⟨H1.next, 0, none⟩) 3 3) (.int .i64 i) = some (.pointer (some ⟨H1.next, i, none⟩)) := fun i hi => by
    rw [islV_in (by omega) (by omega)]; simp
  have hS0 := hS 0 (by omega)
  have hS1 := hS 1 (by omega)
  have hS2 := hS 2 (by omega)
  simp at hS0 hS1 hS2
  have split : ((fewK T [] 0 : Int) ≤ a ∧ (fewK T [] 1 : Int) ≤ b ∧ (fewK T [] 2 : Int) ≤ c ∧ decide (L = []) = true) ∨ ((fewK T [] 0 : Int) ≤ a ∧ (fewK T [] 1 : Int) ≤ b ∧ ¬ (fewK T [] 2 : Int) ≤ c ∧ decide (L = []) = false) ∨ ((fewK T [] 0 : Int) ≤ a ∧ ¬ (fewK T [] 1 : Int) ≤ b ∧ decide (L = []) = false) ∨ (¬ (fewK T [] 0 : Int) ≤ a ∧ decide (L = []) = false) := by
    by_cases p0 : (fewK T [] 0 : Int) ≤ a <;> by_cases p1 : (fewK T [] 1 : Int) ≤ b <;> by_cases p2 : (fewK T [] 2 : Int) ≤ c <;> simp [p0, p1, p2] at hemp ⊢ <;> simp [hemp]
  have hlz : decide ((L.length : Int) = 0) = decide (L = []) := by
    rw [decide_eq_decide]
    constructor
    · intro hz; exact List.length_eq_zero_iff.1 (by omega)
    · intro hz; rw [hz]; rfl
  rcases split with ⟨p0, p1, p2, hE⟩ | ⟨p0, p1, p2, hE⟩ | ⟨p0, p1, hE⟩ | ⟨p0, hE⟩
  all_goals
    first
    | simp [hL1, lv3.lenV, mv5.lenV, hML', hI0, hI1, hI2, hS0, hS1, hS2, b7, f7, p0, p1, p2]
    | simp [hL1, lv3.lenV, mv5.lenV, hML', hI0, hI1, hI2, hS0, hS1, hS2, b7, f7, p0, p1]
    | simp [hL1, lv3.lenV, mv5.lenV, hML', hI0, hI1, hI2, hS0, hS1, hS2, b7, f7, p0]
  all_goals
    rw [aval_neB (a := decide (L = [])) (b := decide (L = [])) (by simp [hE]) (by simp [hE, hlz]) (by decide) (by decide)]
    have o1 := IntsAt.one lv3
    have o2 := IntsAt.one hw
    have oo1 := one_cells o1
    have oo2 := one_cells o2
    simp [o1, o2, oo1, oo2]
  all_goals
    refine floop_intro (fun zz => zz.d = [] ∧ Ge K7 zz.H ∧ K7.next + 24 ≤ zz.H.next ∧ zz.t 3 = wv ∧ zz.t 4 = .pointer (some ⟨H.next, 0, none⟩) ∧ zz.t 9 = .slice (some ⟨H1.next, 0, none⟩) 3 3 ∧ zz.t 11 = lv ∧ zz.t 18 = .pointer (some ⟨K7.next + 23, 0, none⟩) ∧ zz.H.get (K7.next + 23) = .cells true [lv, wv] 2 ∧ ∃ i : Nat, i ≤ 2 ∧ zz.t 19 = .int .i64 i) (fun zz => 2 - (intOf (zz.t 19)).toNat) ?_ ?_
    · exact ⟨rfl, Ge.setNew ((Ge.more K7 23).newOf _) (by omega) _, by simp, by simp, by simp, by simp, by simp, by simp, by simp, 0, by simp, by simp⟩
    rintro ⟨t, _, C⟩ ⟨rfl, gC, nC, c3, c4, c9, c11, c18, cb, i, hi, c19⟩
    dsimp only at gC nC c3 c4 c9 c11 c18 cb c19
    simp [c19]
    have tC := gC.got (by omega) t7
    have fC := gC.got (by omega) f7
    have yC := y7.trans gC
    have GC := GA.trans yC
    have vC := yC.next
    refine fcond_intro (fun hci => ?_) (fun hci => ?_)
    · have hi' : i < 2 := by simp at hci; omega
      obtain ⟨u, us, x1, x2, x3, x4⟩ : ∃ u us, [lv, wv][i]? = some u ∧ IntsAt C u us ∧ (i = 0 → us = L) ∧ (i = 1 → us = w) := by
        match i, hi' with
        | 0, _ => exact ⟨lv, L, rfl, lv3.ge (k7.trans gC), fun _ => rfl, fun h => (by cases h)⟩
        | 1, _ => exact ⟨wv, w, rfl, hw.ge GC, fun h => (by cases h), fun _ => rfl⟩
      have hII : iarV 2 1 (.pointer (some ⟨K7.next + 23, 0, none⟩)) (.int .i64 i) = some (.pointer (some ⟨K7.next + 23, i, none⟩)) := by
        rw [iarV_in (by omega) (by omega)]; simp
      simp [c4, c18, c19, tC, hII, cb, x1]
      refine fcall_fun (refRising_spec (h.ge (GC.grow 6)) (x2.ge (Ge.more C 6))) ?_
      rintro _ D ⟨rfl, gD⟩
      have gCD : Ge C D := (Ge.more C 6).trans gD
      have nD := gD.next
      simp at nD
      have tD := gCD.got (by omega) tC
      have cbD := gCD.got (by omega) cb
      cases hru : risL T us
      · simp [c19, add_in (x := i) (y := 1) (by omega) (by omega)]
        exact ⟨⟨gC.trans gCD, by omega, c3, c4, c9, c11, c18, cbD, i + 1, by omega, by omega⟩, by omega⟩
      simp [c4, c18, c19, tD, hII, cbD, x1]
      have gS : Ge D (({ get := D.get, next := D.next + 11 } : Heap).set (D.next + 8) (.cells true [.int .i64 0, .int .i64 0, .int .i64 0] 3)) := Ge.setNew (Ge.more D 11) (by omega) _
      refine fcall_fun (fewestS_spec (w := us) (h.ge ((GC.trans gCD).trans gS)) hT hth (x2.ge (gCD.trans gS))) ?_
      rintro _ E ⟨rfl, gE⟩
      have gDE := gS.trans gE
      have gCE := gCD.trans gDE
      have nE := gE.next
      simp at nE
      have eb : E.get (D.next + 8) = .cells true [.int .i64 0, .int .i64 0, .int .i64 0] 3 := gE.got (n := D.next + 8) (by first | (simp; done) | (simp; omega)) (by simp)
      have tE := gCE.got (by omega) tC
      have fE := gCE.got (by omega) fC
      have cbE := gCE.got (by omega) cb
      have e15 : ¬ K7.next + 15 = D.next := by omega
      have gfin : ∀ o, Ge K7 (E.set (D.next + 8) o) := fun o => Ge.setNew (gC.trans gCE) (by omega) _
      have fne : H1.next ≠ D.next + 8 := by omega
      have split2 : ((fewK T us 0 : Int) ≤ a ∧ (fewK T us 1 : Int) ≤ b ∧ (fewK T us 2 : Int) ≤ c) ∨ ((fewK T us 0 : Int) ≤ a ∧ (fewK T us 1 : Int) ≤ b ∧ ¬ (fewK T us 2 : Int) ≤ c) ∨ ((fewK T us 0 : Int) ≤ a ∧ ¬ (fewK T us 1 : Int) ≤ b) ∨ (¬ (fewK T us 0 : Int) ≤ a) := by omega
      have hfu := hfit us
      have lvl := lv3.lenV
      have wl := hw.lenV
      have hn0 : ¬ ((fewK T us 0 : Int) ≤ a ∧ (fewK T us 1 : Int) ≤ b ∧ (fewK T us 2 : Int) ≤ c) → i = 1 := fun hn => by
        by_cases e0 : i = 0
        · have := x3 e0
          subst this
          exact absurd (hfu.1 hL2) hn
        · omega
      rcases split2 with ⟨p3, p4, p5⟩ | ⟨p3, p4, p5⟩ | ⟨p3, p4⟩ | p3
      · have hle : i = 1 → ¬ (w.length : Int) < L.length := fun e1 => by
          have := x4 e1
          subst this
          have := hmin us hru (hfu.2 ⟨p3, p4, p5⟩)
          omega
        rcases (by omega : i = 0 ∨ i = 1) with e0 | e0
        · subst e0
          simp [c3, c4, c9, c11, c18, c19, eb, fE, fne, hI0, hI1, hI2, hS0, hS1, hS2, p3, p4, p5, lvl, wl, e15, cbE, add_in (x := 0) (y := 1) (by omega) (by omega)]
          exact ⟨(gfin _).grow 23, by omega, 1, by omega, by omega⟩
        · subst e0
          have := hle rfl
          simp [c3, c4, c9, c11, c18, c19, eb, fE, fne, hI0, hI1, hI2, hS0, hS1, hS2, p3, p4, p5, lvl, wl, this, e15, cbE, add_in (x := 1) (y := 1) (by omega) (by omega)]
          exact ⟨(gfin _).grow 23, by omega, 2, by omega, by omega⟩
      · have e0 := hn0 fun hh => p5 hh.2.2
        subst e0
        simp [c3, c4, c9, c11, c18, c19, eb, fE, fne, hI0, hI1, hI2, hS0, hS1, hS2, p3, p4, p5, e15, cbE, add_in (x := 1) (y := 1) (by omega) (by omega)]
        exact ⟨(gfin _).grow 23, by omega, 2, by omega, by omega⟩
      · have e0 := hn0 fun hh => p4 hh.2.1
        subst e0
        simp [c3, c4, c9, c11, c18, c19, eb, fE, fne, hI0, hI1, hS0, hS1, p3, p4, e15, cbE, add_in (x := 1) (y := 1) (by omega) (by omega)]
        exact ⟨(gfin _).grow 23, by omega, 2, by omega, by omega⟩
      · have e0 := hn0 fun hh => p3 hh.1
        subst e0
        simp [c3, c4, c9, c11, c18, c19, eb, fE, fne, hI0, hS0, p3, e15, cbE, add_in (x := 1) (y := 1) (by omega) (by omega)]
        exact ⟨(gfin _).grow 23, by omega, 2, by omega, by omega⟩
    · simp
      refine fcall_fun (awake_spec _) ?_
      rintro _ B ⟨rfl, gB⟩
      simp
      exact GC.trans gB

end Go.Proofs.Ytnbkclhjpekkcaa

/-
  A timetable in which more trips may follow.
-/
namespace Go.Proofs.Ytnbkclhjpekkcaa

section
variable {T X : Tab} (hn : X.trips.length = T.trips.length) (hm : ∀ i j, T.mayN i j = true → X.mayN i j = true)
include hn hm
theorem easier_most (hfew : T.trips.length ≤ 12) : T.most ≤ X.most := by
  obtain ⟨a, b, hc, hs⟩ := mostL_cov (T := X) (by omega) (upTo X.trips.length)
  have h := pm_most (T := T) hfew (a := a) (b := b) fun i j hi hj he => hc i j (by omega) (by omega) (by rw [mayL_upTo (by omega) (by omega) (by omega)]; exact hm i j he)
  rw [most_all X]
  rw [hn] at hs
  rw [hn]
  omega
theorem easier_cut (hT : Valid T) (hX : Valid X) : (cutL X).length ≤ (cutL T).length := by
  have h1 := cutL_size hT
  have h2 := cutL_size hX
  have h3 := easier_most hn hm hT.few
  omega
theorem easier_foll {k : Nat} {x : Int} (h : x ∈ T.followers[k]?.getD []) : x ∈ X.followers[k]?.getD [] := by
  by_cases hk : k < T.trips.length
  · have e1 : T.followers[k]?.getD [] = ((List.range T.trips.length).filter (T.mayN k)).map Int.ofNat := by simp [Tab.followers, hk]
    have e2 : X.followers[k]?.getD [] = ((List.range X.trips.length).filter (X.mayN k)).map Int.ofNat := by simp [Tab.followers, hn, hk]
    rw [e1] at h
    rw [e2]
    obtain ⟨j, h1, rfl⟩ := List.mem_map.1 h
    rw [List.mem_filter, List.mem_range] at h1
    exact List.mem_map.2 ⟨j, by rw [List.mem_filter, List.mem_range, hn]; exact ⟨h1.1, hm _ _ h1.2⟩, rfl⟩
  · have : T.followers[k]?.getD [] = [] := by simp [Tab.followers, Nat.le_of_not_lt hk]
    rw [this] at h
    cases h
end

end Go.Proofs.Ytnbkclhjpekkcaa

/-
  Rows that are laid anew, their names pairwise apart.
-/
namespace Go.Proofs.Ytnbkclhjpekkcaa
open Go Go.Ab

/-- Rows of one's own whose names are pairwise apart, and below hi. -/
structure RowsD (A : Heap) (lo hi : Nat) (v : Value) (rows : List (List Int)) : Prop where
  ex : ∃ vs : List Value, OwnSl A lo v vs ∧ vs.length = rows.length ∧ (∀ k (h : k < rows.length), ∃ u, vs[k]? = some u ∧ OwnSl A lo u (rows[k].map (Value.int .i64)) ∧ ∀ m, slName u = some m → slName v ≠ some m ∧ m < hi) ∧
    ∀ (k l : Nat) (u w : Value) (m : Nat), vs[k]? = some u → vs[l]? = some w → k ≠ l → slName u = some m → slName w ≠ some m
  short : ∀ r ∈ rows, r.length < 2 ^ 63

theorem RowsD.rowsO {A : Heap} {lo hi : Nat} {v : Value} {rows : List (List Int)} (h : RowsD A lo hi v rows) : RowsO A lo v rows where
  ex := by
    obtain ⟨⟨vs, h1, h2, h3, _⟩, _⟩ := h
    exact ⟨vs, h1, h2, fun k hk => let ⟨u, h5, h6, h7⟩ := h3 k hk; ⟨u, h5, h6, fun m hm => (h7 m hm).1⟩⟩
  short := h.short

theorem RowsD.nil {A : Heap} {lo hi : Nat} {v : Value} (h : OwnSl A lo v []) : RowsD A lo hi v [] := ⟨⟨[], h, rfl, fun k hk => by simp at hk, fun k l u w m hu => by simp at hu⟩, fun r hr => by simp at hr⟩

theorem RowsD.ge {A B : Heap} {lo hi hi2 : Nat} {v : Value} {rows : List (List Int)} (h : RowsD A lo hi v rows) (g : Ge A B) (hh : hi ≤ hi2) : RowsD B lo hi2 v rows where
  ex := by
    obtain ⟨⟨vs, h1, h2, h3, h4⟩, _⟩ := h
    exact ⟨vs, h1.ge g, h2, fun k hk => let ⟨u, h5, h6, h7⟩ := h3 k hk; ⟨u, h5, h6.ge g, fun m hm => ⟨(h7 m hm).1, Nat.lt_of_lt_of_le (h7 m hm).2 hh⟩⟩, h4⟩
  short := h.short

theorem RowsD.push {A : Heap} {lo lo1 : Nat} {v x : Value} {rows : List (List Int)} {r : List Int} {y : Value} {n nx : Nat} {R : Value → Heap → Prop} (h : RowsD A lo lo1 v rows) (hx : OwnSl A lo1 x (r.map (Value.int .i64))) (hlo1 : lo ≤ lo1)
    (hnm : ∀ m, slName x = some m → slName v ≠ some m) (hr : r.length < 2 ^ 63)
    (hy : slCells A 1 y = some (1, [x])) (hlen : rows.length ≤ 2 ^ 20) (hn : A.next ≤ n) (hnx : n < nx) (hlo : lo ≤ A.next)
    (K : ∀ u B, RowsD B lo nx u (rows ++ [r]) → slName u = some n → B.next = nx → (∀ m, m ≠ n → slName v ≠ some m → B.get m = A.get m) → R u B) : @fapp (baseOf A 1 v) (slCells A 1 y) 1 24 A n nx ⟨R⟩ := by
  obtain ⟨⟨vs, h1, h2, h3, hd⟩, h4⟩ := h
  have hvn : ∀ k u m, vs[k]? = some u → slName u = some m → m < lo1 := fun k u m hu hm => by
    have hk : k < rows.length := by rw [← h2]; exact (List.getElem?_eq_some_iff.1 hu).1
    obtain ⟨w, h5, _, h7⟩ := h3 k hk
    rw [hu] at h5; cases h5
    exact (h7 m hm).2
  refine fapp_own h1 hy hx.one (by omega) (by omega) hn hnx hlo fun u B k1 k2 k3 k4 => ?_
  refine K u B ⟨⟨vs ++ [x], k1, by simp [h2], fun k hk => ?_, fun k l p w m hp hw hne hm => ?_⟩, ?_⟩ k2 k3 k4
  · by_cases hk2 : k < rows.length
    · obtain ⟨w, h5, h6, h7⟩ := h3 k hk2
      refine ⟨w, by rw [List.getElem?_append_left (by omega)]; exact h5, ?_, fun m hm => ⟨?_, ?_⟩⟩
      · rw [List.getElem_append_left hk2]
        exact h6.keep (by omega) fun m hm => k4 m (by have := (h6.names hm).2; omega) (h7 m hm).1
      · rw [k2]; intro e; cases e; have := (h6.names hm).2; omega
      · have := (h6.names hm).2; omega
    · have : k = rows.length := by simp at hk; omega
      subst this
      refine ⟨x, by rw [List.getElem?_append_right (by omega)]; simp [h2], ?_, fun m hm => ⟨?_, ?_⟩⟩
      · rw [List.getElem_append_right (by omega)]
        simp only [Nat.sub_self, List.getElem_cons_zero]
        have hx2 : OwnSl A lo x (r.map (Value.int .i64)) := by
          rcases hx with hx | ⟨m, cap, c, e1, e2, e3⟩
          · exact .inl hx
          · exact .inr ⟨m, cap, c, e1, by omega, e3⟩
        exact hx2.keep (by omega) fun m hm => k4 m (by have := (hx.names hm).2; omega) (hnm m hm)
      · rw [k2]; intro e; cases e; have := (hx.names hm).2; omega
      · have := (hx.names hm).2; omega
  · by_cases hk : k < vs.length
    · rw [List.getElem?_append_left hk] at hp
      by_cases hl : l < vs.length
      · rw [List.getElem?_append_left hl] at hw
        exact hd k l p w m hp hw hne hm
      · rw [List.getElem?_append_right (by omega)] at hw
        have : w = x := by
          cases e : l - vs.length with
          | zero => rw [e] at hw; simpa using hw.symm
          | succ j => rw [e] at hw; simp at hw
        subst this
        intro e
        have h5 := hvn k p m hp hm
        have := (hx.names e).1
        omega
    · rw [List.getElem?_append_right (by omega)] at hp
      have hkl : k = vs.length ∧ p = x := by
        cases e : k - vs.length with
        | zero => rw [e] at hp; exact ⟨by omega, by simpa using hp.symm⟩
        | succ j => rw [e] at hp; simp at hp
      obtain ⟨hk3, rfl⟩ := hkl
      by_cases hl : l < vs.length
      · rw [List.getElem?_append_left hl] at hw
        intro e
        have h5 := hvn l w m hw e
        have := (hx.names hm).1
        omega
      · rw [List.getElem?_append_right (by omega)] at hw
        cases e : l - vs.length with
        | zero => omega
        | succ j => rw [e] at hw; simp at hw
  · intro q hq
    rcases List.mem_append.1 hq with hq | hq
    · exact h4 q hq
    · simp at hq; subst hq; exact hr

theorem rowsD_spec {H : Heap} {v : Value} {xs : List (List Int)} (hv : RowsAt H v xs) (hl : xs.length ≤ 2 ^ 20) (hll : ∀ l ∈ xs, l.length ≤ 2 ^ 20) : AFun Try.prog 28 [v] H (fun r B => RowsD B H.next B.next r xs ∧ Ge H B) := by
  refine AFun.mk ok28 hm (Nat.le_of_ble_eq_true rfl) ?_
  have h62 := hv.lt
  simp [a28, r28]
  refine floop_intro (fun z => z.d = [] ∧ Ge H z.H ∧ z.t 0 = v ∧ ∃ i : Nat, i ≤ xs.length ∧ z.t 4 = .int .i64 i ∧ RowsD z.H H.next z.H.next (z.t 3) (xs.take i)) (fun z => xs.length - (intOf (z.t 4)).toNat) ?_ ?_
  · exact ⟨rfl, by simp, by simp, 0, by simp, by simp, by simpa using RowsD.nil (.inl ⟨by simp, rfl⟩)⟩
  rintro ⟨t, _, A⟩ ⟨rfl, g, t0, i, hi, t4, hR⟩
  dsimp only at g t0 t4 hR
  simp [t0, t4, hv.lenV]
  refine fcond_intro (fun hc => ?_) (fun hc => ?_)
  · have h1 : i < xs.length := by simpa using hc
    obtain ⟨p, u, e1, e2, e3⟩ := hv.atGe g h1
    have hxi := hll _ (List.getElem_mem h1)
    simp [t0, t4, e1, e2]
    refine fcall_fun (list_spec (e3.ge g) hxi) ?_
    rintro w B ⟨hw, gB⟩
    have ow := one_cells hw.one
    simp [ow]
    have hR2 : RowsD (B.new (.cells true [w] 1)) H.next A.next (t 3) (xs.take i) := hR.ge (gB.newOf _) (Nat.le_refl _)
    have gn := g.next
    have gBn := gB.next
    refine hR2.push (lo1 := A.next) (r := xs[i]) (hw.ge (Ge.new _ _)) (by omega) ?_ (by omega) (slCells_new (x := w) (rw := true) (c := 1) (by simp)) (by simp; omega) (by simp) (by omega) (by simp; omega) fun u' C k1 k2 k3 k4 => ?_
    · intro q hq e
      obtain ⟨vs, o1, _⟩ := hR.ex
      have := (hw.names hq).1
      have := (o1.names e).2
      omega
    · obtain ⟨vs, o1, _⟩ := hR.ex
      have gC : Ge H C := by
        refine ⟨by omega, fun n hn => ?_⟩
        have e1 : n ≠ B.next := by omega
        rw [k4 n (by omega) (fun e => by have := (o1.names e).1; omega)]
        simp [e1, gB.get n (by omega), g.get n hn]
      simp [t4, add_in (x := i) (y := 1) (by omega) (by omega)]
      refine ⟨⟨gC, t0, i + 1, by omega, by omega, ?_⟩, by omega⟩
      rw [List.take_succ_eq_append_getElem h1, k3]; exact k1
  · have h1 : i = xs.length := by simp at hc; omega
    subst h1
    simp
    rw [List.take_length] at hR
    exact ⟨hR, g⟩

end Go.Proofs.Ytnbkclhjpekkcaa

/-
  The changes that let more trips follow.
-/
namespace Go.Proofs.Ytnbkclhjpekkcaa

/-- A trip that takes no longer. -/
def TrLe (x' x : Tr) : Prop := x'.src = x.src ∧ x'.dst = x.dst ∧ x'.start = x.start ∧ x'.kind = x.kind ∧ x'.least = x.least ∧ x'.most ≤ x.most

structure Eas (T X : Tab) : Prop where
  len : X.trips.length = T.trips.length
  trip : ∀ i (h : i < T.trips.length), ∃ x', X.trips[i]? = some x' ∧ TrLe x' T.trips[i]
  lay : X.layover ≤ T.layover
  road : ∀ a b, X.road a b ≤ T.road a b

theorem eas_may {T X : Tab} (hT : Valid T) (hE : Eas T X) : ∀ i j, T.mayN i j = true → X.mayN i j = true := by
  intro i j h
  have hij : i < T.trips.length ∧ j < T.trips.length := by
    simp only [Tab.mayN] at h
    split at h
    · rename_i x y h1 h2
      exact ⟨(List.getElem?_eq_some_iff.1 h1).1, (List.getElem?_eq_some_iff.1 h2).1⟩
    · cases h
  obtain ⟨hi, hj⟩ := hij
  rw [Tab.mayN_eq hi hj] at h
  obtain ⟨x', hx', ⟨a1, a2, a3, a4, a5, a6⟩⟩ := hE.trip i hi
  obtain ⟨y', hy', ⟨b1, b2, b3, b4, b5, b6⟩⟩ := hE.trip j hj
  have tx := hT.trip (List.getElem_mem hi)
  have ty := hT.trip (List.getElem_mem hj)
  have hs := hT.size
  obtain ⟨_, _, _, r1, _⟩ := hT.road (a := T.trips[i].dst) (b := T.trips[j].src) ⟨by omega, by omega⟩ ⟨by omega, by omega⟩
  have hr := hE.road T.trips[i].dst T.trips[j].src
  have hl := hE.lay
  simp only [Tab.mayN, hx', hy']
  simp only [Tab.may, Bool.and_eq_true, Bool.not_eq_true', Bool.or_eq_false_iff, decide_eq_false_iff_not, Bool.not_eq_false', decide_eq_true_eq, Tab.wait, Tab.ready, List.foldl_cons, List.foldl_nil] at h ⊢
  obtain ⟨⟨h1, h2⟩, h3⟩ := h
  replace h3 := of_decide_eq_true h3
  simp only [a2, a3, a5, b1, b3]
  refine ⟨⟨fun e => ?_, by rw [a4, b4]; exact h2⟩, ?_⟩
  · have : x'.start = y'.start := by rw [e]
    rw [a3, b3] at this
    omega
  · refine decide_eq_true ?_
    show (_ : Int) ≥ 0
    omega

def easeLay (T : Tab) (n : Int) : Tab := { T with layover := max 0 (T.layover - n) }
theorem easeLay_eas {T : Tab} (hT : Valid T) {n : Int} (hn : 0 ≤ n) : Eas T (easeLay T n) where
  len := rfl
  trip i h := ⟨T.trips[i], by simp [easeLay, h], rfl, rfl, rfl, rfl, rfl, Int.le_refl _⟩
  lay := by have := hT.size; simp only [easeLay]; omega
  road a b := Int.le_refl _
theorem easeLay_valid {T : Tab} (hT : Valid T) {n : Int} (hn : 0 ≤ n) : Valid (easeLay T n) where
  few := hT.few
  places := by
    have h := hT.places
    have hs := hT.size
    simp only [okPlaces, Bool.and_eq_true, easeLay] at h ⊢
    refine ⟨h.1, ?_, h.2.2⟩
    simp only [okMin, Bool.and_eq_true, decide_eq_true_eq]
    omega
  trips := hT.trips

def easeTrip (T : Tab) (i : Nat) (n : Int) : Tab := { T with trips := T.trips.set i { (T.trips[i]?.getD noTr) with most := max (T.trips[i]?.getD noTr).least ((T.trips[i]?.getD noTr).most - n) } }
theorem easeTrip_eas {T : Tab} (hT : Valid T) {i : Nat} {n : Int} (hn : 0 ≤ n) : Eas T (easeTrip T i n) where
  len := by simp only [easeTrip, List.length_set]
  trip k h := by
    by_cases e : k = i
    · subst e
      have ht := hT.trip (List.getElem_mem h)
      have hg : T.trips[k]?.getD noTr = T.trips[k] := by simp [h]
      refine ⟨_, List.getElem?_set_self h, ?_⟩
      rw [hg]
      exact ⟨rfl, rfl, rfl, rfl, rfl, by show max _ _ ≤ _; omega⟩
    · exact ⟨T.trips[k], by simp only [easeTrip]; rw [List.getElem?_set_ne (Ne.symm e)]; simp [h], rfl, rfl, rfl, rfl, rfl, Int.le_refl _⟩
  lay := Int.le_refl _
  road a b := Int.le_refl _
theorem easeTrip_valid {T : Tab} (hT : Valid T) {i : Nat} {n : Int} (hn : 0 ≤ n) (hi : i < T.trips.length) : Valid (easeTrip T i n) where
  few := by simp only [easeTrip, List.length_set]; exact hT.few
  places := hT.places
  trips := by
    have ht := hT.trip (List.getElem_mem hi)
    have hg : T.trips[i]?.getD noTr = T.trips[i] := by simp [hi]
    rw [List.all_eq_true]
    intro x hx
    simp only [easeTrip, hg] at hx
    rcases List.mem_or_eq_of_mem_set hx with hx | hx
    · exact List.all_eq_true.1 hT.trips x hx
    · subst hx
      simp [okTrip, easeTrip]
      exact ⟨⟨by omega, decide_eq_true (by omega)⟩, ⟨by omega, decide_eq_true (by omega)⟩, by omega, ⟨by omega, by omega⟩, ⟨by omega, by omega⟩, by omega⟩

def easeRow (T : Tab) (a k : Nat) (n : Int) : Tab := { T with empty := T.empty.set a ((T.empty[a]?.getD []).set k (max 0 (((T.empty[a]?.getD [])[k]?.getD 0) - n))) }
theorem easeRow_eas {T : Tab} (hT : Valid T) {a k : Nat} {n : Int} (hn : 0 ≤ n) (ha : a < T.empty.length) : Eas T (easeRow T a k n) where
  len := rfl
  trip i h := ⟨T.trips[i], by simp [easeRow, h], rfl, rfl, rfl, rfl, rfl, Int.le_refl _⟩
  lay := Int.le_refl _
  road p q := by
    simp only [Tab.road, easeRow]
    by_cases e : a = p.toNat
    · subst e
      have hr := hT.row ha
      have hg : T.empty[p.toNat]?.getD [] = T.empty[p.toNat] := by simp [ha]
      rw [List.getElem?_set_self ha, Option.getD_some, hg]
      by_cases e2 : k = q.toNat
      · subst e2
        by_cases hq : q.toNat < T.empty[p.toNat].length
        · rw [List.getElem?_set_self hq, Option.getD_some]
          have := hr.2 _ (List.getElem_mem hq)
          have hv : T.empty[p.toNat][q.toNat]?.getD 0 = T.empty[p.toNat][q.toNat] := by simp [hq]
          rw [hv]
          omega
        · rw [List.getElem?_eq_none (by rw [List.length_set]; omega), List.getElem?_eq_none (by omega)]
          exact Int.le_refl _
      · rw [List.getElem?_set_ne e2]
        exact Int.le_refl _
    · rw [List.getElem?_set_ne e]
      exact Int.le_refl _
theorem easeRow_valid {T : Tab} (hT : Valid T) {a k : Nat} {n : Int} (hn : 0 ≤ n) (ha : a < T.empty.length) : Valid (easeRow T a k n) where
  few := hT.few
  places := by
    have h := hT.places
    have hr := hT.row ha
    have hg : T.empty[a]?.getD [] = T.empty[a] := by simp [ha]
    simp only [okPlaces, Bool.and_eq_true, List.all_eq_true, List.mem_range, easeRow, List.length_set] at h ⊢
    refine ⟨h.1, h.2.1, h.2.2.1, fun i hi => ?_⟩
    have ho := h.2.2.2 i hi
    by_cases e : a = i
    · subst e
      rw [List.getElem?_set_self ha, Option.getD_some, hg]
      rw [hg] at ho
      simp only [okRow, Bool.and_eq_true, decide_eq_true_eq, List.length_set, List.all_eq_true] at ho ⊢
      refine ⟨ho.1, ?_, fun m hm => ?_⟩
      · by_cases e2 : k = a
        · subst e2
          by_cases hq : k < T.empty[k].length
          · rw [List.getElem?_set_self hq, Option.getD_some, ho.2.1]
            omega
          · rw [List.getElem?_eq_none (by rw [List.length_set]; omega)]
            rfl
        · rw [List.getElem?_set_ne e2]; exact ho.2.1
      · rcases List.mem_or_eq_of_mem_set hm with hm | hm
        · exact ho.2.2 m hm
        · subst hm
          simp only [okMin, Bool.and_eq_true, decide_eq_true_eq]
          by_cases hq : k < T.empty[a].length
          · have := hr.2 _ (List.getElem_mem hq)
            have hv : T.empty[a][k]?.getD 0 = T.empty[a][k] := by simp [hq]
            rw [hv]
            omega
          · rw [List.getElem?_eq_none (by omega)]
            simp only [Option.getD_none]
            omega
    · rw [List.getElem?_set_ne e]; exact ho
  trips := hT.trips

end Go.Proofs.Ytnbkclhjpekkcaa

/-
  What RunEasier answers.
-/
namespace Go.Proofs.Ytnbkclhjpekkcaa
open Go Go.Ab

theorem aval_maxC {t : Nat → Value} {H : Heap} {N y : Nat} {k : IntKind} {m n : Int} {d : Option Tmp} {T U ty : TypeId} {pos : String} {af : Array Edge} {g : Option (Nat × Bool)} (hy : t y = .int k n) (h2 : y < N) :
    aval Try.prog t H (.gen N ⟨d, .call ⟨.builtin .max, #[.const (.int k m), .tmp y], #[T, U]⟩, ty, pos, af, g⟩) = some (.int k (max m n)) := by
  refine aval_gen ?_ rfl fun w => ?_
  · simp [Op.operands, Call.operands, flatO, hy, h2, flat, flat1]
  · simp [execOp, resolve, invoke, builtin, Builtin.max_, Builtin.max2, evO, hy]
    split <;> omega

theorem most_wr {xs : List Tr} {i : Nat} (hi : i < xs.length) (v : Int) : wrL (xs.flatMap Tr.cells) (i * 6 + 4) [.int .i64 v] = (xs.set i { xs[i] with most := v }).flatMap Tr.cells := by
  have hs : xs = xs.take i ++ xs[i] :: xs.drop (i + 1) := by rw [← List.drop_eq_getElem_cons hi, List.take_append_drop]
  have hset : xs.set i { xs[i] with most := v } = xs.take i ++ { xs[i] with most := v } :: xs.drop (i + 1) := by
    rw [List.set_eq_take_append_cons_drop, if_pos hi]
  have hl : ((xs.take i).flatMap Tr.cells).length = i * 6 := by rw [trips_cells]; simp; omega
  rw [hset]
  conv => lhs; rw [hs]
  rw [List.flatMap_append, List.flatMap_append, List.flatMap_cons, List.flatMap_cons]
  generalize (xs.take i).flatMap Tr.cells = A at hl
  have h1 : A.take (i * 6 + 4) = A := List.take_of_length_le (by omega)
  have h2 : A.drop (i * 6 + 5) = [] := List.drop_of_length_le (by omega)
  have e1 : i * 6 + 4 - i * 6 = 4 := by omega
  have e2 : i * 6 + 5 - i * 6 = 5 := by omega
  have e3 : i * 6 + 4 + [Value.int .i64 v].length = i * 6 + 5 := rfl
  simp only [wrL, Tr.cells]
  rw [e3, List.take_append, List.drop_append, h1, h2, hl, e1, e2]
  simp

theorem aval_nilcP {t : Nat → Value} {H : Heap} {x : Opd} {a : Addr} (h : x.ev t = .pointer (some a)) : aval Try.prog t H (.nilc x) = some (.pointer (some a)) := by
  simp only [aval, h]

set_option maxHeartbeats 4000000 in
theorem runEasier_of {e s : Value} {T : Tab} {wh at_ to_ by_ : Int} {H : Heap} (h : TabAt H e s T) (h1 : 0 ≤ wh ∧ wh < 256) (h2 : 0 ≤ at_ ∧ at_ < 256) (h3 : 0 ≤ to_ ∧ to_ < 256) (h4 : 0 ≤ by_ ∧ by_ < 65536) :
    AFun Try.prog 11 [tabV T e s, .int .u8 wh, .int .u8 at_, .int .u8 to_, .int .u16 by_] H (fun v B => v = .bool true ∧ Ge H B) := by
  refine AFun.mk ok11 hm (Nat.le_of_ble_eq_true rfl) ?_
  have g0 : Ge H (H.new (.cells true [.int .i64 T.places, .int .i64 T.layover, e, s] 4)) := Ge.new _ _
  have he := h.empty.one
  have hs := h.trips.one
  simp [a11, r11]
  refine fcall_fun (readyS_spec (h.ge g0)) ?_
  rintro _ H1 ⟨rfl, g1⟩
  have G1 := g0.trans g1
  have n1 := g1.next
  simp at n1
  have b1 := g1.got (n := H.next) (by simp) rfl
  simp at b1
  cases hrd : readyT T
  · simp
    refine fcall_fun (awake_spec _) ?_
    rintro _ B ⟨rfl, gB⟩
    simp
    exact G1.trans gB
  have hrd2 : thin T = true ∧ checkT T = 0 := by simpa [readyT] using hrd
  obtain ⟨hth, hc⟩ := hrd2
  have hT := checkT_zero.1 hc
  have hfew := hT.few
  have hth2 := hth
  simp [thin] at hth2
  obtain ⟨⟨th1, th2⟩, th3⟩ := hth2
  have q0 : H.next ≠ H1.next := by omega
  have q4 : H.next ≠ H1.next + 4 := by omega
  simp [b1, he, hs, q0, q4]
  generalize hA0 : Heap.set _ (H1.next + 4) _ = A0
  have nA0 : A0.next = H1.next + 12 := by rw [← hA0]; rfl
  have a4 : A0.get (H1.next + 4) = .cells true [] 0 := by rw [← hA0]; simp
  have a0 : A0.get H1.next = .cells true [.int .i64 T.places, .int .i64 T.layover, e, s] 4 := by rw [← hA0]; simp
  have aT : A0.get H.next = .cells true [.int .i64 T.places, .int .i64 T.layover, e, s] 4 := by rw [← hA0]; simp [q0, q4, b1]
  have gA0 : Ge H1 A0 := by
    rw [← hA0]
    exact Ge.setNew (Ge.grow_le (by omega) (Ge.setNew (Ge.new _ _) (Nat.le_refl _) _)) (by omega) _
  clear hA0
  refine fcall_fun (rowsD_spec (h.empty.ge (G1.trans gA0)) (by omega) (fun l hl => by have := th2 l hl; omega)) ?_
  rintro r B ⟨hr, gB⟩
  have nB := gB.next
  have B4 := gB.got (by omega) a4
  have B0 := gB.got (by omega) a0
  have BT := gB.got (by omega) aT
  have GB := (G1.trans gA0).trans gB
  have or : one r = true := by obtain ⟨vs, o1, _⟩ := hr.ex; exact o1.one
  have oor := one_cells or
  simp [BT, hs]
  refine fapp_clone (m := H1.next + 4) (xs := T.trips) B4 (h.trips.ge GB) (by omega) (by omega) fun cap C hcap hC7 hCn hCk => ?_
  have C0 : C.get H1.next = .cells true [.int .i64 T.places, .int .i64 T.layover, e, s] 4 := by rw [hCk _ (by omega) (by omega), B0]
  have wb := wrap_i64 (n := by_) (by omega) (by omega)
  have wa := wrap_i64 (n := at_) (by omega) (by omega)
  have wt := wrap_i64 (n := to_) (by omega) (by omega)
  have mb : by_.tmod 60 = by_ % 60 := Int.tmod_eq_emod_of_nonneg h4.1
  have mw : wh.tmod 3 = wh % 3 := Int.tmod_eq_emod_of_nonneg h1.1
  have hn : 0 ≤ by_ % 60 ∧ by_ % 60 < 60 := by omega
  have hsz := hT.size
  simp [C0, or, oor, wb, mb, mw, binI_rem]
  rcases (by omega : wh % 3 = 0 ∨ wh % 3 = 1 ∨ wh % 3 = 2) with hw | hw | hw
  case' true.inr.inl =>
    have CT : C.get H.next = .cells true [.int .i64 T.places, .int .i64 T.layover, e, s] 4 := by rw [hCk _ (by omega) (by omega), BT]
    have hp0 : T.places ≠ 0 := by omega
    have ma : at_.tmod T.places = at_ % T.places := Int.tmod_eq_emod_of_nonneg h2.1
    have mt : to_.tmod T.places = to_ % T.places := Int.tmod_eq_emod_of_nonneg h3.1
    have ba := Int.emod_nonneg at_ hp0
    have ba2 := Int.emod_lt_of_pos at_ (b := T.places) (by omega)
    have bt := Int.emod_nonneg to_ hp0
    have bt2 := Int.emod_lt_of_pos to_ (b := T.places) (by omega)
    have ha : (at_ % T.places).toNat < T.empty.length := by omega
    have hrow := hT.row ha
    have ht : (to_ % T.places).toNat < T.empty[(at_ % T.places).toNat].length := by omega
    have hmin := hrow.2 _ (List.getElem_mem ht)
    obtain ⟨vs, o1, o2, o3, o4⟩ := hr.ex
    rcases o1 with ⟨_, hnil⟩ | ⟨qr, capr, cr, hrq, r1, r2, r3, r4, r5⟩
    · rw [hnil] at o2; simp at o2; omega
    obtain ⟨u, u1, u2, u3⟩ := o3 _ ha
    rcases u2 with ⟨_, hz⟩ | ⟨qu, capu, cu, huq, s1, s2, s3, s4, s5⟩
    · have : T.empty[(at_ % T.places).toNat].length = 0 := by have := congrArg List.length hz; simpa using this
      omega
    have hqq : qu ≠ qr := fun e => by have := (u3 qu (by rw [huq]; rfl)).1; rw [hrq] at this; simp [slName] at this; omega
    have Cr : C.get qr = .cells true vs cr := by rw [hCk _ (by omega) (by omega)]; exact r3
    have Cu : C.get qu = .cells true (T.empty[(at_ % T.places).toNat].map (.int .i64)) cu := by rw [hCk _ (by omega) (by omega)]; exact s3
    have x1 : islV 1 r (.int .i64 (at_ % T.places)) = some (.pointer (some ⟨qr, (at_ % T.places).toNat, none⟩)) := by
      rw [hrq, islV_in (by omega) (by omega)]; simp
    have x2 : islV 1 u (.int .i64 (to_ % T.places)) = some (.pointer (some ⟨qu, (to_ % T.places).toNat, none⟩)) := by
      rw [huq, islV_in (by omega) (by simp; omega)]; simp
    have n1r : qr ≠ H1.next := by omega
    have n1u : qu ≠ H1.next := by omega
    have hat : (T.empty[(at_ % T.places).toNat].map (Value.int .i64))[(to_ % T.places).toNat]? = some (.int .i64 T.empty[(at_ % T.places).toNat][(to_ % T.places).toNat]) := by simp [ht]
    generalize hcs : T.empty[(at_ % T.places).toNat].map (Value.int .i64) = cs at Cu hat
    simp [hw, q0, CT, wa, wt, binI_rem, hp0, ma, mt, x1, Cr, n1r, u1, x2, Cu, n1u, hat, sub_in (x := T.empty[(at_ % T.places).toNat][(to_ % T.places).toNat]) (y := by_ % 60) (by omega) (by omega)]
    rw [aval_maxC (k := .i64) (m := 0) (n := T.empty[(at_ % T.places).toNat][(to_ % T.places).toNat] - by_ % 60) (by simp) (by decide)]
    have hcl : (to_ % T.places).toNat + 1 ≤ cs.length := by rw [← hcs]; simp; omega
    have hwr : wrL cs (to_ % T.places).toNat [.int .i64 (max 0 (T.empty[(at_ % T.places).toNat][(to_ % T.places).toNat] - by_ % 60))] = ((T.empty[(at_ % T.places).toNat]).set (to_ % T.places).toNat (max 0 (T.empty[(at_ % T.places).toNat][(to_ % T.places).toNat] - by_ % 60))).map (.int .i64) := by
      rw [wr_one (by omega), ← hcs, List.map_set]
    have nTu : H.next ≠ qu := by omega
    have n1u' : H1.next ≠ qu := by omega
    generalize hnew : ((T.empty[(at_ % T.places).toNat]).set (to_ % T.places).toNat (max 0 (T.empty[(at_ % T.places).toNat][(to_ % T.places).toNat] - by_ % 60))) = nrow at hwr
    simp [x2, Cu, n1u, hcl, hwr, nTu, CT, q0]
    generalize hE : Heap.set _ qu _ = E
    have ET : E.get H.next = .cells true [.int .i64 T.places, .int .i64 T.layover, e, s] 4 := by rw [← hE]; simp [q0, CT, nTu]
    have EX : E.get H1.next = .cells true [.int .i64 (easeRow T (at_ % T.places).toNat (to_ % T.places).toNat (by_ % 60)).places, .int .i64 (easeRow T (at_ % T.places).toNat (to_ % T.places).toNat (by_ % 60)).layover, r, .slice (some ⟨H1.next + 7, 0, none⟩) T.trips.length cap] 4 := by rw [← hE]; simp [n1u']; exact ⟨rfl, rfl⟩
    have nE : E.next = C.next + 10 := by rw [← hE]; rfl
    have gE : Ge H E := by
      refine ⟨by have := GB.next; omega, fun p hp => ?_⟩
      have e0 : p ≠ H1.next := by omega
      have e1 : p ≠ qu := by omega
      rw [← hE]
      simp [e0, e1]
      rw [hCk p (by omega) (by omega), GB.get p hp]
    have tX : TabAt E r (.slice (some ⟨H1.next + 7, 0, none⟩) T.trips.length cap) (easeRow T (at_ % T.places).toNat (to_ % T.places).toNat (by_ % 60)) := by
      have hkeep : ∀ p, p ≠ H1.next → p ≠ H1.next + 7 → p ≠ H1.next + 4 → p ≠ qu → E.get p = B.get p := fun p k1 k2 k3 k4 => by
        rw [← hE]; simp [k1, k4]; exact hCk p k2 k3
      have Eu : E.get qu = .cells true (nrow.map (.int .i64)) cu := by rw [← hE]; simp
      have hem : (easeRow T (at_ % T.places).toNat (to_ % T.places).toNat (by_ % 60)).empty = T.empty.set (at_ % T.places).toNat nrow := by
        rw [← hnew]; simp [easeRow, ha, ht]
      have hnl : nrow.length = T.empty[(at_ % T.places).toNat].length := by rw [← hnew]; simp
      have hlr : ∀ l ∈ T.empty.set (at_ % T.places).toNat nrow, l.length < 2 ^ 63 := fun l hl => by
        rcases List.mem_or_eq_of_mem_set hl with hl | hl
        · have := th2 l hl; omega
        · rw [hl, hnl]; omega
      have hO : RowsO E A0.next r (T.empty.set (at_ % T.places).toNat nrow) := by
        refine ⟨⟨vs, .inr ⟨qr, capr, cr, hrq, r1, by omega, (hkeep qr n1r (by omega) (by omega) (Ne.symm hqq)).trans r3, r4, r5⟩, by simp [o2], fun k hk => ?_⟩, hlr⟩
        have hk' : k < T.empty.length := by simpa using hk
        by_cases e : (at_ % T.places).toNat = k
        · subst e
          refine ⟨u, u1, .inr ⟨qu, capu, cu, by rw [huq]; simp [hnl], s1, by omega, ?_, ?_, s5⟩, fun m hm => (u3 m hm).1⟩
          · simp [Eu]
          · simp at s4 ⊢; omega
        · obtain ⟨w, w1, w2, w3⟩ := o3 k hk'
          refine ⟨w, w1, ?_, fun m hm => (w3 m hm).1⟩
          rw [List.getElem_set_ne e]
          refine w2.keep (by omega) fun m hm => hkeep m ?_ ?_ ?_ ?_
          · have := (w2.names hm).1; omega
          · have := (w2.names hm).1; omega
          · have := (w2.names hm).1; omega
          · intro em
            exact o4 k _ w u m w1 u1 (Ne.symm e) hm (by rw [huq, em]; rfl)
      refine ⟨by rw [hem]; exact hO.rows (by simp; omega), ⟨⟨?_, ?_⟩, by show T.trips.length < 2 ^ 63; omega⟩⟩
      · have hl := trips_cells T.trips
        have n7u : H1.next + 7 ≠ qu := by omega
        have e7 : E.get (H1.next + 7) = .cells true (T.trips.flatMap Tr.cells) (cap * 6) := by rw [← hE]; simp [n7u]; exact hC7
        show slCells E 6 _ = some (T.trips.length, T.trips.flatMap Tr.cells)
        generalize T.trips.flatMap Tr.cells = cs at e7 hl
        simp [slCells, e7, rdL, hl]
        rw [List.take_of_length_le (by omega)]
      · intro a n c' e'; simp at e'; rw [← e'.1]; simp; omega
    have hE1 := easeRow_eas hT (k := (to_ % T.places).toNat) (n := by_ % 60) hn.1 ha
    have hX := easeRow_valid hT (k := (to_ % T.places).toNat) (n := by_ % 60) hn.1 ha
    clear hE
    have hthX : thin (easeRow T (at_ % T.places).toNat (to_ % T.places).toNat (by_ % 60)) = true := by
      have hem : (easeRow T (at_ % T.places).toNat (to_ % T.places).toNat (by_ % 60)).empty = T.empty.set (at_ % T.places).toNat nrow := by
        rw [← hnew]; simp [easeRow, ha, ht]
      have hnl : nrow.length = T.empty[(at_ % T.places).toNat].length := by rw [← hnew]; simp
      have htr : (easeRow T (at_ % T.places).toNat (to_ % T.places).toNat (by_ % 60)).trips = T.trips := rfl
      simp only [thin, hem, htr, Bool.and_eq_true, List.all_eq_true, decide_eq_true_eq, List.length_set]
      refine ⟨⟨th1, fun l hl => ?_⟩, th3⟩
      rcases List.mem_or_eq_of_mem_set hl with hl | hl
      · exact th2 l hl
      · rw [hl, hnl]; exact th2 _ (List.getElem_mem ha)
    generalize easeRow T (at_ % T.places).toNat (to_ % T.places).toNat (by_ % 60) = X at EX tX hE1 hX hthX
    generalize Value.slice (some { block := H1.next + 7, off := 0 }) T.trips.length cap = sx at EX tX
    have hEn : H1.next < E.next := by omega
  case' true.inr.inr =>
    have CT : C.get H.next = .cells true [.int .i64 T.places, .int .i64 T.layover, e, s] 4 := by rw [hCk _ (by omega) (by omega), BT]
    have n7 : H1.next + 7 ≠ H1.next := by omega
    have nT7 : H.next ≠ H1.next + 7 := by omega
    simp [hw, q0, CT, wa]
    by_cases hl0 : 0 < T.trips.length
    case' pos =>
      have hl0' : (T.trips.length : Int) ≠ 0 := by omega
      have ma : at_.tmod T.trips.length = at_ % T.trips.length := Int.tmod_eq_emod_of_nonneg h2.1
      have ba := Int.emod_nonneg at_ hl0'
      have ba2 := Int.emod_lt_of_pos at_ (b := (T.trips.length : Int)) (by omega)
      have ha : (at_ % T.trips.length).toNat < T.trips.length := by omega
      have htr := hT.trip (List.getElem_mem ha)
      have x1 : islV 6 (.slice (some ⟨H1.next + 7, 0, none⟩) T.trips.length cap) (.int .i64 (at_ % T.trips.length)) = some (.pointer (some ⟨H1.next + 7, (at_ % T.trips.length).toNat * 6, none⟩)) := by
        rw [islV_in (by omega) (by omega)]; simp
      have hrem : binI .rem (.int .i64 at_) (.int .i64 T.trips.length) = some (.int .i64 (at_ % T.trips.length)) := by rw [binI_rem hl0', ma]
      have hat : ∀ f, f < 6 → (T.trips.flatMap Tr.cells)[(at_ % T.trips.length).toNat * 6 + f]? = T.trips[(at_ % T.trips.length).toNat].cells[f]? := fun f hf => by
        have := flatMap_at (f := Tr.cells) (k := 6) (fun _ => rfl) T.trips _ ha
        rw [← this, List.getElem?_take_of_lt hf, List.getElem?_drop]
      have hat3 := hat 3 (by omega)
      have hat4 := hat 4 (by omega)
      simp [Tr.cells] at hat3 hat4
      have hl6 := trips_cells T.trips
      simp [hl0, hw, q0, CT, wa, hrem, x1]
      rw [aval_nilcP (a := ⟨H1.next + 7, (at_ % T.trips.length).toNat * 6, none⟩) (by simp)]
      simp [n7, hC7, hat3]
      rw [aval_nilcP (a := ⟨H1.next + 7, (at_ % T.trips.length).toNat * 6, none⟩) (by simp)]
      simp [n7, hC7, hat4, sub_in (x := T.trips[(at_ % T.trips.length).toNat].most) (y := by_ % 60) (by omega) (by omega)]
      rw [aval_max (k := .i64) (m := T.trips[(at_ % T.trips.length).toNat].least) (n := T.trips[(at_ % T.trips.length).toNat].most - by_ % 60) (by simp) (by simp) (by decide) (by decide)]
      simp
      rw [aval_nilcP (a := ⟨H1.next + 7, (at_ % T.trips.length).toNat * 6, none⟩) (by simp)]
      have hwr := most_wr ha (max T.trips[(at_ % T.trips.length).toNat].least (T.trips[(at_ % T.trips.length).toNat].most - by_ % 60))
      have hle : (at_ % T.trips.length).toNat * 6 + 4 + 1 ≤ (T.trips.flatMap Tr.cells).length := by omega
      have hXt : (easeTrip T (at_ % T.trips.length).toNat (by_ % 60)).trips = T.trips.set (at_ % T.trips.length).toNat { T.trips[(at_ % T.trips.length).toNat] with most := max T.trips[(at_ % T.trips.length).toNat].least (T.trips[(at_ % T.trips.length).toNat].most - by_ % 60) } := by
        simp [easeTrip, ha]
      rw [← hXt] at hwr
      have hxl := trips_cells (easeTrip T (at_ % T.trips.length).toNat (by_ % 60)).trips
      have hxn : (easeTrip T (at_ % T.trips.length).toNat (by_ % 60)).trips.length = T.trips.length := by simp [easeTrip]
      generalize hdc : T.trips.flatMap Tr.cells = dc at hC7 hwr hle
      generalize hoc : (easeTrip T (at_ % T.trips.length).toNat (by_ % 60)).trips.flatMap Tr.cells = oc at hwr hxl
      simp [n7, hC7, hle, hwr, q0, CT, nT7]
      generalize hE : Heap.set _ (H1.next + 7) _ = E
      have ET : E.get H.next = .cells true [.int .i64 T.places, .int .i64 T.layover, e, s] 4 := by rw [← hE]; simp [q0, CT, nT7]
      have EX : E.get H1.next = .cells true [.int .i64 (easeTrip T (at_ % T.trips.length).toNat (by_ % 60)).places, .int .i64 (easeTrip T (at_ % T.trips.length).toNat (by_ % 60)).layover, r, .slice (some ⟨H1.next + 7, 0, none⟩) T.trips.length cap] 4 := by rw [← hE]; simp; exact ⟨rfl, rfl⟩
      have nE : E.next = C.next + 25 := by rw [← hE]; rfl
      have gE : Ge H E := by
        refine ⟨by have := GB.next; omega, fun q hq => ?_⟩
        have e0 : q ≠ H1.next := by omega
        have e7 : q ≠ H1.next + 7 := by omega
        rw [← hE]
        simp [e0, e7]
        rw [hCk q (by omega) (by omega), GB.get q hq]
      have hkeep : ∀ q, q ≠ H1.next → q ≠ H1.next + 7 → q ≠ H1.next + 4 → E.get q = B.get q := fun q k1 k2 k3 => by
        rw [← hE]; simp [k1, k2]; exact hCk q k2 k3
      have tX : TabAt E r (.slice (some ⟨H1.next + 7, 0, none⟩) T.trips.length cap) (easeTrip T (at_ % T.trips.length).toNat (by_ % 60)) := by
        refine ⟨(hr.rowsO.keep (by omega) fun q k1 k2 => hkeep q (by omega) (by omega) (by omega)).rows (by show T.empty.length < 2 ^ 63; omega), ⟨⟨?_, ?_⟩, by omega⟩⟩
        · have e7 : E.get (H1.next + 7) = .cells true oc (cap * 6) := by rw [← hE]; simp
          rw [hxn, hoc]
          rw [hxn] at hxl
          simp [slCells, e7, rdL, hxl]
          rw [List.take_of_length_le (by omega)]
        · intro a n c' e'; simp at e'; rw [← e'.1]; simp; omega
      have hE1 := easeTrip_eas hT (i := (at_ % T.trips.length).toNat) (n := by_ % 60) hn.1
      have hX := easeTrip_valid hT (n := by_ % 60) hn.1 ha
      clear hE
      have hthX : thin (easeTrip T (at_ % T.trips.length).toNat (by_ % 60)) = true := by
        have hem : (easeTrip T (at_ % T.trips.length).toNat (by_ % 60)).empty = T.empty := rfl
        simp only [thin, hem, hxn]; exact hth
      clear hXt hxl hxn hoc hwr
      generalize easeTrip T (at_ % T.trips.length).toNat (by_ % 60) = X at EX tX hE1 hX hthX
      generalize Value.slice (some { block := H1.next + 7, off := 0 }) T.trips.length cap = sx at EX tX
      have hEn : H1.next < E.next := by omega
    case' neg =>
      simp [hl0, q0, CT]
      generalize hE : Heap.set _ H1.next (AObj.cells true [Value.int .i64 T.places, Value.int .i64 T.layover, r, .slice (some ⟨H1.next + 7, 0, none⟩) T.trips.length cap] 4) = E
      have ET : E.get H.next = .cells true [.int .i64 T.places, .int .i64 T.layover, e, s] 4 := by rw [← hE]; simp [q0, CT]
      have EX : E.get H1.next = .cells true [.int .i64 T.places, .int .i64 T.layover, r, .slice (some ⟨H1.next + 7, 0, none⟩) T.trips.length cap] 4 := by rw [← hE]; simp
      have nE : E.next = C.next := by rw [← hE]; rfl
      have gE : Ge H E := by
        refine ⟨by have := GB.next; omega, fun q hq => ?_⟩
        have e0 : q ≠ H1.next := by omega
        rw [← hE]
        simp [e0]
        rw [hCk q (by omega) (by omega), GB.get q hq]
      have hkeep : ∀ q, q ≠ H1.next → q ≠ H1.next + 7 → q ≠ H1.next + 4 → E.get q = B.get q := fun q k1 k2 k3 => by
        rw [← hE]; simp [k1]; exact hCk q k2 k3
      have tX : TabAt E r (.slice (some ⟨H1.next + 7, 0, none⟩) T.trips.length cap) T := by
        refine ⟨(hr.rowsO.keep (by omega) fun q k1 k2 => hkeep q (by omega) (by omega) (by omega)).rows (by omega), ⟨⟨?_, ?_⟩, by omega⟩⟩
        · have hl := trips_cells T.trips
          have e7 : E.get (H1.next + 7) = .cells true (T.trips.flatMap Tr.cells) (cap * 6) := by rw [← hE]; simp; exact hC7
          generalize T.trips.flatMap Tr.cells = cs at e7 hl
          simp [slCells, e7, rdL, hl]
          rw [List.take_of_length_le (by omega)]
        · intro a n c' e'; simp at e'; rw [← e'.1]; simp; omega
      have hE1 : Eas T T := ⟨rfl, fun i h => ⟨T.trips[i], by simp [h], rfl, rfl, rfl, rfl, rfl, Int.le_refl _⟩, Int.le_refl _, fun _ _ => Int.le_refl _⟩
      have hX := hT
      have hthX := hth
      clear hE
      have hX0 : ∃ X, X = T := ⟨T, rfl⟩
      obtain ⟨X, hX0⟩ := hX0
      have EX : E.get H1.next = .cells true [.int .i64 X.places, .int .i64 X.layover, r, .slice (some ⟨H1.next + 7, 0, none⟩) T.trips.length cap] 4 := by rw [hX0]; exact EX
      have tX : TabAt E r (.slice (some ⟨H1.next + 7, 0, none⟩) T.trips.length cap) X := by rw [hX0]; exact tX
      have hE1 : Eas T X := by rw [hX0]; exact hE1
      have hX : Valid X := by rw [hX0]; exact hX
      have hthX : thin X = true := by rw [hX0]; exact hthX
      clear hX0
      generalize Value.slice (some { block := H1.next + 7, off := 0 }) T.trips.length cap = sx at EX tX
      have hEn : H1.next < E.next := by omega
  case' true.inl =>
    simp [hw, sub_in (x := T.layover) (y := by_ % 60) (by omega) (by omega)]
    rw [aval_maxC (k := .i64) (m := 0) (n := T.layover - by_ % 60) (by simp) (by decide)]
    have CT : C.get H.next = .cells true [.int .i64 T.places, .int .i64 T.layover, e, s] 4 := by rw [hCk _ (by omega) (by omega), BT]
    simp [q0, CT]
    generalize hE : Heap.set _ H1.next (AObj.cells true [Value.int .i64 T.places, Value.int .i64 (max 0 (T.layover - by_ % 60)), r, .slice (some ⟨H1.next + 7, 0, none⟩) T.trips.length cap] 4) = E
    have ET : E.get H.next = .cells true [.int .i64 T.places, .int .i64 T.layover, e, s] 4 := by rw [← hE]; simp [q0, CT]
    have EX : E.get H1.next = .cells true [.int .i64 (easeLay T (by_ % 60)).places, .int .i64 (easeLay T (by_ % 60)).layover, r, .slice (some ⟨H1.next + 7, 0, none⟩) T.trips.length cap] 4 := by rw [← hE]; simp; exact ⟨rfl, rfl⟩
    have nE : E.next = C.next := by rw [← hE]; rfl
    have gE : Ge H E := by
      refine ⟨by have := GB.next; omega, fun q hq => ?_⟩
      have e0 : q ≠ H1.next := by omega
      rw [← hE]
      simp [e0]
      rw [hCk q (by omega) (by omega), GB.get q hq]
    have tX : TabAt E r (.slice (some ⟨H1.next + 7, 0, none⟩) T.trips.length cap) (easeLay T (by_ % 60)) := by
      have hkeep : ∀ q, q ≠ H1.next → q ≠ H1.next + 7 → q ≠ H1.next + 4 → E.get q = B.get q := fun q k1 k2 k3 => by
        rw [← hE]; simp [k1]; exact hCk q k2 k3
      refine ⟨(hr.rowsO.keep (by omega) fun q k1 k2 => hkeep q (by omega) (by omega) (by omega)).rows (by show T.empty.length < 2 ^ 63; omega), ⟨⟨?_, ?_⟩, by show T.trips.length < 2 ^ 63; omega⟩⟩
      · have hl := trips_cells T.trips
        have e7 : E.get (H1.next + 7) = .cells true (T.trips.flatMap Tr.cells) (cap * 6) := by rw [← hE]; simp; exact hC7
        show slCells E 6 _ = some (T.trips.length, T.trips.flatMap Tr.cells)
        generalize T.trips.flatMap Tr.cells = cs at e7 hl
        simp [slCells, e7, rdL, hl]
        rw [List.take_of_length_le (by omega)]
      · intro a n c' e'; simp at e'; rw [← e'.1]; simp; omega
    have hE1 := easeLay_eas hT (n := by_ % 60) hn.1
    have hX := easeLay_valid hT (n := by_ % 60) hn.1
    clear hE
    have hthX : thin (easeLay T (by_ % 60)) = true := hth
    have hvX : ∀ s', tabV (easeLay T (by_ % 60)) r s' = .agg #[.int .i64 (easeLay T (by_ % 60)).places, .int .i64 (easeLay T (by_ % 60)).layover, r, s'] := fun _ => rfl
    generalize easeLay T (by_ % 60) = X at EX tX hE1 hX hthX hvX
    generalize Value.slice (some { block := H1.next + 7, off := 0 }) T.trips.length cap = sx at EX tX
    have hEn : H1.next < E.next := by omega
  all_goals
    have hcX := checkT_zero.2 hX
    have hnX := hE1.len
    have hmX := eas_may hT hE1
    refine fcall_fun (table_spec (h.ge gE) hth) ?_
    rintro _ B2 ⟨⟨e2, s2, rfl, u2⟩, gB2⟩
    simp
    refine fcall_fun (follows_spec u2) ?_
    rintro _ B3 ⟨gB3, _, hfl⟩
    obtain ⟨fv, rfl, hfv⟩ := hfl hc
    have y3 := gB2.trans gB3
    have x3 := y3.got hEn EX
    simp [x3]
    refine fcall_fun (table_spec (tX.ge y3) hthX) ?_
    rintro _ B4 ⟨⟨e4, s4, rfl, u4⟩, gB4⟩
    simp
    refine fcall_fun (follows_spec u4) ?_
    rintro _ B5 ⟨gB5, _, hfl⟩
    obtain ⟨gv, rfl, hgv⟩ := hfl hcX
    have y5 := (y3.trans gB4).trans gB5
    have t5 := y5.got (by omega) ET
    simp [t5]
    refine fcall_fun (table_spec (h.ge (gE.trans y5)) hth) ?_
    rintro _ B6 ⟨⟨e6, s6, rfl, u6⟩, gB6⟩
    simp
    refine fcall_fun (cut_spec u6) ?_
    rintro _ B7 ⟨gB7, _, hfl⟩
    obtain ⟨cv, rfl, hcv⟩ := hfl hc
    have y7 := (y5.trans gB6).trans gB7
    have x7 := y7.got hEn EX
    simp [x7]
    refine fcall_fun (table_spec (tX.ge y7) hthX) ?_
    rintro _ B8 ⟨⟨e8, s8, rfl, u8⟩, gB8⟩
    simp
    refine fcall_fun (cut_spec u8) ?_
    rintro _ B9 ⟨gB9, _, hfl⟩
    obtain ⟨dv, rfl, hdv⟩ := hfl hcX
    have y9 := (y7.trans gB8).trans gB9
    have t9 := y9.got (by omega) ET
    have hcl := easier_cut hnX hmX hT hX
    have hcl' : ¬ ((cutL T).length : Int) < (cutL X).length := by omega
    have l1 : T.followers.length = T.trips.length := by simp [Tab.followers]
    have l2 : X.followers.length = T.trips.length := by simp [Tab.followers, hnX]
    simp [t9, hfv.lenV, hgv.lenV, hcv.lenV, hdv.lenV, h.trips.lenV, l1, l2, hcl']
    have hfv9 := ((((((hfv.ge gB4).ge gB5).ge gB6).ge gB7).ge gB8).ge gB9)
    have hgv9 := ((((hgv.ge gB6).ge gB7).ge gB8).ge gB9)
    have GB9 := gE.trans y9
    refine floop_intro (fun z => z.d = [] ∧ Ge B9 z.H ∧ z.t 16 = fv ∧ z.t 18 = gv ∧ ∃ k : Nat, k ≤ T.trips.length ∧ z.t 24 = .int .i64 k) (fun z => T.trips.length - (intOf (z.t 24)).toNat) ?_ ?_
    · exact ⟨rfl, by simp, by simp, by simp, 0, by simp, by simp⟩
    rintro ⟨t, _, D⟩ ⟨rfl, gD, w16, w18, k, hk, w24⟩
    dsimp only at gD w16 w18 w24
    simp [w16, w24, hfv.lenV, l1]
    refine fcond_intro (fun hck => ?_) (fun hck => ?_)
    · have hk' : k < T.trips.length := by simpa using hck
      have hkf : k < T.followers.length := by omega
      have hkg : k < X.followers.length := by omega
      have hsub : ∀ x ∈ T.followers[k], x ∈ X.followers[k] := fun x hx => by
        have := easier_foll hnX hmX (k := k) (x := x) (by simpa [hkf] using hx)
        simpa [hkg] using this
      simp
      refine floop_intro (fun z => z.d = [] ∧ Ge B9 z.H ∧ z.t 16 = fv ∧ z.t 18 = gv ∧ z.t 24 = .int .i64 k ∧ ∃ m : Nat, m ≤ T.followers[k].length ∧ z.t 25 = .int .i64 m) (fun z => T.followers[k].length - (intOf (z.t 25)).toNat) ?_ ?_
      · exact ⟨rfl, gD, by simp [w16], by simp [w18], by simp [w24], 0, by simp, by simp⟩
      rintro ⟨u, _, F⟩ ⟨rfl, gF, z16, z18, z24, m, hm', z25⟩
      dsimp only at gF z16 z18 z24 z25
      obtain ⟨p1, u1, i1, i2, i3⟩ := hfv9.atGe gF hkf
      have f63 := i3.2
      simp [z16, z24, z25, i1, i2, i3.lenV]
      refine fcond_intro (fun hcm => ?_) (fun hcm => ?_)
      · have hm2 : m < T.followers[k].length := by simpa using hcm
        simp
        refine floop_intro (fun z => z.d = [] ∧ Ge B9 z.H ∧ z.t 16 = fv ∧ z.t 18 = gv ∧ z.t 24 = .int .i64 k ∧ z.t 25 = .int .i64 m ∧ ∃ q : Nat, q ≤ X.followers[k].length ∧ z.t 27 = .int .i64 q ∧ z.t 26 = .bool (decide (T.followers[k][m] ∈ X.followers[k].take q))) (fun z => X.followers[k].length - (intOf (z.t 27)).toNat) ?_ ?_
        · exact ⟨rfl, gF, by simp [z16], by simp [z18], by simp [z24], by simp [z25], 0, by simp, by simp, by simp⟩
        rintro ⟨v, _, K⟩ ⟨rfl, gK, v16, v18, v24, v25, q, hq, v27, v26⟩
        dsimp only at gK v16 v18 v24 v25 v27 v26
        obtain ⟨p2, u2', i4, i5, i6⟩ := hgv9.atGe gK hkg
        have g63 := i6.2
        simp [v18, v24, v27, i4, i5, i6.lenV]
        refine fcond_intro (fun hcq => ?_) (fun hcq => ?_)
        · have hq2 : q < X.followers[k].length := by simpa using hcq
          obtain ⟨p3, u3, j1, j2, j3⟩ := hfv9.atGe (gK.grow 19) hkf
          obtain ⟨p4, u4', j4, j5, j6⟩ := hgv9.atGe (gK.grow 19) hkg
          obtain ⟨r1, j7, j8⟩ := (j3.ge (gK.grow 19)).at hm2
          obtain ⟨r2, j9, j10⟩ := (j6.ge (gK.grow 19)).at hq2
          have hmem : decide (T.followers[k][m] ∈ X.followers[k].take (q + 1)) = (decide (T.followers[k][m] ∈ X.followers[k].take q) || decide (X.followers[k][q] = T.followers[k][m])) := by
            rw [List.take_succ_eq_append_getElem hq2]
            simp only [List.mem_append, List.mem_singleton, Bool.decide_or]
            congr 1
            simp [eq_comm]
          generalize decide (T.followers[k][m] ∈ X.followers[k].take q) = bq at v26 hmem
          cases bq
          · simp [v16, v18, v24, v25, v26, v27, j1, j2, j4, j5, j7, j8, j9, j10, add_in (x := q) (y := 1) (by omega) (by omega)]
            simp only [Bool.false_or, decide_eq_decide] at hmem
            exact ⟨⟨gK.grow 19, q + 1, by omega, by omega, hmem.symm⟩, by omega⟩
          · simp [v26, v27, add_in (x := q) (y := 1) (by omega) (by omega)]
            simp only [Bool.true_or, decide_eq_true_eq] at hmem
            exact ⟨⟨gK.grow 19, v16, v18, v24, v25, q + 1, by omega, by omega, hmem⟩, by omega⟩
        · have hq2 : q = X.followers[k].length := by simp at hcq; omega
          subst hq2
          rw [List.take_length, decide_eq_true (hsub _ (List.getElem_mem hm2))] at v26
          simp [v26, v25, add_in (x := m) (y := 1) (by omega) (by omega)]
          exact ⟨⟨gK, v16, v18, v24, m + 1, by omega, by omega⟩, by first | omega | (simp [z25]; omega)⟩
      · simp [z24, add_in (x := k) (y := 1) (by omega) (by omega)]
        exact ⟨⟨gF, z16, z18, k + 1, by omega, by omega⟩, by first | omega | (simp [w24]; omega)⟩
    · simp
      refine fcall_fun (awake_spec _) ?_
      rintro _ L ⟨rfl, gL⟩
      simp
      exact (GB9.trans gD).trans gL

end Go.Proofs.Ytnbkclhjpekkcaa
