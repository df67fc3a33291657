/-
  Joined texts of a calculus of abstract memory, of the program's code in it, and of contracts.
-/
import Derived.Test.YtfijnkhiojejfaaJ10
import Derived.Test.YtfijnkhiojejfaaJ12
import Derived.Test.YtfijnkhiojejfaaJ13
import Derived.ProofKit
import Derived.Test.YtfijnkhiojejfaaRows
namespace Go.Proofs.Ytfijnkhiojejfaa
open Go Go.Ab

theorem awake_spec (A : Heap) : AFun Try.prog 17 [] A (fun r B => r = .bool true ∧ B = A) :=
  Entry.closed eAwake_ok rfl rfl rfl (fun g hg => absurd hg (Nat.not_lt_zero g))

end Go.Proofs.Ytfijnkhiojejfaa


namespace Go.Proofs.Ytfijnkhiojejfaa
open Go Go.Ab

theorem ints_cells {H : Heap} {v : Value} {xs : List Int} (h : IntsAt H v xs) : v.cells = #[v] := by
  rcases h.1.cases2 with ⟨rfl, _⟩ | ⟨a, cap, rfl⟩ <;> rfl

set_option maxHeartbeats 2000000 in
theorem morning62_spec {Y : Yd} {r b u : Value} {ls os : List Int} {d : Nat → Bool} {H : Heap} (h : YardAt H r b Y) (hu : IntsAt H u os) (h8 : Y.buses.length ≤ 8)
    (hls : ls.length = Y.buses.length) (ho : os.length = Y.buses.length) (hob : ∀ x ∈ os, isBusB Y x = true) (hn : os.Nodup) :
    AFun Try.prog 62 [nightV Y r b (standsOf ls os) d, u] H (fun v B => RowsAt B v (mornF (laneF ls) os [] (goL Y d)) ∧ Ge H B) := by
  refine AFun.mk ok62 hm (Nat.le_of_ble_eq_true rfl) ?_
  have huc := ints_cells hu
  simp [a62, r62, huc, nightC_rd]
  refine fcall_fun (goingOut_spec _ _) ?_
  rintro _ _ ⟨rfl, rfl⟩
  simp
  refine frange_intro ?_
  have hZ : dnC (fun _ => false) = [Value.bool false, .bool false, .bool false, .bool false, .bool false, .bool false, .bool false, .bool false] := rfl
  rw [← hZ]
  have gA : Ge H (((((((H.new (.cells true (nightC Y r b (standsOf ls os) d) 27)).new (.cells true [u] 1)).new (.cells true [] 0)).new (.cells true [.slice none 0 0] 1)).set (H.next + 3) (.cells true [.slice (some ⟨H.next + 2, 0, none⟩) 0 0] 1)).new (.cells true (dnC fun _ => false) 8)).new (.cells true (nightC Y r b (standsOf ls os) d) 27)) :=
    ((((((Ge.new _ _).newOf _).newOf _).newOf _).setNew (by omega) _).newOf _).newOf _
  refine mo_range (Y := Y) (ls := ls) (os := os) (d := d) (n2 := H.next) (n3 := H.next + 1) (e := H.next + 2) (n5 := H.next + 3) (n6 := H.next + 4) (nb := H.next + 5) (c2 := 27) (c3 := 1) (cb := 27) (w2 := true) (w3 := true) (wb := true) h gA ⟨by omega, by omega, by omega⟩ hu (by simp) (by simp) (by simp) (by simp) (by simp) (by simp) (by simp) (by simp) (by simp) (by simp) (by simp) ⟨by omega, by omega, by omega⟩ ⟨by omega, by omega, by omega⟩ ⟨by omega, by omega, by omega⟩ ⟨by omega, by omega, by omega⟩ (by simp) (by simp) (by simp) (by simp) (by simp) (by simp) h8 hls ho hob hn ?_
  intro B tv k1 k2 k3 k4 k5
  simp only [Heap.new_next, Heap.set_next] at k1 k3
  rw [blockQ_normal, thenQ_normal]
  simp [k4, k3]
  refine ⟨k5 _ (by simp) fun n a1 => ?_, by simp; omega, fun n a1 => ?_⟩
  · have b1 : n ≠ H.next + 6 := a1
    simp [b1]
  · have b1 : n ≠ H.next + 6 := by omega
    simp [b1]
    exact k2 n a1

set_option maxHeartbeats 1000000 in
theorem morning_spec {Y : Yd} {r b v u w : Value} {H : Heap} {ls os bs : List Int} (h : YardAt H r b Y) (hv : IntsAt H v ls) (hu : IntsAt H u os) (hw : IntsAt H w bs) :
    AFun Try.prog 28 [yardV Y r b, v, u, w] H (fun z B => ∃ q, z = .tuple #[q, .int .i64 (checkN Y ls os bs)] ∧ Ge H B ∧ (checkN Y ls os bs ≠ 0 → q = .slice none 0 0) ∧ (checkN Y ls os bs = 0 → RowsAt B q (mornF (laneF ls) os [] (goL Y (inF bs))))) := by
  refine AFun.mk ok28 hm (Nat.le_of_ble_eq_true rfl) ?_
  have hb := h.buses.one
  have hr := h.room.one
  have g0 : Ge H (H.new (.cells true [r, b, .int .i64 Y.broken] 3)) := Ge.new _ _
  simp [a28, r28]
  refine fcall_fun (checkNight_spec (ls := ls) (os := os) (bs := bs) (h.ge g0) (hv.ge g0) (hu.ge g0) (hw.ge g0)) ?_
  rintro _ H1 ⟨rfl, g1⟩
  have G1 := g0.trans g1
  have k1 := g1.got (n := H.next) (by simp) rfl
  have n1 := g1.next
  simp at k1 n1
  by_cases hc : checkN Y ls os bs = 0
  case neg => simp [hc, G1]
  obtain ⟨c1, c2, c3, c4⟩ := checkN_zero hc
  obtain ⟨f1, f2, _⟩ := okY_facts c1
  have hll := lanesB_len c2
  obtain ⟨hol, hom, hon⟩ := possB_in c3
  have hbm := brokenB_in c4
  have lt8 : ∀ x, isBusB Y x = true → 0 ≤ x ∧ x < 8 := fun x hx => by
    obtain ⟨x0, x1, _⟩ := isBus_at hx
    omega
  simp [hc, k1]
  have gX : Ge H1 (⟨H1.get, H1.next + 11⟩ : Heap) := Ge.grow_le (by omega) (Ge.refl _)
  have GX := G1.trans gX
  refine fcall_fun (placesIn_spec (xs := os) (hu.ge GX) fun x hx => lt8 x (hom x hx)) ?_
  rintro _ H2 ⟨rfl, g2⟩
  have G2 := GX.trans g2
  have k2 := g2.got (n := H.next) (by simp; omega) (by simpa using k1)
  simp [k2]
  refine fcall_fun (choose_spec (xs := bs) (hw.ge G2) fun x hx => lt8 x (hbm x hx)) ?_
  rintro _ H3 ⟨rfl, g3⟩
  have G3 := G2.trans g3
  have k3 := g3.got (n := H.next) (by have := g2.next; simp at this; omega) k2
  simp [k3]
  refine fcall_fun (newNight_spec (ls := ls) (h.ge G3) (hv.ge G3) (by omega)) ?_
  rintro _ H4 ⟨rfl, g4⟩
  have G4 := G3.trans g4
  simp
  refine fcall_fun (morning62_spec (ls := ls) (os := os) (h.ge G4) (hu.ge G4) f2 hll hol hom hon) ?_
  rintro q H5 ⟨r5, g5⟩
  simp
  exact ⟨q, ⟨rfl, hc.symm⟩, G4.trans g5, fun e => absurd hc e, fun _ => r5⟩

end Go.Proofs.Ytfijnkhiojejfaa


namespace Go.Proofs.Ytfijnkhiojejfaa
open Go Go.Ab

set_option maxHeartbeats 8000000 in
theorem laneGoes_of {Y : Yd} {r b v : Value} {H : Heap} {ws : List Int} (h : YardAt H r b Y) (hv : WordsAt H v ws) : AFun Try.prog 10 [yardV Y r b, v] H (fun r _ => r = .bool true) := by
  refine AFun.mk ok10 hm (Nat.le_of_ble_eq_true rfl) ?_
  have hb := h.buses.one
  have hr := h.room.one
  have g0 : Ge H (H.new (.cells true [r, b, .int .i64 Y.broken] 3)) := Ge.new _ _
  simp [a10, r10]
  refine fcall_fun (ready_spec (h.ge g0)) ?_
  rintro _ H1 ⟨rfl, g1⟩
  have G1 := g0.trans g1
  have k1 := g1.got (n := H.next) (by simp) rfl
  have n1 := g1.next
  simp at k1 n1
  generalize hrd : (decide (Y.room.length ≤ 6 ∧ Y.buses.length ≤ 12) && decide (checkY Y = 0)) = rd
  cases rd with
  | false =>
    simp
    refine fcall_fun (awake_spec _) ?_
    rintro _ _ ⟨rfl, _⟩
    simp
  | true =>
    have hok : checkY Y = 0 := by simp at hrd; exact hrd.2
    obtain ⟨hr3, h8, _, _, _, hd, hbr, hbr2⟩ := okY_facts hok
    simp [k1]
    refine fcall_fun (parked_spec (h.ge G1) (hv.ge G1) hok) ?_
    rintro _ H2 ⟨u, is, rfl, g2, hu0, hu1⟩
    have G2 := G1.trans g2
    have k2 := g2.got (n := H.next) (by omega) k1
    have n2 := g2.next
    cases is with
    | false =>
      simp
      refine fcall_fun (awake_spec _) ?_
      rintro _ _ ⟨rfl, _⟩
      simp
    | true =>
      obtain ⟨ls, o2, hls⟩ := hu1 rfl
      have g8 : Ge H2 (⟨H2.get, H2.next + 8⟩ : Heap) := Ge.grow_le (by omega) (Ge.refl _)
      have G8 := G2.trans g8
      simp [k2]
      refine fcall_fun (came_spec (h.ge G8) (hv.ge G8) hok) ?_
      rintro ov H3 ⟨os, o3, hos, g3⟩
      have G3 := G8.trans g3
      have n3 := g3.next
      simp at n3
      have k3 := g3.got (n := H.next) (by show H.next < H2.next + 8; omega) (by simpa using k2)
      simp [k3]
      refine fcall_fun (down_spec (h.ge G3) (hv.ge G3) (by omega) hbr) ?_
      rintro bv H4 ⟨bs, o4, hbs, g4⟩
      have G4 := G3.trans g4
      have n4 := g4.next
      have k4 := g4.got (n := H.next) (by omega) k3
      obtain ⟨p1, p2, p3⟩ := possB_in hos
      have hll := lanesB_len hls
      have hbl : bs.length ≤ 8 := by
        have : (bs.length : Int) ≤ Y.broken := by simp [brokenB] at hbs; exact hbs.1
        omega
      have hr6 : Y.room.length ≤ 6 := by omega
      have hc0 : checkN Y ls os bs = 0 := by unfold checkN; rw [if_pos hok, if_pos (by rw [hls, hos, hbs]; rfl)]
      have io := (own_ints o3 (by omega)).ge g4
      have ib := own_ints o4 (by omega)
      have il := (own_ints o2 (by omega)).ge (g8.trans (g3.trans g4))
      simp [k4]
      refine fcall_fun (yard_spec (h.ge G4) hr6 (by omega)) ?_
      rintro _ C1 ⟨r1, b1, rfl, y1, c1⟩
      simp
      refine fcall_fun (list_spec (il.ge c1) (by omega)) ?_
      rintro v2 C2 ⟨q2, c2⟩
      simp
      refine fcall_fun (list_spec (io.ge (c1.trans c2)) (by omega)) ?_
      rintro v3 C3 ⟨q3, c3⟩
      simp
      refine fcall_fun (list_spec (ib.ge (c1.trans (c2.trans c3))) (by omega)) ?_
      rintro v4 C4 ⟨q4, c4⟩
      simp
      refine fcall_fun (morning_spec (ls := ls) (os := os) (bs := bs) (y1.ge (c2.trans (c3.trans c4))) ((own_ints q2 (by omega)).ge (c3.trans c4)) ((own_ints q3 (by omega)).ge c4) (own_ints q4 (by omega))) ?_
      rintro _ C5 ⟨mv, rfl, c5, hm1, hm2⟩
      have cA := c1.trans (c2.trans (c3.trans (c4.trans c5)))
      have GA := G4.trans cA
      have kA := cA.got (n := H.next) (by omega) k4
      have nA := cA.next
      simp [kA]
      refine fcall_fun (yard_spec (h.ge GA) hr6 (by omega)) ?_
      rintro _ D1 ⟨r6, b6, rfl, y6, d1⟩
      simp
      refine fcall_fun (list_spec (il.ge (cA.trans d1)) (by omega)) ?_
      rintro v6 D2 ⟨q6, d2⟩
      simp
      refine fcall_fun (list_spec (io.ge (cA.trans (d1.trans d2))) (by omega)) ?_
      rintro v7 D3 ⟨q7, d3⟩
      simp
      refine fcall_fun (list_spec (ib.ge (cA.trans (d1.trans (d2.trans d3)))) (by omega)) ?_
      rintro v8 D4 ⟨q8, d4⟩
      simp
      refine fcall_fun (shunts_spec (ls := ls) (os := os) (bs := bs) (y6.ge (d2.trans (d3.trans d4))) ((own_ints q6 (by omega)).ge (d3.trans d4)) ((own_ints q7 (by omega)).ge d4) (own_ints q8 (by omega))) ?_
      rintro _ D5 ⟨sv, rfl, d5, hs1, hs2⟩
      have dA := d1.trans (d2.trans (d3.trans (d4.trans d5)))
      have GD := GA.trans dA
      have kD := dA.got (n := H.next) (by omega) kA
      have nD := dA.next
      simp [kD]
      refine fcall_fun (turnsRef_spec (h.ge GD) (ib.ge (cA.trans dA)) (by omega) hd) ?_
      rintro tv E ⟨oT, eE⟩
      have GE' := GD.trans eE
      have kE := eE.got (n := H.next) (by omega) kD
      have nE := eE.next
      have hlen : ∀ p, (thoseL Y p).length ≤ Y.buses.length := fun p => by
        refine Nat.le_trans (List.length_filter_le _ _) ?_
        simp [busesL]
      have hTl := goL_len Y (inF bs)
      have hTb : ∀ x ∈ goL Y (inF bs), isBusB Y x = true := fun x hx => (goL_mem.1 hx).1
      have iT := own_ints oT (by omega)
      have iM := (hm2 hc0).ge (dA.trans eE)
      have hSA := shunts_same (d := inF bs) hll p1 p2 p3
      have iS : IntsAt E sv (shuntsL Y (standsOf ls os) (inF bs)) := (own_ints (hs2 hc0) (by have := hlen (shB Y (standsOf ls os) (inF bs)); unfold shuntsL; omega)).ge eE
      rw [← hSA] at iS
      have hSl := hlen (shuntR (mornF (laneF ls) os [] (goL Y (inF bs))))
      generalize hT : goL Y (inF bs) = T at *
      have hRl := mornF_length (ls := laneF ls) (os := os) T []
      simp [hc0, iM.lenV, iT.lenV, hRl, kE, h.buses.lenV]
      rw [mksV_at (by omega) (by omega)]
      simp
      rw [mksV_at (by omega) (by omega)]
      simp
      have hR0 : ∀ x ∈ os, 0 ≤ x := fun x hx => (isBus_at (p2 x hx)).1
      have hRok : ∀ i (hi : i < T.length) (hi2 : i < (mornF (laneF ls) os [] T).length), RowOk (laneF ls) os T (mornF (laneF ls) os [] T) i (mornF (laneF ls) os [] T)[i] T[i] := fun i hi hi2 => row_ok hi hi2
      have hFn := flat_nodup (ls := laneF ls) (T := T) p3
      have hrow := mornF_row (ls := laneF ls) (os := os) T []
      generalize hRR : mornF (laneF ls) os [] T = R at *
      obtain ⟨F, hF⟩ : ∃ F : Nat → List Int, ∀ i, F i = (R.take i).flatten := ⟨_, fun _ => rfl⟩
      have hF0 : F 0 = [] := by rw [hF]; simp
      have hFs : ∀ i (h : i < R.length), F (i + 1) = F i ++ R[i] := fun i h => by rw [hF, hF, List.take_succ_eq_append_getElem h, List.flatten_append]; simp
      have hFl : ∀ i, i ≤ R.length → (F i).length ≤ 12 * i := fun i => by
        induction i with
        | zero => intro _; rw [hF0]; simp
        | succ i ih => intro hi; rw [hFs i (by omega), List.length_append]; have := ih (by omega); have := hrow _ (List.getElem_mem (show i < R.length by omega)); omega
      have il' := il.ge ((cA.trans dA).trans eE)
      have io' := io.ge ((cA.trans dA).trans eE)
      have hbl1 : ∀ m, Y.buses.length = m → Y.buses.length = m := fun _ h => h
      refine floop_intro (fun z => z.d = [] ∧ Ge E z.H ∧ E.next + 6 ≤ z.H.next ∧ z.t 5 = u ∧ z.t 7 = ov ∧ z.t 9 = mv ∧ z.t 11 = sv ∧ z.t 13 = tv ∧ z.t 14 = .int .i64 Y.buses.length ∧ z.t 15 = .slice (some ⟨E.next + 1, 0, none⟩) Y.buses.length Y.buses.length ∧ z.t 16 = .slice (some ⟨E.next + 3, 0, none⟩) Y.buses.length Y.buses.length ∧
        ∃ i : Nat, i ≤ T.length ∧ z.t 18 = .int .i64 i ∧ z.t 17 = .int .i64 (F i).length ∧ z.H.get (E.next + 1) = .cells true (boolsL Y.buses.length (T.take i)) Y.buses.length ∧ z.H.get (E.next + 3) = .cells true (boolsL Y.buses.length (F i)) Y.buses.length) (fun z => T.length - (intOf (z.t 18)).toNat) ?_ ?_
      · refine ⟨rfl, ⟨by simp, fun q hq => ?_⟩, by simp, by simp, by simp, by simp, by simp, by simp, by simp, by simp, by simp, 0, by simp, by simp, by simp [hF0], ?_, ?_⟩
        · have e1 : q ≠ E.next + 1 := by omega
          have e2 : q ≠ E.next + 3 := by omega
          simp [e1, e2]
        · simp [boolsL_zero]
        · simp [boolsL_zero, hF0]
      rintro ⟨t, _, A⟩ ⟨rfl, gA, nA', t5, t7, t9, t11, t13, t14, t15, t16, i, hi, t18, t17, aG, aS⟩
      dsimp only at gA nA' t5 t7 t9 t11 t13 t14 t15 t16 t18 t17 aG aS
      simp [t9, t18, iM.lenV, hRl]
      by_cases hil : i < T.length
      case neg =>
        have hie : i = T.length := by omega
        subst hie
        have hFe : F T.length = R.flatten := by rw [hF, ← hRl, List.take_length]
        have hFm : ∀ c, c ∈ F T.length → c ∈ os := fun c hc => by
          rw [hFe, List.mem_flatten] at hc
          obtain ⟨l, hl, hcl⟩ := hc
          obtain ⟨q, hq, rfl⟩ := List.getElem_of_mem hl
          exact (hRok q (by omega) hq).sub.subset hcl
        have hSm : ∀ c, c ∈ thoseL Y (shuntR R) ↔ c ∈ F T.length := fun c => by
          rw [hFe, thoseL, List.mem_filter, shuntR, decide_eq_true_eq]
          exact ⟨fun h => h.2, fun h => ⟨busesL_mem.2 (p2 c (hFm c (hFe ▸ h))), h⟩⟩
        have hSp : (thoseL Y (shuntR R)).Pairwise fun a b => a < b := by
          have : (busesL Y).Pairwise fun a b => a < b := by
            unfold busesL
            rw [List.pairwise_map]
            exact List.Pairwise.imp (fun h => by omega) (List.pairwise_lt_range (n := Y.buses.length))
          exact this.sublist List.filter_sublist
        have hSn : (thoseL Y (shuntR R)).Nodup := by
          rw [List.nodup_iff_pairwise_ne]; exact List.Pairwise.imp (fun h e => by omega) hSp
        have hFn' := hFn T.length (Nat.le_refl _)
        rw [← hF] at hFn'
        have hSlen : (thoseL Y (shuntR R)).length = (F T.length).length := by
          have a := List.Nodup.length_le_of_subset hSn (l₂ := F T.length) fun c hc => (hSm c).1 hc
          have b := List.Nodup.length_le_of_subset hFn' (l₂ := thoseL Y (shuntR R)) fun c hc => (hSm c).2 hc
          omega
        generalize thoseL Y (shuntR R) = SA at *
        simp [hil]
        refine floop_intro (fun z => z.d = [] ∧ Ge E z.H ∧ z.t 11 = sv ∧ z.t 14 = .int .i64 Y.buses.length ∧ z.t 16 = .slice (some ⟨E.next + 3, 0, none⟩) Y.buses.length Y.buses.length ∧ z.t 17 = .int .i64 (F T.length).length ∧ z.H.get (E.next + 3) = .cells true (boolsL Y.buses.length (F T.length)) Y.buses.length ∧ E.next + 6 ≤ z.H.next ∧ ∃ c : Nat, c ≤ SA.length ∧ z.t 24 = .int .i64 c) (fun z => SA.length - (intOf (z.t 24)).toNat) ?_ ?_
        · exact ⟨rfl, gA, by simp [t11], by simp [t14], by simp [t16], by simp [t17], aS, nA', 0, by simp, by simp⟩
        clear t5 t7 t9 t11 t13 t14 t15 t16 t18 t17 aG aS
        rintro ⟨t', _, B⟩ ⟨rfl, gB, t11, t14, t16, t17, aS, nB, c, hc', t24⟩
        dsimp only at gB t11 t14 t16 t17 aS nB t24
        simp [t11, t24, iS.lenV]
        by_cases hcs : c < SA.length
        case neg =>
          have hlv := iS.lenV
          rw [hSlen] at hlv
          simp [hcs, t11, t17, hlv]
          refine fcall_fun (awake_spec _) ?_
          rintro _ _ ⟨rfl, _⟩
          simp
        obtain ⟨p5, s1, s2⟩ := IntsAt.atAll iS hcs
        have hcm : SA[c] ∈ SA := List.getElem_mem hcs
        have hcF := (hSm _).1 hcm
        have hcb := p2 _ (hFm _ hcF)
        obtain ⟨z0, z1, _⟩ := isBus_at hcb
        have gW : Ge E (⟨B.get, B.next + 34⟩ : Heap) := gB.trans (Ge.grow_le (by omega) (Ge.refl _))
        have hsubn := sub_in (x := (Y.buses.length : Int)) (y := 1) (by omega) (by omega)
        simp [hcs, t11, t24, s1, s2 _ gW, t14, hsubn]
        refine fcall_fun (in_spec _ _ _ _) ?_
        rintro _ W1 ⟨rfl, eW1⟩
        rw [eW1]
        have hin : inB SA[c] 0 ((Y.buses.length : Int) - 1) = true := hcb
        have hcl : SA[c] < Y.buses.length := by omega
        have iI : islV 1 (.slice (some ⟨E.next + 3, 0, none⟩) Y.buses.length Y.buses.length) (.int .i64 SA[c]) = some (.pointer (some ⟨E.next + 3, SA[c].toNat, none⟩)) := by
          rw [islV_in z0 hcl]; simp
        have lS : ldA (B.get (E.next + 3)) false 1 SA[c].toNat = some (.bool true) := by
          rw [aS, ldA_one, boolsL_at z0 hcl, decide_eq_true hcF]
        by_cases hc1 : c = 0
        · subst hc1
          have s1' : islV 1 sv (.int .i64 0) = some p5 := s1
          have t24' : t' 24 = .int .i64 0 := t24
          simp [hin, t11, t24', t16, s1', s2 _ gW, iI, lS, add_in (x := 0) (y := 1) (by omega) (by omega)]
          exact ⟨⟨gW, t14, t17, aS, by omega, 1, by omega, rfl⟩, by omega⟩
        obtain ⟨c', rfl⟩ : ∃ c', c = c' + 1 := ⟨c - 1, by omega⟩
        obtain ⟨p6, s3, s4⟩ := IntsAt.atAll iS (i := c') (by omega)
        have hlt := List.pairwise_iff_getElem.1 hSp c' (c' + 1) (by omega) hcs (by omega)
        have hnl : ¬ SA[c' + 1] ≤ SA[c'] := by omega
        have s1' : islV 1 sv (.int .i64 ((c' : Int) + 1)) = some p5 := by simpa using s1
        have t24' : t' 24 = .int .i64 ((c' : Int) + 1) := by simpa using t24
        have hs' := sub_in (x := (c' : Int) + 1) (y := 1) (by omega) (by omega)
        have hp' : (0 : Int) < (c' : Int) + 1 := by omega
        simp [hin, t11, t24', t16, s1', s2 _ gW, iI, lS, hp', hs', s3, s4 _ gW, hnl]
        have hs2' := iS.2
        rw [add_in (by omega) (by omega)]
        simp
        refine ⟨⟨gW, t11, t14, t16, t17, aS, by omega, c' + 1 + 1, by omega, by omega⟩, by rw [t24']; simp; omega⟩
      have hil2 : i < R.length := by omega
      obtain ⟨p, e1, e2⟩ := IntsAt.atAll iT hil
      obtain ⟨p', q', f1, f2, f3⟩ := RowsOf.atAll iM hil2
      have hok1 := hRok i hil hil2
      have hwl := hrow _ (List.getElem_mem hil2)
      have hFsi := hFs i hil2
      have hxT : T[i] ∈ T := List.getElem_mem hil
      have hFni := hFn (i + 1) (by omega)
      rw [← hF, hFsi] at hFni
      have ok1 := hok1.lane
      have ok2 := hok1.before
      have ok3 : ∀ c ∈ R[i], c ∉ T.take i ∧ c ∉ F i := by rw [hF]; exact hok1.fresh
      have ok4 := sub_pos p3 hR0 hok1.sub
      have ok5 : ∀ c, laneF ls c = laneF ls T[i] → c ∈ (os.takeWhile fun y => decide (y ≠ T[i])) → c ∈ T.take i ∨ c ∈ F i ∨ c ∈ R[i] := by rw [hF]; exact hok1.all
      have ok6 : ∀ c ∈ R[i], c ∈ os := fun c hc => hok1.sub.subset hc
      have hTs : T.take (i + 1) = T.take i ++ [T[i]] := List.take_succ_eq_append_getElem hil
      simp [hil, t13, t18, e1, e2 A gA]
      generalize hxx : T[i] = x at *
      generalize hww : R[i] = w at *
      have hxb := hTb x hxT
      have hxo := order_all p1 p2 p3 hxb
      obtain ⟨x0, x1, _⟩ := isBus_at hxb
      obtain ⟨lx, lx1, lx2⟩ := IntsAt.atB il' hll hxb
      have g44 : ∀ {B : Heap}, Ge A B → Ge E (⟨B.get, B.next + 44⟩ : Heap) := fun gB => gA.trans (gB.trans (Ge.grow_le (by omega) (Ge.refl _)))
      have iI : ∀ (q : Nat) (c : Int), 0 ≤ c → c < Y.buses.length → islV 1 (.slice (some ⟨q, 0, none⟩) Y.buses.length Y.buses.length) (.int .i64 c) = some (.pointer (some ⟨q, c.toNat, none⟩)) := fun q c a1 a2 => by
        rw [islV_in a1 a2]; simp
      have lB : ∀ (xs : List Int) (c : Int) (cc : Nat), 0 ≤ c → c < Y.buses.length → ldA (.cells true (boolsL Y.buses.length xs) cc) false 1 c.toNat = some (.bool (decide (c ∈ xs))) := fun xs c cc a1 a2 => by
        rw [ldA_one, boolsL_at a1 a2]
      have hsubn := sub_in (x := (Y.buses.length : Int)) (y := 1) (by omega) (by omega)
      refine floop_intro (fun z => z.d = [] ∧ Ge E z.H ∧ A.next ≤ z.H.next ∧ z.t 5 = u ∧ z.t 7 = ov ∧ z.t 9 = mv ∧ z.t 11 = sv ∧ z.t 13 = tv ∧ z.t 14 = .int .i64 Y.buses.length ∧ z.t 15 = .slice (some ⟨E.next + 1, 0, none⟩) Y.buses.length Y.buses.length ∧ z.t 16 = .slice (some ⟨E.next + 3, 0, none⟩) Y.buses.length Y.buses.length ∧ z.t 18 = .int .i64 i ∧ z.t 19 = .int .i64 x ∧
        ∃ (j : Nat) (last : Int), j ≤ w.length ∧ z.t 21 = .int .i64 j ∧ z.t 20 = .int .i64 last ∧ (∀ j2 (h : j2 < w.length), j ≤ j2 → last < posF os w[j2]) ∧ z.t 17 = .int .i64 ((F i).length + j) ∧ z.H.get (E.next + 1) = .cells true (boolsL Y.buses.length (T.take i)) Y.buses.length ∧ z.H.get (E.next + 3) = .cells true (boolsL Y.buses.length (F i ++ w.take j)) Y.buses.length) (fun z => w.length - (intOf (z.t 21)).toNat) ?_ ?_
      · refine ⟨rfl, gA, Nat.le_refl _, by simp [t5], by simp [t7], by simp [t9], by simp [t11], by simp [t13], by simp [t14], by simp [t15], by simp [t16], by simp [t18], by simp, 0, -1, by simp, by simp, by simp, fun j2 hj _ => ?_, by simp [t17], aG, by simpa using aS⟩
        have := ok6 _ (List.getElem_mem hj)
        obtain ⟨q, hq, eq⟩ := List.getElem_of_mem this
        rw [← eq, posF_at p3 hR0 hq]; omega
      have t18o := t18
      clear t5 t7 t9 t11 t13 t14 t15 t16 t18 t17 aG aS
      rintro ⟨t', _, B⟩ ⟨rfl, gB, nB, t5, t7, t9, t11, t13, t14, t15, t16, t18, t19, j, last, hj, t21, t20, hlast, t17, aG, aS⟩
      dsimp only at gB nB t5 t7 t9 t11 t13 t14 t15 t16 t18 t19 t21 t20 t17 aG aS
      simp [t21, t9, t18, f1, f2 B gB, f3.lenV]
      by_cases hjl : j < w.length
      case neg =>
        have hje : j = w.length := by omega
        subst hje
        rw [List.take_length] at aS
        simp [hjl]
        refine floop_intro (fun z => z.d = [] ∧ Ge E z.H ∧ B.next ≤ z.H.next ∧ z.t 5 = u ∧ z.t 7 = ov ∧ z.t 9 = mv ∧ z.t 11 = sv ∧ z.t 13 = tv ∧ z.t 14 = .int .i64 Y.buses.length ∧ z.t 15 = .slice (some ⟨E.next + 1, 0, none⟩) Y.buses.length Y.buses.length ∧ z.t 16 = .slice (some ⟨E.next + 3, 0, none⟩) Y.buses.length Y.buses.length ∧ z.t 18 = .int .i64 i ∧ z.t 19 = .int .i64 x ∧
          z.t 17 = .int .i64 ((F i).length + w.length) ∧ z.H.get (E.next + 1) = .cells true (boolsL Y.buses.length (T.take i)) Y.buses.length ∧ z.H.get (E.next + 3) = .cells true (boolsL Y.buses.length (F i ++ w)) Y.buses.length ∧ ∃ c : Nat, c ≤ Y.buses.length ∧ z.t 23 = .int .i64 c) (fun z => Y.buses.length - (intOf (z.t 23)).toNat) ?_ ?_
        · exact ⟨rfl, gB, Nat.le_refl _, by simp [t5], by simp [t7], by simp [t9], by simp [t11], by simp [t13], by simp [t14], by simp [t15], by simp [t16], by simp [t18], by simp [t19], by simp [t17], aG, aS, 0, by simp, by simp⟩
        have t18o' := t18o
        clear t5 t7 t9 t11 t13 t14 t15 t16 t18 t17 aG aS t19 t20 t21
        rintro ⟨t'', _, D⟩ ⟨rfl, gD', nD', t5, t7, t9, t11, t13, t14, t15, t16, t18, t19, t17, aG, aS, c, hc', t23⟩
        dsimp only at gD' nD' t5 t7 t9 t11 t13 t14 t15 t16 t18 t19 t17 aG aS t23
        simp [t23, t14]
        by_cases hcn : c < Y.buses.length
        case neg =>
          have hxl : x < Y.buses.length := by omega
          simp [hcn, t15, t19, iI _ _ x0 hxl, aG]
          rw [if_pos (by rw [boolsL_len]; omega), wrL_one _ _ _ (by rw [boolsL_len]; omega), boolsL_put x0]
          simp [t18, add_in (x := i) (y := 1) (by omega) (by omega)]
          have hne31 : E.next + 3 ≠ E.next + 1 := by omega
          refine ⟨⟨⟨by have := gD'.next; simp; omega, fun q hq => ?_⟩, by omega, t5, t7, t9, t11, t13, t14, t15, t16, i + 1, by omega, by omega, by rw [t17, hFsi]; simp, by rw [hTs], by rw [hFsi]; exact aS⟩, by rw [t18o']; simp; omega⟩
          have e1' : q ≠ E.next + 1 := by omega
          simp [e1']
          exact gD'.get q hq
        have hcb : isBusB Y (c : Int) = true := by simp [isBusB, inB]; omega
        have hco := order_all p1 p2 p3 hcb
        obtain ⟨lc, lc1, lc2⟩ := IntsAt.atB il' hll hcb
        have gW : Ge E (⟨D.get, D.next + 32⟩ : Heap) := gD'.trans (Ge.grow_le (by omega) (Ge.refl _))
        have gW' : ∀ q, D.next ≤ q → Ge E (⟨D.get, q⟩ : Heap) := fun q hq => gD'.trans (Ge.grow_le hq (Ge.refl _))
        have ioW := io'.ge gW
        by_cases hlx : laneF ls (c : Int) = laneF ls x
        case neg =>
          simp [hcn, t5, t23, lc1, lc2 _ gW, t19, lx1, lx2 _ gW, hlx, add_in (x := c) (y := 1) (by omega) (by omega)]
          exact ⟨⟨gW, by omega, t7, t9, t11, t13, t14, t15, t16, t18, t17, aG, aS, c + 1, by omega, by omega⟩, by omega⟩
        simp [hcn, t5, t23, lc1, lc2 _ gW, t19, lx1, lx2 _ gW, hlx, t7]
        refine fcall_fun (place_in ioW (by omega) p3 hR0 hco) ?_
        rintro _ W2 ⟨rfl, eW2⟩
        rw [eW2]
        simp
        refine fcall_fun (place_in ioW (by omega) p3 hR0 hxo) ?_
        rintro _ W3 ⟨rfl, eW3⟩
        rw [eW3]
        have hcl : (c : Int) < Y.buses.length := by omega
        have lG : ldA (D.get (E.next + 1)) false 1 c = some (.bool (decide ((c : Int) ∈ T.take i))) := by
          have := lB (T.take i) (c : Int) Y.buses.length (by omega) hcl
          rw [aG]; simpa using this
        have lS : ldA (D.get (E.next + 3)) false 1 c = some (.bool (decide ((c : Int) ∈ F i ++ w))) := by
          have := lB (F i ++ w) (c : Int) Y.buses.length (by omega) hcl
          rw [aS]; simpa using this
        have iC : ∀ q : Nat, islV 1 (.slice (some ⟨q, 0, none⟩) Y.buses.length Y.buses.length) (.int .i64 (c : Int)) = some (.pointer (some ⟨q, c, none⟩)) := fun q => by
          have := iI q (c : Int) (by omega) hcl; simpa using this
        by_cases hps : posF os (c : Int) < posF os x
        case neg =>
          simp [hps, t23, add_in (x := c) (y := 1) (by omega) (by omega)]
          exact ⟨⟨gW, by omega, t5, t7, t9, t11, t13, t14, t15, t16, t18, t19, t17, aG, aS, c + 1, by omega, by omega⟩, by omega⟩
        have hal := ok5 (c : Int) hlx ((tw_pos p3 hR0 hxo hco).2 hps)
        by_cases hgt : (c : Int) ∈ T.take i
        · simp [hps, t15, t23, iC, lG, hgt, add_in (x := c) (y := 1) (by omega) (by omega)]
          exact ⟨⟨gW, by omega, t5, t7, t9, t11, t13, t14, t16, t18, t19, t17, aG, aS, c + 1, by omega, by omega⟩, by omega⟩
        have hsh : (c : Int) ∈ F i ++ w := by rw [List.mem_append]; exact hal.resolve_left hgt
        have hsh2 : decide ((c : Int) ∈ F i ++ w) = true := decide_eq_true hsh
        rw [hsh2] at lS
        simp [hps, t15, t16, t23, iC, lG, lS, hgt, add_in (x := c) (y := 1) (by omega) (by omega)]
        exact ⟨⟨gW, by omega, t5, t7, t9, t11, t13, t14, t18, t19, t17, aG, aS, c + 1, by omega, by omega⟩, by omega⟩
      obtain ⟨p2', s1, s2⟩ := IntsAt.atAll f3 hjl
      have hcw : w[j] ∈ w := List.getElem_mem hjl
      have hco := ok6 _ hcw
      have hcb := p2 _ hco
      obtain ⟨z0, z1, _⟩ := isBus_at hcb
      obtain ⟨lc, lc1, lc2⟩ := IntsAt.atB il' hll hcb
      have hlc := ok1 _ hcw
      have hfr := ok3 _ hcw
      have hpos := (tw_pos p3 hR0 hxo hco).1 (ok2 _ hcw)
      have hlst := hlast j hjl (Nat.le_refl _)
      have hnt : w[j] ∉ w.take j := fun hm => by
        have hwn : w.Nodup := (List.nodup_append.1 hFni).2.1
        rw [List.mem_take_iff_getElem] at hm
        obtain ⟨q, hq, e⟩ := hm
        have := nodup_inj hwn (by omega) hjl e
        omega
      simp [hjl, t9, t18, f1, f2 B gB, t21, s1, s2 B gB, t14, hsubn]
      have gW : Ge E (⟨B.get, B.next + 44⟩ : Heap) := gB.trans (Ge.grow_le (by omega) (Ge.refl _))
      refine fcall_fun (in_spec _ _ _ _) ?_
      rintro _ W1 ⟨rfl, eW1⟩
      rw [eW1]
      have hin : inB w[j] 0 ((Y.buses.length : Int) - 1) = true := hcb
      have hcl : w[j] < Y.buses.length := by omega
      have hd1 : (decide (w[j] ∈ T.take i)) = false := decide_eq_false hfr.1
      have hd2 : (decide (w[j] ∈ F i ++ w.take j)) = false := decide_eq_false (by rw [List.mem_append]; exact fun h => h.elim hfr.2 hnt)
      have lG : ldA (B.get (E.next + 1)) false 1 w[j].toNat = some (.bool false) := by rw [aG, lB _ _ _ z0 hcl, hd1]
      have lS : ldA (B.get (E.next + 3)) false 1 w[j].toNat = some (.bool false) := by rw [aS, lB _ _ _ z0 hcl, hd2]
      simp [hin, t15, t16, iI _ _ z0 hcl, lG, lS, t5, t19, lc1, lx1, lc2 _ gW, lx2 _ gW, hlc, t7]
      have ioW := io'.ge gW
      refine fcall_fun (place_in ioW (by omega) p3 hR0 hco) ?_
      rintro _ W2 ⟨rfl, eW2⟩
      rw [eW2]
      simp
      refine fcall_fun (place_in ioW (by omega) p3 hR0 hxo) ?_
      rintro _ W3 ⟨rfl, eW3⟩
      rw [eW3]
      have np : ¬ posF os x ≤ posF os w[j] := by omega
      simp [np, t7, t20]
      refine fcall_fun (place_in ioW (by omega) p3 hR0 hco) ?_
      rintro _ W4 ⟨rfl, eW4⟩
      rw [eW4]
      have np2 : ¬ posF os w[j] ≤ last := by omega
      simp [np2, t7]
      refine fcall_fun (place_in ioW (by omega) p3 hR0 hco) ?_
      rintro _ W5 ⟨rfl, eW5⟩
      rw [eW5]
      simp [t16, iI _ _ z0 hcl, aS]
      rw [if_pos (by rw [boolsL_len]; omega), wrL_one _ _ _ (by rw [boolsL_len]; omega), boolsL_put z0]
      have hwt : F i ++ w.take j ++ [w[j]] = F i ++ w.take (j + 1) := by rw [List.take_succ_eq_append_getElem hjl, List.append_assoc]
      rw [hwt]
      have hFi12 := hFl i (by omega)
      have s17 := add_in (x := ((F i).length : Int) + (j : Int)) (y := 1) (by omega) (by omega)
      simp [t17, s17, t21, add_in (x := j) (y := 1) (by omega) (by omega)]
      have hne13 : E.next + 1 ≠ E.next + 3 := by omega
      refine ⟨⟨⟨by have := gB.next; simp; omega, fun q hq => ?_⟩, by omega, t5, t7, t9, t11, t13, t14, t15, t16, t18, t19, j + 1, by omega, by omega, fun j2 hj2 hle => List.pairwise_iff_getElem.1 ok4 j j2 hjl hj2 (by omega), by omega, by simp [aG], by simp⟩, by omega⟩
      have e1' : q ≠ E.next + 3 := by omega
      simp [e1']
      exact gB.get q hq

end Go.Proofs.Ytfijnkhiojejfaa


namespace Go.Proofs.Ytfijnkhiojejfaa
open Go Go.Ab Go.RowKit Go.ChangeShapes Go.WideShapes

theorem ownT : ownKnob Try.prog.godebug = none := by kernel_rfl
theorem laidT : laidOutB Try.prog = true := by kernel_rfl
theorem readT {l : List Nat} (h : l.all (fun t => Try.prog.readableRec t && decide (t < Try.prog.types.size)) = true) : ∀ t ∈ l, Try.prog.readableRec t = true ∧ t < Try.prog.types.size := by
  intro t ht
  have := List.all_eq_true.1 h t ht
  simpa using this
theorem cells3 : Try.prog.cellsOf 3 = 1 := by kernel_rfl
theorem cells22 : Try.prog.cellsOf 22 = 1 := by kernel_rfl
theorem cells23 : Try.prog.cellsOf 23 = 1 := by kernel_rfl
theorem cells25 : Try.prog.cellsOf 25 = 3 := by kernel_rfl
theorem cells73 : Try.prog.cellsOf 73 = 3 := by kernel_rfl
theorem cells71 : Try.prog.cellsOf 71 = 1 := by kernel_rfl

theorem list3 {l : List Value} (h : l.length = 3) : ∃ a b c, l = [a, b, c] := by
  match l, h with
  | [a, b, c], _ => exact ⟨a, b, c, rfl⟩
theorem maxLen_lt {n : Nat} (h : n ≤ maxLen) : n < 2 ^ 63 := by
  have : maxLen = 9223372036854775807 := rfl
  omega

section
variable {H : Type} {enc : TypeId × Value → H} {w : World} {fuel : Nat} {v : Value} {x : DataW H × List MemPlace}

theorem read_list (h : DataW.trod enc Try.prog w 0 (fun _ => true) true fuel 22 [v] = some x) : goodV w.heap.size (capM w.heap) v = true ∧ ∃ xs : List Int, IntsAt (absH w.heap) (absV w.heap.size v) xs := by
  obtain ⟨h1, xs, h2, h3, _⟩ := read_ints Try.underlying22 Try.underlying3 cells3 h
  exact ⟨h1, xs, h2, maxLen_lt h3⟩

theorem read_bus {cs : List Value} (h : DataW.trod enc Try.prog w 0 (fun _ => true) true fuel 73 cs = some x) : (∀ u ∈ cs, goodV w.heap.size (capM w.heap) u = true) ∧ ∃ t : Bs, cs.map (absV w.heap.size) = t.cells ∧ True := by
  obtain ⟨ys, n, _, _, hl, hyl, hf⟩ := DataW.trod_struct Try.underlying73 h
  rw [cells73] at hl
  obtain ⟨c0, c1, c2, rfl⟩ := list3 hl
  have hy3 : ys.length = 3 := by simpa using hyl
  have e0 := hf 0 _ rfl
  have e1 := hf 1 _ rfl
  have e2 := hf 2 _ rfl
  simp [cells3, hy3] at e0 e1 e2
  obtain ⟨z0, hz0, _⟩ := DataW.trod_int Try.underlying3 e0
  obtain ⟨z1, hz1, _⟩ := DataW.trod_int Try.underlying3 e1
  obtain ⟨z2, hz2, _⟩ := DataW.trod_int Try.underlying3 e2
  simp at hz0 hz1 hz2
  subst hz0 hz1 hz2
  exact ⟨by simp [goodV], ⟨z0, z1, z2⟩, rfl, trivial⟩

theorem read_buses (h : DataW.trod enc Try.prog w 0 (fun _ => true) true fuel 23 [v] = some x) : goodV w.heap.size (capM w.heap) v = true ∧ ∃ xs : List Bs, BssAt (absH w.heap) (absV w.heap.size v) xs := by
  obtain ⟨h1, xs, h2, h3, _⟩ := read_slice (α := Bs) (f := Bs.cells) (Q := fun _ => True) Try.underlying23 (by rw [cells73]; omega) (fun n cs y hy => read_bus hy) h
  rw [cells73] at h2
  exact ⟨h1, xs, h2, maxLen_lt h3⟩
end

section
variable {H : Type} {enc : TypeId × Value → H} {w : World} {base : Nat} {v : Value} {d : DataW H} {p : List MemPlace}

set_option maxRecDepth 100000 in
theorem read_yardV (hval : Value.okWide Try.prog w .any base 25 v) (h : DataW.Trod enc Try.prog w 0 (fun _ => true) true 25 v d p) :
    ∃ Y r b, VR (absB w.heap) (yardV Y r b) v ∧ YardAt (absH w.heap) r b Y := by
  obtain ⟨cs, rfl, hsz⟩ := okWide_struct Try.underlying25 hval
  obtain ⟨fuel, h⟩ := h
  simp only [Value.cells] at h
  obtain ⟨ys, n, _, _, hl, hyl, hf⟩ := DataW.trod_struct Try.underlying25 h
  rw [cells25] at hl
  obtain ⟨l, rfl⟩ : ∃ l : List Value, cs = l.toArray := ⟨cs.toList, by simp⟩
  simp only at hl hf
  obtain ⟨c0, c1, c2, rfl⟩ := list3 hl
  have hy3 : ys.length = 3 := by simpa using hyl
  have e0 := hf 0 _ rfl
  have e1 := hf 1 _ rfl
  have e2 := hf 2 _ rfl
  simp [cells3, cells22, cells23, hy3] at e0 e1 e2
  obtain ⟨z2, hz2, _⟩ := DataW.trod_int Try.underlying3 e2
  obtain ⟨g0, xs, k0⟩ := read_list e0
  obtain ⟨g1, us, k1⟩ := read_buses e1
  simp at hz2
  subst hz2
  refine ⟨⟨xs, us, z2⟩, absV w.heap.size c0, absV w.heap.size c1, VR.mk_agg ?_, ⟨k0, k1⟩⟩
  exact ⟨good_VR g0, good_VR g1, .int _ _, trivial⟩

set_option maxRecDepth 100000 in
theorem read_wordsV (hval : Value.okWide Try.prog w .any base 61 v) (h : DataW.Trod enc Try.prog w 0 (fun _ => true) true 61 v d p) : VR (absB w.heap) (absV w.heap.size v) v ∧ ∃ xs, WordsAt (absH w.heap) (absV w.heap.size v) xs := by
  obtain ⟨a0, len, cap, rfl⟩ := okWide_slice Try.underlying61 hval
  obtain ⟨fuel, h⟩ := h
  obtain ⟨h1, xs, h2, h3, h4⟩ := read_ints Try.underlying61 Try.underlying71 cells71 h
  refine ⟨good_VR h1, xs, h2, maxLen_lt h3, fun x hx => ?_⟩
  have := h4 x hx
  simp [Lit.wf, IntKind.min, IntKind.max, IntKind.signed, IntKind.bits] at this
  omega
end

end Go.Proofs.Ytfijnkhiojejfaa

