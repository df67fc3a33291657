/-
  Joined texts of a calculus of abstract memory, of the program's code in it, and of contracts.
-/
import Derived.Test.YtfijnkhiojejfaaJ7
import Derived.Test.YtfijnkhiojejfaaJ9
import Derived.Test.YtfijnkhiojejfaaJ11
import Derived.Test.YtfijnkhiojejfaaJ12
import Derived.ProofKit
import Derived.Test.YtfijnkhiojejfaaRows
namespace Go.Proofs.Ytfijnkhiojejfaa
open Go Go.Ab

theorem awake_spec (A : Heap) : AFun Try.prog 17 [] A (fun r B => r = .bool true ∧ B = A) :=
  Entry.closed eAwake_ok rfl rfl rfl (fun g hg => absurd hg (Nat.not_lt_zero g))

end Go.Proofs.Ytfijnkhiojejfaa


namespace Go.Proofs.Ytfijnkhiojejfaa
open Go Go.Ab

theorem renL_step {old xs : List Int} {i : Nat} (hi : i < xs.length) : renL old (xs.take (i + 1)) = renL old (xs.take i) ++ if xs[i] ∈ old then [numF old xs[i]] else [] := by
  unfold renL
  rw [List.take_succ_eq_append_getElem hi, List.filter_append, List.map_append]
  by_cases h : xs[i] ∈ old <;> simp [h]

set_option maxHeartbeats 8000000 in
theorem laneAlone_of {Y : Yd} {r b v : Value} {H : Heap} {ws : List Int} (h : YardAt H r b Y) (hv : WordsAt H v ws) : AFun Try.prog 14 [yardV Y r b, v] H (fun r _ => r = .bool true) := by
  refine AFun.mk ok14 hm (Nat.le_of_ble_eq_true rfl) ?_
  have hb := h.buses.one
  have hr := h.room.one
  have g0 : Ge H (H.new (.cells true [r, b, .int .i64 Y.broken] 3)) := Ge.new _ _
  simp [a14, r14]
  refine fcall_fun (ready_spec (h.ge g0)) ?_
  rintro _ H1 ⟨rfl, g1⟩
  have G1 := g0.trans g1
  have k1 := g1.got (n := H.next) (by simp) rfl
  have n1 := g1.next
  simp at k1 n1
  generalize hrd : (decide (Y.room.length ≤ 6 ∧ Y.buses.length ≤ 12) && decide (checkY Y = 0)) = rd
  cases rd with
  | false =>
    simp
    refine fcall_fun (awake_spec _) ?_
    rintro _ _ ⟨rfl, _⟩
    simp
  | true =>
    have hok : checkY Y = 0 := by simp at hrd; exact hrd.2
    obtain ⟨hr3, h8, _, _, _, hd, hbr, hbr2⟩ := okY_facts hok
    simp [k1]
    refine fcall_fun (parked_spec (h.ge G1) (hv.ge G1) hok) ?_
    rintro _ H2 ⟨u, is, rfl, g2, hu0, hu1⟩
    have G2 := G1.trans g2
    have k2 := g2.got (n := H.next) (by omega) k1
    have n2 := g2.next
    cases is with
    | false =>
      simp
      refine fcall_fun (awake_spec _) ?_
      rintro _ _ ⟨rfl, _⟩
      simp
    | true =>
      obtain ⟨ls, o2, hls⟩ := hu1 rfl
      have g8 : Ge H2 (⟨H2.get, H2.next + 8⟩ : Heap) := Ge.grow_le (by omega) (Ge.refl _)
      have G8 := G2.trans g8
      simp [k2]
      refine fcall_fun (came_spec (h.ge G8) (hv.ge G8) hok) ?_
      rintro ov H3 ⟨os, o3, hos, g3⟩
      have G3 := G8.trans g3
      have n3 := g3.next
      simp at n3
      have k3 := g3.got (n := H.next) (by show H.next < H2.next + 8; omega) (by simpa using k2)
      simp [k3]
      refine fcall_fun (down_spec (h.ge G3) (hv.ge G3) (by omega) hbr) ?_
      rintro bv H4 ⟨bs, o4, hbs, g4⟩
      have G4 := G3.trans g4
      have n4 := g4.next
      have k4 := g4.got (n := H.next) (by omega) k3
      obtain ⟨p1, p2, p3⟩ := possB_in hos
      have hll := lanesB_len hls
      have hbl : bs.length ≤ 8 := by
        have : (bs.length : Int) ≤ Y.broken := by simp [brokenB] at hbs; exact hbs.1
        omega
      have hr6 : Y.room.length ≤ 6 := by omega
      have hc0 : checkN Y ls os bs = 0 := by unfold checkN; rw [if_pos hok, if_pos (by rw [hls, hos, hbs]; rfl)]
      have io := (own_ints o3 (by omega)).ge g4
      have ib := own_ints o4 (by omega)
      have il := (own_ints o2 (by omega)).ge (g8.trans (g3.trans g4))
      simp [k4]
      refine fcall_fun (yard_spec (h.ge G4) hr6 (by omega)) ?_
      rintro _ D1 ⟨r6, b6, rfl, y6, d1⟩
      simp
      refine fcall_fun (list_spec (il.ge d1) (by omega)) ?_
      rintro v6 D2 ⟨q6, d2⟩
      simp
      refine fcall_fun (list_spec (io.ge (d1.trans d2)) (by omega)) ?_
      rintro v7 D3 ⟨q7, d3⟩
      simp
      refine fcall_fun (list_spec (ib.ge (d1.trans (d2.trans d3))) (by omega)) ?_
      rintro v8 D4 ⟨q8, d4⟩
      simp
      refine fcall_fun (shunts_spec (ls := ls) (os := os) (bs := bs) (y6.ge (d2.trans (d3.trans d4))) ((own_ints q6 (by omega)).ge (d3.trans d4)) ((own_ints q7 (by omega)).ge d4) (own_ints q8 (by omega))) ?_
      rintro _ E ⟨sv, rfl, d5, hs1, hs2⟩
      have dA := d1.trans (d2.trans (d3.trans (d4.trans d5)))
      have GE' := G4.trans dA
      have kE := dA.got (n := H.next) (by omega) k4
      have nE := dA.next
      have hlen : ∀ p, (thoseL Y p).length ≤ Y.buses.length := fun p => by
        refine Nat.le_trans (List.length_filter_le _ _) ?_
        simp [busesL]
      have iS : IntsAt E sv (shuntsL Y (standsOf ls os) (inF bs)) := own_ints (hs2 hc0) (by have := hlen (shB Y (standsOf ls os) (inF bs)); unfold shuntsL; omega)
      have hSl : (shuntsL Y (standsOf ls os) (inF bs)).length ≤ Y.buses.length := hlen _
      have hSb : ∀ x ∈ shuntsL Y (standsOf ls os) (inF bs), isBusB Y x = true := fun x hx => busesL_mem.1 (List.mem_filter.1 hx).1
      have hal := fun l : Int => alone_list (l := l) (bs := bs) hok hls hos
      generalize shuntsL Y (standsOf ls os) (inF bs) = SA at *
      have il' := il.ge dA
      have io' := io.ge dA
      have ib' := ib.ge dA
      simp [hc0]
      refine floop_intro (fun z => z.d = [] ∧ Ge E z.H ∧ z.t 2 = .pointer (some ⟨H.next, 0, none⟩) ∧ z.t 5 = u ∧ z.t 7 = ov ∧ z.t 8 = bv ∧ z.t 9 = sv ∧ ∃ l : Nat, l ≤ Y.room.length ∧ z.t 12 = .int .i64 l ∧ z.t 11 = .int .i64 (belowL ls l SA).length) (fun z => Y.room.length - (intOf (z.t 12)).toNat) ?_ ?_
      · refine ⟨rfl, Ge.refl _, by simp, by simp, by simp, by simp, by simp, 0, by simp, by simp, ?_⟩
        have : belowL ls 0 SA = [] := by
          unfold belowL
          rw [List.filter_eq_nil_iff]
          intro x hx
          have hxb := hSb x hx
          have : 0 ≤ laneF ls x := by
            obtain ⟨x0, x1, _⟩ := isBus_at hxb
            have hm : laneF ls x ∈ ls := by
              unfold laneF
              rw [List.getElem?_eq_getElem (by omega)]
              exact List.getElem_mem _
            simp only [lanesB, Bool.and_eq_true, decide_eq_true_eq, List.all_eq_true] at hls
            have := hls.2.1 _ hm
            simp [isLaneB, inB] at this
            exact this.1
          simp; exact this
        simp [this]
      rintro ⟨t, _, A⟩ ⟨rfl, gA, t2, t5, t7, t8, t9, l, hl, t12, t11⟩
      dsimp only at gA t2 t5 t7 t8 t9 t12 t11
      have kA := gA.got (n := H.next) (by omega) kE
      simp [t2, t12, kA, h.room.lenV]
      by_cases hlR : l < Y.room.length
      case neg =>
        have hle : l = Y.room.length := by omega
        have hall : belowL ls l SA = SA := by
          unfold belowL
          rw [List.filter_eq_self]
          intro x hx
          have hxb := hSb x hx
          obtain ⟨x0, x1, _⟩ := isBus_at hxb
          have hm : laneF ls x ∈ ls := by
            unfold laneF
            rw [List.getElem?_eq_getElem (by omega)]
            exact List.getElem_mem _
          simp only [lanesB, Bool.and_eq_true, decide_eq_true_eq, List.all_eq_true] at hls
          have := hls.2.1 _ hm
          simp [isLaneB, inB] at this
          simp; omega
        rw [hall] at t11
        simp [hlR, t11, t9, iS.lenV]
        refine fcall_fun (awake_spec _) ?_
        rintro _ _ ⟨rfl, _⟩
        simp
      simp [hlR, t2, kA, h.buses.lenV]
      rw [mksV_at (by omega) (by omega)]
      have nA := gA.next
      have ne1 : H.next ≠ A.next + 1 := by omega
      have ne0 : H.next ≠ A.next := by omega
      simp [t2, kA, ne1, ne0]
      generalize hZ : (Heap.set _ _ _ : Heap) = Z
      have nZ : Z.next = A.next + 3 := by rw [← hZ]; rfl
      have gZ : Ge A Z := by rw [← hZ]; exact (((Ge.new _ _).newOf _).newOf _).setNew (by omega) _
      have zN : Z.get A.next = .cells true (numV Y.buses.length fun _ => 0) Y.buses.length := by
        rw [← hZ, ← numV_zero]; simp
      have z8 : Z.get (A.next + 1) = .cells true [.int .i64 8] 1 := by rw [← hZ]; simp
      have zX : Z.get (A.next + 2) = .cells true [.slice (some ⟨A.next + 1, 0, none⟩) 1 1, .slice none 0 0, .int .i64 Y.broken] 3 := by rw [← hZ]; simp
      clear hZ
      obtain ⟨gF, hgF⟩ : ∃ gF : Nat → Int, ∀ k, gF k = if laneF ls (k : Int) = (l : Int) then ((oldP ls l k).length : Int) else -1 := ⟨_, fun _ => rfl⟩
      refine floop_intro (fun z => z.d = [] ∧ Ge A z.H ∧ A.next + 3 ≤ z.H.next ∧ z.t 2 = .pointer (some ⟨H.next, 0, none⟩) ∧ z.t 5 = u ∧ z.t 7 = ov ∧ z.t 8 = bv ∧ z.t 9 = sv ∧ z.t 12 = .int .i64 l ∧ z.t 11 = .int .i64 (belowL ls l SA).length ∧ z.t 13 = .slice (some ⟨A.next, 0, none⟩) Y.buses.length Y.buses.length ∧ z.t 14 = .pointer (some ⟨A.next + 2, 0, none⟩) ∧ z.t 15 = .slice none 0 0 ∧ z.t 16 = .slice none 0 0 ∧
        z.H.get (A.next + 1) = .cells true [.int .i64 8] 1 ∧ ∃ (i : Nat) (xb : Value) (f : Nat → Int), i ≤ Y.buses.length ∧ z.t 18 = .int .i64 i ∧ z.H.get A.next = .cells true (numV Y.buses.length f) Y.buses.length ∧ (∀ k, k < i → f k = gF k) ∧ z.H.get (A.next + 2) = .cells true [.slice (some ⟨A.next + 1, 0, none⟩) 1 1, xb, .int .i64 Y.broken] 3 ∧
        OwnS z.H (A.next + 3) 3 xb (oldP ls l i).length (((oldP ls l i).map (bAt Y)).flatMap Bs.cells) ∧ OwnSl z.H (A.next + 3) (z.t 17) ((oldP ls l i).map (.int .i64)) ∧ (∀ q, slName xb = some q → slName (z.t 17) ≠ some q)) (fun z => Y.buses.length - (intOf (z.t 18)).toNat) ?_ ?_
      · refine ⟨rfl, gZ, by show A.next + 3 ≤ Z.next; omega, by simp [t2], by simp [t5], by simp [t7], by simp [t8], by simp [t9], by simp [t12], by simp [t11], by simp, by simp, by simp, by simp, z8, 0, .slice none 0 0, fun _ => 0, by simp, by simp, zN, by simp, zX, .inl ⟨rfl, rfl, rfl⟩, .inl ⟨by simp, rfl⟩, fun q e => by cases e⟩
      have t12o := t12
      have t11o := t11
      clear t2 t5 t7 t8 t9 t12 t11
      rintro ⟨t', _, B⟩ ⟨rfl, gB, nB, t2, t5, t7, t8, t9, t12, t11, t13, t14, t15, t16, b8, i, xb, f, hi, t18, bN, hf, bX, ownX, own, hsep⟩
      dsimp only at gB nB t2 t5 t7 t8 t9 t12 t11 t13 t14 t15 t16 b8 t18 bN bX ownX own hsep
      have kB := gB.got (n := H.next) (by omega) kA
      simp [t2, t18, kB, h.buses.lenV]
      by_cases hin : i < Y.buses.length
      case neg =>
        have hie : i = Y.buses.length := by omega
        subst hie
        obtain ⟨old, hold⟩ : ∃ old, old = oldL Y ls (l : Int) := ⟨_, rfl⟩
        rw [show oldP ls (l : Int) Y.buses.length = old from hold ▸ rfl] at ownX own
        have hnumv : ∀ x, isBusB Y x = true → f x.toNat = if x ∈ old then numF old x else -1 := fun x hx => by
          obtain ⟨x0, x1, _⟩ := isBus_at hx
          rw [hf _ x1, hgF, show ((x.toNat : Nat) : Int) = x by omega, hold]
          by_cases e : laneF ls x = (l : Int)
          · rw [if_pos e, if_pos (oldL_mem.2 ⟨hx, e⟩)]
            have := num_old (Y := Y) (ls := ls) (l := (l : Int)) (k := x.toNat) (by rw [show ((x.toNat : Nat) : Int) = x by omega]; exact e) x1
            rw [show ((x.toNat : Nat) : Int) = x by omega] at this
            exact this.symm
          · rw [if_neg e, if_neg fun h => e (oldL_mem.1 h).2]
        have gEB0 := gA.trans gB
        have ioB := io'
        have bN0 := bN
        generalize hB0 : B = B0 at *
        obtain ⟨ow, how⟩ : ∃ ow, t' 17 = ow := ⟨_, rfl⟩
        rw [how] at own hsep
        have t17 := how
        have ownO := own
        clear own
        have hcb9 := p2
        simp [hin]
        refine floop_intro (fun z => z.d = [] ∧ Ge B0 z.H ∧ z.t 2 = .pointer (some ⟨H.next, 0, none⟩) ∧ z.t 5 = u ∧ z.t 7 = ov ∧ z.t 8 = bv ∧ z.t 9 = sv ∧ z.t 12 = .int .i64 l ∧ z.t 11 = .int .i64 (belowL ls l SA).length ∧ z.t 13 = .slice (some ⟨A.next, 0, none⟩) Y.buses.length Y.buses.length ∧ z.t 14 = .pointer (some ⟨A.next + 2, 0, none⟩) ∧ z.t 16 = .slice none 0 0 ∧ z.t 17 = ow ∧ ∃ i : Nat, i ≤ os.length ∧ z.t 19 = .int .i64 i ∧ OwnSl z.H B0.next (z.t 15) ((renL old (os.take i)).map (.int .i64))) (fun z => os.length - (intOf (z.t 19)).toNat) ?_ ?_
        · exact ⟨rfl, Ge.refl _, by simp [t2], by simp [t5], by simp [t7], by simp [t8], by simp [t9], by simp [t12], by simp [t11], by simp [t13], by simp [t14], by simp [t16], by simp [t17], 0, by simp, by simp, .inl ⟨by simp [t15], by simp [renL]⟩⟩
        clear t2 t5 t7 t8 t9 t12 t11 t13 t14 t17 t15 t16
        rintro ⟨t2', _, C⟩ ⟨rfl, gC, t2, t5, t7, t8, t9, t12, t11, t13, t14, t16, t17, i, hi, tc, own⟩
        dsimp only at gC t2 t5 t7 t8 t9 t12 t11 t13 t14 t16 t17 tc own
        have cN := gC.got (n := A.next) (by omega) bN0
        simp [tc, t7, ioB.lenV]
        by_cases hil : i < os.length
        · obtain ⟨p, s1, s2⟩ := IntsAt.atAll ioB hil
          have hcb := p2 _ (List.getElem_mem hil)
          obtain ⟨z0, z1, _⟩ := isBus_at hcb
          have hnum := hnumv _ hcb
          have hcl : os[i] < Y.buses.length := by omega
          have iN : islV 1 (.slice (some ⟨A.next, 0, none⟩) Y.buses.length Y.buses.length) (.int .i64 os[i]) = some (.pointer (some ⟨A.next, os[i].toNat, none⟩)) := by
            rw [islV_in z0 hcl]; simp
          have lN : ldA (C.get A.next) false 1 os[i].toNat = some (.int .i64 (if os[i] ∈ old then numF old os[i] else -1)) := by
            rw [cN, ldA_one, numV_at (by omega), hnum]
          have hst := renL_step (old := old) hil
          by_cases ho : os[i] ∈ old
          case neg =>
            rw [if_neg ho] at lN hst
            rw [List.append_nil] at hst
            simp [hil, t13, t7, tc, s1, s2 C (gEB0.trans gC), iN, lN, add_in (x := i) (y := 1) (by omega) (by omega)]
            exact ⟨⟨gC, t2, t5, t8, t9, t12, t11, t14, t16, t17, i + 1, by omega, by omega, by rw [hst]; exact own⟩, by omega⟩
          rw [if_pos ho] at lN hst
          have h0 : 0 ≤ numF old os[i] := by unfold numF; omega
          simp [hil, t13, t7, tc, s1, s2 C (gEB0.trans gC), iN, lN, h0]
          have gX := Ge.new C (.cells true [.int .i64 (numF old os[i])] 1)
          have xX : (C.new (.cells true [.int .i64 (numF old os[i])] 1)).get C.next = .cells true [.int .i64 (numF old os[i])] 1 := by simp
          have oX := own.ge gX
          have hll9 : (renL old (os.take i)).length ≤ os.length := by
            unfold renL
            rw [List.length_map]
            exact Nat.le_trans (List.length_filter_le _ _) (by rw [List.length_take]; omega)
          refine fapp_own oX (slCells_new xX) rfl (by rw [List.length_map]; omega) (by omega) (by simp) (by simp) (by have := gC.next; simp; omega) ?_
          rintro w E9 o1 s9 n9 k9
          have gE9 : Ge B0 E9 := oX.geApp (Nat.le_refl _) (gC.trans gX) (by have := gC.next; simp; omega) (by simp; omega) k9
          simp [tc, add_in (x := i) (y := 1) (by omega) (by omega)]
          refine ⟨⟨gE9, t2, t5, t7, t8, t9, t12, t11, t13, t14, t16, t17, i + 1, by omega, by omega, ?_⟩, by omega⟩
          rw [hst, List.map_append]; exact o1
        have hie2 : i = os.length := by omega
        subst hie2
        rw [List.take_length] at own
        simp [hil]
        have gEC0 := gEB0.trans gC
        have cN0 := cN
        have ibC := ib'
        have gBC := gC
        have hnC0 := gBC.next
        obtain ⟨orw, horw⟩ : ∃ orw, t2' 15 = orw := ⟨_, rfl⟩
        rw [horw] at own
        have ownR := own
        have t15 := horw
        clear own
        generalize hC0 : C = C0 at *
        have hbb := brokenB_in hbs
        refine floop_intro (fun z => z.d = [] ∧ Ge C0 z.H ∧ z.t 2 = .pointer (some ⟨H.next, 0, none⟩) ∧ z.t 5 = u ∧ z.t 7 = ov ∧ z.t 8 = bv ∧ z.t 9 = sv ∧ z.t 12 = .int .i64 l ∧ z.t 11 = .int .i64 (belowL ls l SA).length ∧ z.t 13 = .slice (some ⟨A.next, 0, none⟩) Y.buses.length Y.buses.length ∧ z.t 14 = .pointer (some ⟨A.next + 2, 0, none⟩) ∧ z.t 15 = orw ∧ z.t 17 = ow ∧ ∃ i : Nat, i ≤ bs.length ∧ z.t 20 = .int .i64 i ∧ OwnSl z.H C0.next (z.t 16) ((renL old (bs.take i)).map (.int .i64))) (fun z => bs.length - (intOf (z.t 20)).toNat) ?_ ?_
        · exact ⟨rfl, Ge.refl _, by simp [t2], by simp [t5], by simp [t7], by simp [t8], by simp [t9], by simp [t12], by simp [t11], by simp [t13], by simp [t14], by simp [t15], by simp [t17], 0, by simp, by simp, .inl ⟨by simp [t16], by simp [renL]⟩⟩
        clear t2 t5 t7 t8 t9 t12 t11 t13 t14 t17 t15 t16
        rintro ⟨t3', _, C9⟩ ⟨rfl, gC, t2, t5, t7, t8, t9, t12, t11, t13, t14, t15, t17, i, hi, tc, own⟩
        dsimp only at gC t2 t5 t7 t8 t9 t12 t11 t13 t14 t15 t17 tc own
        have cN := gC.got (n := A.next) (by omega) cN0
        simp [tc, t8, ibC.lenV]
        by_cases hil : i < bs.length
        · obtain ⟨p, s1, s2⟩ := IntsAt.atAll ibC hil
          have hcb := hbb _ (List.getElem_mem hil)
          obtain ⟨z0, z1, _⟩ := isBus_at hcb
          have hnum := hnumv _ hcb
          have hcl : bs[i] < Y.buses.length := by omega
          have iN : islV 1 (.slice (some ⟨A.next, 0, none⟩) Y.buses.length Y.buses.length) (.int .i64 bs[i]) = some (.pointer (some ⟨A.next, bs[i].toNat, none⟩)) := by
            rw [islV_in z0 hcl]; simp
          have lN : ldA (C9.get A.next) false 1 bs[i].toNat = some (.int .i64 (if bs[i] ∈ old then numF old bs[i] else -1)) := by
            rw [cN, ldA_one, numV_at (by omega), hnum]
          have hst := renL_step (old := old) hil
          by_cases ho : bs[i] ∈ old
          case neg =>
            rw [if_neg ho] at lN hst
            rw [List.append_nil] at hst
            simp [hil, t13, t8, tc, s1, s2 C9 (gEC0.trans gC), iN, lN, add_in (x := i) (y := 1) (by omega) (by omega)]
            exact ⟨⟨gC, t2, t5, t7, t9, t12, t11, t14, t15, t17, i + 1, by omega, by omega, by rw [hst]; exact own⟩, by omega⟩
          rw [if_pos ho] at lN hst
          have h0 : 0 ≤ numF old bs[i] := by unfold numF; omega
          simp [hil, t13, t8, tc, s1, s2 C9 (gEC0.trans gC), iN, lN, h0]
          have gX := Ge.new C9 (.cells true [.int .i64 (numF old bs[i])] 1)
          have xX : (C9.new (.cells true [.int .i64 (numF old bs[i])] 1)).get C9.next = .cells true [.int .i64 (numF old bs[i])] 1 := by simp
          have oX := own.ge gX
          have hll9 : (renL old (bs.take i)).length ≤ bs.length := by
            unfold renL
            rw [List.length_map]
            exact Nat.le_trans (List.length_filter_le _ _) (by rw [List.length_take]; omega)
          refine fapp_own oX (slCells_new xX) rfl (by rw [List.length_map]; omega) (by omega) (by simp) (by simp) (by have := gC.next; simp; omega) ?_
          rintro w E9 o1 s9 n9 k9
          have gE9 : Ge C0 E9 := oX.geApp (Nat.le_refl _) (gC.trans gX) (by have := gC.next; simp; omega) (by simp; omega) k9
          simp [tc, add_in (x := i) (y := 1) (by omega) (by omega)]
          refine ⟨⟨gE9, t2, t5, t7, t8, t9, t12, t11, t13, t14, t15, t17, i + 1, by omega, by omega, ?_⟩, by omega⟩
          rw [hst, List.map_append]; exact o1
        have hie3 : i = bs.length := by omega
        subst hie3
        rw [List.take_length] at own
        simp [hil]
        have gEC9 := gEC0.trans gC
        have gAC := (gB.trans gBC).trans gC
        have cX := (gBC.trans gC).got (n := A.next + 2) (by omega) bX
        have c8 := (gBC.trans gC).got (n := A.next + 1) (by omega) b8
        have ownX9 := ownX.ge (gBC.trans gC)
        have ownO9 := own_ints (ownO.ge (gBC.trans gC)) (by have := oldL_len Y ls (l : Int); rw [← hold] at this; omega)
        have holl := oldL_len Y ls (l : Int)
        rw [← hold] at holl
        have hbX : BssAt C9 xb (old.map (bAt Y)) := ⟨by rw [List.length_map]; exact ownX9.slr, by rw [List.length_map]; omega⟩
        have h8n : A.next + 1 < C9.next := by have h1 := gC.next; omega
        have h8A : IntsAt C9 (.slice (some ⟨A.next + 1, 0, none⟩) 1 1) [8] := ⟨⟨by simp only [slCells, c8]; rfl, fun a n c e => by simp at e; rw [← e.1]; exact h8n⟩, by simp⟩
        have hyA : YardAt C9 (.slice (some ⟨A.next + 1, 0, none⟩) 1 1) xb (aloneY Y old) := ⟨h8A, hbX⟩
        have hlx : lenV xb = some (.int .i64 old.length) := ownX9.slr.lenV
        simp [t14, cX, hlx]
        rw [mksV_at (by omega) (by omega)]
        simp
        generalize hM : (Heap.set _ _ _ : Heap) = M0
        have nM : M0.next = C9.next + 14 := by rw [← hM]; rfl
        have mZ : M0.get (C9.next + 5) = .cells true (List.replicate old.length (.int .i64 0)) old.length := by rw [← hM, ← zrep_int]; simp
        have gM : Ge C9 M0 := by
          rw [← hM]
          refine ⟨by simp, fun q hq => ?_⟩
          have e1 : q ≠ C9.next + 5 := by omega
          simp [e1]
        clear hM
        have h20 := yard_spec (Y := aloneY Y old) (hyA.ge gM) (by simp [aloneY]) (by simp [aloneY]; omega)
        refine fcall_fun (f := 20) h20 ?_
        rintro _ M1 ⟨r7, b7, rfl, y7, g7⟩
        have mX := (gM.trans g7).got (n := A.next + 2) (by have := gC.next; omega) cX
        have mZ1 := g7.got (n := C9.next + 5) (by omega) mZ
        have hzz : IntsAt M1 (.slice (some ⟨C9.next + 5, 0, none⟩) old.length old.length) (List.replicate old.length 0) := by
          refine ⟨⟨?_, fun a n c e => ?_⟩, by simp; omega⟩
          · simp only [slCells, mZ1]
            simp [rdL]
          · simp at e; rw [← e.1]; have := g7.next; show C9.next + 5 < M1.next; omega
        have hnO := oldL_nodup Y ls (l : Int)
        rw [← hold] at hnO
        have hbO : ∀ x ∈ old, isBusB Y x = true := fun x hx => (oldL_mem.1 (hold ▸ hx)).1
        have hltO := oldL_lt Y ls (l : Int)
        rw [← hold] at hltO
        have iOR := (own_ints (ownR.ge gC) (by unfold renL; rw [List.length_map]; have := List.length_filter_le (fun x => decide (x ∈ old)) os; omega)).ge (gM.trans g7)
        have iBR := (own_ints own (by unfold renL; rw [List.length_map]; have := List.length_filter_le (fun x => decide (x ∈ old)) bs; omega)).ge (gM.trans g7)
        simp [t14, mX, t15]
        refine fcall_fun (shunts_spec (Y := aloneY Y old) (ls := List.replicate old.length 0) (os := renL old os) (bs := renL old bs) y7 hzz iOR iBR) ?_
        rintro _ M2 ⟨tv, rfl, g9, ht1, ht2⟩
        have hcz : checkN (aloneY Y old) (List.replicate old.length 0) (renL old os) (renL old bs) = 0 := by
          unfold checkN
          rw [if_pos (alone_check hnO hbO holl hok), if_pos (by rw [alone_lanes (by omega), alone_poss hnO hbO hos, alone_broken hltO hbs]; rfl)]
        have oT := ht2 hcz
        have hal' := hal (l : Int)
        rw [← hold] at hal'
        rw [hal'] at oT
        have hrl : (renL old SA).length ≤ SA.length := by
          unfold renL; rw [List.length_map]; exact List.length_filter_le _ _
        have iT := own_ints oT (by omega)
        have gM2 := gM.trans (g7.trans g9)
        have iS2 := iS.ge (gEC9.trans gM2)
        have iO2 := ownO9.ge gM2
        have hbs2 := below_step (Y := Y) (ls := ls) (l := l) hSb
        rw [← hold] at hbs2
        have hTm : ∀ k ∈ renL old SA, ∃ x ∈ old, x ∈ SA ∧ numF old x = k := fun k hk => by
          unfold renL at hk
          obtain ⟨x, hx, e⟩ := List.mem_map.1 hk
          obtain ⟨h1, h2⟩ := List.mem_filter.1 hx
          exact ⟨x, by simpa using h2, h1, e⟩
        generalize renL old SA = TL at *
        simp [hcz]
        refine floop_intro (fun z => z.d = [] ∧ Ge M2 z.H ∧ z.t 2 = .pointer (some ⟨H.next, 0, none⟩) ∧ z.t 5 = u ∧ z.t 7 = ov ∧ z.t 8 = bv ∧ z.t 9 = sv ∧ z.t 12 = .int .i64 l ∧ z.t 17 = ow ∧ z.t 21 = tv ∧ ∃ c : Nat, c ≤ TL.length ∧ z.t 23 = .int .i64 c ∧ z.t 11 = .int .i64 (((belowL ls l SA).length : Int) + (c : Int))) (fun z => TL.length - (intOf (z.t 23)).toNat) ?_ ?_
        · exact ⟨rfl, Ge.refl _, by simp [t2], by simp [t5], by simp [t7], by simp [t8], by simp [t9], by simp [t12], by simp [t17], by simp, 0, by simp, by simp, by simp [t11]⟩
        clear t2 t5 t7 t8 t9 t12 t11 t13 t14 t17 t15
        rintro ⟨t4', _, N⟩ ⟨rfl, gN, t2, t5, t7, t8, t9, t12, t17, t21, c, hc', t23, t11⟩
        dsimp only at gN t2 t5 t7 t8 t9 t12 t17 t21 t23 t11
        simp [t21, t23, iT.lenV]
        by_cases hcT : c < TL.length
        case neg =>
          have hce : c = TL.length := by omega
          simp [hcT, t12, add_in (x := l) (y := 1) (by omega) (by omega)]
          have gEN : Ge E N := gEC9.trans (gM2.trans gN)
          refine ⟨⟨gEN, t2, t5, t7, t8, t9, l + 1, by omega, by omega, by rw [t11, hbs2, hce]; simp⟩, by rw [t12o]; simp; omega⟩
        obtain ⟨p, s1, s2⟩ := IntsAt.atAll iT hcT
        obtain ⟨x, hxo, hxS, hxe⟩ := hTm _ (List.getElem_mem hcT)
        obtain ⟨q0, q1⟩ := alone_bus.1 (alone_num (Y := Y) hxo)
        rw [hxe] at q0 q1
        have hidx : TL[c].toNat < old.length := by omega
        have hold2 : old[TL[c].toNat] = x := by
          obtain ⟨i9, h9, e9⟩ := List.getElem_of_mem hxo
          have := numF_at hnO h9
          rw [e9, hxe] at this
          have h10 : TL[c].toNat = i9 := by omega
          subst h10; exact e9
        obtain ⟨p9, s3, s4⟩ := IntsAt.atAll iO2 hidx
        rw [show ((TL[c].toNat : Nat) : Int) = TL[c] by omega] at s3
        rw [hold2] at s4
        have hsubo := sub_in (x := (old.length : Int)) (y := 1) (by omega) (by omega)
        simp [hcT, t21, t23, s1, s2 N gN, t17, iO2.lenV, hsubo]
        refine fcall_fun (in_spec _ _ _ _) ?_
        rintro _ N1 ⟨rfl, eN1⟩
        rw [eN1]
        have hin9 : inB TL[c] 0 ((old.length : Int) - 1) = true := by simp [inB]; omega
        simp [hin9, t9, t17, t21, t23, s1, s2 N gN, s3, s4 N gN]
        refine fcall_fun (place_spec (iS2.ge gN) (by omega)) ?_
        rintro _ N2 ⟨⟨q, rfl, hq⟩, eN2⟩
        rw [eN2]
        have hq0 : ¬ q < 0 := by
          rcases hq with ⟨_, h⟩ | ⟨j, h, _⟩
          · exact absurd hxS h
          · omega
        have hbl9 : (belowL ls l SA).length ≤ SA.length := List.length_filter_le _ _
        have a11 := add_in (x := ((belowL ls l SA).length : Int) + (c : Int)) (y := 1) (by omega) (by omega)
        simp [hq0, t11, a11, t23, add_in (x := c) (y := 1) (by omega) (by omega)]
        exact ⟨⟨gN, t2, t5, t7, t8, t9, t12, t17, t21, c + 1, by omega, by omega, by omega⟩, by omega⟩
      have iN : ∀ k : Nat, k < Y.buses.length → islV 1 (.slice (some ⟨A.next, 0, none⟩) Y.buses.length Y.buses.length) (.int .i64 (k : Int)) = some (.pointer (some ⟨A.next, k, none⟩)) := fun k hk => by
        rw [islV_in (by omega) (by omega)]; simp
      have hib : isBusB Y (i : Int) = true := by simp [isBusB, inB]; omega
      obtain ⟨lc, lc1, lc2⟩ := IntsAt.atB il' hll hib
      have gEB := gA.trans gB
      simp [hin, t13, t18, iN i hin, bN]
      rw [if_pos (by rw [numV_len]; omega), wrL_one _ _ _ (by rw [numV_len]; omega), numV_put]
      simp [t5, t18, lc1]
      generalize hS : (Heap.set _ _ _ : Heap) = S
      have nS : S.next = B.next := by rw [← hS]; rfl
      have sN : S.get A.next = .cells true (numV Y.buses.length (updF f i (-1))) Y.buses.length := by rw [← hS]; simp
      have kS : ∀ q, q ≠ A.next → S.get q = B.get q := fun q hq => by rw [← hS]; simp [hq]
      clear hS
      have gS : Ge A S := ⟨by omega, fun q hq => (kS q (by omega)).trans (gB.get q hq)⟩
      have gES := gA.trans gS
      have kSH : S.get H.next = .cells true [r, b, .int .i64 Y.broken] 3 := (kS _ (by omega)).trans kB
      have sX := (kS (A.next + 2) (by omega)).trans bX
      have s8 := (kS (A.next + 1) (by omega)).trans b8
      have ownXS : OwnS S (A.next + 3) 3 xb (oldP ls l i).length (((oldP ls l i).map (bAt Y)).flatMap Bs.cells) := ownX.keep (by omega) fun q e => kS q (by have := (ownX.names e).1; omega)
      have ownS : OwnSl S (A.next + 3) (t' 17) ((oldP ls l i).map (.int .i64)) := own.keep (by omega) fun q e => kS q (by have := (own.names e).1; omega)
      have hstep := oldP_step (ls := ls) (l := (l : Int)) i
      have hpl := oldP_len (ls := ls) (l := (l : Int)) i
      simp [lc2 S gES, t12]
      by_cases hll' : laneF ls (i : Int) = (l : Int)
      case neg =>
        rw [if_neg hll', List.append_nil] at hstep
        simp [hll', t18, add_in (x := i) (y := 1) (by omega) (by omega)]
        refine ⟨⟨gS, by omega, t2, t5, t7, t8, t9, t12, t11, t13, t14, t15, t16, s8, i + 1, by omega, by omega, xb, updF f i (-1), sN, fun k hk => ?_, sX, ?_, ?_, hsep⟩, by omega⟩
        · by_cases e : k = i
          · subst e; rw [hgF, if_neg hll']; simp [updF]
          · simp [updF, e]; exact hf k (by omega)
        · rw [hstep]; exact ownXS
        · rw [hstep]; exact ownS
      rw [if_pos hll'] at hstep
      have hlx : lenV xb = some (.int .i64 (oldP ls l i).length) := ownXS.slr.lenV
      simp [hll', t13, t14, t18, sX, hlx, iN i hin, sN]
      rw [if_pos (by rw [numV_len]; omega), wrL_one _ _ _ (by rw [numV_len]; omega), numV_put]
      generalize hS2 : (Heap.set _ _ _ : Heap) = S2
      have nS2 : S2.next = S.next := by rw [← hS2]; rfl
      have s2N : S2.get A.next = .cells true (numV Y.buses.length (updF (updF f i (-1)) i ((oldP ls (l : Int) i).length : Int))) Y.buses.length := by rw [← hS2]; simp
      have kS2 : ∀ q, q ≠ A.next → S2.get q = S.get q := fun q hq => by rw [← hS2]; simp [hq]
      clear hS2
      have gS2 : Ge A S2 := ⟨by omega, fun q hq => (kS2 q (by omega)).trans (gS.get q hq)⟩
      have gHS2 := (GE'.trans gA).trans gS2
      have s2H : S2.get H.next = .cells true [r, b, .int .i64 Y.broken] 3 := (kS2 _ (by omega)).trans kSH
      have s2X := (kS2 (A.next + 2) (by omega)).trans sX
      have s28 := (kS2 (A.next + 1) (by omega)).trans s8
      have ownX2 : OwnS S2 (A.next + 3) 3 xb (oldP ls l i).length (((oldP ls l i).map (bAt Y)).flatMap Bs.cells) := ownXS.keep (by omega) fun q e => kS2 q (by have := (ownXS.names e).1; omega)
      have own2 : OwnSl S2 (A.next + 3) (t' 17) ((oldP ls l i).map (.int .i64)) := ownS.keep (by omega) fun q e => kS2 q (by have := (ownS.names e).1; omega)
      obtain ⟨nb, ob, f1, _, f2⟩ := BssAt.at h.buses hin
      obtain ⟨f3, _⟩ := f2 S2 gHS2
      simp [t14, s2X, t2, s2H, t18, f1, f3, busV]
      generalize hW : (Heap.set (Heap.set _ _ _) _ _ : Heap) = W
      have nW : W.next = S2.next + 16 := by rw [← hW]; rfl
      have w7 : W.get (S2.next + 7) = .cells true (Bs.cells Y.buses[i]) 3 := by rw [← hW]; simp; rfl
      have w11 : W.get (S2.next + 11) = .cells true [.int .i64 (i : Int)] 1 := by rw [← hW]; simp
      have gW : Ge S2 W := by
        rw [← hW]
        refine ⟨by simp, fun q hq => ?_⟩
        have e1 : q ≠ S2.next + 7 := by omega
        have e2 : q ≠ S2.next + 11 := by omega
        simp [e1, e2]
      clear hW
      have ownXW := ownX2.ge gW
      have ownW := own2.ge gW
      have hsl7 : slCells W 3 (.slice (some ⟨S2.next + 7, 0, none⟩) 1 1) = some (1, Bs.cells Y.buses[i]) := by
        simp only [slCells, w7]; rfl
      refine fapp_ownS' ownXW hsl7 rfl rfl (by omega) (by omega) (by omega) (by omega) ?_
      rintro ux W2 oX sX' nX' kX'
      have ownW2 : OwnSl W2 (A.next + 3) (t' 17) ((oldP ls l i).map (.int .i64)) := ownW.keep (by omega) fun q e => kX' q (by have := (own2.names e).2; omega) fun e2 => hsep q e2 e
      have w11' : W2.get (S2.next + 11) = .cells true [.int .i64 (i : Int)] 1 := by
        rw [kX' _ (by omega) fun e => by have := (ownX2.names e).2; omega]; exact w11
      simp [t14]
      refine fapp_own' ownW2 (slCells_new w11') rfl (by rw [List.length_map]; omega) (by omega) (by omega) (by omega) ?_
      rintro u17 W3 o17 s17 n17 k17
      have kAll : ∀ q, q < A.next + 3 → W3.get q = S2.get q := fun q hq => by
        rw [k17 q (by omega) (fun e => by have := (ownW2.names e).1; omega), kX' q (by omega) (fun e => by have := (ownXW.names e).1; omega)]
        exact gW.get q (by omega)
      have w3X : W3.get (A.next + 2) = .cells true [.slice (some ⟨A.next + 1, 0, none⟩) 1 1, xb, .int .i64 Y.broken] 3 := (kAll _ (by omega)).trans s2X
      have uxc : ux.cells = #[ux] := by rcases oX with ⟨h, _⟩ | ⟨_, _, _, h, _⟩ <;> (rw [h]; rfl)
      have ux1 := oX.one
      simp [w3X, uxc, ux1, t18, add_in (x := i) (y := 1) (by omega) (by omega)]
      have gW3 : Ge A W3 := ⟨by omega, fun q hq => (kAll q (by omega)).trans (gS2.get q hq)⟩
      refine ⟨⟨⟨by simpa using gW3.next, fun q hq => ?_⟩, by omega, t2, t5, t7, t8, t9, t12, t11, t13, t14, t15, t16, (kAll _ (by omega)).trans s28, i + 1, by omega, ?_⟩, by omega⟩
      · have e1 : q ≠ A.next + 2 := by omega
        simp [e1]
        exact gW3.get q hq
      have hbA : bAt Y (i : Int) = Y.buses[i] := by simp [bAt, hin]
      have oX2 : OwnS W3 (A.next + 3) 3 ux ((oldP ls l i).length + 1) (((oldP ls l i).map (bAt Y)).flatMap Bs.cells ++ Bs.cells Y.buses[i]) := oX.keep (by omega) fun q e => k17 q (by rw [sX'] at e; cases e; omega) fun e2 => by
        have := (ownW.names e2).2
        rw [sX'] at e; cases e
        have := (own2.names e2).2
        omega
      refine ⟨by omega, ux, _, (kAll _ (by omega)).trans s2N, fun k hk => ?_, rfl, ?_, ?_, fun q e => ?_⟩
      · by_cases e : k = i
        · subst e; rw [hgF, if_pos hll']; simp [updF]
        · simp [updF, e]; exact hf k (by omega)
      · rw [hstep, List.length_append, List.length_singleton, List.map_append, List.flatMap_append]
        refine OwnS.keep (A := W3) (by simpa [hbA] using oX2) (by simp) fun q e => ?_
        have : q ≠ A.next + 2 := by rw [sX'] at e; cases e; omega
        simp [this]
      · rw [hstep, List.map_append]
        refine OwnSl.keep (A := W3) o17 (by simp) fun q e => ?_
        have : q ≠ A.next + 2 := by rw [s17] at e; cases e; omega
        simp [this]
      · rw [sX'] at e; rw [s17]
        cases e
        simp

end Go.Proofs.Ytfijnkhiojejfaa


namespace Go.Proofs.Ytfijnkhiojejfaa
open Go Go.Ab Go.RowKit Go.ChangeShapes Go.WideShapes

theorem ownT : ownKnob Try.prog.godebug = none := by kernel_rfl
theorem laidT : laidOutB Try.prog = true := by kernel_rfl
theorem readT {l : List Nat} (h : l.all (fun t => Try.prog.readableRec t && decide (t < Try.prog.types.size)) = true) : ∀ t ∈ l, Try.prog.readableRec t = true ∧ t < Try.prog.types.size := by
  intro t ht
  have := List.all_eq_true.1 h t ht
  simpa using this
theorem cells3 : Try.prog.cellsOf 3 = 1 := by kernel_rfl
theorem cells22 : Try.prog.cellsOf 22 = 1 := by kernel_rfl
theorem cells23 : Try.prog.cellsOf 23 = 1 := by kernel_rfl
theorem cells25 : Try.prog.cellsOf 25 = 3 := by kernel_rfl
theorem cells73 : Try.prog.cellsOf 73 = 3 := by kernel_rfl
theorem cells71 : Try.prog.cellsOf 71 = 1 := by kernel_rfl

theorem list3 {l : List Value} (h : l.length = 3) : ∃ a b c, l = [a, b, c] := by
  match l, h with
  | [a, b, c], _ => exact ⟨a, b, c, rfl⟩
theorem maxLen_lt {n : Nat} (h : n ≤ maxLen) : n < 2 ^ 63 := by
  have : maxLen = 9223372036854775807 := rfl
  omega

section
variable {H : Type} {enc : TypeId × Value → H} {w : World} {fuel : Nat} {v : Value} {x : DataW H × List MemPlace}

theorem read_list (h : DataW.trod enc Try.prog w 0 (fun _ => true) true fuel 22 [v] = some x) : goodV w.heap.size (capM w.heap) v = true ∧ ∃ xs : List Int, IntsAt (absH w.heap) (absV w.heap.size v) xs := by
  obtain ⟨h1, xs, h2, h3, _⟩ := read_ints Try.underlying22 Try.underlying3 cells3 h
  exact ⟨h1, xs, h2, maxLen_lt h3⟩

theorem read_bus {cs : List Value} (h : DataW.trod enc Try.prog w 0 (fun _ => true) true fuel 73 cs = some x) : (∀ u ∈ cs, goodV w.heap.size (capM w.heap) u = true) ∧ ∃ t : Bs, cs.map (absV w.heap.size) = t.cells ∧ True := by
  obtain ⟨ys, n, _, _, hl, hyl, hf⟩ := DataW.trod_struct Try.underlying73 h
  rw [cells73] at hl
  obtain ⟨c0, c1, c2, rfl⟩ := list3 hl
  have hy3 : ys.length = 3 := by simpa using hyl
  have e0 := hf 0 _ rfl
  have e1 := hf 1 _ rfl
  have e2 := hf 2 _ rfl
  simp [cells3, hy3] at e0 e1 e2
  obtain ⟨z0, hz0, _⟩ := DataW.trod_int Try.underlying3 e0
  obtain ⟨z1, hz1, _⟩ := DataW.trod_int Try.underlying3 e1
  obtain ⟨z2, hz2, _⟩ := DataW.trod_int Try.underlying3 e2
  simp at hz0 hz1 hz2
  subst hz0 hz1 hz2
  exact ⟨by simp [goodV], ⟨z0, z1, z2⟩, rfl, trivial⟩

theorem read_buses (h : DataW.trod enc Try.prog w 0 (fun _ => true) true fuel 23 [v] = some x) : goodV w.heap.size (capM w.heap) v = true ∧ ∃ xs : List Bs, BssAt (absH w.heap) (absV w.heap.size v) xs := by
  obtain ⟨h1, xs, h2, h3, _⟩ := read_slice (α := Bs) (f := Bs.cells) (Q := fun _ => True) Try.underlying23 (by rw [cells73]; omega) (fun n cs y hy => read_bus hy) h
  rw [cells73] at h2
  exact ⟨h1, xs, h2, maxLen_lt h3⟩
end

section
variable {H : Type} {enc : TypeId × Value → H} {w : World} {base : Nat} {v : Value} {d : DataW H} {p : List MemPlace}

set_option maxRecDepth 100000 in
theorem read_yardV (hval : Value.okWide Try.prog w .any base 25 v) (h : DataW.Trod enc Try.prog w 0 (fun _ => true) true 25 v d p) :
    ∃ Y r b, VR (absB w.heap) (yardV Y r b) v ∧ YardAt (absH w.heap) r b Y := by
  obtain ⟨cs, rfl, hsz⟩ := okWide_struct Try.underlying25 hval
  obtain ⟨fuel, h⟩ := h
  simp only [Value.cells] at h
  obtain ⟨ys, n, _, _, hl, hyl, hf⟩ := DataW.trod_struct Try.underlying25 h
  rw [cells25] at hl
  obtain ⟨l, rfl⟩ : ∃ l : List Value, cs = l.toArray := ⟨cs.toList, by simp⟩
  simp only at hl hf
  obtain ⟨c0, c1, c2, rfl⟩ := list3 hl
  have hy3 : ys.length = 3 := by simpa using hyl
  have e0 := hf 0 _ rfl
  have e1 := hf 1 _ rfl
  have e2 := hf 2 _ rfl
  simp [cells3, cells22, cells23, hy3] at e0 e1 e2
  obtain ⟨z2, hz2, _⟩ := DataW.trod_int Try.underlying3 e2
  obtain ⟨g0, xs, k0⟩ := read_list e0
  obtain ⟨g1, us, k1⟩ := read_buses e1
  simp at hz2
  subst hz2
  refine ⟨⟨xs, us, z2⟩, absV w.heap.size c0, absV w.heap.size c1, VR.mk_agg ?_, ⟨k0, k1⟩⟩
  exact ⟨good_VR g0, good_VR g1, .int _ _, trivial⟩

set_option maxRecDepth 100000 in
theorem read_wordsV (hval : Value.okWide Try.prog w .any base 61 v) (h : DataW.Trod enc Try.prog w 0 (fun _ => true) true 61 v d p) : VR (absB w.heap) (absV w.heap.size v) v ∧ ∃ xs, WordsAt (absH w.heap) (absV w.heap.size v) xs := by
  obtain ⟨a0, len, cap, rfl⟩ := okWide_slice Try.underlying61 hval
  obtain ⟨fuel, h⟩ := h
  obtain ⟨h1, xs, h2, h3, h4⟩ := read_ints Try.underlying61 Try.underlying71 cells71 h
  refine ⟨good_VR h1, xs, h2, maxLen_lt h3, fun x hx => ?_⟩
  have := h4 x hx
  simp [Lit.wf, IntKind.min, IntKind.max, IntKind.signed, IntKind.bits] at this
  omega
end

end Go.Proofs.Ytfijnkhiojejfaa

