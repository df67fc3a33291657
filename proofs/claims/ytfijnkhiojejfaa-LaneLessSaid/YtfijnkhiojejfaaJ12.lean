/-
  Joined texts of a calculus of abstract memory, of the program's code in it, and of contracts.
-/
import Derived.Test.YtfijnkhiojejfaaJ9
import Derived.Test.YtfijnkhiojejfaaJ10
import Derived.Test.YtfijnkhiojejfaaJ11
import Derived.ProofKit
import Derived.Test.YtfijnkhiojejfaaRows
namespace Go.Proofs.Ytfijnkhiojejfaa
open Go Go.Ab

theorem awake_spec (A : Heap) : AFun Try.prog 17 [] A (fun r B => r = .bool true ∧ B = A) :=
  Entry.closed eAwake_ok rfl rfl rfl (fun g hg => absurd hg (Nat.not_lt_zero g))

end Go.Proofs.Ytfijnkhiojejfaa


namespace Go.Proofs.Ytfijnkhiojejfaa
open Go Go.Ab

theorem yard_cut {H : Heap} {r b : Value} {Y : Yd} {k : Nat} (h : YardAt H r b Y) (h0 : 0 < Y.buses.length) (hk : k ≤ Y.buses.length) :
    ∃ u, (∀ (P : Program) (t : Nat → Value) (G : Heap) (x y : Opd) (kd : IntKind), x.ev t = b → y.ev t = .int kd (k : Int) → aval P t G (.sl 3 x none (some y)) = some u) ∧ YardAt H r u (cutY Y k) := by
  obtain ⟨u, h1, h2⟩ := h.buses.1.sl_to h0 hk
  refine ⟨u, h1, h.room, ?_, ?_⟩
  · show SlR H 3 u (Y.buses.take k).length ((Y.buses.take k).flatMap Bs.cells)
    rw [List.length_take, Nat.min_eq_left hk, ← flatMap_take Bs.len]
    exact h2
  · show (Y.buses.take k).length < 2 ^ 63
    rw [List.length_take]; have := h.buses.2; omega

theorem lowL_step {k : Nat} {xs : List Int} {i : Nat} (hi : i < xs.length) : lowL k (xs.take (i + 1)) = lowL k (xs.take i) ++ if xs[i] < (k : Int) then [xs[i]] else [] := by
  unfold lowL
  rw [List.take_succ_eq_append_getElem hi, List.filter_append]
  by_cases h : xs[i] < (k : Int) <;> simp [h]

set_option maxHeartbeats 4000000 in
theorem laneLess_of {Y : Yd} {r b v : Value} {H : Heap} {ws : List Int} (h : YardAt H r b Y) (hv : WordsAt H v ws) : AFun Try.prog 13 [yardV Y r b, v] H (fun r _ => r = .bool true) := by
  refine AFun.mk ok13 hm (Nat.le_of_ble_eq_true rfl) ?_
  have hb := h.buses.one
  have hr := h.room.one
  have g0 : Ge H (H.new (.cells true [r, b, .int .i64 Y.broken] 3)) := Ge.new _ _
  simp [a13, r13]
  refine fcall_fun (ready_spec (h.ge g0)) ?_
  rintro _ H1 ⟨rfl, g1⟩
  have G1 := g0.trans g1
  have k1 := g1.got (n := H.next) (by simp) rfl
  have n1 := g1.next
  simp at k1 n1
  generalize hrd : (decide (Y.room.length ≤ 6 ∧ Y.buses.length ≤ 12) && decide (checkY Y = 0)) = rd
  cases rd with
  | false =>
    simp [k1, h.buses.lenV]
    refine fcall_fun (awake_spec _) ?_
    rintro _ _ ⟨rfl, _⟩
    simp
  | true =>
    have hok : checkY Y = 0 := by simp at hrd; exact hrd.2
    obtain ⟨_, h8, _, _, _, _, hbr, _⟩ := okY_facts hok
    simp [k1]
    refine fcall_fun (parked_spec (h.ge G1) (hv.ge G1) hok) ?_
    rintro _ H2 ⟨u, is, rfl, g2, hu0, hu1⟩
    have G2 := G1.trans g2
    have k2 := g2.got (n := H.next) (by omega) k1
    have n2 := g2.next
    cases is with
    | false =>
      simp [k2, h.buses.lenV]
      refine fcall_fun (awake_spec _) ?_
      rintro _ _ ⟨rfl, _⟩
      simp
    | true =>
      obtain ⟨ls, o2, hls⟩ := hu1 rfl
      by_cases hn0 : Y.buses.length = 0
      · simp [k2, h.buses.lenV, hn0]
        refine fcall_fun (awake_spec _) ?_
        rintro _ _ ⟨rfl, _⟩
        simp
      obtain ⟨k, hk⟩ : ∃ k, Y.buses.length = k + 1 := ⟨Y.buses.length - 1, by omega⟩
      have hsub : binI BinOp.sub (.int .i64 ((k : Int) + 1)) (.int .i64 1) = some (.int .i64 (k : Int)) := by
        rw [sub_in (by omega) (by omega)]; simp
      have hkp : ¬ (k : Int) + 1 = 0 := by omega
      obtain ⟨b', hb1, hc⟩ := yard_cut (k := k) h (by omega) (by omega)
      have hb'1 := hc.buses.one
      have hne : H.next ≠ H2.next := by omega
      have hne' : H2.next ≠ H.next := by omega
      simp [k2, h.buses.lenV, hk, hkp, hsub, hr, hb, hne]
      rw [hb1 _ _ _ _ _ .i64 (by simp) (by simp)]
      have hb'c : b'.cells = #[b'] := by rcases hc.buses.1.cases2 with ⟨h, _⟩ | ⟨_, _, h⟩ <;> (rw [h]; rfl)
      simp [hb'c, hb'1, hne, k2]
      generalize hZ : (Heap.set (Heap.set _ _ _) _ _ : Heap) = Z
      have nZ : Z.next = H2.next + 1 := by rw [← hZ]; rfl
      have aZ : Z.get H2.next = .cells true [r, b', .int .i64 Y.broken] 3 := by rw [← hZ]; simp
      have gZ : Ge H2 Z := by rw [← hZ]; exact ((Ge.new _ _).setNew (by omega) _).setNew (by omega) _
      clear hZ
      have kZ := gZ.got (n := H.next) (by omega) k2
      have gZ8 : Ge Z (⟨Z.get, H2.next + 9⟩ : Heap) := Ge.grow_le (by omega) (Ge.refl _)
      have GZ8 := (G2.trans gZ).trans gZ8
      refine fcall_fun (came_spec (h.ge GZ8) (hv.ge GZ8) hok) ?_
      rintro ov H3 ⟨os, o3, hos, g3⟩
      have G3 := GZ8.trans g3
      have n3 := g3.next
      simp at n3
      have k3 := g3.got (n := H.next) (by show H.next < H2.next + 9; omega) (by simpa using kZ)
      have a3' := g3.got (n := H2.next) (by show H2.next < H2.next + 9; omega) (by simpa using aZ)
      simp [k3]
      refine fcall_fun (down_spec (h.ge G3) (hv.ge G3) (by omega) hbr) ?_
      rintro bv H4 ⟨bs, o4, hbs, g4⟩
      have G4 := G3.trans g4
      have n4 := g4.next
      have k4 := g4.got (n := H.next) (by omega) k3
      have a4' := g4.got (n := H2.next) (by omega) a3'
      obtain ⟨p1, p2, p3⟩ := possB_in hos
      have hbl : bs.length ≤ 8 := by
        have : (bs.length : Int) ≤ Y.broken := by simp [brokenB] at hbs; exact hbs.1
        have := (okY_facts hok).2.2.2.2.2.2.2
        omega
      have io := (own_ints o3 (by omega)).ge g4
      have ib := own_ints o4 (by omega)
      simp
      refine floop_intro (fun z => z.d = [] ∧ Ge H4 z.H ∧ z.t 2 = .pointer (some ⟨H.next, 0, none⟩) ∧ z.t 5 = u ∧ z.t 8 = .int .i64 k ∧ z.t 9 = .pointer (some ⟨H2.next, 0, none⟩) ∧ z.t 11 = .slice none 0 0 ∧ z.t 12 = ov ∧ z.t 13 = bv ∧ ∃ i : Nat, i ≤ os.length ∧ z.t 14 = .int .i64 i ∧ OwnSl z.H H4.next (z.t 10) ((lowL k (os.take i)).map (.int .i64))) (fun z => os.length - (intOf (z.t 14)).toNat) ?_ ?_
      · exact ⟨rfl, Ge.refl _, by simp, by simp, by simp, by simp, by simp, by simp, by simp, 0, by simp, by simp, .inl ⟨by simp, by simp [lowL]⟩⟩
      rintro ⟨t, _, A⟩ ⟨rfl, gA, t2, t5, t8, t9, t11, t12, t13, i, hi, t14, own⟩
      dsimp only at gA t2 t5 t8 t9 t11 t12 t13 t14 own
      simp [t14, t12, io.lenV]
      by_cases hil : i < os.length
      · obtain ⟨p, e1, e2⟩ := IntsAt.atAll io hil
        have hst := lowL_step (k := k) hil
        simp [hil, t12, t14, e1, e2 A gA, t8]
        by_cases hlt : os[i] < (k : Int)
        case neg =>
          rw [if_neg hlt, List.append_nil] at hst
          simp [hlt, t14, add_in (x := i) (y := 1) (by omega) (by omega)]
          exact ⟨⟨gA, t2, t5, t8, t9, t11, t12, t13, i + 1, by omega, by omega, by rw [hst]; exact own⟩, by omega⟩
        rw [if_pos hlt] at hst
        simp [hlt, t12, t14, e1, e2 A gA]
        have gX := Ge.new A (.cells true [.int .i64 os[i]] 1)
        have xX : (A.new (.cells true [.int .i64 os[i]] 1)).get A.next = .cells true [.int .i64 os[i]] 1 := by simp
        have oX := own.ge gX
        have hll : (lowL k (os.take i)).length ≤ os.length := Nat.le_trans (List.length_filter_le _ _) (by rw [List.length_take]; omega)
        refine fapp_own oX (slCells_new xX) rfl (by rw [List.length_map]; omega) (by omega) (by simp) (by simp) (by have := gA.next; simp; omega) ?_
        rintro w B o1 s1 n1 k1
        have gB : Ge H4 B := oX.geApp (Nat.le_refl _) (gA.trans gX) (by have := gA.next; simp; omega) (by simp; omega) k1
        simp [t14, add_in (x := i) (y := 1) (by omega) (by omega)]
        refine ⟨⟨gB, t2, t5, t8, t9, t11, t12, t13, i + 1, by omega, by omega, ?_⟩, by omega⟩
        rw [hst, List.map_append]; exact o1
      have hie : i = os.length := by omega
      subst hie
      rw [List.take_length] at own
      simp
      have gA1 := gA
      have own10 := own
      have t10o : t 10 = t 10 := rfl
      refine floop_intro (fun z => z.d = [] ∧ Ge A z.H ∧ z.t 2 = .pointer (some ⟨H.next, 0, none⟩) ∧ z.t 5 = u ∧ z.t 8 = .int .i64 k ∧ z.t 9 = .pointer (some ⟨H2.next, 0, none⟩) ∧ z.t 10 = t 10 ∧ z.t 12 = ov ∧ z.t 13 = bv ∧ ∃ i : Nat, i ≤ bs.length ∧ z.t 15 = .int .i64 i ∧ OwnSl z.H A.next (z.t 11) ((lowL k (bs.take i)).map (.int .i64))) (fun z => bs.length - (intOf (z.t 15)).toNat) ?_ ?_
      · exact ⟨rfl, Ge.refl _, by simp [t2], by simp [t5], by simp [t8], by simp [t9], by simp, by simp [t12], by simp [t13], 0, by simp, by simp, .inl ⟨by simp [t11], by simp [lowL]⟩⟩
      clear t2 t5 t8 t9 t11 t12 t13 t14 own hi
      rintro ⟨t', _, B⟩ ⟨rfl, gA, t2, t5, t8, t9, t10, t12, t13, i, hi, t15, own⟩
      dsimp only at gA t2 t5 t8 t9 t10 t12 t13 t15 own
      have ib' := ib.ge gA1
      simp [t15, t13, ib'.lenV]
      by_cases hil : i < bs.length
      · obtain ⟨p, e1, e2⟩ := IntsAt.atAll ib' hil
        have hst := lowL_step (k := k) hil
        simp [hil, t13, t15, e1, e2 B gA, t8]
        by_cases hlt : bs[i] < (k : Int)
        case neg =>
          rw [if_neg hlt, List.append_nil] at hst
          simp [hlt, t15, add_in (x := i) (y := 1) (by omega) (by omega)]
          exact ⟨⟨gA, t2, t5, t8, t9, t10, t12, t13, i + 1, by omega, by omega, by rw [hst]; exact own⟩, by omega⟩
        rw [if_pos hlt] at hst
        simp [hlt, t13, t15, e1, e2 B gA]
        have gX := Ge.new B (.cells true [.int .i64 bs[i]] 1)
        have xX : (B.new (.cells true [.int .i64 bs[i]] 1)).get B.next = .cells true [.int .i64 bs[i]] 1 := by simp
        have oX := own.ge gX
        have hll : (lowL k (bs.take i)).length ≤ bs.length := Nat.le_trans (List.length_filter_le _ _) (by rw [List.length_take]; omega)
        refine fapp_own oX (slCells_new xX) rfl (by rw [List.length_map]; omega) (by omega) (by simp) (by simp) (by have := gA.next; simp; omega) ?_
        rintro w E o1 s1 n1 k1
        have gB : Ge A E := oX.geApp (Nat.le_refl _) (gA.trans gX) (by have := gA.next; simp; omega) (by simp; omega) k1
        simp [t15, add_in (x := i) (y := 1) (by omega) (by omega)]
        refine ⟨⟨gB, t2, t5, t8, t9, t10, t12, t13, i + 1, by omega, by omega, ?_⟩, by omega⟩
        rw [hst, List.map_append]; exact o1
      have hie : i = bs.length := by omega
      subst hie
      rw [List.take_length] at own
      have gAB := gA1.trans gA
      have GB := G4.trans gAB
      have kB := gAB.got (n := H.next) (by omega) k4
      have aB := gAB.got (n := H2.next) (by omega) a4'
      have nB := gAB.next
      have hll := lanesB_len hls
      have io' := io.ge gAB
      have ib2 := ib.ge gAB
      have il := (own_ints o2 (by omega)).ge ((gZ.trans gZ8).trans (g3.trans (g4.trans gAB)))
      have hr6 : Y.room.length ≤ 6 := by omega
      have iOL := (own_ints own10 (by have := List.length_filter_le (fun x => decide (x < (k : Int))) os; unfold lowL; omega)).ge gA
      have iBL := own_ints own (by have := List.length_filter_le (fun x => decide (x < (k : Int))) bs; unfold lowL; omega)
      simp [t2, kB]
      refine fcall_fun (yard_spec (h.ge GB) hr6 (by omega)) ?_
      rintro _ C1 ⟨r1, b1, rfl, y1, c1⟩
      simp [t5]
      refine fcall_fun (list_spec (il.ge c1) (by omega)) ?_
      rintro v2 C2 ⟨q2, c2⟩
      simp [t12]
      refine fcall_fun (list_spec (io'.ge (c1.trans c2)) (by omega)) ?_
      rintro v3 C3 ⟨q3, c3⟩
      simp [t13]
      refine fcall_fun (list_spec (ib2.ge (c1.trans (c2.trans c3))) (by omega)) ?_
      rintro v4 C4 ⟨q4, c4⟩
      simp
      refine fcall_fun (shunts_spec (ls := ls) (os := os) (bs := bs) (y1.ge (c2.trans (c3.trans c4))) ((own_ints q2 (by omega)).ge (c3.trans c4)) ((own_ints q3 (by omega)).ge c4) (own_ints q4 (by omega))) ?_
      rintro _ C5 ⟨sv, rfl, c5, hs1, hs2⟩
      have cAll := c1.trans (c2.trans (c3.trans (c4.trans c5)))
      have hc0 : checkN Y ls os bs = 0 := by unfold checkN; rw [if_pos hok, if_pos (by rw [hls, hos, hbs]; rfl)]
      obtain ⟨ul, hu1', hu2⟩ := IntsAt.sl_to (k := k) (il.ge cAll) (by omega) (by omega)
      have aC := cAll.got (n := H2.next) (by omega) aB
      have hk' : k ≤ Y.buses.length := by omega
      simp [t9, aC, t5, t8]
      rw [hu1' _ _ _ _ _ .i64 (by simp) (by simp)]
      simp
      have c14 : Ge C5 (⟨C5.get, C5.next + 14⟩ : Heap) := Ge.grow_le (by omega) (Ge.refl _)
      have GC := (GB.trans cAll).trans c14
      have hcb : (cutY Y k).buses.length = k := cut_len hk'
      refine fcall_fun (f := 20) (yard_spec (Y := cutY Y k) (hc.ge GC) hr6 (by omega)) ?_
      rintro _ D1 ⟨r7, b7, rfl, y7, d1⟩
      simp
      refine fcall_fun (list_spec ((hu2.ge c14).ge d1) (by rw [List.length_take]; omega)) ?_
      rintro v7 D2 ⟨q7, d2⟩
      have cD := cAll.trans (c14.trans (d1.trans d2))
      simp
      rw [t10]
      refine fcall_fun (shunts_spec (Y := cutY Y k) (ls := ls.take k) (os := lowL k os) (bs := lowL k bs) (y7.ge d2) (own_ints q7 (by rw [List.length_take]; omega)) (iOL.ge cD) (iBL.ge cD)) ?_
      rintro _ D3 ⟨tv, rfl, d3, ht1, ht2⟩
      have hc1 : checkN (cutY Y k) (ls.take k) (lowL k os) (lowL k bs) = 0 := by
        unfold checkN; rw [if_pos (cut_check hk' hok), if_pos (by rw [cut_lanes hk' hls, cut_poss hk' hos, cut_broken hk' hbs]; rfl)]
      have hlen : ∀ (Z : Yd) p, (thoseL Z p).length ≤ Z.buses.length := fun Z p => by
        refine Nat.le_trans (List.length_filter_le _ _) ?_
        simp [busesL]
      have is1 : IntsAt D3 sv (shuntsL Y (standsOf ls os) (inF bs)) := (own_ints (hs2 hc0) (by have := hlen Y (shB Y (standsOf ls os) (inF bs)); unfold shuntsL; omega)).ge (c14.trans (d1.trans (d2.trans d3)))
      have is2 : IntsAt D3 tv (shuntsL (cutY Y k) (standsOf (ls.take k) (lowL k os)) (inF (lowL k bs))) := own_ints (ht2 hc1) (by have := hlen (cutY Y k) (shB (cutY Y k) (standsOf (ls.take k) (lowL k os)) (inF (lowL k bs))); unfold shuntsL; omega)
      have hsub2 : ∀ c, c ∈ shuntsL (cutY Y k) (standsOf (ls.take k) (lowL k os)) (inF (lowL k bs)) → c ∈ shuntsL Y (standsOf ls os) (inF bs) := fun c hc => shunts_low hk' hok hls hos hc
      have hsl : (shuntsL Y (standsOf ls os) (inF bs)).length ≤ Y.buses.length := hlen Y _
      generalize shuntsL Y (standsOf ls os) (inF bs) = SA at *
      generalize shuntsL (cutY Y k) (standsOf (ls.take k) (lowL k os)) (inF (lowL k bs)) = SB at *
      simp [hc0, hc1]
      refine floop_intro (fun z => z.d = [] ∧ Ge D3 z.H ∧ z.t 16 = sv ∧ z.t 18 = tv ∧ ∃ i : Nat, i ≤ SB.length ∧ z.t 20 = .int .i64 i) (fun z => SB.length - (intOf (z.t 20)).toNat) ?_ ?_
      · exact ⟨rfl, Ge.refl _, by simp, by simp, 0, by simp, by simp⟩
      rintro ⟨t'', _, E⟩ ⟨rfl, gE, t16, t18, i, hi, t20⟩
      dsimp only at gE t16 t18 t20
      simp [t18, t20, is2.lenV]
      by_cases hil : i < SB.length
      case neg =>
        simp [hil]
        refine fcall_fun (awake_spec _) ?_
        rintro _ _ ⟨rfl, _⟩
        simp
      obtain ⟨p, e1, e2⟩ := IntsAt.atAll is2 hil
      simp [hil, t16, t18, t20, e1, e2 E gE]
      refine fcall_fun (place_spec (is1.ge gE) (by omega)) ?_
      rintro _ E1 ⟨⟨q, rfl, hq⟩, eE⟩
      rw [eE]
      have hin := hsub2 _ (List.getElem_mem hil)
      have hq0 : ¬ q < 0 := by
        rcases hq with ⟨_, h⟩ | ⟨j, h, _⟩
        · exact absurd hin h
        · omega
      have hlt := is2.2
      simp [hq0, t20, add_in (x := i) (y := 1) (by omega) (by omega)]
      exact ⟨⟨gE, t16, t18, i + 1, by omega, by omega⟩, by omega⟩

end Go.Proofs.Ytfijnkhiojejfaa


namespace Go.Proofs.Ytfijnkhiojejfaa
open Go Go.Ab Go.RowKit Go.ChangeShapes Go.WideShapes

theorem ownT : ownKnob Try.prog.godebug = none := by kernel_rfl
theorem laidT : laidOutB Try.prog = true := by kernel_rfl
theorem readT {l : List Nat} (h : l.all (fun t => Try.prog.readableRec t && decide (t < Try.prog.types.size)) = true) : ∀ t ∈ l, Try.prog.readableRec t = true ∧ t < Try.prog.types.size := by
  intro t ht
  have := List.all_eq_true.1 h t ht
  simpa using this
theorem cells3 : Try.prog.cellsOf 3 = 1 := by kernel_rfl
theorem cells22 : Try.prog.cellsOf 22 = 1 := by kernel_rfl
theorem cells23 : Try.prog.cellsOf 23 = 1 := by kernel_rfl
theorem cells25 : Try.prog.cellsOf 25 = 3 := by kernel_rfl
theorem cells73 : Try.prog.cellsOf 73 = 3 := by kernel_rfl
theorem cells71 : Try.prog.cellsOf 71 = 1 := by kernel_rfl

theorem list3 {l : List Value} (h : l.length = 3) : ∃ a b c, l = [a, b, c] := by
  match l, h with
  | [a, b, c], _ => exact ⟨a, b, c, rfl⟩
theorem maxLen_lt {n : Nat} (h : n ≤ maxLen) : n < 2 ^ 63 := by
  have : maxLen = 9223372036854775807 := rfl
  omega

section
variable {H : Type} {enc : TypeId × Value → H} {w : World} {fuel : Nat} {v : Value} {x : DataW H × List MemPlace}

theorem read_list (h : DataW.trod enc Try.prog w 0 (fun _ => true) true fuel 22 [v] = some x) : goodV w.heap.size (capM w.heap) v = true ∧ ∃ xs : List Int, IntsAt (absH w.heap) (absV w.heap.size v) xs := by
  obtain ⟨h1, xs, h2, h3, _⟩ := read_ints Try.underlying22 Try.underlying3 cells3 h
  exact ⟨h1, xs, h2, maxLen_lt h3⟩

theorem read_bus {cs : List Value} (h : DataW.trod enc Try.prog w 0 (fun _ => true) true fuel 73 cs = some x) : (∀ u ∈ cs, goodV w.heap.size (capM w.heap) u = true) ∧ ∃ t : Bs, cs.map (absV w.heap.size) = t.cells ∧ True := by
  obtain ⟨ys, n, _, _, hl, hyl, hf⟩ := DataW.trod_struct Try.underlying73 h
  rw [cells73] at hl
  obtain ⟨c0, c1, c2, rfl⟩ := list3 hl
  have hy3 : ys.length = 3 := by simpa using hyl
  have e0 := hf 0 _ rfl
  have e1 := hf 1 _ rfl
  have e2 := hf 2 _ rfl
  simp [cells3, hy3] at e0 e1 e2
  obtain ⟨z0, hz0, _⟩ := DataW.trod_int Try.underlying3 e0
  obtain ⟨z1, hz1, _⟩ := DataW.trod_int Try.underlying3 e1
  obtain ⟨z2, hz2, _⟩ := DataW.trod_int Try.underlying3 e2
  simp at hz0 hz1 hz2
  subst hz0 hz1 hz2
  exact ⟨by simp [goodV], ⟨z0, z1, z2⟩, rfl, trivial⟩

theorem read_buses (h : DataW.trod enc Try.prog w 0 (fun _ => true) true fuel 23 [v] = some x) : goodV w.heap.size (capM w.heap) v = true ∧ ∃ xs : List Bs, BssAt (absH w.heap) (absV w.heap.size v) xs := by
  obtain ⟨h1, xs, h2, h3, _⟩ := read_slice (α := Bs) (f := Bs.cells) (Q := fun _ => True) Try.underlying23 (by rw [cells73]; omega) (fun n cs y hy => read_bus hy) h
  rw [cells73] at h2
  exact ⟨h1, xs, h2, maxLen_lt h3⟩
end

section
variable {H : Type} {enc : TypeId × Value → H} {w : World} {base : Nat} {v : Value} {d : DataW H} {p : List MemPlace}

set_option maxRecDepth 100000 in
theorem read_yardV (hval : Value.okWide Try.prog w .any base 25 v) (h : DataW.Trod enc Try.prog w 0 (fun _ => true) true 25 v d p) :
    ∃ Y r b, VR (absB w.heap) (yardV Y r b) v ∧ YardAt (absH w.heap) r b Y := by
  obtain ⟨cs, rfl, hsz⟩ := okWide_struct Try.underlying25 hval
  obtain ⟨fuel, h⟩ := h
  simp only [Value.cells] at h
  obtain ⟨ys, n, _, _, hl, hyl, hf⟩ := DataW.trod_struct Try.underlying25 h
  rw [cells25] at hl
  obtain ⟨l, rfl⟩ : ∃ l : List Value, cs = l.toArray := ⟨cs.toList, by simp⟩
  simp only at hl hf
  obtain ⟨c0, c1, c2, rfl⟩ := list3 hl
  have hy3 : ys.length = 3 := by simpa using hyl
  have e0 := hf 0 _ rfl
  have e1 := hf 1 _ rfl
  have e2 := hf 2 _ rfl
  simp [cells3, cells22, cells23, hy3] at e0 e1 e2
  obtain ⟨z2, hz2, _⟩ := DataW.trod_int Try.underlying3 e2
  obtain ⟨g0, xs, k0⟩ := read_list e0
  obtain ⟨g1, us, k1⟩ := read_buses e1
  simp at hz2
  subst hz2
  refine ⟨⟨xs, us, z2⟩, absV w.heap.size c0, absV w.heap.size c1, VR.mk_agg ?_, ⟨k0, k1⟩⟩
  exact ⟨good_VR g0, good_VR g1, .int _ _, trivial⟩

set_option maxRecDepth 100000 in
theorem read_wordsV (hval : Value.okWide Try.prog w .any base 61 v) (h : DataW.Trod enc Try.prog w 0 (fun _ => true) true 61 v d p) : VR (absB w.heap) (absV w.heap.size v) v ∧ ∃ xs, WordsAt (absH w.heap) (absV w.heap.size v) xs := by
  obtain ⟨a0, len, cap, rfl⟩ := okWide_slice Try.underlying61 hval
  obtain ⟨fuel, h⟩ := h
  obtain ⟨h1, xs, h2, h3, h4⟩ := read_ints Try.underlying61 Try.underlying71 cells71 h
  refine ⟨good_VR h1, xs, h2, maxLen_lt h3, fun x hx => ?_⟩
  have := h4 x hx
  simp [Lit.wf, IntKind.min, IntKind.max, IntKind.signed, IntKind.bits] at this
  omega
end

end Go.Proofs.Ytfijnkhiojejfaa

