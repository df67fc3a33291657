/-
  Joined texts of a calculus of abstract memory, of the program's code in it, and of contracts.
-/
import Derived.Test.YtfijnkhiojejfaaJ6
import Derived.Test.YtfijnkhiojejfaaJ11
import Derived.KernelRfl
import Derived.Test.YtfijnkhiojejfaaChecked
namespace Go.Proofs.Ytfijnkhiojejfaa
open Go Go.Ab

theorem ready_spec {Y : Yd} {r b : Value} {H : Heap} (h : YardAt H r b Y) : AFun Try.prog 41 [yardV Y r b] H (fun v B => v = .bool (decide (Y.room.length ≤ 6 ∧ Y.buses.length ≤ 12) && decide (checkY Y = 0)) ∧ Ge H B) := by
  refine AFun.mk ok41 hm (Nat.le_of_ble_eq_true rfl) ?_
  have hb := h.buses.one
  have hr := h.room.one
  have g0 : Ge H (H.new (.cells true [r, b, .int .i64 Y.broken] 3)) := Ge.new _ _
  simp [a41, r41]
  refine fcall_fun (thin_spec (h.ge g0)) ?_
  rintro _ H1 ⟨rfl, g1⟩
  have G1 := g0.trans g1
  have k1 := g1.got (n := H.next) (by simp) rfl
  simp at k1
  have hd : decide (Y.room.length ≤ 6 ∧ Y.buses.length ≤ 12) = (decide (Y.room.length ≤ 6) && decide (Y.buses.length ≤ 12)) := by simp
  rw [← hd]
  by_cases ht : Y.room.length ≤ 6 ∧ Y.buses.length ≤ 12
  case neg => simp [ht, G1]
  simp [ht, k1]
  refine fcall_fun (refFault_spec (h.ge G1)) ?_
  rintro _ H2 ⟨rfl, g2⟩
  simp [G1.trans g2]
  exact fun _ => ht

theorem place_spec {H : Heap} {v : Value} {xs : List Int} {x : Int} (hv : IntsAt H v xs) (hl : xs.length < 2 ^ 62) : AFun Try.prog 47 [v, .int .i64 x] H (fun w B => (∃ p : Int, w = .int .i64 p ∧ (p = -1 ∧ x ∉ xs ∨ ∃ i : Nat, p = i ∧ xs[i]? = some x ∧ ∀ j, j < i → xs[j]? ≠ some x)) ∧ B = H) := by
  refine AFun.mk ok47 hm (Nat.le_of_ble_eq_true rfl) ?_
  simp [a47, r47]
  refine floop_intro (fun z => z.d = [] ∧ z.H = H ∧ z.t 0 = v ∧ z.t 1 = .int .i64 x ∧ ∃ i : Nat, i ≤ xs.length ∧ z.t 5 = .int .i64 i ∧ ∀ j, j < i → xs[j]? ≠ some x) (fun z => xs.length - (intOf (z.t 5)).toNat) ?_ ?_
  · exact ⟨rfl, rfl, by simp, by simp, 0, by simp, by simp, by simp⟩
  rintro ⟨t, _, A⟩ ⟨rfl, hA, t0, t1, i, hi, t5, hall⟩
  dsimp only at hA t0 t1 t5
  subst hA
  simp [t0, t5, hv.lenV]
  by_cases hil : i < xs.length
  case neg =>
    have h1 : i = xs.length := by omega
    subst h1
    simp
    intro hm
    obtain ⟨j, hj, e⟩ := List.getElem_of_mem hm
    exact absurd (by rw [List.getElem?_eq_getElem hj, e]) (hall j hj)
  obtain ⟨p, e1, e2⟩ := IntsAt.atAll hv hil
  simp [hil, t0, t5, e1, e2 A (Ge.refl _), t1]
  by_cases he : xs[i] = x
  · simp [he, t5]
    exact ⟨i, rfl, by rw [List.getElem?_eq_getElem hil, he], hall⟩
  · simp [he, t5, add_in (x := i) (y := 1) (by omega) (by omega)]
    refine ⟨⟨t0, t1, i + 1, by omega, by omega, fun j hj => ?_⟩, by omega⟩
    by_cases e : j = i
    · subst e; rw [List.getElem?_eq_getElem hil]; simpa using he
    · exact hall j (by omega)

set_option maxHeartbeats 4000000 in
theorem parked_spec {Y : Yd} {r b v : Value} {H : Heap} {ws : List Int} (h : YardAt H r b Y) (hv : WordsAt H v ws) (hok : checkY Y = 0) :
    AFun Try.prog 44 [yardV Y r b, v] H (fun w B => ∃ u is, w = .tuple #[u, .bool is] ∧ Ge H B ∧ (is = false → u = .slice none 0 0) ∧ (is = true → ∃ ls, OwnSl B H.next u (ls.map (.int .i64)) ∧ lanesB Y ls = true)) := by
  refine AFun.mk ok44 hm (Nat.le_of_ble_eq_true rfl) ?_
  obtain ⟨hr3, h8, hrn, _, _, _, _, _⟩ := okY_facts hok
  have hR0 : 0 < Y.room.length := List.length_pos_iff.2 hrn
  have hb := h.buses.one
  have hr := h.room.one
  have g0 : Ge H (H.new (.cells true [r, b, .int .i64 Y.broken] 3)) := Ge.new _ _
  simp [a44, r44, h.room.lenV]
  rw [mksV_at (by omega) (by omega)]
  simp
  refine floop_intro (fun z => z.d = [] ∧ Ge H z.H ∧ H.next + 2 ≤ z.H.next ∧ z.t 1 = v ∧ z.t 2 = .pointer (some ⟨H.next, 0, none⟩) ∧ z.t 7 = .slice (some ⟨H.next + 1, 0, none⟩) Y.room.length Y.room.length ∧ z.H.get H.next = .cells true [r, b, .int .i64 Y.broken] 3 ∧
    ∃ (i : Nat) (L hs : List Int), i ≤ Y.buses.length ∧ z.t 8 = .int .i64 i ∧ OwnSl z.H (H.next + 2) (z.t 6) (L.map (.int .i64)) ∧ L.length = i ∧ z.H.get (H.next + 1) = .cells true (hs.map (.int .i64)) Y.room.length ∧ hs.length = Y.room.length ∧ (∀ x ∈ L, isLaneB Y x = true) ∧ (∀ l : Nat, l < Y.room.length → hs[l]? = some (L.count (l : Int) : Int) ∧ (L.count (l : Int) : Int) ≤ Y.room[l]?.getD 0)) (fun z => Y.buses.length - (intOf (z.t 8)).toNat) ?_ ?_
  · refine ⟨rfl, g0.trans (Ge.new _ _), by simp, by simp, by simp, by simp, by simp, 0, [], List.replicate Y.room.length 0, by simp, by simp, .inl ⟨by simp, rfl⟩, rfl, ?_, by simp, by simp, fun l hl => ⟨by simp [hl], by simpa using okY_pos hok l⟩⟩
    simp [zrep_int]
  rintro ⟨t, _, A⟩ ⟨rfl, g, nA, t1, t2, t7, a2, i, L, hs, hi, t8, own, hLl, a1, hhs, hLm, hcnt⟩
  dsimp only at g nA t1 t2 t7 a2 t8 own a1
  simp [t2, t8, a2, h.buses.lenV]
  refine fcond_intro (fun hc => ?_) (fun hc => ?_)
  case refine_2 =>
    have h1 : i = Y.buses.length := by simp at hc; omega
    simp
    refine ⟨g, L, own.lower (by omega), ?_⟩
    simp only [lanesB, Bool.and_eq_true, decide_eq_true_eq, List.all_eq_true]
    exact ⟨by rw [hLl, h1], hLm, fun l hl => (hcnt l (List.mem_range.1 hl)).2⟩
  have hi' : i < Y.buses.length := by simpa using hc
  have m1 := mul_in (x := 5) (y := (i : Int)) (by omega) (by omega)
  have m2 : binI BinOp.add (.int .i64 (5 * (i : Int))) (.int .i64 1) = some (.int .i64 ((5 * i + 1 : Nat) : Int)) := by
    rw [add_in (by omega) (by omega)]; rfl
  simp [t1, t2, t8, a2, m1, m2, h.room.lenV]
  have g10 : Ge A (⟨A.get, A.next + 10⟩ : Heap) := Ge.grow_le (by omega) (Ge.refl _)
  have w0 := word_spec (k := 5 * i + 1) (hv.ge (g.trans g10)) (by omega)
  simp at w0
  refine fcall_fun w0 ?_
  rintro _ A1 ⟨rfl, eA⟩
  rw [eA]
  obtain ⟨w1, w2⟩ := wordF_in hv.2.2 (5 * i + 1)
  generalize wordF ws (5 * i + 1) = w at w1 w2 ⊢
  have q1 : binI BinOp.rem (.int .i64 w) (.int .i64 (Y.room.length : Int)) = some (.int .i64 (w % (Y.room.length : Int))) := rem_in w1 (by omega)
  have q2 : 0 ≤ w % (Y.room.length : Int) := Int.emod_nonneg _ (by omega)
  have q3 : w % (Y.room.length : Int) < Y.room.length := Int.emod_lt_of_pos _ (by omega)
  simp [a2, q1]
  obtain ⟨l0, hl0⟩ : ∃ l0 : Nat, w % (Y.room.length : Int) = (l0 : Int) := ⟨(w % (Y.room.length : Int)).toNat, by omega⟩
  rw [hl0] at q2 q3 ⊢
  have iH : ∀ l : Nat, l < Y.room.length → islV 1 (.slice (some ⟨H.next + 1, 0, none⟩) Y.room.length Y.room.length) (.int .i64 (l : Int)) = some (.pointer (some ⟨H.next + 1, l, none⟩)) := fun l hl => by
    rw [islV_in (by omega) (by omega)]; simp
  have hH : ∀ l : Nat, l < Y.room.length → ∀ c, ldA (.cells true (hs.map (.int .i64)) c) false 1 l = some (.int .i64 (L.count (l : Int))) := fun l hl c => by
    rw [ldA_one, List.getElem?_map, (hcnt l hl).1]; rfl
  refine floop_intro (fun z => z.d = [] ∧ Ge A z.H ∧ z.t 1 = v ∧ z.t 2 = .pointer (some ⟨H.next, 0, none⟩) ∧ z.t 6 = t 6 ∧ z.t 7 = .slice (some ⟨H.next + 1, 0, none⟩) Y.room.length Y.room.length ∧ z.t 8 = .int .i64 i ∧ ∃ n l : Nat, n ≤ Y.room.length ∧ z.t 10 = .int .i64 n ∧ l < Y.room.length ∧ z.t 9 = .int .i64 l) (fun z => Y.room.length - (intOf (z.t 10)).toNat) ?_ ?_
  · exact ⟨rfl, g10, by simp [t1], by simp [t2], by simp, by simp [t7], by simp [t8], 0, l0, by simp, by simp, by omega, by simp⟩
  have t8o := t8
  clear t1 t2 t7 t8
  rintro ⟨t', _, B⟩ ⟨rfl, gB, t1, t2, t6, t7, t8, n, l, hn, t10, hl, t9⟩
  dsimp only at gB t1 t2 t6 t7 t8 t10 t9
  have b2 := gB.got (n := H.next) (by omega) a2
  have b1 := gB.got (n := H.next + 1) (by omega) a1
  obtain ⟨p, e1, e2⟩ := IntsAt.atAll h.room hl
  have g17 : Ge H (⟨B.get, B.next + 17⟩ : Heap) := (g.trans gB).trans (Ge.grow_le (by omega) (Ge.refl _))
  have gB17 : Ge A (⟨B.get, B.next + 17⟩ : Heap) := gB.trans (Ge.grow_le (by omega) (Ge.refl _))
  have gB27 : Ge A (⟨B.get, B.next + 17 + 10⟩ : Heap) := gB.trans (Ge.grow_le (by omega) (Ge.refl _))
  have hrm : Y.room[l]?.getD 0 = Y.room[l] := by simp [hl]
  by_cases hgo : n < Y.room.length ∧ Y.room[l] ≤ (L.count (l : Int) : Int)
  · simp [t10, t2, b2, h.room.lenV, hgo.1, t7, t9, iH l hl, b1, hH l hl, e1, e2 _ g17, hgo.2]
    rw [add_in (x := (l : Int)) (y := 1) (by omega) (by omega)]
    have r1 : binI BinOp.rem (.int .i64 ((l : Int) + 1)) (.int .i64 (Y.room.length : Int)) = some (.int .i64 (((l + 1) % Y.room.length : Nat) : Int)) := rem_int (a := l + 1) (by omega)
    have r2 : (l + 1) % Y.room.length < Y.room.length := Nat.mod_lt _ hR0
    simp [t2, b2, h.room.lenV, r1, t10, add_in (x := n) (y := 1) (by omega) (by omega)]
    refine ⟨⟨gB17, t1, t6, t7, t8, n + 1, by omega, by omega, (l + 1) % Y.room.length, r2, by simp⟩, by omega⟩
  have g27 : Ge H (⟨B.get, B.next + 17 + 10⟩ : Heap) := g.trans gB27
  have cle := (hcnt l hl).2
  rw [hrm] at cle
  have hcl : L.count (l : Int) ≤ L.length := List.count_le_length
  have sadd := add_in (x := (L.count (l : Int) : Int)) (y := 1) (by omega) (by omega)
  by_cases hfull : Y.room[l] ≤ (L.count (l : Int) : Int)
  · have hn1 : ¬ n < Y.room.length := fun e => hgo ⟨e, hfull⟩
    simp [hn1, t10, t2, b2, h.room.lenV, t7, t9, iH l hl, b1, hH l hl, e1, e2 _ g27, hfull]
    exact g27
  by_cases hn1 : n < Y.room.length
  · simp [hn1, t10, t2, b2, h.room.lenV, t7, t9, iH l hl, b1, hH l hl, e1, e2 _ g17, e2 _ g27, hfull, sadd]
    rw [if_pos (by omega), wrL_one _ _ _ (by rw [List.length_map]; omega), ← List.map_set]
    simp [t9]
    generalize hS : (Heap.set _ _ _ : Heap) = S
    have nS : S.next = B.next + 27 := by rw [← hS]; rfl
    have aS : S.get (H.next + 1) = .cells true ((hs.set l ((L.count (l : Int) : Int) + 1)).map (.int .i64)) Y.room.length := by rw [← hS]; simp
    have kS : ∀ q, q ≠ H.next + 1 → S.get q = B.get q := fun q hq => by rw [← hS]; simp [hq]
    clear hS
    have nB := gB.next
    have gS : Ge H S := ⟨by have := g.next; omega, fun q hq => (kS q (by omega)).trans ((g.trans gB).get q hq)⟩
    have oS : OwnSl S (H.next + 2) (t' 6) (L.map (.int .i64)) := by
      rw [t6]
      exact (own.ge gB).keep (by omega) fun q e => kS q (by have := (own.names e).1; omega)
    have gX := Ge.new S (.cells true [.int .i64 (l : Int)] 1)
    have nX : (S.new (.cells true [.int .i64 (l : Int)] 1)).next = S.next + 1 := rfl
    have xX : (S.new (.cells true [.int .i64 (l : Int)] 1)).get (B.next + 27) = .cells true [.int .i64 (l : Int)] 1 := by rw [← nS]; simp
    generalize (S.new (.cells true [.int .i64 (l : Int)] 1)) = X at *
    have oX := oS.ge gX
    refine fapp_own oX (slCells_new xX) rfl (by rw [List.length_map]; omega) (by omega) (by omega) (by omega) (by omega) ?_
    rintro u E o1 s1 n1 k1
    have gE : Ge H E := oX.geApp (by omega) (gS.trans gX) (by omega) (by omega) k1
    have kE : ∀ q, q < H.next + 2 → E.get q = S.get q := fun q hq => by
      rw [k1 q (by omega) (fun e => by have := (oX.names e).1; omega)]
      exact gX.get q (by omega)
    simp [t8, add_in (x := i) (y := 1) (by omega) (by omega)]
    refine ⟨⟨gE, by omega, t1, t2, t7, by rw [kE _ (by omega), kS _ (by omega)]; exact b2, i + 1, by omega, by omega, L ++ [(l : Int)], by rw [List.map_append]; exact o1, by simp [hLl], hs.set l ((L.count (l : Int) : Int) + 1), by rw [kE _ (by omega)]; exact aS, by simp [hhs], fun x hx => ?_, fun l' hl' => ?_⟩, by rw [t8o]; simp; omega⟩
    · rcases List.mem_append.1 hx with hx | hx
      · exact hLm x hx
      · simp at hx; subst hx; simp [isLaneB, inB]; omega
    · obtain ⟨c1, c2⟩ := hcnt l' hl'
      by_cases e : l' = l
      · subst e
        rw [List.getElem?_set_self (by omega), List.count_append]
        simp [hrm]
        omega
      · have e2 : ¬ (l : Int) = (l' : Int) := by omega
        rw [List.getElem?_set_ne (Ne.symm e), List.count_append, c1]
        simp [e2]
        exact c2
  · simp [hn1, t10, t2, b2, h.room.lenV, t7, t9, iH l hl, b1, hH l hl, e1, e2 _ g27, hfull, sadd]
    rw [if_pos (by omega), wrL_one _ _ _ (by rw [List.length_map]; omega), ← List.map_set]
    simp [t9]
    generalize hS : (Heap.set _ _ _ : Heap) = S
    have nS : S.next = B.next + 27 := by rw [← hS]; rfl
    have aS : S.get (H.next + 1) = .cells true ((hs.set l ((L.count (l : Int) : Int) + 1)).map (.int .i64)) Y.room.length := by rw [← hS]; simp
    have kS : ∀ q, q ≠ H.next + 1 → S.get q = B.get q := fun q hq => by rw [← hS]; simp [hq]
    clear hS
    have nB := gB.next
    have gS : Ge H S := ⟨by have := g.next; omega, fun q hq => (kS q (by omega)).trans ((g.trans gB).get q hq)⟩
    have oS : OwnSl S (H.next + 2) (t' 6) (L.map (.int .i64)) := by
      rw [t6]
      exact (own.ge gB).keep (by omega) fun q e => kS q (by have := (own.names e).1; omega)
    have gX := Ge.new S (.cells true [.int .i64 (l : Int)] 1)
    have nX : (S.new (.cells true [.int .i64 (l : Int)] 1)).next = S.next + 1 := rfl
    have xX : (S.new (.cells true [.int .i64 (l : Int)] 1)).get (B.next + 27) = .cells true [.int .i64 (l : Int)] 1 := by rw [← nS]; simp
    generalize (S.new (.cells true [.int .i64 (l : Int)] 1)) = X at *
    have oX := oS.ge gX
    refine fapp_own oX (slCells_new xX) rfl (by rw [List.length_map]; omega) (by omega) (by omega) (by omega) (by omega) ?_
    rintro u E o1 s1 n1 k1
    have gE : Ge H E := oX.geApp (by omega) (gS.trans gX) (by omega) (by omega) k1
    have kE : ∀ q, q < H.next + 2 → E.get q = S.get q := fun q hq => by
      rw [k1 q (by omega) (fun e => by have := (oX.names e).1; omega)]
      exact gX.get q (by omega)
    simp [t8, add_in (x := i) (y := 1) (by omega) (by omega)]
    refine ⟨⟨gE, by omega, t1, t2, t7, by rw [kE _ (by omega), kS _ (by omega)]; exact b2, i + 1, by omega, by omega, L ++ [(l : Int)], by rw [List.map_append]; exact o1, by simp [hLl], hs.set l ((L.count (l : Int) : Int) + 1), by rw [kE _ (by omega)]; exact aS, by simp [hhs], fun x hx => ?_, fun l' hl' => ?_⟩, by rw [t8o]; simp; omega⟩
    · rcases List.mem_append.1 hx with hx | hx
      · exact hLm x hx
      · simp at hx; subst hx; simp [isLaneB, inB]; omega
    · obtain ⟨c1, c2⟩ := hcnt l' hl'
      by_cases e : l' = l
      · subst e
        rw [List.getElem?_set_self (by omega), List.count_append]
        simp [hrm]
        omega
      · have e2 : ¬ (l : Int) = (l' : Int) := by omega
        rw [List.getElem?_set_ne (Ne.symm e), List.count_append, c1]
        simp [e2]
        exact c2

end Go.Proofs.Ytfijnkhiojejfaa


namespace Go.Proofs.Ytfijnkhiojejfaa
open Go Go.Ab

def posF (os : List Int) (c : Int) : Int := placeTo os os.length c.toNat
theorem posF_at {os : List Int} (hn : os.Nodup) (h0 : ∀ x ∈ os, 0 ≤ x) {i : Nat} (hi : i < os.length) : posF os os[i] = i := placeTo_at hn h0 os.length (Nat.le_refl _) i hi hi

theorem place_in {H : Heap} {v : Value} {os : List Int} {c : Int} (hv : IntsAt H v os) (hl : os.length < 2 ^ 62) (hn : os.Nodup) (h0 : ∀ x ∈ os, 0 ≤ x) (hc : c ∈ os) : AFun Try.prog 47 [v, .int .i64 c] H (fun w B => w = .int .i64 (posF os c) ∧ B = H) := by
  refine (place_spec hv hl).mono ?_
  rintro w B ⟨⟨p, rfl, hp⟩, e⟩
  refine ⟨?_, e⟩
  rcases hp with ⟨_, h⟩ | ⟨i, rfl, hi, _⟩
  · exact absurd hc h
  · obtain ⟨i1, rfl⟩ := List.getElem?_eq_some_iff.1 hi
    rw [posF_at hn h0 i1]

theorem walkF_sub {ls : Int → Int} {x : Int} : ∀ (os g : List Int), (walkF ls x g os).Sublist os
  | [], _ => by simp [walkF]
  | o :: r, g => by
    simp only [walkF]
    split
    · exact List.nil_sublist _
    · split
      · exact (walkF_sub r _).cons_cons _
      · exact (walkF_sub r _).cons _

theorem morn_at {ls : Int → Int} {os : List Int} : ∀ (T g : List Int) (i : Nat) (hi : i < T.length), ∃ G, (mornF ls os g T)[i]? = some (walkF ls T[i] G os) ∧ ∀ c, c ∈ G ↔ c ∈ g ∨ c ∈ T.take i ∨ c ∈ ((mornF ls os g T).take i).flatten
  | [], _, i, hi => by simp at hi
  | x :: r, g, 0, _ => ⟨g, rfl, fun c => by simp⟩
  | x :: r, g, i + 1, hi => by
    obtain ⟨G, h1, h2⟩ := morn_at (ls := ls) (os := os) r (g ++ walkF ls x g os ++ [x]) i (by simpa using hi)
    refine ⟨G, h1, fun c => ?_⟩
    rw [h2]
    simp only [mornF, List.take_succ_cons, List.flatten_cons, List.mem_append, List.mem_cons, List.not_mem_nil, or_false]
    constructor
    · rintro (((h | h) | h) | h | h)
      · exact .inl h
      · exact .inr (.inr (.inl h))
      · exact .inr (.inl (.inl h))
      · exact .inr (.inl (.inr h))
      · exact .inr (.inr (.inr h))
    · rintro (h | (h | h) | (h | h))
      · exact .inl (.inl (.inl h))
      · exact .inl (.inr h)
      · exact .inr (.inl h)
      · exact .inl (.inl (.inr h))
      · exact .inr (.inr h)

def boolsL (n : Nat) (xs : List Int) : List Value := (List.range n).map fun k : Nat => .bool (decide ((k : Int) ∈ xs))
theorem boolsL_len (n : Nat) (xs : List Int) : (boolsL n xs).length = n := by simp [boolsL]
theorem boolsL_at {n : Nat} {xs : List Int} {x : Int} (h0 : 0 ≤ x) (h1 : x < n) : (boolsL n xs)[x.toNat]? = some (.bool (decide (x ∈ xs))) := by
  unfold boolsL
  rw [List.getElem?_map, List.getElem?_range (by omega)]
  simp only [Option.map_some]
  rw [show ((x.toNat : Nat) : Int) = x by omega]
theorem boolsL_put {n : Nat} {xs : List Int} {x : Int} (h0 : 0 ≤ x) : (boolsL n xs).set x.toNat (.bool true) = boolsL n (xs ++ [x]) := by
  refine List.ext_getElem? fun j => ?_
  unfold boolsL
  rw [List.getElem?_set]
  by_cases e : x.toNat = j
  · subst e
    rw [if_pos rfl]
    by_cases hx : x.toNat < n
    · simp [hx]
      rw [show max x 0 = x by omega]; simp
    · simp [hx]
  · rw [if_neg e, List.getElem?_map, List.getElem?_map]
    by_cases hj : j < n
    · rw [List.getElem?_range hj]
      have : ¬ (j : Int) = x := by omega
      simp [this]
    · rw [List.getElem?_eq_none (by simp; omega)]; rfl
theorem boolsL_zero (n : Nat) : zrep n [Value.bool false] = boolsL n [] := by
  induction n with
  | zero => rfl
  | succ n ih =>
    have : boolsL (n + 1) [] = boolsL n [] ++ [.bool false] := by simp [boolsL, List.range_succ]
    rw [this, ← ih]
    clear ih this
    induction n with
    | zero => rfl
    | succ n ih => rw [zrep_succ, ih, ← List.append_assoc, ← zrep_succ, ih]

structure RowOk (ls : Int → Int) (os T : List Int) (R : List (List Int)) (i : Nat) (w : List Int) (x : Int) : Prop where
  lane : ∀ c ∈ w, ls c = ls x
  before : ∀ c ∈ w, c ∈ os.takeWhile fun y => decide (y ≠ x)
  fresh : ∀ c ∈ w, c ∉ T.take i ∧ c ∉ (R.take i).flatten
  sub : w.Sublist os
  all : ∀ c, ls c = ls x → c ∈ (os.takeWhile fun y => decide (y ≠ x)) → c ∈ T.take i ∨ c ∈ (R.take i).flatten ∨ c ∈ w
theorem row_ok {ls : Int → Int} {os T : List Int} {i : Nat} (hi : i < T.length) (hi2 : i < (mornF ls os [] T).length) : RowOk ls os T (mornF ls os [] T) i (mornF ls os [] T)[i] T[i] := by
  obtain ⟨G, h1, h2⟩ := morn_at (ls := ls) (os := os) T [] i hi
  rw [List.getElem?_eq_getElem hi2] at h1
  have e : (mornF ls os [] T)[i] = walkF ls T[i] G os := by simpa using h1
  rw [e]
  simp only [List.not_mem_nil, false_or] at h2
  refine ⟨fun c hc => (walkF_mem os G).1 hc |>.2.1, fun c hc => (walkF_mem os G).1 hc |>.2.2, fun c hc => ?_, walkF_sub os G, fun c a b => ?_⟩
  · have := ((walkF_mem os G).1 hc).1
    rw [h2] at this
    exact ⟨fun x => this (.inl x), fun x => this (.inr x)⟩
  · by_cases hg : c ∈ G
    · rcases (h2 c).1 hg with h | h
      · exact .inl h
      · exact .inr (.inl h)
    · exact .inr (.inr ((walkF_mem os G).2 ⟨hg, a, b⟩))

theorem tw_pos {os : List Int} (hn : os.Nodup) (h0 : ∀ x ∈ os, 0 ≤ x) {c x : Int} (hx : x ∈ os) (hc : c ∈ os) : c ∈ (os.takeWhile fun y => decide (y ≠ x)) ↔ posF os c < posF os x := by
  obtain ⟨i, hi, rfl⟩ := List.getElem_of_mem hc
  obtain ⟨j, hj, rfl⟩ := List.getElem_of_mem hx
  rw [take_until hn hi hj, posF_at hn h0 hi, posF_at hn h0 hj]; omega
theorem sub_pos {os w : List Int} (hn : os.Nodup) (h0 : ∀ x ∈ os, 0 ≤ x) (h : w.Sublist os) : w.Pairwise fun a b => posF os a < posF os b := by
  have : os.Pairwise fun a b => posF os a < posF os b := by
    rw [List.pairwise_iff_getElem]
    intro i j hi hj hij
    rw [posF_at hn h0 hi, posF_at hn h0 hj]; omega
  exact this.sublist h
theorem flat_nodup {ls : Int → Int} {os T : List Int} (hn : os.Nodup) : ∀ i, i ≤ T.length → ((mornF ls os [] T).take i).flatten.Nodup
  | 0, _ => by simp
  | i + 1, hi => by
    have hi2 : i < (mornF ls os [] T).length := by rw [mornF_length]; omega
    have hr := row_ok (ls := ls) (os := os) (T := T) (i := i) (by omega) hi2
    rw [List.take_succ_eq_append_getElem hi2, List.flatten_append, List.nodup_append]
    refine ⟨flat_nodup hn i (by omega), by simpa using hn.sublist hr.sub, fun a ha b hb e => ?_⟩
    subst e
    exact (hr.fresh a (by simpa using hb)).2 ha

end Go.Proofs.Ytfijnkhiojejfaa


namespace Go.Proofs.Ytfijnkhiojejfaa
open Go Go.Ab

def walkP (bef : Int → Int → Bool) (x : Int) (g : List Int) : List Int → List Int
  | [] => []
  | o :: r => if o ∉ g ∧ bef o x = true then o :: walkP bef x (g ++ [o]) r else walkP bef x g r
theorem walkP_drop {bef : Int → Int → Bool} {x : Int} {g os : List Int} {i : Nat} (hi : i < os.length) : walkP bef x g (os.drop i) = if os[i] ∉ g ∧ bef os[i] x = true then os[i] :: walkP bef x (g ++ [os[i]]) (os.drop (i + 1)) else walkP bef x g (os.drop (i + 1)) := by
  rw [List.drop_eq_getElem_cons hi]; rfl
theorem walkP_none {bef : Int → Int → Bool} {x : Int} : ∀ (r g : List Int), (∀ o ∈ r, bef o x = false) → walkP bef x g r = []
  | [], _, _ => rfl
  | o :: r, g, h => by
    rw [walkP, if_neg (by rw [h o (by simp)]; simp)]
    exact walkP_none r g fun y hy => h y (by simp [hy])
theorem walkP_eq {bef : Int → Int → Bool} {ls : Int → Int} {x : Int} : ∀ (r g : List Int), r.Nodup → (∀ o ∈ r, bef o x = true ↔ ls o = ls x ∧ o ∈ r.takeWhile fun y => decide (y ≠ x)) → walkP bef x g r = walkF ls x g r
  | [], _, _, _ => rfl
  | o :: r, g, hn, h => by
    have hn' := List.nodup_cons.1 hn
    by_cases ho : o = x
    · have : walkF ls x g (o :: r) = [] := by rw [walkF, if_pos ho]
      rw [this]
      refine walkP_none _ _ fun y hy => ?_
      have h1 := h y hy
      rw [List.takeWhile_cons, if_neg (by simp [ho])] at h1
      cases hb : bef y x
      · rfl
      · have := (h1.1 hb).2; simp at this
    · have ht : ((o :: r).takeWhile fun y => decide (y ≠ x)) = o :: r.takeWhile fun y => decide (y ≠ x) := by
        rw [List.takeWhile_cons, if_pos (by simp [ho])]
      rw [ht] at h
      have hr : ∀ y ∈ r, bef y x = true ↔ ls y = ls x ∧ y ∈ r.takeWhile fun z => decide (z ≠ x) := fun y hy => by
        rw [h y (by simp [hy]), List.mem_cons]
        constructor
        · rintro ⟨a, e | e⟩
          · exact absurd (e ▸ hy) hn'.1
          · exact ⟨a, e⟩
        · rintro ⟨a, e⟩; exact ⟨a, .inr e⟩
      have h1 := h o (by simp)
      rw [walkP, walkF, if_neg ho, walkP_eq r _ hn'.2 hr, walkP_eq r _ hn'.2 hr]
      by_cases hc : ls o = ls x ∧ o ∉ g
      · rw [if_pos hc, if_pos ⟨hc.2, h1.2 ⟨hc.1, by simp⟩⟩]
      · rw [if_neg hc, if_neg fun e => hc ⟨(h1.1 e.2).1, e.1⟩]

theorem walk_same {Y : Yd} {ls os : List Int} (hl : ls.length = Y.buses.length) (ho : os.length = Y.buses.length) (hb : ∀ x ∈ os, isBusB Y x = true) (hn : os.Nodup) {x : Int} (hx : isBusB Y x = true) (g : List Int) :
    walkP (hindB (standsOf ls os)) x g os = walkF (laneF ls) x g os := by
  refine walkP_eq os g hn fun o ho' => ?_
  have hob := hb o ho'
  obtain ⟨i, hi, ei⟩ := List.getElem_of_mem ho'
  obtain ⟨j, hj, ej⟩ := List.getElem_of_mem (order_all ho hb hn hx)
  obtain ⟨c0, c1, _⟩ := isBus_at hob
  obtain ⟨o0, o1, _⟩ := isBus_at hx
  have h0 : ∀ x ∈ os, 0 ≤ x := fun x hx => (isBus_at (hb x hx)).1
  have p1 := placeTo_at hn h0 os.length (Nat.le_refl _) i hi hi
  have p2 := placeTo_at hn h0 os.length (Nat.le_refl _) j hj hj
  rw [ei] at p1
  rw [ej] at p2
  have hiff := take_until hn hi hj
  rw [ei, ej] at hiff
  have s1 : standsOf ls os o.toNat = (laneF ls o, (i : Int)) := by
    simp only [standsOf, standF, laneF]; rw [if_pos (by omega), p1]
  have s2 : standsOf ls os x.toNat = (laneF ls x, (j : Int)) := by
    simp only [standsOf, standF, laneF]; rw [if_pos (by omega), p2]
  unfold hindB
  rw [s1, s2, hiff]
  simp [befB]

theorem inF_put (G : List Int) {x : Int} (h0 : 0 ≤ x) : updF (inF G) x.toNat true = inF (G ++ [x]) := by
  funext k
  simp only [updF, inF]
  by_cases e : k = x.toNat
  · rw [if_pos e]; symm; rw [decide_eq_true_eq]; simp; exact .inr (by omega)
  · rw [if_neg e, Bool.eq_iff_iff]
    simp only [decide_eq_true_eq, List.mem_append, List.mem_singleton]
    constructor
    · exact .inl
    · rintro (h | h)
      · exact h
      · exact absurd (by omega) e
theorem inF_nil : inF [] = fun _ => false := by funext k; simp [inF]

def ToAt (B : Heap) (e L : Nat) (tv : Value) (M : List (List Int)) : Prop :=
  ∃ vs, OwnSl B e tv vs ∧ (∀ m, slName tv = some m → m = e ∨ L ≤ m) ∧ vs.length = M.length ∧ ∀ k (h : k < M.length), ∃ u, vs[k]? = some u ∧ OwnSl B e u (M[k].map (.int .i64)) ∧ ∀ m, slName u = some m → L ≤ m ∧ slName tv ≠ some m
theorem ToAt.keep {A B : Heap} {e L : Nat} {tv : Value} {M : List (List Int)} (h : ToAt A e L tv M) (hn : A.next ≤ B.next) (hk : ∀ m, m < A.next → (m = e ∨ L ≤ m) → B.get m = A.get m) : ToAt B e L tv M := by
  obtain ⟨vs, h1, h2, h3, h4⟩ := h
  refine ⟨vs, h1.keep hn fun m e => hk m (h1.names e).2 (h2 m e), h2, h3, fun k hk2 => ?_⟩
  obtain ⟨u, k1, k2, k3⟩ := h4 k hk2
  exact ⟨u, k1, k2.keep hn fun m e => hk m (k2.names e).2 (.inr (k3 m e).1), k3⟩
theorem ToAt.ge {A B : Heap} {e L : Nat} {tv : Value} {M : List (List Int)} (h : ToAt A e L tv M) (g : Ge A B) : ToAt B e L tv M := h.keep g.next fun m h _ => g.get m h
theorem ToAt.push {A B : Heap} {e L n : Nat} {tv w u : Value} {vs : List Value} {M : List (List Int)} {x : List Int} (_h1 : OwnSl A e tv vs) (h3 : vs.length = M.length) (h4 : ∀ k (h : k < M.length), ∃ u, vs[k]? = some u ∧ OwnSl A e u (M[k].map (.int .i64)) ∧ ∀ m, slName u = some m → L ≤ m ∧ slName tv ≠ some m)
    (hu : OwnSl A e u (x.map (.int .i64))) (hs : ∀ m, slName u = some m → L ≤ m ∧ slName tv ≠ some m) (own : OwnSl B e w (vs ++ [u])) (s : slName w = some n) (hL : L ≤ n) (hn : A.next ≤ n) (nx : A.next ≤ B.next) (k : ∀ m, m ≠ n → slName tv ≠ some m → B.get m = A.get m) : ToAt B e L w (M ++ [x]) := by
  have keepR : ∀ (u : Value) cs, OwnSl A e u cs → (∀ m, slName u = some m → L ≤ m ∧ slName tv ≠ some m) → OwnSl B e u cs ∧ ∀ m, slName u = some m → L ≤ m ∧ slName w ≠ some m := fun u cs hu hs =>
    ⟨hu.keep nx fun m e => k m (by have := (hu.names e).2; omega) (hs m e).2, fun m e => ⟨(hs m e).1, by rw [s]; intro e2; cases e2; have := (hu.names e).2; omega⟩⟩
  refine ⟨vs ++ [u], own, fun m e => by rw [s] at e; cases e; exact .inr hL, by simp [h3], fun j hj => ?_⟩
  by_cases e : j < M.length
  · obtain ⟨u', k1, k2, k3⟩ := h4 j e
    obtain ⟨k4, k5⟩ := keepR u' _ k2 k3
    refine ⟨u', by rw [List.getElem?_append_left (by omega)]; exact k1, ?_, k5⟩
    rw [List.getElem_append_left e]; exact k4
  · have : j = M.length := by simp at hj; omega
    subst this
    obtain ⟨k4, k5⟩ := keepR u _ hu hs
    refine ⟨u, by rw [List.getElem?_append_right (by omega)]; simp [h3], ?_, k5⟩
    simpa using k4
theorem ToAt.rows {B : Heap} {e L : Nat} {tv : Value} {M : List (List Int)} (h : ToAt B e L tv M) (hM : M.length < 2 ^ 62) (hl : ∀ x ∈ M, x.length < 2 ^ 62) : RowsAt B tv M := by
  obtain ⟨vs, h1, h2, h3, h4⟩ := h
  refine ⟨vs, h3 ▸ h1.slr, by omega, fun k hk => ?_⟩
  obtain ⟨u, k1, k2, k3⟩ := h4 k hk
  exact ⟨u, k1, own_ints k2 (by have := hl _ (List.getElem_mem hk); omega)⟩

end Go.Proofs.Ytfijnkhiojejfaa


namespace Go.Proofs.Ytfijnkhiojejfaa
open Go Go.Ab

structure MoI (A0 : Heap) (n5 n6 e L : Nat) (r : ALoop) (ls os T : List Int) (i : Nat) (B : Heap) : Prop where
  next : A0.next + 2 ≤ L ∧ L ≤ B.next
  keep : ∀ n, n < A0.next → n ≠ n5 → n ≠ n6 → n ≠ e → B.get n = A0.get n
  dfr : B.get A0.next = .dfr
  loop : B.get (A0.next + 1) = .loop r
  told : ∃ tv M G, B.get n5 = .cells true [tv] 1 ∧ ToAt B e L tv M ∧ B.get n6 = .cells true (dnC (inF G)) 8 ∧ M ++ mornF (laneF ls) os G (T.drop i) = mornF (laneF ls) os [] T ∧ M.length ≤ i
theorem MoI.ge {A0 A B : Heap} {n5 n6 e L i : Nat} {r : ALoop} {ls os T : List Int} (h : MoI A0 n5 n6 e L r ls os T i A) (g : Ge A B) (h5 : n5 < A0.next) (h6 : n6 < A0.next) : MoI A0 n5 n6 e L r ls os T i B := by
  obtain ⟨l1, l2⟩ := h.next
  obtain ⟨tv, M, G, a1, a2, a3, a4⟩ := h.told
  exact ⟨⟨l1, Nat.le_trans l2 g.next⟩, fun n h1 h2 h3 h4 => (g.get n (by omega)).trans (h.keep n h1 h2 h3 h4), g.got (by omega) h.dfr, g.got (by omega) h.loop, tv, M, G, g.got (by omega) a1, a2.ge g, g.got (by omega) a3, a4⟩

set_option maxHeartbeats 2000000 in
theorem mo_round {Y : Yd} {r b u : Value} {ls os : List Int} {d : Nat → Bool} {H A0 A : Heap} {n2 n3 n5 n6 e L dn i c2 c3 : Nat} {w2 w3 : Bool} {R : ALoop} {t : Nat → Value} {fn : FuncId}
    (hR : R = { state := .ready, pending := none, fn, t, N := 51, params := #[14], assign := c62x0, body := c62y0, defers := dn })
    (hg : Ge H A0) (hH : H.next ≤ n5 ∧ H.next ≤ n6 ∧ H.next ≤ e) (hu : IntsAt H u os) (h2 : t 2 = .pointer (some ⟨n2, 0, none⟩)) (h3 : t 3 = .pointer (some ⟨n3, 0, none⟩)) (h5 : t 5 = .pointer (some ⟨n5, 0, none⟩)) (h6 : t 6 = .pointer (some ⟨n6, 0, none⟩)) (l2 : n2 < A0.next) (l3 : n3 < A0.next) (l5 : n5 < A0.next) (l6 : n6 < A0.next) (le : e < A0.next)
    (d2 : n2 ≠ n5 ∧ n2 ≠ n6 ∧ n2 ≠ e) (d3 : n3 ≠ n5 ∧ n3 ≠ n6 ∧ n3 ≠ e) (d5 : n5 ≠ n6 ∧ n5 ≠ e ∧ n6 ≠ e)
    (k2 : A0.get n2 = .cells w2 (nightC Y r b (standsOf ls os) d) c2) (k3 : A0.get n3 = .cells w3 [u] c3) (h8 : Y.buses.length ≤ 8)
    (hls : ls.length = Y.buses.length) (ho : os.length = Y.buses.length) (hob : ∀ x ∈ os, isBusB Y x = true) (hn : os.Nodup)
    (hI : MoI A0 n5 n6 e L R ls os (goL Y d) i A) (hi : i < (goL Y d).length) :
    ACall Try.prog (.func (.yield (A0.next + 1)) #[] #[]) [.int .i64 (goL Y d)[i]] A (fun v B => v = .bool true ∧ A.next ≤ B.next ∧ (∀ n, A0.next + 2 ≤ n → n < L → B.get n = A.get n) ∧ MoI A0 n5 n6 e L R ls os (goL Y d) (i + 1) B) := by
  obtain ⟨hL1, hL2⟩ := hI.next
  have q2 := (hI.keep n2 l2 d2.1 d2.2.1 d2.2.2).trans k2
  have q3 := (hI.keep n3 l3 d3.1 d3.2.1 d3.2.2).trans k3
  have e2 : n2 ≠ A0.next + 1 := by omega
  have e3 : n3 ≠ A0.next + 1 := by omega
  have e5 : n5 ≠ A0.next + 1 := by omega
  have e6 : n6 ≠ A0.next + 1 := by omega
  obtain ⟨tv, M, G, m5, mT, m6, mE, mL⟩ := hI.told
  have hst := mornF_drop (ls := laneF ls) (os := os) (g := G) hi
  have hgb : isBusB Y (goL Y d)[i] = true := (goL_mem.1 (List.getElem_mem hi)).1
  obtain ⟨y0, y1, _⟩ := isBus_at hgb
  have hws := walk_same hls ho hob hn hgb G
  generalize hy : (goL Y d)[i] = x at hst hgb y0 y1 hws
  have gHA : ∀ n, n < H.next → A.get n = H.get n := fun n h1 => by
    have := hg.next
    rw [hI.keep n (by omega) (by omega) (by omega) (by omega)]; exact hg.get n h1
  refine ACall.of_yield (P := Try.prog) (D := vdrawD Try.prog) (CD := cdraw Try.prog 51) hI.loop (by rw [hR]; rfl) (by rw [hR]; intro p hp; simp at hp; subst hp; simp) (by rw [hR]; exact ok62x0) (by rw [hR]; exact ok62y0) (by rw [hR]; exact draw_sound hm) ?_
  subst hR
  simp [a62x0, tround, hI.loop]
  have e3' : n3 ≠ A.next := by omega
  simp [a62y0, h3, q3, e3, e3', hu.lenV]
  generalize hX : (Heap.new _ _ : Heap) = X
  have nX : X.next = A.next + 1 := by rw [← hX]; rfl
  have aX : X.get A.next = .cells true [] 0 := by rw [← hX]; simp
  have kX : ∀ n, n < A.next → n ≠ A0.next + 1 → X.get n = A.get n := fun n a1 a2 => by
    rw [← hX]; simp [a2, show n ≠ A.next by omega]
  have lX : X.get (A0.next + 1) = .loop { state := .busy, pending := none, fn, t, N := 51, params := #[14], assign := c62x0, body := c62y0, defers := dn } := by
    rw [← hX]; simp [show A0.next + 1 ≠ A.next by omega]
  clear hX
  have iarI : ∀ (n o w : Nat) (y : Int), 0 ≤ y → y < 8 → iarV 8 w (.pointer (some ⟨n, o, none⟩)) (.int .i64 y) = some (.pointer (some ⟨n, o + y.toNat * w, none⟩)) := fun n o w y a1 a2 => by
    rw [iarV_in a1 a2]
  refine floop_intro (fun z => z.d = [] ∧ z.t 2 = .pointer (some ⟨n2, 0, none⟩) ∧ z.t 5 = .pointer (some ⟨n5, 0, none⟩) ∧ z.t 6 = .pointer (some ⟨n6, 0, none⟩) ∧ z.t 7 = .int .i64 x ∧ z.t 16 = u ∧ z.t 17 = .int .i64 os.length ∧ A.next < z.H.next ∧ (∀ n, n < A.next → n ≠ A0.next + 1 → n ≠ n6 → z.H.get n = A.get n) ∧ z.H.get (A0.next + 1) = X.get (A0.next + 1) ∧
    ∃ j : Nat, j ≤ os.length ∧ z.t 18 = .int .i64 j ∧ ∃ w, OwnSl z.H A.next (z.t 8) (w.map (.int .i64)) ∧ z.H.get n6 = .cells true (dnC (inF (G ++ w))) 8 ∧ w ++ walkP (hindB (standsOf ls os)) x (G ++ w) (os.drop j) = walkP (hindB (standsOf ls os)) x G os ∧ w.length ≤ j) (fun z => os.length - (intOf (z.t 18)).toNat) ?_ ?_
  · refine ⟨rfl, by simp [h2], by simp [h5], by simp [h6], by simp, by simp, by simp, by show A.next < X.next; omega, fun n a1 a2 a3 => kX n a1 a2, rfl, 0, by simp, by simp, [], .inr ⟨A.next, 0, 0, by simp, Nat.le_refl _, by show A.next < X.next; omega, aX, by simp, by simp⟩, ?_, by simp, by simp⟩
    rw [List.append_nil]
    exact (kX n6 (by omega) e6).trans m6
  rintro ⟨t', _, C⟩ ⟨rfl, t2, t5, t6, t7, t16, t17, nC, kC, lC, j, hj, t18, w, own, cD, hW, hwl⟩
  dsimp only at t2 t5 t6 t7 t16 t17 nC kC lC t18 own cD
  have gC : Ge H C := ⟨by have := hg.next; omega, fun n a1 => by have := hg.next; rw [kC n (by omega) (by omega) (by omega)]; exact gHA n a1⟩
  simp [t18, t17]
  by_cases hjl : j < os.length
  case neg =>
    rw [List.drop_eq_nil_of_le (by omega)] at hW
    simp [walkP] at hW
    simp [hjl, t6, t7, iarI n6 0 1 _ y0 (by omega), cD]
    rw [if_pos (by omega), wrL_one _ _ _ (by rw [dnC_len]; omega), dnC_set _ _ _ (by omega), inF_put _ y0]
    have c5 : C.get n5 = .cells true [tv] 1 := (kC n5 (by omega) e5 (by omega)).trans m5
    have h8c : (t' 8).cells = #[t' 8] := by rcases own with ⟨h, _⟩ | ⟨_, _, _, h, _⟩ <;> (rw [h]; rfl)
    have h81 := own.one
    simp [t5, d5.1, c5, h8c]
    generalize hZ : (Heap.new _ _ : Heap) = Z
    have nZ : Z.next = C.next + 1 := by rw [← hZ]; rfl
    have aZ : Z.get C.next = .cells true [t' 8] 1 := by rw [← hZ]; simp
    have kZ : ∀ n, n < C.next → n ≠ n6 → Z.get n = C.get n := fun n a1 a2 => by
      rw [← hZ]; simp [a2, show n ≠ C.next by omega]
    have z6 : Z.get n6 = .cells true (dnC (inF (G ++ (w ++ [x])))) 8 := by
      rw [← hZ]; simp [show n6 ≠ C.next by omega]
    clear hZ
    obtain ⟨vs, v1, v2, v3, v4⟩ := mT
    have kZA : ∀ n, n < A.next → n ≠ A0.next + 1 → n ≠ n6 → Z.get n = A.get n := fun n a1 a2 a3 => (kZ n (by omega) a3).trans (kC n a1 a2 a3)
    have hnm : ∀ m, m < A.next → (m = e ∨ L ≤ m) → m ≠ A0.next + 1 ∧ m ≠ n6 := fun m a1 a2 => by omega
    have v1' : OwnSl Z e tv vs := v1.keep (by omega) fun m a => kZA m (v1.names a).2 (hnm m (v1.names a).2 (v2 m a)).1 (hnm m (v1.names a).2 (v2 m a)).2
    have v4' : ∀ k (h : k < M.length), ∃ u, vs[k]? = some u ∧ OwnSl Z e u (M[k].map (.int .i64)) ∧ ∀ m, slName u = some m → L ≤ m ∧ slName tv ≠ some m := fun k hk => by
      obtain ⟨u, r1, r2, r3⟩ := v4 k hk
      exact ⟨u, r1, r2.keep (by omega) fun m a => kZA m (r2.names a).2 (hnm m (r2.names a).2 (.inr (r3 m a).1)).1 (hnm m (r2.names a).2 (.inr (r3 m a).1)).2, r3⟩
    have own' : OwnSl Z e (t' 8) (w.map (.int .i64)) := (own.keep (by omega) fun m a => kZ m (own.names a).2 (by have := (own.names a).1; omega)).lower (by omega)
    refine fapp_own v1' (slCells_new aZ) h81 (by rw [v3]; have := goL_len Y d; omega) (by omega) (by omega) (by omega) (by omega) ?_
    rintro tw E o1 s1 n1 k1
    have pT := ToAt.push (L := L) v1' v3 v4' own' (fun m a => ⟨by have := (own.names a).1; omega, fun a2 => by have := (own.names a).1; have := (v1.names a2).2; omega⟩) o1 s1 (by omega) (by omega) (by omega) k1
    have tn : ∀ m, m ≠ e → m < L → slName tv ≠ some m := fun m a1 a2 a => by rcases v2 m a with h | h <;> omega
    have kE : ∀ n, n < A.next → n ≠ e → n < L → E.get n = Z.get n := fun n a1 a2 a3 => k1 n (by omega) (tn n a2 a3)
    have eE5 : E.get n5 = .cells true [tv] 1 := (kE n5 (by omega) d5.2.1 (by omega)).trans ((kZ n5 (by omega) d5.1).trans c5)
    have twc : tw.cells = #[tw] := by rcases o1 with ⟨h, _⟩ | ⟨_, _, _, h, _⟩ <;> (rw [h]; rfl)
    have eEl : E.get (A0.next + 1) = .loop { state := .busy, pending := none, fn, t, N := 51, params := #[14], assign := c62x0, body := c62y0, defers := dn } :=
      (kE _ (by omega) (by omega) (by omega)).trans ((kZ _ (by omega) (Ne.symm e6)).trans (lC.trans lX))
    simp [t5, eE5, twc, o1.one, eEl, Ne.symm e5]
    have hk : ∀ n, n < A.next → n ≠ e → n < L → n ≠ n5 → n ≠ n6 → n ≠ A0.next + 1 → E.get n = A.get n := fun n a1 a2 a3 _ a5 a6 => (kE n a1 a2 a3).trans (kZA n a1 a6 a5)
    have hww : w = walkF (laneF ls) x G os := hW.trans hws
    refine ⟨by omega, fun n a1 a2 => ?_, ⟨⟨hL1, by simp; omega⟩, fun n a1 a2 a3 a4 => ?_, ?_, by simp, tw, M ++ [w], G ++ w ++ [x], ?_, pT.keep (by simp) fun m a1 a2 => ?_, ?_, ?_, by simp; omega⟩⟩
    · have b1 : n ≠ A0.next + 1 := by omega
      have b2 : n ≠ n5 := by omega
      rw [if_neg b1, if_neg b2]
      exact hk n (by omega) (by omega) a2 b2 (by omega) b1
    · have b1 : n ≠ A0.next + 1 := by omega
      simp [b1, a2]
      rw [hk n (by omega) a4 (by omega) a2 a3 b1]
      exact hI.keep n a1 a2 a3 a4
    · have b1 : A0.next ≠ n5 := by omega
      simp [b1]
      rw [hk _ (by omega) (by omega) (by omega) b1 (by omega) (by omega)]
      exact hI.dfr
    · simp [e5]
    · have b1 : m ≠ A0.next + 1 := by omega
      have b2 : m ≠ n5 := by omega
      simp [b1, b2]
    · have b2 : n6 ≠ n5 := Ne.symm d5.1
      simp [e6, b2]
      rw [kE n6 (by omega) d5.2.2 (by omega), z6]
    · rw [← mE, hst, ← hww]; simp
  obtain ⟨p2, s3, s4⟩ := IntsAt.atAll hu hjl
  have hob' := hob _ (List.getElem_mem hjl)
  obtain ⟨z0, z1, _⟩ := isBus_at hob'
  have hsw := walkP_drop (bef := hindB (standsOf ls os)) (x := x) (g := G ++ w) hjl
  have c2' : C.get n2 = .cells w2 (nightC Y r b (standsOf ls os) d) c2 := (kC n2 (by omega) e2 (by omega)).trans q2
  have d1 := dnC_at (inF (G ++ w)) os[j].toNat (by omega)
  have dx : inF (G ++ w) os[j].toNat = decide (os[j] ∈ G ++ w) := by
    unfold inF; rw [show ((os[j].toNat : Nat) : Int) = os[j] by omega]
  have ld1 : ∀ c, ldA (.cells true (dnC (inF (G ++ w))) c) false 1 os[j].toNat = some (.bool (decide (os[j] ∈ G ++ w))) := fun c => by
    rw [ldA_one, d1, dx]
  simp [hjl, t16, t18, s3, s4 C gC, t6, iarI n6 0 1 _ z0 (by omega), cD, ld1]
  by_cases hin : os[j] ∈ G ++ w
  · rw [if_neg fun e => e.1 hin] at hsw
    simp at hin
    have hin' : (!decide (os[j] ∈ G) && !decide (os[j] ∈ w)) = false := by rcases hin with h | h <;> simp [h]
    simp [hin', t18, add_in (x := j) (y := 1) (by omega) (by omega)]
    exact ⟨⟨t2, t5, t6, t7, t16, t17, by omega, kC, lC, j + 1, by omega, by omega, w, own.ge ⟨by simp, fun _ _ => rfl⟩, cD, by rw [← hsw]; exact hW, by omega⟩, by omega⟩
  have hin2 := hin
  simp at hin2
  have hin' : (!decide (os[j] ∈ G) && !decide (os[j] ∈ w)) = true := by simpa using hin2
  simp [hin', t2, t7, iarI n2 3 2 _ z0 (by omega), iarI n2 3 2 _ y0 (by omega), c2', nightC_stand Y r b (standsOf ls os) d os[j].toNat (by omega), nightC_stand Y r b (standsOf ls os) d x.toNat (by omega)]
  refine fcall_fun (before_stand_spec (standsOf ls os os[j].toNat) (standsOf ls os x.toNat) _) ?_
  rintro _ D ⟨rfl, gD⟩
  have hb : befB (standsOf ls os os[j].toNat) (standsOf ls os x.toNat) = hindB (standsOf ls os) os[j] x := rfl
  rw [hb]
  have nD := gD.next
  simp at nD
  have gD' : Ge C D := ⟨by omega, fun n a1 => gD.get n (by simp; omega)⟩
  have kD : ∀ n, n < A.next → n ≠ A0.next + 1 → n ≠ n6 → D.get n = A.get n := fun n a1 a2 a3 => (gD'.get n (by omega)).trans (kC n a1 a2 a3)
  have lD : D.get (A0.next + 1) = X.get (A0.next + 1) := (gD'.get _ (by omega)).trans lC
  cases hh : hindB (standsOf ls os) os[j] x
  · rw [if_neg fun e => by rw [hh] at e; cases e.2] at hsw
    simp [hin', t18, add_in (x := j) (y := 1) (by omega) (by omega)]
    exact ⟨⟨t2, t5, t6, t7, t16, t17, by omega, kD, lD, j + 1, by omega, by omega, w, own.ge gD', (gD'.get n6 (by omega)).trans cD, by rw [← hsw]; exact hW, by omega⟩, by omega⟩
  rw [if_pos ⟨hin, hh⟩] at hsw
  simp [hin']
  have gX2 := Ge.new D (.cells true [.int .i64 os[j]] 1)
  have xX2 : (D.new (.cells true [.int .i64 os[j]] 1)).get D.next = .cells true [.int .i64 os[j]] 1 := by simp
  have oX := own.ge (gD'.trans gX2)
  refine fapp_own oX (slCells_new xX2) rfl (by rw [List.length_map]; omega) (by omega) (by simp) (by simp) (by simp; omega) ?_
  rintro w' E o1 s1 n1 k1
  have hnot : ∀ n, n < A.next → slName (t' 8) ≠ some n := fun n hn e => by have := (own.names e).1; omega
  have kE : ∀ n, n < A.next → E.get n = D.get n := fun n hn => by
    rw [k1 n (by omega) (hnot n hn)]; simp [show n ≠ D.next by omega]
  have cE : E.get n6 = .cells true (dnC (inF (G ++ w))) 8 := (kE n6 (by omega)).trans ((gD'.get n6 (by omega)).trans cD)
  simp [t6, iarI n6 0 1 _ z0 (by omega), cE]
  rw [if_pos (by omega), wrL_one _ _ _ (by rw [dnC_len]; omega), dnC_set _ _ _ (by omega), inF_put _ z0]
  simp [t18, add_in (x := j) (y := 1) (by omega) (by omega)]
  refine ⟨⟨t2, t5, t6, t7, t16, t17, by omega, fun n a1 a2 a3 => ?_, ?_, j + 1, by omega, by omega, w ++ [os[j]], ?_, ?_, ?_, ?_⟩, by omega⟩
  · rw [if_neg a3, kE n a1]; exact kD n a1 a2 a3
  · rw [if_neg (Ne.symm e6), kE _ (by omega)]; exact lD
  · rw [List.map_append]
    refine o1.keep (by simp) fun m a => ?_
    have : m ≠ n6 := by have := (o1.names a).1; omega
    simp [this]
  · rfl
  · rw [← hW, hsw]; simp
  · simp; omega

theorem mo_range {Y : Yd} {r b u : Value} {ls os : List Int} {d : Nat → Bool} {H A0 : Heap} {n2 n3 n5 n6 nb e c2 c3 cb : Nat} {w2 w3 wb : Bool} {t : Nat → Value} {Q : APost} (h : YardAt H r b Y)
    (hg : Ge H A0) (hH : H.next ≤ n5 ∧ H.next ≤ n6 ∧ H.next ≤ e) (hu : IntsAt H u os) (h2 : t 2 = .pointer (some ⟨n2, 0, none⟩)) (h3 : t 3 = .pointer (some ⟨n3, 0, none⟩)) (h5 : t 5 = .pointer (some ⟨n5, 0, none⟩)) (h6 : t 6 = .pointer (some ⟨n6, 0, none⟩)) (h13 : t 13 = .func (.func 95) #[] #[.pointer (some ⟨nb, 0, none⟩)])
    (l2 : n2 < A0.next) (l3 : n3 < A0.next) (l5 : n5 < A0.next) (l6 : n6 < A0.next) (le : e < A0.next) (lb : nb < A0.next)
    (d2 : n2 ≠ n5 ∧ n2 ≠ n6 ∧ n2 ≠ e) (d3 : n3 ≠ n5 ∧ n3 ≠ n6 ∧ n3 ≠ e) (d5 : n5 ≠ n6 ∧ n5 ≠ e ∧ n6 ≠ e) (db : nb ≠ n5 ∧ nb ≠ n6 ∧ nb ≠ e)
    (k2 : A0.get n2 = .cells w2 (nightC Y r b (standsOf ls os) d) c2) (k3 : A0.get n3 = .cells w3 [u] c3) (kb : A0.get nb = .cells wb (nightC Y r b (standsOf ls os) d) cb)
    (k5 : A0.get n5 = .cells true [.slice (some ⟨e, 0, none⟩) 0 0] 1) (k6 : A0.get n6 = .cells true (dnC fun _ => false) 8) (ke : A0.get e = .cells true [] 0) (h8 : Y.buses.length ≤ 8)
    (hls : ls.length = Y.buses.length) (ho : os.length = Y.buses.length) (hob : ∀ x ∈ os, isBusB Y x = true) (hn : os.Nodup)
    (hQ : ∀ B tv, A0.next + 2 ≤ B.next → (∀ n, n < H.next → B.get n = H.get n) → B.get A0.next = .dfr → B.get n5 = .cells true [tv] 1 → (∀ B', B'.next = B.next → (∀ n, n ≠ A0.next → B'.get n = B.get n) → RowsAt B' tv (mornF (laneF ls) os [] (goL Y d))) → Q .normal ⟨t, [A0.next], B⟩) :
    arange Try.prog 51 none (.t 13) #[14] c62x0 c62y0 Q ⟨t, [], A0⟩ := by
  refine ⟨95, #[], #[.pointer (some ⟨nb, 0, none⟩)], h13, fun fn => ?_⟩
  have ng := hg.next
  have gN : Ge A0 ((A0.new .dfr).new (.loop { state := .ready, pending := none, fn, t, N := 51, params := #[14], assign := c62x0, body := c62y0, defers := A0.next })) := (Ge.new _ _).newOf _
  refine (goOut_spec (Y := Y) (s := standsOf ls os) (d := d) (c := cb) (w := wb) (I := fun L i A => MoI A0 n5 n6 e L { state := .ready, pending := none, fn, t, N := 51, params := #[14], assign := c62x0, body := c62y0, defers := A0.next } ls os (goL Y d) i A)
    (F := fun _ => False) (h.ge (hg.trans gN)) h8 (gN.got lb kb) (by simp; omega) ?_ ?_ ?_ ?_).mono ?_
  · intro A gA
    have nA := gA.next
    simp at nA
    have gg := gN.trans gA
    refine ⟨⟨nA, Nat.le_refl _⟩, fun n h1 _ _ _ => gg.get n h1, gA.got (by simp) (by simp), gA.got (by simp) (by simp), _, [], [], gg.got l5 k5, ⟨[], .inr ⟨e, 0, 0, rfl, Nat.le_refl _, by omega, gg.got le ke, by simp, by simp⟩, fun m hm => by simp [slName] at hm; exact .inl hm.symm, rfl, fun k hk => by simp at hk⟩, ?_, by simp, by simp⟩
    rw [inF_nil]; exact gg.got l6 k6
  · rintro L i A B hI gg
    exact hI.ge gg l5 l6
  · rintro L i A hI
    exact (hI.keep nb lb db.1 db.2.1 db.2.2).trans kb
  · rintro L i A hi hL1 hL2 hI
    refine (mo_round rfl hg hH hu h2 h3 h5 h6 l2 l3 l5 l6 le d2 d3 d5 k2 k3 h8 hls ho hob hn hI hi).mono ?_
    rintro v B ⟨rfl, q1, q2, q3⟩
    exact ⟨true, rfl, q1, fun n a1 a2 => q2 n (by simpa using a1) a2, fun _ => q3, fun a => by cases a⟩
  · rintro v B (⟨L, _, _, hI⟩ | hF)
    · obtain ⟨hL1, hL2⟩ := hI.next
      obtain ⟨tv, M, G, m5, mT, m6, mE, mL⟩ := hI.told
      rw [List.drop_length] at mE
      simp [mornF] at mE
      have hl := goL_len Y d
      refine ⟨_, hI.loop, by simp, ?_⟩
      have e5 : n5 ≠ A0.next + 1 := by omega
      refine hQ _ tv (by simp; omega) (fun n a1 => ?_) ?_ ?_ fun B' b1 b2 => ?_
      · have e1 : n ≠ A0.next + 1 := by omega
        simp [e1]
        rw [hI.keep n (by omega) (by omega) (by omega) (by omega)]; exact hg.get n a1
      · simp [hI.dfr]
      · simp [e5, m5]
      · rw [← mE]
        refine (mT.keep (by rw [b1]; simp) fun m a1 a2 => ?_).rows (by omega) fun x hx => ?_
        · have e1 : m ≠ A0.next + 1 := by omega
          rw [b2 m (by omega)]
          simp [e1]
        · rw [mE] at hx
          have := mornF_row (goL Y d) [] x hx
          omega
    · exact absurd hF id

end Go.Proofs.Ytfijnkhiojejfaa


namespace Go.Proofs.Ytfijnkhiojejfaa
open Go Go.Ab

noncomputable def eo : EqO := fun _ _ _ => none
theorem eoOk : EqOk Try.prog eo := fun _ _ _ _ h => by cases h
theorem mixed : Try.prog.follows .mixedOrders = true := by kernel_rfl

end Go.Proofs.Ytfijnkhiojejfaa

