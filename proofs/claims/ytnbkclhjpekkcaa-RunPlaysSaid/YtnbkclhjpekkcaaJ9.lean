/-
  Joined texts of a calculus of abstract memory, and of contracts of the program's functions.
-/
import Derived.Test.YtnbkclhjpekkcaaJ8
/-
  The contract of the reference's check of a cutting.
-/
namespace Go.Proofs.Ytnbkclhjpekkcaa
open Go Go.Ab

theorem refMay_specI {e s : Value} {T : Tab} {H : Heap} {x y : Int} (h : TabAt H e s T) (hT : Valid T) (hx : T.num x = true) (hy : T.num y = true) :
    AFun Try.prog 52 [tabV T e s, .int .i64 x, .int .i64 y] H (fun r H' => r = .bool (T.mayN x.toNat y.toNat) ∧ Ge H H') := by
  simp [Tab.num] at hx hy
  have h1 : x.toNat < T.trips.length := by omega
  have h2 : y.toNat < T.trips.length := by omega
  have := refMay_spec h hT h1 h2
  rw [refMay_eq hT h1 h2, Int.toNat_of_nonneg hx.1, Int.toNat_of_nonneg hy.1] at this
  exact this

theorem refIsCutting_spec {e s bv : Value} {T : Tab} {H : Heap} {blocks : List (List Int)} (h : TabAt H e s T) (hT : Valid T) (hb : RowsAt H bv blocks) :
    AFun Try.prog 29 [tabV T e s, bv] H (fun v H' => v = .bool (isCutL T blocks) ∧ Ge H H') := by
  refine AFun.mk ok29 hm (Nat.le_of_ble_eq_true rfl) ?_
  have hfew := hT.few
  have h62 := hb.lt
  have hmk : ∀ k, mksV k 1 1 [.bool false] (.int .i64 T.trips.length) (.int .i64 T.trips.length) = some _ := fun k => mksV_at (by omega) (by omega)
  have hz : zrep T.trips.length [Value.bool false] = (List.replicate T.trips.length false).map Value.bool := by
    have : ∀ n, zrep n [Value.bool false] = (List.replicate n false).map Value.bool := by
      intro n; induction n with
      | zero => rfl
      | succ n ih => rw [zrep_succ, ih]; rfl
    exact this _
  simp [a29, r29, h.trips.lenV, hmk, hz]
  refine floop_intro (fun z => z.d = [] ∧ Ge H z.H ∧ H.next + 2 ≤ z.H.next ∧ z.t 1 = bv ∧ z.t 2 = .pointer (some ⟨H.next, 0, none⟩) ∧ z.t 5 = .slice (some ⟨H.next + 1, 0, none⟩) T.trips.length T.trips.length ∧
    z.H.get H.next = .cells true [.int .i64 T.places, .int .i64 T.layover, e, s] 4 ∧
    ∃ (i : Nat) (d : List Bool), i ≤ blocks.length ∧ z.t 7 = .int .i64 i ∧ d.length = 12 ∧ (∀ k, T.trips.length ≤ k → d[k]?.getD false = false) ∧ z.t 6 = .int .i64 (seenN d) ∧ (blocks.take i).foldlM (blockStep T) (List.replicate 12 false) = some d ∧ z.H.get (H.next + 1) = .cells true ((d.map .bool).take T.trips.length) T.trips.length) (fun z => blocks.length - (intOf (z.t 7)).toNat) ?_ ?_
  · refine ⟨rfl, (Ge.new _ _).newOf _, by simp, by simp, by simp, by simp, by simp, 0, List.replicate 12 false, by simp, by simp, by simp, ?_, by simp [seenN], by simp, ?_⟩
    · intro k _
      rw [List.getElem?_replicate]; split <;> rfl
    · rw [List.map_replicate, List.take_replicate, Nat.min_eq_left hfew]
      simp
  rintro ⟨t, _, A⟩ ⟨rfl, g, hn, t1, t2, t5, b0, i, d, hi, t7, hdl, hdn, t6, hfold, hd⟩
  dsimp only at g hn t1 t2 t5 b0 t7 t6 hd
  simp [t1, t7, hb.lenV]
  refine fcond_intro (fun hc => ?_) (fun hc => ?_)
  · have hi' : i < blocks.length := by simpa using hc
    obtain ⟨p, u, e1, e2, e3⟩ := hb.atAll hi'
    have e20 := e2 A g
    have hnext := foldlM_take_succ hi' hfold
    simp [t1, t7, e1, e20, e3.lenV]
    by_cases h0 : blocks[i] = []
    · have hcut := isCutL_none (foldlM_none (i := i + 1) (by rw [hnext]; simp [blockStep, h0]))
      simp [h0, hcut, g]
    have hl0 : ¬ (blocks[i].length : Int) = 0 := by
      have := List.length_pos_iff.2 h0; omega
    simp [h0]
    have hlb := e3.2
    refine floop_intro (fun z => z.d = [] ∧ Ge H z.H ∧ H.next + 2 ≤ z.H.next ∧ z.t 1 = bv ∧ z.t 2 = .pointer (some ⟨H.next, 0, none⟩) ∧ z.t 5 = .slice (some ⟨H.next + 1, 0, none⟩) T.trips.length T.trips.length ∧ z.t 7 = .int .i64 i ∧
      z.H.get H.next = .cells true [.int .i64 T.places, .int .i64 T.layover, e, s] 4 ∧
      ∃ (j : Nat) (d' : List Bool), j ≤ blocks[i].length ∧ z.t 8 = .int .i64 j ∧ d'.length = 12 ∧ (∀ k, T.trips.length ≤ k → d'[k]?.getD false = false) ∧ z.t 6 = .int .i64 (seenN d') ∧ (∀ k (hk : k < j) (hk2 : k < blocks[i].length), T.num blocks[i][k] = true) ∧ (List.range j).foldlM (tripStep T blocks[i]) d = some d' ∧ z.H.get (H.next + 1) = .cells true ((d'.map .bool).take T.trips.length) T.trips.length) (fun z => blocks[i].length - (intOf (z.t 8)).toNat) ?_ ?_
    · exact ⟨rfl, g, hn, by simp [t1], by simp [t2], by simp [t5], by simp [t7], b0, 0, d, by simp, by simp, hdl, hdn, by simp [t6], by simp, by simp, hd⟩
    rintro ⟨w, _, B⟩ ⟨rfl, gB, hnB, w1, w2, w5, w7, b0B, j, d', hj, w8, hdl', hdn', w6, hnum, hfold', hd'⟩
    dsimp only at gB hnB w1 w2 w5 w7 b0B w8 w6 hd'
    have e21 := e2 B gB
    have e22 := e2 _ (gB.grow 31)
    simp [w1, w7, w8, e1, e21, e3.lenV]
    refine fcond_intro (fun hc2 => ?_) (fun hc2 => ?_)
    · have hj' : j < blocks[i].length := by simpa using hc2
      obtain ⟨p2, f1, f2⟩ := (e3.ge gB).at hj'
      simp [w1, w2, w7, w8, e1, e21, f1, f2, b0B, h.trips.lenV, sub_in (x := T.trips.length) (y := 1) (by omega) (by omega)]
      refine fcall_fun (in_spec' _ _ _ _) ?_
      rintro _ _ ⟨rfl, rfl⟩
      have hbj : blocks[i][j]?.getD 0 = blocks[i][j] := by simp [hj']
      change @fand _ ⟨_⟩
      have hnumd : T.num blocks[i][j] = (decide (0 ≤ blocks[i][j]) && decide (blocks[i][j] ≤ (T.trips.length : Int) - 1)) := rfl
      rw [← hnumd]
      have hone := foldlM_range_succ hfold'
      rw [tripStep, hbj] at hone
      cases hxn : T.num blocks[i][j]
      · have hcut := isCutL_none (foldlM_none (i := i + 1) (by rw [hnext]; exact blockStep_bad hj' hxn))
        simp [hcut]
        exact gB.grow 31
      have hx := hxn
      generalize hxe : blocks[i][j] = x at hx hxn hone
      simp [Tab.num] at hx
      have hxl : x.toNat < T.trips.length := by omega
      have hI : islV 1 (.slice (some ⟨H.next + 1, 0, none⟩) T.trips.length T.trips.length) (.int .i64 x) = some (.pointer (some ⟨H.next + 1, x.toNat, none⟩)) := by
        rw [islV_in (by omega) (by omega)]; simp
      have hdx : d'[x.toNat]? = some (d'[x.toNat]'(by omega)) := by simp [(by omega : x.toNat < d'.length)]
      simp [w5, hI, hd', hxl, hdx]
      have hgd : d'[x.toNat]?.getD false = d'[x.toNat]'(by omega) := by rw [hdx]; rfl
      rw [hgd] at hone
      generalize d'[x.toNat]'(by omega) = dv at hone hdx
      cases dv
      case true =>
        simp at hone
        have hcut := isCutL_none (foldlM_none (i := i + 1) (by rw [hnext]; exact blockStep_none (foldlM_range_none (i := j + 1) (by omega) hone)))
        simp [hcut]
        exact gB.grow 31
      simp at hone
      have hw : ∀ C : Heap, C.get (H.next + 1) = .cells true ((d'.map .bool).take T.trips.length) T.trips.length → stV C 1 (.pointer (some ⟨H.next + 1, x.toNat, none⟩)) (.bool true) = some (C.set (H.next + 1) (.cells true (((d'.set x.toNat true).map .bool).take T.trips.length) T.trips.length)) := by
        intro C hC
        rw [stV_at hC (by simp) (by simp; omega) (by simp)]
        have : wrL ((d'.map Value.bool).take T.trips.length) x.toNat [.bool true] = ((d'.set x.toNat true).map .bool).take T.trips.length := by
          rw [wrL_one _ _ _ (by simp; omega), ← map_set_bool, List.take_set]
        simp [this]
      have hnew : ∀ k, T.trips.length ≤ k → (d'.set x.toNat true)[k]?.getD false = false := by
        intro k hk
        rw [List.getElem?_set_ne (by omega)]
        exact hdn' k hk
      have hsn : seenN (d'.set x.toNat true) = seenN d' + 1 := seenN_set (by rw [hdx])
      have hsl := seenN_le (d := d') (n := 12) fun k hk => by simp [hdl', hk]
      have hnum2 : ∀ k (hk : k < j + 1) (hk2 : k < blocks[i].length), T.num blocks[i][k] = true := by
        intro k hk hk2
        by_cases e : k = j
        · subst e; rw [hxe]; exact hxn
        · exact hnum k (by omega) hk2
      by_cases hj0 : 0 < j
      · have e1' : (j : Int) - 1 = ((j - 1 : Nat) : Int) := by omega
        obtain ⟨p3, k1, k2⟩ := (e3.ge (gB.grow 31)).at (i := j - 1) (by omega)
        have hb2 : blocks[i][j - 1]?.getD 0 = blocks[i][j - 1] := by simp [(by omega : j - 1 < blocks[i].length)]
        rw [hb2] at hone
        simp [hj0] at hone
        simp [hj0, w1, w2, w7, w8, b0B, e1, e22, sub_in (x := j) (y := 1) (by omega) (by omega), e1', k1, k2]
        refine fcall_fun (refMay_specI ((h.ge gB).ge (Ge.more B 31)) hT (hnum (j - 1) (by omega) (by omega)) hxn) ?_
        rintro _ D ⟨rfl, gD⟩
        have GD := (gB.grow 31).trans gD
        have kb := gD.got (by simp; omega) b0B
        have kd := gD.got (by simp; omega) hd'
        have nD := gD.next
        simp at nD
        cases hmay : T.mayN blocks[i][j - 1].toNat x.toNat
        · rw [hmay] at hone
          simp at hone
          have hcut := isCutL_none (foldlM_none (i := i + 1) (by rw [hnext]; exact blockStep_none (foldlM_range_none (i := j + 1) (by omega) hone)))
          simp [hcut, hj0]
          exact GD
        · rw [hmay] at hone
          simp at hone
          have hwD := hw D kd
          rw [stV_ptr] at hwD
          simp [hj0, w5, hI, hwD, w6, w8, add_in (x := j) (y := 1) (by omega) (by omega), add_in (x := seenN d') (y := 1) (by omega) (by omega)]
          refine ⟨⟨Ge.setNew GD (by omega) _, by omega, w1, w2, w7, kb, j + 1, by omega, by omega, d'.set x.toNat true, by simpa using hdl', hnew, by rw [hsn]; omega, hnum2, hone, ?_⟩, by omega⟩
          simp
      · simp [hj0] at hone
        have hwB := hw ⟨B.get, B.next + 31⟩ hd'
        rw [stV_ptr] at hwB
        simp at hwB
        simp [hj0, w5, hI, hwB, w6, w8, add_in (x := j) (y := 1) (by omega) (by omega), add_in (x := seenN d') (y := 1) (by omega) (by omega)]
        refine ⟨⟨Ge.setNew (gB.grow 31) (by omega) _, by omega, w1, w2, w7, b0B, j + 1, by omega, by omega, d'.set x.toNat true, by simpa using hdl', hnew, by rw [hsn]; omega, hnum2, hone, ?_⟩, by omega⟩
        simp
    · have hj' : j = blocks[i].length := by simp at hc2; omega
      subst hj'
      have hblk : blockStep T d blocks[i] = some d' := by
        rw [blockStep_some h0 (fun x hx => by
          obtain ⟨k, hk, rfl⟩ := List.getElem_of_mem hx
          exact hnum k hk hk), hfold']
      simp [w7, add_in (x := i) (y := 1) (by omega) (by omega)]
      exact ⟨⟨gB, hnB, w1, w2, w5, b0B, i + 1, by omega, by omega, d', hdl', hdn', w6, hnext.trans hblk, hd'⟩, by simp [t7]; omega⟩
  · have hi' : i = blocks.length := by simp at hc; omega
    subst hi'
    rw [List.take_length] at hfold
    simp [t2, t6, b0, h.trips.lenV]
    rw [isCutL_some hfold, ← seen_upTo hdl hfew hdn]
    exact ⟨by congr 1; exact propext (by omega), g⟩

end Go.Proofs.Ytnbkclhjpekkcaa

/-
  The contract of Play.
-/
namespace Go.Proofs.Ytnbkclhjpekkcaa
open Go Go.Ab

theorem foldlM_mem {α β : Type} {f : β → α → Option β} : ∀ {l : List α} {a d : β}, l.foldlM f a = some d → ∀ x ∈ l, ∃ b c, f b x = some c
  | [], _, _, _, x, hx => by simp at hx
  | y :: l, a, d, h, x, hx => by
    simp only [List.foldlM_cons, Option.bind_eq_bind, Option.bind_eq_some_iff] at h
    obtain ⟨c, h1, h2⟩ := h
    rcases List.mem_cons.1 hx with rfl | hx
    · exact ⟨a, c, h1⟩
    · exact foldlM_mem h2 x hx

theorem isCutL_blocks {T : Tab} {blocks : List (List Int)} (h : isCutL T blocks = true) : ∀ b ∈ blocks, b ≠ [] ∧ ∀ x ∈ b, T.num x = true := by
  unfold isCutL at h
  split at h
  · cases h
  · rename_i d hd
    intro b hb
    obtain ⟨p, q, hpq⟩ := foldlM_mem hd b hb
    unfold blockStep at hpq
    split at hpq
    · cases hpq
    · rename_i h0
      split at hpq
      · rename_i ha
        exact ⟨by simpa using h0, List.all_eq_true.1 ha⟩
      · cases hpq

theorem play_spec {e s bv tv : Value} {T : Tab} {times : List Int} {blocks : List (List Int)} {H : Heap} {lo : Nat} (h : TabAt H e s T) (hb : RowsO H lo bv blocks) (hbl : blocks.length ≤ 2 ^ 20) (hbl2 : ∀ b ∈ blocks, b.length ≤ 2 ^ 20) (hv : IntsAt H tv times) :
    AFun Try.prog 36 [tabV T e s, bv, tv] H (fun r H' => Ge H H' ∧ (checkT T ≠ 0 → r = .tuple #[.slice none 0 0, .int .i64 (checkT T)]) ∧ (checkT T = 0 → (isCutL T blocks && fitsL T times) = false → r = .tuple #[.slice none 0 0, .int .i64 2]) ∧
      (checkT T = 0 → (isCutL T blocks && fitsL T times) = true → ∃ w, r = .tuple #[w, .int .i64 0] ∧ RowsAt H' w (blocks.map (waitsL T times)))) := by
  refine AFun.mk ok36 hm (Nat.le_of_ble_eq_true rfl) ?_
  have hbr := hb.rows (by omega)
  simp [a36, r36]
  refine fcall_fun (checkTable_spec (h.ge (by simp))) ?_
  rintro _ H1 ⟨rfl, g1⟩
  have G1 : Ge H H1 := Ge.trans (by simp) g1
  have b1 := g1.got (n := H.next) (by simp) rfl
  simp at b1
  simp
  refine fcond_intro (fun hc => ?_) (fun hc => ?_)
  · simp at hc
    simp [hc, G1]
  simp at hc
  have hT := checkT_zero.1 hc
  have he := h.empty.one
  have hs := h.trips.one
  have hfew := hT.few
  simp [b1]
  refine fcall_fun (newService_spec (h.ge G1) hT) ?_
  rintro _ H2 ⟨f, rfl, g2, hr⟩
  have hf1 := hr.one
  simp [he, hs, hf1]
  have G2 : Ge H ((H2.new (.cells true [.int .i64 0, .int .i64 0, .slice none 0 0, .slice none 0 0, .nilFunc, .slice none 0 0] 6)).set H2.next (.cells true [.int .i64 T.places, .int .i64 T.layover, e, s, .func (.func 74) #[] #[], f] 6)) := Ge.setNew ((G1.trans g2).newOf _) (G1.trans g2).next _
  refine fcall_fun (isCutting_spec (h.ge G2) hT (hbr.ge G2)) ?_
  rintro _ H3 ⟨rfl, g3⟩
  have G3 := G2.trans g3
  have k3 := g3.got (n := H2.next) (by simp) (by simp; rfl)
  have n1 := G1.next
  have n2 := g2.next
  have n3 := g3.next
  simp at n3
  cases hcut : isCutL T blocks
  · simp [hc, G3]
  simp [k3]
  refine fcall_fun (isTruth_spec (h.ge G3) hfew (hv.ge G3)) ?_
  rintro _ H4 ⟨rfl, g4⟩
  have G4 := G3.trans g4
  have n4 := g4.next
  have k4 := g4.got (by omega) k3
  cases hfit : fitsL T times
  · simp [hc, G4]
  have hmk : ∀ k, mksV k 1 24 [.slice none 0 0] (.int .i64 blocks.length) (.int .i64 blocks.length) = some _ := fun k => mksV_at (by omega) (by omega)
  have hz : zrep blocks.length [Value.slice none 0 0] = List.replicate blocks.length (.slice none 0 0) := by
    have : ∀ n, zrep n [Value.slice none 0 0] = List.replicate n (.slice none 0 0) := by
      intro n; induction n with
      | zero => rfl
      | succ n ih => rw [zrep_succ, ih]; rfl
    exact this _
  have hall := isCutL_blocks hcut
  simp [hc, hbr.lenV, hmk, hz]
  refine floop_intro (fun z => z.d = [] ∧ Ge H z.H ∧ H4.next < z.H.next ∧ z.t 2 = tv ∧ z.t 9 = .pointer (some ⟨H2.next, 0, none⟩) ∧ z.t 10 = .slice (some ⟨H4.next, 0, none⟩) blocks.length blocks.length ∧ z.t 33 = bv ∧ z.t 34 = .int .i64 blocks.length ∧
    z.H.get H2.next = .cells true [.int .i64 T.places, .int .i64 T.layover, e, s, .func (.func 74) #[] #[], f] 6 ∧
    ∃ (i : Nat) (vs : List Value), i ≤ blocks.length ∧ z.t 35 = .int .i64 i ∧ vs.length = blocks.length ∧ z.H.get H4.next = .cells true vs blocks.length ∧ ∀ k (hk : k < i) (hk2 : k < blocks.length), ∃ u, vs[k]? = some u ∧ OwnSl z.H (H4.next + 1) u ((waitsL T times blocks[k]).map (.int .i64))) (fun z => blocks.length - (intOf (z.t 35)).toNat) ?_ ?_
  · refine ⟨rfl, Ge.newOf G4 _, by simp, by simp, by simp, by simp, by simp, by simp, ?_, 0, List.replicate blocks.length (.slice none 0 0), by simp, by simp, by simp, by simp, by simp⟩
    have e1 : H2.next ≠ H4.next := by omega
    simp [e1, k4]
  rintro ⟨t, _, A⟩ ⟨rfl, g, hn, t2, t9, t10, t33, t34, b0, i, vs, hi, t35, hvl, hW, hrow⟩
  dsimp only at g hn t2 t9 t10 t33 t34 b0 t35 hW hrow
  simp [t34, t35]
  refine fcond_intro (fun hc2 => ?_) (fun hc2 => ?_)
  · have hi' : i < blocks.length := by simpa using hc2
    obtain ⟨⟨bs, o1, o2, o3⟩, o4⟩ := hb
    obtain ⟨u, o5, o6, o7⟩ := o3 i hi'
    have hbs := (o1.ge g).slr
    obtain ⟨p, e1, e2⟩ := hbs.at1 (i := i) (k := .i64) (by omega)
    rw [o5] at e2
    have hblk := hall _ (List.getElem_mem hi')
    simp [t2, t9, t10, t33, t35, e1, e2, b0]
    refine fcall_fun (waits_spec (h.ge g) hT (o6.ge g) (hbl2 _ (List.getElem_mem hi')) hblk.1 hblk.2 (hv.ge g) hfit) ?_
    rintro w B ⟨hw, gB⟩
    have nB := gB.next
    have hI : islV 1 (.slice (some ⟨H4.next, 0, none⟩) blocks.length blocks.length) (.int .i64 i) = some (.pointer (some ⟨H4.next, i, none⟩)) := by
      rw [islV_in (by omega) (by omega)]; simp
    have hWB := gB.got (by omega) hW
    have b0B := gB.got (by omega) b0
    have ow := one_cells hw.one
    have ow1 := hw.one
    have hset : wrL vs i [w] = vs.set i w := wrL_one vs i w (by omega)
    simp [hI, hWB, ow, ow1, hvl, hset, t35, add_in (x := i) (y := 1) (by omega) (by omega), (by omega : i + 1 ≤ blocks.length)]
    have e9 : H2.next ≠ H4.next := by omega
    refine ⟨⟨Ge.setNew (g.trans gB) (by omega) _, by omega, t2, t9, t10, t33, t34, by simp [e9, b0B], i + 1, by omega, by omega, vs.set i w, by simpa using hvl, rfl, ?_⟩, by omega⟩
    intro k hk hk2
    by_cases e : k = i
    · subst e
      refine ⟨w, by simp [(by omega : k < vs.length)], ?_⟩
      have hw2 : OwnSl B (H4.next + 1) w ((waitsL T times blocks[k]).map (.int .i64)) := by
        rcases hw with hw | ⟨n, cap, c, q1, q2, q3⟩
        · exact .inl hw
        · exact .inr ⟨n, cap, c, q1, by omega, q3⟩
      refine hw2.keep (by simp) fun n hn2 => ?_
      have := (hw2.names hn2).1
      have e8 : n ≠ H4.next := by omega
      simp [e8]
    · obtain ⟨u', q1, q2⟩ := hrow k (by omega) hk2
      refine ⟨u', by rw [List.getElem?_set_ne (Ne.symm e)]; exact q1, ?_⟩
      refine (q2.ge gB).keep (by simp) fun n hn2 => ?_
      have := (q2.names hn2).1
      have e8 : n ≠ H4.next := by omega
      simp [e8]
  · have hi' : i = blocks.length := by simp at hc2; omega
    subst hi'
    simp [t10, hc]
    refine ⟨g, vs, ⟨?_, ?_⟩, by simp; omega, fun k hk => ?_⟩
    · simp [slCells, hW, rdL, hvl]
      rw [List.take_of_length_le (by omega)]
    · intro a n c e; simp at e; rw [← e.1]; exact hn
    · simp at hk
      obtain ⟨u, q1, q2⟩ := hrow k hk hk
      refine ⟨u, q1, ?_, ?_⟩
      · have := q2.slr
        simpa using this
      · have := hbl2 _ (List.getElem_mem hk)
        simp [waitsL]; omega

end Go.Proofs.Ytnbkclhjpekkcaa

/-
  What RunPlays answers.
-/
namespace Go.Proofs.Ytnbkclhjpekkcaa
open Go Go.Ab

def shortL (xs : List (List Int)) : Bool := decide (xs.length ≤ 15) && xs.all fun l => decide (l.length ≤ 15)
theorem shortL_at {xs : List (List Int)} (h : shortL xs = true) : xs.length ≤ 15 ∧ ∀ l ∈ xs, l.length ≤ 15 := by
  simpa [shortL] using h

theorem runPlays_of {e s bv tv : Value} {T : Tab} {blocks : List (List Int)} {times : List Int} {H : Heap} (h : TabAt H e s T) (hb : RowsAt H bv blocks) (hv : IntsAt H tv times) : AFun Try.prog 6 [tabV T e s, bv, tv] H (fun v B => v = .bool true ∧ Ge H B) := by
  refine AFun.mk ok6 hm (Nat.le_of_ble_eq_true rfl) ?_
  have h62 := hv.2
  have g0 : Ge H (H.new (.cells true [.int .i64 T.places, .int .i64 T.layover, e, s] 4)) := Ge.new _ _
  simp [a6, r6]
  refine fcall_fun (thin_spec (h.ge g0)) ?_
  rintro _ H1 ⟨rfl, g1⟩
  have G1 := g0.trans g1
  have b1 := g1.got (n := H.next) (by simp) rfl
  simp at b1
  cases hth : thin T
  · simp
    refine fcall_fun (awake_spec _) ?_
    rintro _ B ⟨rfl, gB⟩
    simp
    exact G1.trans gB
  simp
  refine fcall_fun (short_spec (hb.ge G1)) ?_
  rintro _ H2 ⟨rfl, g2⟩
  have G2 := G1.trans g2
  have n1 := g1.next
  simp at n1
  have n2 := g2.next
  have b2 := g2.got (by omega) b1
  have hse : (decide (blocks.length ≤ 15) && blocks.all fun l => decide (l.length ≤ 15)) = shortL blocks := rfl
  rw [hse]
  cases hsh : shortL blocks
  · simp
    refine fcall_fun (awake_spec _) ?_
    rintro _ B ⟨rfl, gB⟩
    simp
    exact G2.trans gB
  obtain ⟨s1, s2⟩ := shortL_at hsh
  by_cases hl15 : 15 < times.length
  · have : (15 : Int) < times.length := by omega
    simp [hv.lenV, this]
    refine fcall_fun (awake_spec _) ?_
    rintro _ B ⟨rfl, gB⟩
    simp
    exact G2.trans gB
  have hl15' : ¬ (15 : Int) < times.length := by omega
  simp [hv.lenV, hl15', b2]
  refine fcall_fun (table_spec (h.ge G2) hth) ?_
  rintro _ H3 ⟨⟨e3, s3, rfl, t3⟩, g3⟩
  have G3 := G2.trans g3
  have n3 := g3.next
  simp
  refine fcall_fun (rows_spec (hb.ge G3) (by omega) (fun l hl => by have := s2 l hl; omega)) ?_
  rintro bv4 H4 ⟨hb4, g4⟩
  have G4 := G3.trans g4
  have n4 := g4.next
  simp
  refine fcall_fun (list_spec (hv.ge G4) (by omega)) ?_
  rintro tv5 H5 ⟨hv5, g5⟩
  have G5 := G4.trans g5
  have n5 := g5.next
  have hv5i : IntsAt H5 tv5 times := ⟨by simpa using hv5.slr, by omega⟩
  simp
  refine fcall_fun (play_spec ((t3.ge g4).ge g5) (hb4.keep (by omega) fun n h1 h2 => g5.get n h2) (by omega) (fun l hl => by have := s2 l hl; omega) hv5i) ?_
  rintro r H6 ⟨g6, hbad, hbad2, hgood⟩
  have G6 := G5.trans g6
  have n6 := g6.next
  have b6 := g6.got (by omega) (g5.got (by omega) (g4.got (by omega) (g3.got (by omega) b2)))
  by_cases hc : checkT T = 0
  case neg =>
    have hr := hbad hc
    subst hr
    simp [b6]
    refine fcall_fun (faultOf_spec (h.ge G6)) ?_
    rintro _ H7 ⟨rfl, g7⟩
    simp [hc]
    refine fcall_fun (awake_spec _) ?_
    rintro _ B ⟨rfl, gB⟩
    simp
    exact (G6.trans g7).trans gB
  have hT := checkT_zero.1 hc
  have hfew := hT.few
  cases hok : isCutL T blocks && fitsL T times
  · have hr := hbad2 hc hok
    subst hr
    simp [b6]
    refine fcall_fun (faultOf_spec (h.ge G6)) ?_
    rintro _ H7 ⟨rfl, g7⟩
    have G7 := G6.trans g7
    have n7 := g7.next
    have b7 := g7.got (by omega) b6
    simp [hc, b7]
    refine fcall_fun (refIsCutting_spec (h.ge G7) hT (hb.ge G7)) ?_
    rintro _ H8 ⟨rfl, g8⟩
    have G8 := G7.trans g8
    have n8 := g8.next
    have b8 := g8.got (by omega) b7
    cases hcut : isCutL T blocks
    · simp
      refine fcall_fun (awake_spec _) ?_
      rintro _ B ⟨rfl, gB⟩
      simp
      exact G8.trans gB
    · have hfit : fitsL T times = false := by simpa [hcut] using hok
      simp [b8]
      refine fcall_fun (fits_spec (h.ge G8) hfew (hv.ge G8)) ?_
      rintro _ H9 ⟨rfl, g9⟩
      rw [hfit]
      simp
      refine fcall_fun (awake_spec _) ?_
      rintro _ B ⟨rfl, gB⟩
      simp
      exact (G8.trans g9).trans gB
  · obtain ⟨w, rfl, hw⟩ := hgood hc hok
    simp at hok
    simp [b6]
    refine fcall_fun (faultOf_spec (h.ge G6)) ?_
    rintro _ H7 ⟨rfl, g7⟩
    have G7 := G6.trans g7
    have n7 := g7.next
    have b7 := g7.got (by omega) b6
    simp [hc, b7]
    refine fcall_fun (refIsCutting_spec (h.ge G7) hT (hb.ge G7)) ?_
    rintro _ H8 ⟨rfl, g8⟩
    have G8 := G7.trans g8
    have n8 := g8.next
    have b8 := g8.got (by omega) b7
    rw [hok.1]
    simp [b8]
    refine fcall_fun (fits_spec (h.ge G8) hfew (hv.ge G8)) ?_
    rintro _ H9 ⟨rfl, g9⟩
    have G9 := G8.trans g9
    have n9 := g9.next
    have b9 := g9.got (by omega) b8
    have hw9 := ((hw.ge g7).ge g8).ge g9
    have hwl := hw9.lenV
    simp at hwl
    rw [hok.2]
    simp [hwl, hb.lenV]
    refine floop_intro (fun z => z.d = [] ∧ Ge H z.H ∧ Ge H9 z.H ∧ z.t 1 = bv ∧ z.t 2 = tv ∧ z.t 3 = .pointer (some ⟨H.next, 0, none⟩) ∧ z.t 7 = w ∧ ∃ i : Nat, i ≤ blocks.length ∧ z.t 10 = .int .i64 i) (fun z => blocks.length - (intOf (z.t 10)).toNat) ?_ ?_
    · exact ⟨rfl, G9, Ge.refl _, by simp, by simp, by simp, by simp, 0, by simp, by simp⟩
    rintro ⟨t, _, A⟩ ⟨rfl, gA, gA9, t1, t2, t3', t7, i, hi, t10⟩
    dsimp only at gA gA9 t1 t2 t3' t7 t10
    simp [t7, t10, hwl]
    refine fcond_intro (fun hc2 => ?_) (fun hc2 => ?_)
    · have hi' : i < blocks.length := by simpa using hc2
      obtain ⟨p1, u1, e1, e2, e3⟩ := hw9.atAll (i := i) (by simpa using hi')
      obtain ⟨p2, u2, e4, e5, e6⟩ := hb.atAll hi'
      have bA := gA9.got (by omega) b9
      have hblk := isCutL_blocks hok.1 _ (List.getElem_mem hi')
      simp at e3
      simp [t1, t2, t3', t7, t10, e1, e2 _ (gA9.grow 13), e4, e5 _ (gA.grow 13), bA]
      refine fcall_fun (refWaits_spec (h.ge (gA.grow 13)) hT (e6.ge (gA.grow 13)) (by have := s2 _ (List.getElem_mem hi'); omega) hblk.2 (hv.ge (gA.grow 13)) hok.2) ?_
      rintro v B ⟨hv2, gB⟩
      have gAB : Ge A B := (Ge.more A 13).trans gB
      have e21 := e2 _ (gA9.trans gAB)
      simp [e21]
      refine fcall_fun (ints_spec (e3.ge (gA9.trans gAB)) hv2) ?_
      rintro _ C ⟨rfl, gC⟩
      simp [t10, add_in (x := i) (y := 1) (by omega) (by omega)]
      exact ⟨⟨(gA.trans gAB).trans gC, (gA9.trans gAB).trans gC, t1, t2, t3', t7, i + 1, by omega, by omega⟩, by omega⟩
    · simp
      refine fcall_fun (awake_spec _) ?_
      rintro _ B ⟨rfl, gB⟩
      simp
      exact gA.trans gB

end Go.Proofs.Ytnbkclhjpekkcaa
