/-
  Joined texts of a calculus of abstract memory, and of contracts of the program's functions.
-/
import Derived.Test.YtohohnpjilinmaaJ8
/-
  The contract of the reference's check of a cutting.
-/
namespace Go.Proofs.Ytohohnpjilinmaa
open Go Go.Ab

theorem refMay_specI {e s : Value} {T : Tab} {H : Heap} {x y : Int} (h : TabAt H e s T) (hT : Valid T) (hx : T.num x = true) (hy : T.num y = true) :
    AFun Try.prog 52 [tabV T e s, .int .i64 x, .int .i64 y] H (fun r H' => r = .bool (T.mayN x.toNat y.toNat) ∧ Ge H H') := by
  simp [Tab.num] at hx hy
  have h1 : x.toNat < T.trips.length := by omega
  have h2 : y.toNat < T.trips.length := by omega
  have := refMay_spec h hT h1 h2
  rw [refMay_eq hT h1 h2, Int.toNat_of_nonneg hx.1, Int.toNat_of_nonneg hy.1] at this
  exact this

theorem refIsCutting_spec {e s bv : Value} {T : Tab} {H : Heap} {blocks : List (List Int)} (h : TabAt H e s T) (hT : Valid T) (hb : RowsAt H bv blocks) :
    AFun Try.prog 29 [tabV T e s, bv] H (fun v H' => v = .bool (isCutL T blocks) ∧ Ge H H') := by
  refine AFun.mk ok29 hm (Nat.le_of_ble_eq_true rfl) ?_
  have hfew := hT.few
  have h62 := hb.lt
  have hmk : ∀ k, mksV k 1 1 [.bool false] (.int .i64 T.trips.length) (.int .i64 T.trips.length) = some _ := fun k => mksV_at (by omega) (by omega)
  have hz : zrep T.trips.length [Value.bool false] = (List.replicate T.trips.length false).map Value.bool := by
    have : ∀ n, zrep n [Value.bool false] = (List.replicate n false).map Value.bool := by
      intro n; induction n with
      | zero => rfl
      | succ n ih => rw [zrep_succ, ih]; rfl
    exact this _
  simp [a29, r29, h.trips.lenV, hmk, hz]
  refine floop_intro (fun z => z.d = [] ∧ Ge H z.H ∧ H.next + 2 ≤ z.H.next ∧ z.t 1 = bv ∧ z.t 2 = .pointer (some ⟨H.next, 0, none⟩) ∧ z.t 5 = .slice (some ⟨H.next + 1, 0, none⟩) T.trips.length T.trips.length ∧
    z.H.get H.next = .cells true [.int .i64 T.places, .int .i64 T.layover, e, s] 4 ∧
    ∃ (i : Nat) (d : List Bool), i ≤ blocks.length ∧ z.t 7 = .int .i64 i ∧ d.length = 12 ∧ (∀ k, T.trips.length ≤ k → d[k]?.getD false = false) ∧ z.t 6 = .int .i64 (seenN d) ∧ (blocks.take i).foldlM (blockStep T) (List.replicate 12 false) = some d ∧ z.H.get (H.next + 1) = .cells true ((d.map .bool).take T.trips.length) T.trips.length) (fun z => blocks.length - (intOf (z.t 7)).toNat) ?_ ?_
  · refine ⟨rfl, (Ge.new _ _).newOf _, by simp, by simp, by simp, by simp, by simp, 0, List.replicate 12 false, by simp, by simp, by simp, ?_, by simp [seenN], by simp, ?_⟩
    · intro k _
      rw [List.getElem?_replicate]; split <;> rfl
    · rw [List.map_replicate, List.take_replicate, Nat.min_eq_left hfew]
      simp
  rintro ⟨t, _, A⟩ ⟨rfl, g, hn, t1, t2, t5, b0, i, d, hi, t7, hdl, hdn, t6, hfold, hd⟩
  dsimp only at g hn t1 t2 t5 b0 t7 t6 hd
  simp [t1, t7, hb.lenV]
  refine fcond_intro (fun hc => ?_) (fun hc => ?_)
  · have hi' : i < blocks.length := by simpa using hc
    obtain ⟨p, u, e1, e2, e3⟩ := hb.atAll hi'
    have e20 := e2 A g
    have hnext := foldlM_take_succ hi' hfold
    simp [t1, t7, e1, e20, e3.lenV]
    by_cases h0 : blocks[i] = []
    · have hcut := isCutL_none (foldlM_none (i := i + 1) (by rw [hnext]; simp [blockStep, h0]))
      simp [h0, hcut, g]
    have hl0 : ¬ (blocks[i].length : Int) = 0 := by
      have := List.length_pos_iff.2 h0; omega
    simp [h0]
    have hlb := e3.2
    refine floop_intro (fun z => z.d = [] ∧ Ge H z.H ∧ H.next + 2 ≤ z.H.next ∧ z.t 1 = bv ∧ z.t 2 = .pointer (some ⟨H.next, 0, none⟩) ∧ z.t 5 = .slice (some ⟨H.next + 1, 0, none⟩) T.trips.length T.trips.length ∧ z.t 7 = .int .i64 i ∧
      z.H.get H.next = .cells true [.int .i64 T.places, .int .i64 T.layover, e, s] 4 ∧
      ∃ (j : Nat) (d' : List Bool), j ≤ blocks[i].length ∧ z.t 8 = .int .i64 j ∧ d'.length = 12 ∧ (∀ k, T.trips.length ≤ k → d'[k]?.getD false = false) ∧ z.t 6 = .int .i64 (seenN d') ∧ (∀ k (hk : k < j) (hk2 : k < blocks[i].length), T.num blocks[i][k] = true) ∧ (List.range j).foldlM (tripStep T blocks[i]) d = some d' ∧ z.H.get (H.next + 1) = .cells true ((d'.map .bool).take T.trips.length) T.trips.length) (fun z => blocks[i].length - (intOf (z.t 8)).toNat) ?_ ?_
    · exact ⟨rfl, g, hn, by simp [t1], by simp [t2], by simp [t5], by simp [t7], b0, 0, d, by simp, by simp, hdl, hdn, by simp [t6], by simp, by simp, hd⟩
    rintro ⟨w, _, B⟩ ⟨rfl, gB, hnB, w1, w2, w5, w7, b0B, j, d', hj, w8, hdl', hdn', w6, hnum, hfold', hd'⟩
    dsimp only at gB hnB w1 w2 w5 w7 b0B w8 w6 hd'
    have e21 := e2 B gB
    have e22 := e2 _ (gB.grow 31)
    simp [w1, w7, w8, e1, e21, e3.lenV]
    refine fcond_intro (fun hc2 => ?_) (fun hc2 => ?_)
    · have hj' : j < blocks[i].length := by simpa using hc2
      obtain ⟨p2, f1, f2⟩ := (e3.ge gB).at hj'
      simp [w1, w2, w7, w8, e1, e21, f1, f2, b0B, h.trips.lenV, sub_in (x := T.trips.length) (y := 1) (by omega) (by omega)]
      refine fcall_fun (in_spec' _ _ _ _) ?_
      rintro _ _ ⟨rfl, rfl⟩
      have hbj : blocks[i][j]?.getD 0 = blocks[i][j] := by simp [hj']
      change @fand _ ⟨_⟩
      have hnumd : T.num blocks[i][j] = (decide (0 ≤ blocks[i][j]) && decide (blocks[i][j] ≤ (T.trips.length : Int) - 1)) := rfl
      rw [← hnumd]
      have hone := foldlM_range_succ hfold'
      rw [tripStep, hbj] at hone
      cases hxn : T.num blocks[i][j]
      · have hcut := isCutL_none (foldlM_none (i := i + 1) (by rw [hnext]; exact blockStep_bad hj' hxn))
        simp [hcut]
        exact gB.grow 31
      have hx := hxn
      generalize hxe : blocks[i][j] = x at hx hxn hone
      simp [Tab.num] at hx
      have hxl : x.toNat < T.trips.length := by omega
      have hI : islV 1 (.slice (some ⟨H.next + 1, 0, none⟩) T.trips.length T.trips.length) (.int .i64 x) = some (.pointer (some ⟨H.next + 1, x.toNat, none⟩)) := by
        rw [islV_in (by omega) (by omega)]; simp
      have hdx : d'[x.toNat]? = some (d'[x.toNat]'(by omega)) := by simp [(by omega : x.toNat < d'.length)]
      simp [w5, hI, hd', hxl, hdx]
      have hgd : d'[x.toNat]?.getD false = d'[x.toNat]'(by omega) := by rw [hdx]; rfl
      rw [hgd] at hone
      generalize d'[x.toNat]'(by omega) = dv at hone hdx
      cases dv
      case true =>
        simp at hone
        have hcut := isCutL_none (foldlM_none (i := i + 1) (by rw [hnext]; exact blockStep_none (foldlM_range_none (i := j + 1) (by omega) hone)))
        simp [hcut]
        exact gB.grow 31
      simp at hone
      have hw : ∀ C : Heap, C.get (H.next + 1) = .cells true ((d'.map .bool).take T.trips.length) T.trips.length → stV C 1 (.pointer (some ⟨H.next + 1, x.toNat, none⟩)) (.bool true) = some (C.set (H.next + 1) (.cells true (((d'.set x.toNat true).map .bool).take T.trips.length) T.trips.length)) := by
        intro C hC
        rw [stV_at hC (by simp) (by simp; omega) (by simp)]
        have : wrL ((d'.map Value.bool).take T.trips.length) x.toNat [.bool true] = ((d'.set x.toNat true).map .bool).take T.trips.length := by
          rw [wrL_one _ _ _ (by simp; omega), ← map_set_bool, List.take_set]
        simp [this]
      have hnew : ∀ k, T.trips.length ≤ k → (d'.set x.toNat true)[k]?.getD false = false := by
        intro k hk
        rw [List.getElem?_set_ne (by omega)]
        exact hdn' k hk
      have hsn : seenN (d'.set x.toNat true) = seenN d' + 1 := seenN_set (by rw [hdx])
      have hsl := seenN_le (d := d') (n := 12) fun k hk => by simp [hdl', hk]
      have hnum2 : ∀ k (hk : k < j + 1) (hk2 : k < blocks[i].length), T.num blocks[i][k] = true := by
        intro k hk hk2
        by_cases e : k = j
        · subst e; rw [hxe]; exact hxn
        · exact hnum k (by omega) hk2
      by_cases hj0 : 0 < j
      · have e1' : (j : Int) - 1 = ((j - 1 : Nat) : Int) := by omega
        obtain ⟨p3, k1, k2⟩ := (e3.ge (gB.grow 31)).at (i := j - 1) (by omega)
        have hb2 : blocks[i][j - 1]?.getD 0 = blocks[i][j - 1] := by simp [(by omega : j - 1 < blocks[i].length)]
        rw [hb2] at hone
        simp [hj0] at hone
        simp [hj0, w1, w2, w7, w8, b0B, e1, e22, sub_in (x := j) (y := 1) (by omega) (by omega), e1', k1, k2]
        refine fcall_fun (refMay_specI ((h.ge gB).ge (Ge.more B 31)) hT (hnum (j - 1) (by omega) (by omega)) hxn) ?_
        rintro _ D ⟨rfl, gD⟩
        have GD := (gB.grow 31).trans gD
        have kb := gD.got (by simp; omega) b0B
        have kd := gD.got (by simp; omega) hd'
        have nD := gD.next
        simp at nD
        cases hmay : T.mayN blocks[i][j - 1].toNat x.toNat
        · rw [hmay] at hone
          simp at hone
          have hcut := isCutL_none (foldlM_none (i := i + 1) (by rw [hnext]; exact blockStep_none (foldlM_range_none (i := j + 1) (by omega) hone)))
          simp [hcut]
          exact GD
        · rw [hmay] at hone
          simp at hone
          have hwD := hw D kd
          rw [stV_ptr] at hwD
          simp [w5, hI, hwD, w6, w8, add_in (x := j) (y := 1) (by omega) (by omega), add_in (x := seenN d') (y := 1) (by omega) (by omega)]
          refine ⟨⟨Ge.setNew GD (by omega) _, by omega, w1, w2, w7, kb, j + 1, by omega, by omega, d'.set x.toNat true, by simpa using hdl', hnew, by rw [hsn]; omega, hnum2, hone, ?_⟩, by omega⟩
          simp
      · simp [hj0] at hone
        have hwB := hw ⟨B.get, B.next + 31⟩ hd'
        rw [stV_ptr] at hwB
        simp at hwB
        simp [hj0, w5, hI, hwB, w6, w8, add_in (x := j) (y := 1) (by omega) (by omega), add_in (x := seenN d') (y := 1) (by omega) (by omega)]
        refine ⟨⟨Ge.setNew (gB.grow 31) (by omega) _, by omega, w1, w2, w7, b0B, j + 1, by omega, by omega, d'.set x.toNat true, by simpa using hdl', hnew, by rw [hsn]; omega, hnum2, hone, ?_⟩, by omega⟩
        simp
    · have hj' : j = blocks[i].length := by simp at hc2; omega
      subst hj'
      have hblk : blockStep T d blocks[i] = some d' := by
        rw [blockStep_some h0 (fun x hx => by
          obtain ⟨k, hk, rfl⟩ := List.getElem_of_mem hx
          exact hnum k hk hk), hfold']
      simp [w7, add_in (x := i) (y := 1) (by omega) (by omega)]
      exact ⟨⟨gB, hnB, w1, w2, w5, b0B, i + 1, by omega, by omega, d', hdl', hdn', w6, hnext.trans hblk, hd'⟩, by simp [t7]; omega⟩
  · have hi' : i = blocks.length := by simp at hc; omega
    subst hi'
    rw [List.take_length] at hfold
    simp [t2, t6, b0, h.trips.lenV]
    rw [isCutL_some hfold, ← seen_upTo hdl hfew hdn]
    exact ⟨by congr 1; exact propext (by omega), g⟩

end Go.Proofs.Ytohohnpjilinmaa

/-
  The contract of Play.
-/
namespace Go.Proofs.Ytohohnpjilinmaa
open Go Go.Ab

theorem foldlM_mem {α β : Type} {f : β → α → Option β} : ∀ {l : List α} {a d : β}, l.foldlM f a = some d → ∀ x ∈ l, ∃ b c, f b x = some c
  | [], _, _, _, x, hx => by simp at hx
  | y :: l, a, d, h, x, hx => by
    simp only [List.foldlM_cons, Option.bind_eq_bind, Option.bind_eq_some_iff] at h
    obtain ⟨c, h1, h2⟩ := h
    rcases List.mem_cons.1 hx with rfl | hx
    · exact ⟨a, c, h1⟩
    · exact foldlM_mem h2 x hx

theorem isCutL_blocks {T : Tab} {blocks : List (List Int)} (h : isCutL T blocks = true) : ∀ b ∈ blocks, b ≠ [] ∧ ∀ x ∈ b, T.num x = true := by
  unfold isCutL at h
  split at h
  · cases h
  · rename_i d hd
    intro b hb
    obtain ⟨p, q, hpq⟩ := foldlM_mem hd b hb
    unfold blockStep at hpq
    split at hpq
    · cases hpq
    · rename_i h0
      split at hpq
      · rename_i ha
        exact ⟨by simpa using h0, List.all_eq_true.1 ha⟩
      · cases hpq

theorem play_spec {e s bv tv : Value} {T : Tab} {times : List Int} {blocks : List (List Int)} {H : Heap} {lo : Nat} (h : TabAt H e s T) (hb : RowsO H lo bv blocks) (hbl : blocks.length ≤ 2 ^ 20) (hbl2 : ∀ b ∈ blocks, b.length ≤ 2 ^ 20) (hv : IntsAt H tv times) :
    AFun Try.prog 36 [tabV T e s, bv, tv] H (fun r H' => Ge H H' ∧ (checkT T ≠ 0 → r = .tuple #[.slice none 0 0, .int .i64 (checkT T)]) ∧ (checkT T = 0 → (isCutL T blocks && fitsL T times) = false → r = .tuple #[.slice none 0 0, .int .i64 2]) ∧
      (checkT T = 0 → (isCutL T blocks && fitsL T times) = true → ∃ w, r = .tuple #[w, .int .i64 0] ∧ RowsAt H' w (blocks.map (waitsL T times)))) := by
  refine AFun.mk ok36 hm (Nat.le_of_ble_eq_true rfl) ?_
  have hbr := hb.rows (by omega)
  simp [a36, r36]
  refine fcall_fun (checkTable_spec (h.ge (by simp))) ?_
  rintro _ H1 ⟨rfl, g1⟩
  have G1 : Ge H H1 := Ge.trans (by simp) g1
  have b1 := g1.got (n := H.next) (by simp) rfl
  simp at b1
  simp
  refine fcond_intro (fun hc => ?_) (fun hc => ?_)
  · simp at hc
    simp [hc, G1]
  simp at hc
  have hT := checkT_zero.1 hc
  have he := h.empty.one
  have hs := h.trips.one
  have hfew := hT.few
  simp [b1]
  refine fcall_fun (newService_spec (h.ge G1) hT) ?_
  rintro _ H2 ⟨f, rfl, g2, hr⟩
  have hf1 := hr.one
  simp [he, hs, hf1]
  have G2 : Ge H ((H2.new (.cells true [.int .i64 0, .int .i64 0, .slice none 0 0, .slice none 0 0, .nilFunc, .slice none 0 0] 6)).set H2.next (.cells true [.int .i64 T.places, .int .i64 T.layover, e, s, .func (.func 74) #[] #[], f] 6)) := Ge.setNew ((G1.trans g2).newOf _) (G1.trans g2).next _
  refine fcall_fun (isCutting_spec (h.ge G2) hT (hbr.ge G2)) ?_
  rintro _ H3 ⟨rfl, g3⟩
  have G3 := G2.trans g3
  have k3 := g3.got (n := H2.next) (by simp) (by simp; rfl)
  have n1 := G1.next
  have n2 := g2.next
  have n3 := g3.next
  simp at n3
  cases hcut : isCutL T blocks
  · simp [hc, G3]
  simp [k3]
  refine fcall_fun (isTruth_spec (h.ge G3) hfew (hv.ge G3)) ?_
  rintro _ H4 ⟨rfl, g4⟩
  have G4 := G3.trans g4
  have n4 := g4.next
  have k4 := g4.got (by omega) k3
  cases hfit : fitsL T times
  · simp [hc, G4]
  have hmk : ∀ k, mksV k 1 24 [.slice none 0 0] (.int .i64 blocks.length) (.int .i64 blocks.length) = some _ := fun k => mksV_at (by omega) (by omega)
  have hz : zrep blocks.length [Value.slice none 0 0] = List.replicate blocks.length (.slice none 0 0) := by
    have : ∀ n, zrep n [Value.slice none 0 0] = List.replicate n (.slice none 0 0) := by
      intro n; induction n with
      | zero => rfl
      | succ n ih => rw [zrep_succ, ih]; rfl
    exact this _
  have hall := isCutL_blocks hcut
  simp [hc, hbr.lenV, hmk, hz]
  refine floop_intro (fun z => z.d = [] ∧ Ge H z.H ∧ H4.next < z.H.next ∧ z.t 2 = tv ∧ z.t 9 = .pointer (some ⟨H2.next, 0, none⟩) ∧ z.t 10 = .slice (some ⟨H4.next, 0, none⟩) blocks.length blocks.length ∧ z.t 33 = bv ∧ z.t 34 = .int .i64 blocks.length ∧
    z.H.get H2.next = .cells true [.int .i64 T.places, .int .i64 T.layover, e, s, .func (.func 74) #[] #[], f] 6 ∧
    ∃ (i : Nat) (vs : List Value), i ≤ blocks.length ∧ z.t 35 = .int .i64 i ∧ vs.length = blocks.length ∧ z.H.get H4.next = .cells true vs blocks.length ∧ ∀ k (hk : k < i) (hk2 : k < blocks.length), ∃ u, vs[k]? = some u ∧ OwnSl z.H (H4.next + 1) u ((waitsL T times blocks[k]).map (.int .i64))) (fun z => blocks.length - (intOf (z.t 35)).toNat) ?_ ?_
  · refine ⟨rfl, Ge.newOf G4 _, by simp, by simp, by simp, by simp, by simp, by simp, ?_, 0, List.replicate blocks.length (.slice none 0 0), by simp, by simp, by simp, by simp, by simp⟩
    have e1 : H2.next ≠ H4.next := by omega
    simp [e1, k4]
  rintro ⟨t, _, A⟩ ⟨rfl, g, hn, t2, t9, t10, t33, t34, b0, i, vs, hi, t35, hvl, hW, hrow⟩
  dsimp only at g hn t2 t9 t10 t33 t34 b0 t35 hW hrow
  simp [t34, t35]
  refine fcond_intro (fun hc2 => ?_) (fun hc2 => ?_)
  · have hi' : i < blocks.length := by simpa using hc2
    obtain ⟨⟨bs, o1, o2, o3⟩, o4⟩ := hb
    obtain ⟨u, o5, o6, o7⟩ := o3 i hi'
    have hbs := (o1.ge g).slr
    obtain ⟨p, e1, e2⟩ := hbs.at1 (i := i) (k := .i64) (by omega)
    rw [o5] at e2
    have hblk := hall _ (List.getElem_mem hi')
    simp [t2, t9, t10, t33, t35, e1, e2, b0]
    refine fcall_fun (waits_spec (h.ge g) hT (o6.ge g) (hbl2 _ (List.getElem_mem hi')) hblk.1 hblk.2 (hv.ge g) hfit) ?_
    rintro w B ⟨hw, gB⟩
    have nB := gB.next
    have hI : islV 1 (.slice (some ⟨H4.next, 0, none⟩) blocks.length blocks.length) (.int .i64 i) = some (.pointer (some ⟨H4.next, i, none⟩)) := by
      rw [islV_in (by omega) (by omega)]; simp
    have hWB := gB.got (by omega) hW
    have b0B := gB.got (by omega) b0
    have ow := one_cells hw.one
    have ow1 := hw.one
    have hset : wrL vs i [w] = vs.set i w := wrL_one vs i w (by omega)
    simp [hI, hWB, ow, ow1, hvl, hset, t35, add_in (x := i) (y := 1) (by omega) (by omega), (by omega : i + 1 ≤ blocks.length)]
    have e9 : H2.next ≠ H4.next := by omega
    refine ⟨⟨Ge.setNew (g.trans gB) (by omega) _, by omega, t2, t9, t10, t33, t34, by simp [e9, b0B], i + 1, by omega, by omega, vs.set i w, by simpa using hvl, rfl, ?_⟩, by omega⟩
    intro k hk hk2
    by_cases e : k = i
    · subst e
      refine ⟨w, by simp [(by omega : k < vs.length)], ?_⟩
      have hw2 : OwnSl B (H4.next + 1) w ((waitsL T times blocks[k]).map (.int .i64)) := by
        rcases hw with hw | ⟨n, cap, c, q1, q2, q3⟩
        · exact .inl hw
        · exact .inr ⟨n, cap, c, q1, by omega, q3⟩
      refine hw2.keep (by simp) fun n hn2 => ?_
      have := (hw2.names hn2).1
      have e8 : n ≠ H4.next := by omega
      simp [e8]
    · obtain ⟨u', q1, q2⟩ := hrow k (by omega) hk2
      refine ⟨u', by rw [List.getElem?_set_ne (Ne.symm e)]; exact q1, ?_⟩
      refine (q2.ge gB).keep (by simp) fun n hn2 => ?_
      have := (q2.names hn2).1
      have e8 : n ≠ H4.next := by omega
      simp [e8]
  · have hi' : i = blocks.length := by simp at hc2; omega
    subst hi'
    simp [t10, hc]
    refine ⟨g, vs, ⟨?_, ?_⟩, by simp; omega, fun k hk => ?_⟩
    · simp [slCells, hW, rdL, hvl]
      rw [List.take_of_length_le (by omega)]
    · intro a n c e; simp at e; rw [← e.1]; exact hn
    · simp at hk
      obtain ⟨u, q1, q2⟩ := hrow k hk hk
      refine ⟨u, q1, ?_, ?_⟩
      · have := q2.slr
        simpa using this
      · have := hbl2 _ (List.getElem_mem hk)
        simp [waitsL]; omega

end Go.Proofs.Ytohohnpjilinmaa

/-
  What RunPlays answers.
-/
namespace Go.Proofs.Ytohohnpjilinmaa
open Go Go.Ab

def shortL (xs : List (List Int)) : Bool := decide (xs.length ≤ 15) && xs.all fun l => decide (l.length ≤ 15)
theorem shortL_at {xs : List (List Int)} (h : shortL xs = true) : xs.length ≤ 15 ∧ ∀ l ∈ xs, l.length ≤ 15 := by
  simpa [shortL] using h

theorem runPlays_of {e s bv tv : Value} {T : Tab} {blocks : List (List Int)} {times : List Int} {H : Heap} (h : TabAt H e s T) (hb : RowsAt H bv blocks) (hv : IntsAt H tv times) : AFun Try.prog 6 [tabV T e s, bv, tv] H (fun v B => v = .bool true ∧ Ge H B) := by
  refine AFun.mk ok6 hm (Nat.le_of_ble_eq_true rfl) ?_
  have h62 := hv.2
  have g0 : Ge H (H.new (.cells true [.int .i64 T.places, .int .i64 T.layover, e, s] 4)) := Ge.new _ _
  simp [a6, r6]
  refine fcall_fun (thin_spec (h.ge g0)) ?_
  rintro _ H1 ⟨rfl, g1⟩
  have G1 := g0.trans g1
  have b1 := g1.got (n := H.next) (by simp) rfl
  simp at b1
  cases hth : thin T
  · simp
    refine fcall_fun (awake_spec _) ?_
    rintro _ B ⟨rfl, gB⟩
    simp
    exact G1.trans gB
  simp
  refine fcall_fun (short_spec (hb.ge G1)) ?_
  rintro _ H2 ⟨rfl, g2⟩
  have G2 := G1.trans g2
  have n1 := g1.next
  simp at n1
  have n2 := g2.next
  have b2 := g2.got (by omega) b1
  have hse : (decide (blocks.length ≤ 15) && blocks.all fun l => decide (l.length ≤ 15)) = shortL blocks := rfl
  rw [hse]
  cases hsh : shortL blocks
  · simp
    refine fcall_fun (awake_spec _) ?_
    rintro _ B ⟨rfl, gB⟩
    simp
    exact G2.trans gB
  obtain ⟨s1, s2⟩ := shortL_at hsh
  by_cases hl15 : 15 < times.length
  · have : (15 : Int) < times.length := by omega
    simp [hv.lenV, this]
    refine fcall_fun (awake_spec _) ?_
    rintro _ B ⟨rfl, gB⟩
    simp
    exact G2.trans gB
  have hl15' : ¬ (15 : Int) < times.length := by omega
  simp [hv.lenV, hl15', b2]
  refine fcall_fun (table_spec (h.ge G2) hth) ?_
  rintro _ H3 ⟨⟨e3, s3, rfl, t3⟩, g3⟩
  have G3 := G2.trans g3
  have n3 := g3.next
  simp
  refine fcall_fun (rows_spec (hb.ge G3) (by omega) (fun l hl => by have := s2 l hl; omega)) ?_
  rintro bv4 H4 ⟨hb4, g4⟩
  have G4 := G3.trans g4
  have n4 := g4.next
  simp
  refine fcall_fun (list_spec (hv.ge G4) (by omega)) ?_
  rintro tv5 H5 ⟨hv5, g5⟩
  have G5 := G4.trans g5
  have n5 := g5.next
  have hv5i : IntsAt H5 tv5 times := ⟨by simpa using hv5.slr, by omega⟩
  simp
  refine fcall_fun (play_spec ((t3.ge g4).ge g5) (hb4.keep (by omega) fun n h1 h2 => g5.get n h2) (by omega) (fun l hl => by have := s2 l hl; omega) hv5i) ?_
  rintro r H6 ⟨g6, hbad, hbad2, hgood⟩
  have G6 := G5.trans g6
  have n6 := g6.next
  have b6 := g6.got (by omega) (g5.got (by omega) (g4.got (by omega) (g3.got (by omega) b2)))
  by_cases hc : checkT T = 0
  case neg =>
    have hr := hbad hc
    subst hr
    simp [b6]
    refine fcall_fun (faultOf_spec (h.ge G6)) ?_
    rintro _ H7 ⟨rfl, g7⟩
    simp [hc]
    refine fcall_fun (awake_spec _) ?_
    rintro _ B ⟨rfl, gB⟩
    simp
    exact (G6.trans g7).trans gB
  have hT := checkT_zero.1 hc
  have hfew := hT.few
  cases hok : isCutL T blocks && fitsL T times
  · have hr := hbad2 hc hok
    subst hr
    simp [b6]
    refine fcall_fun (faultOf_spec (h.ge G6)) ?_
    rintro _ H7 ⟨rfl, g7⟩
    have G7 := G6.trans g7
    have n7 := g7.next
    have b7 := g7.got (by omega) b6
    simp [hc, b7]
    refine fcall_fun (refIsCutting_spec (h.ge G7) hT (hb.ge G7)) ?_
    rintro _ H8 ⟨rfl, g8⟩
    have G8 := G7.trans g8
    have n8 := g8.next
    have b8 := g8.got (by omega) b7
    cases hcut : isCutL T blocks
    · simp
      refine fcall_fun (awake_spec _) ?_
      rintro _ B ⟨rfl, gB⟩
      simp
      exact G8.trans gB
    · have hfit : fitsL T times = false := by simpa [hcut] using hok
      simp [b8]
      refine fcall_fun (fits_spec (h.ge G8) hfew (hv.ge G8)) ?_
      rintro _ H9 ⟨rfl, g9⟩
      rw [hfit]
      simp
      refine fcall_fun (awake_spec _) ?_
      rintro _ B ⟨rfl, gB⟩
      simp
      exact (G8.trans g9).trans gB
  · obtain ⟨w, rfl, hw⟩ := hgood hc hok
    simp at hok
    simp [b6]
    refine fcall_fun (faultOf_spec (h.ge G6)) ?_
    rintro _ H7 ⟨rfl, g7⟩
    have G7 := G6.trans g7
    have n7 := g7.next
    have b7 := g7.got (by omega) b6
    simp [hc, b7]
    refine fcall_fun (refIsCutting_spec (h.ge G7) hT (hb.ge G7)) ?_
    rintro _ H8 ⟨rfl, g8⟩
    have G8 := G7.trans g8
    have n8 := g8.next
    have b8 := g8.got (by omega) b7
    rw [hok.1]
    simp [b8]
    refine fcall_fun (fits_spec (h.ge G8) hfew (hv.ge G8)) ?_
    rintro _ H9 ⟨rfl, g9⟩
    have G9 := G8.trans g9
    have n9 := g9.next
    have b9 := g9.got (by omega) b8
    have hw9 := ((hw.ge g7).ge g8).ge g9
    have hwl := hw9.lenV
    simp at hwl
    rw [hok.2]
    simp [hwl, hb.lenV]
    refine floop_intro (fun z => z.d = [] ∧ Ge H z.H ∧ Ge H9 z.H ∧ z.t 1 = bv ∧ z.t 2 = tv ∧ z.t 3 = .pointer (some ⟨H.next, 0, none⟩) ∧ z.t 7 = w ∧ ∃ i : Nat, i ≤ blocks.length ∧ z.t 10 = .int .i64 i) (fun z => blocks.length - (intOf (z.t 10)).toNat) ?_ ?_
    · exact ⟨rfl, G9, Ge.refl _, by simp, by simp, by simp, by simp, 0, by simp, by simp⟩
    rintro ⟨t, _, A⟩ ⟨rfl, gA, gA9, t1, t2, t3', t7, i, hi, t10⟩
    dsimp only at gA gA9 t1 t2 t3' t7 t10
    simp [t7, t10, hwl]
    refine fcond_intro (fun hc2 => ?_) (fun hc2 => ?_)
    · have hi' : i < blocks.length := by simpa using hc2
      obtain ⟨p1, u1, e1, e2, e3⟩ := hw9.atAll (i := i) (by simpa using hi')
      obtain ⟨p2, u2, e4, e5, e6⟩ := hb.atAll hi'
      have bA := gA9.got (by omega) b9
      have hblk := isCutL_blocks hok.1 _ (List.getElem_mem hi')
      simp at e3
      simp [t1, t2, t3', t7, t10, e1, e2 _ (gA9.grow 13), e4, e5 _ (gA.grow 13), bA]
      refine fcall_fun (refWaits_spec (h.ge (gA.grow 13)) hT (e6.ge (gA.grow 13)) (by have := s2 _ (List.getElem_mem hi'); omega) hblk.2 (hv.ge (gA.grow 13)) hok.2) ?_
      rintro v B ⟨hv2, gB⟩
      have gAB : Ge A B := (Ge.more A 13).trans gB
      have e21 := e2 _ (gA9.trans gAB)
      simp [e21]
      refine fcall_fun (ints_spec (e3.ge (gA9.trans gAB)) hv2) ?_
      rintro _ C ⟨rfl, gC⟩
      simp [t10, add_in (x := i) (y := 1) (by omega) (by omega)]
      exact ⟨⟨(gA.trans gAB).trans gC, (gA9.trans gAB).trans gC, t1, t2, t3', t7, i + 1, by omega, by omega⟩, by omega⟩
    · simp
      refine fcall_fun (awake_spec _) ?_
      rintro _ B ⟨rfl, gB⟩
      simp
      exact gA.trans gB

end Go.Proofs.Ytohohnpjilinmaa

/-
  How trips are given followers: what a try that succeeds leaves, and what one that fails shows.
-/
namespace Go.Proofs.Ytohohnpjilinmaa

abbrev lk (looked : List Bool) (x : Int) : Prop := looked[x.toNat]?.getD false = true

/-- All of these are led, and whatever their leaders could lead is one of them. -/
def ShutA (F : List (List Int)) (looked : List Bool) (led : List Int) (A : Nat → Prop) : Prop :=
  ∀ j, A j → ∃ i : Nat, led[j]? = some (i : Int) ∧ ∀ x ∈ F[i]?.getD [], lk looked x → A x.toNat

structure Gave (F : List (List Int)) (looked : List Bool) (t : Nat) (z z' : JS) : Prop where
  cnt : ∀ y : Int, 0 ≤ y → z'.led.count y = z.led.count y + if y = t then 1 else 0
  free : z'.led.count (-1) + 1 = z.led.count (-1)
  old : ∀ j : Nat, z.asked[j]?.getD false = true → z'.led[j]? = z.led[j]?
  shut : ∀ A, ShutA F looked z.led A → (∀ j, A j → z'.led[j]? = z.led[j]?) ∧ ∃ x ∈ F[t]?.getD [], lk looked x ∧ ¬ A x.toNat
  looks : ∀ j : Nat, z'.led[j]?.getD (-1) ≠ -1 → z.led[j]?.getD (-1) ≠ -1 ∨ looked[j]?.getD false = true

structure Lost (F : List (List Int)) (looked : List Bool) (l : List Int) (z z' : JS) : Prop where
  led : z'.led = z.led
  grow : ∀ j : Nat, z.asked[j]?.getD false = true → z'.asked[j]?.getD false = true
  all : ∀ x ∈ l, lk looked x → z'.asked[x.toNat]?.getD false = true
  shut : ∀ j : Nat, z'.asked[j]?.getD false = true → z.asked[j]?.getD false = false → ∃ i : Nat, z.led[j]? = some (i : Int) ∧ ∀ x ∈ F[i]?.getD [], lk looked x → z'.asked[x.toNat]?.getD false = true

theorem scanL_gives {F : List (List Int)} {looked : List Bool} {n fuel t : Nat} (hF : FollOk n F) (ht : t < n)
    (hg : ∀ s z, s < n → z.Ok n → z.asked.count false < fuel → ((giveL F looked fuel s z).1 = true → Gave F looked s z (giveL F looked fuel s z).2) ∧ ((giveL F looked fuel s z).1 = false → Lost F looked (F[s]?.getD []) z (giveL F looked fuel s z).2)) :
    ∀ (l : List Int) (z : JS), (∀ x ∈ l, 0 ≤ x ∧ x < (n : Int)) → (∀ x ∈ l, x ∈ F[t]?.getD []) → z.Ok n → z.asked.count false < fuel + 1 →
      (∀ x, (scanL (giveL F looked fuel) looked l z).1 = some x → Gave F looked t z { (scanL (giveL F looked fuel) looked l z).2 with led := (scanL (giveL F looked fuel) looked l z).2.led.set x.toNat t }) ∧
      ((scanL (giveL F looked fuel) looked l z).1 = none → Lost F looked l z (scanL (giveL F looked fuel) looked l z).2)
  | [], z, _, _, _, _ => by
    refine ⟨fun x h => by simp [scanL] at h, fun _ => ?_⟩
    simp only [scanL]
    exact ⟨rfl, fun _ h => h, fun x hx => by simp at hx, fun j h1 h2 => by rw [h1] at h2; cases h2⟩
  | x :: l, z, hl, hm, hz, hc => by
    have hx := hl x (List.mem_cons_self)
    have hn12 := hF.2.1
    have hxl : x.toNat < z.led.length := by rw [hz.led]; omega
    have hxa : x.toNat < z.asked.length := by rw [hz.asked]; omega
    have ih := scanL_gives (t := t) hF ht hg l
    have hl' : ∀ y ∈ l, 0 ≤ y ∧ y < (n : Int) := fun y hy => hl y (List.mem_cons_of_mem _ hy)
    have hm' : ∀ y ∈ l, y ∈ F[t]?.getD [] := fun y hy => hm y (List.mem_cons_of_mem _ hy)
    unfold scanL
    split
    · rename_i hs
      obtain ⟨h1, h2⟩ := ih z hl' hm' hz hc
      refine ⟨h1, fun h => ?_⟩
      have := h2 h
      refine ⟨this.led, this.grow, fun y hy hly => ?_, this.shut⟩
      rcases List.mem_cons.1 hy with rfl | hy
      · refine this.grow _ ?_
        simp only [lk] at hly
        rw [hly] at hs
        simpa using hs
      · exact this.all y hy hly
    rename_i hs
    have hs2 : lk looked x ∧ z.asked[x.toNat]?.getD false = false := by
      simp at hs
      exact ⟨by simpa [lk] using hs.1, by simpa using hs.2⟩
    split
    · rename_i hd
      have hd' : z.led[x.toNat] = -1 := by simpa [hxl] using hd
      refine ⟨fun y hy => ?_, fun h => by simp at h⟩
      simp at hy; subst hy
      refine ⟨fun y hy => ?_, ?_, fun j hj => ?_, fun A hA => ⟨fun j hj => ?_, x, hm x (List.mem_cons_self), hs2.1, fun hax => ?_⟩, fun j hj => ?_⟩
      · rw [List.count_set hxl, hd']
        have : ((-1 : Int) == y) = false := by simp <;> omega
        rw [this]
        by_cases e : y = t
        · simp [e]
        · simp [e, Ne.symm e]
      · rw [List.count_set hxl, hd']
        have : (((t : Int)) == -1) = false := by simp <;> omega
        have hpos : 0 < z.led.count (-1) := List.count_pos_iff.2 (by rw [← hd']; exact List.getElem_mem hxl)
        simp [this] <;> omega
      · have : x.toNat ≠ j := fun e => by rw [e] at hs2; rw [hs2.2] at hj; cases hj
        exact List.getElem?_set_ne this
      · have : x.toNat ≠ j := fun e => by
          obtain ⟨i, h1, _⟩ := hA j hj
          rw [← e, List.getElem?_eq_getElem hxl, hd'] at h1
          simp at h1 <;> omega
        exact List.getElem?_set_ne this
      · obtain ⟨i, h1, _⟩ := hA _ hax
        rw [List.getElem?_eq_getElem hxl, hd'] at h1
        simp at h1 <;> omega
      · by_cases e : x.toNat = j
        · right; subst e; exact hs2.1
        · left; simpa [List.getElem?_set_ne e] using hj
    · rename_i hd
      have hd' : z.led[x.toNat] ≠ -1 := by simpa [hxl] using hd
      have hm3 := hz.num _ (List.getElem_mem hxl)
      have e : z.led[x.toNat]?.getD 0 = z.led[x.toNat] := by simp [hxl]
      have hz1 : JS.Ok n { z with asked := z.asked.set x.toNat true } := ⟨hz.led, by simpa using hz.asked, hz.num⟩
      have ha : z.asked[x.toNat] = false := by
        have := hs2.2
        simpa [hxa] using this
      have hcnt := count_set_true hxa ha
      obtain ⟨i, hi⟩ : ∃ i : Nat, z.led[x.toNat] = (i : Int) := ⟨z.led[x.toNat].toNat, by omega⟩
      have hin : i < n := by omega
      have hz1a : (z.asked.set x.toNat true)[x.toNat]?.getD false = true := by simp [hxa]
      have hz1o : ∀ j : Nat, z.asked[j]?.getD false = true → (z.asked.set x.toNat true)[j]?.getD false = true := by
        intro j hj
        by_cases e : x.toNat = j
        · subst e; exact hz1a
        · rw [List.getElem?_set_ne e]; exact hj
      rw [e, hi]
      simp only [Int.toNat_natCast]
      have hlt : (List.count false (z.asked.set x.toNat true)) < fuel := by omega
      obtain ⟨k1, k2⟩ := hg i { z with asked := z.asked.set x.toNat true } hin hz1 hlt
      have kok := giveL_ok (looked := looked) hF fuel i { z with asked := z.asked.set x.toNat true } hin hz1
      generalize giveL F looked fuel i { z with asked := z.asked.set x.toNat true } = r at k1 k2 kok
      obtain ⟨rb, rz⟩ := r
      dsimp only at k1 k2 kok ⊢
      cases rb
      case true =>
        have G := k1 rfl
        simp only [if_true]
        refine ⟨fun y hy => ?_, fun h => by simp at h⟩
        simp at hy; subst hy
        have hold := G.old x.toNat hz1a
        have hxr : x.toNat < rz.led.length := by rw [kok.1.led]; omega
        have hrx : rz.led[x.toNat] = (i : Int) := by
          rw [List.getElem?_eq_getElem hxr, List.getElem?_eq_getElem hxl, hi] at hold
          exact Option.some.inj hold
        have hnA : ∀ A, ShutA F looked z.led A → ¬ A x.toNat := by
          intro A hA hax
          obtain ⟨_, y, hy, hly, hny⟩ := G.shut A hA
          obtain ⟨i', h1, h2⟩ := hA _ hax
          rw [List.getElem?_eq_getElem hxl, hi] at h1
          have : i' = i := by
            have := Option.some.inj h1
            omega
          subst this
          exact hny (h2 y hy hly)
        refine ⟨fun y hy => ?_, ?_, fun j hj => ?_, fun A hA => ⟨fun j hj => ?_, x, hm x (List.mem_cons_self), hs2.1, hnA A hA⟩, fun j hj => ?_⟩
        · show (rz.led.set x.toNat t).count y = _
          rw [List.count_set hxr, hrx, G.cnt y hy]
          have hpos : 0 < rz.led.count (i : Int) := List.count_pos_iff.2 (by rw [← hrx]; exact List.getElem_mem hxr)
          by_cases e1 : y = (i : Int)
          · subst e1
            have := G.cnt i hy
            by_cases e2 : (i : Int) = t
            · simp [e2] at this ⊢
            · simp [e2, Ne.symm e2]
          · by_cases e2 : y = (t : Int)
            · have e3 : ¬ (t : Int) = (i : Int) := by rw [← e2]; exact e1
              simp [e2, e3, Ne.symm e3]
            · simp [e1, e2, Ne.symm e1, Ne.symm e2]
        · show (rz.led.set x.toNat t).count (-1) + 1 = _
          rw [List.count_set hxr, hrx]
          have e1 : ((i : Int) == -1) = false := by simp <;> omega
          have e2 : ((t : Int) == -1) = false := by simp <;> omega
          have := G.free
          simp [e1, e2]
          simpa using this
        · have : x.toNat ≠ j := fun e => by rw [e] at hs2; rw [hs2.2] at hj; cases hj
          exact (List.getElem?_set_ne this).trans (G.old j (hz1o j hj))
        · have : x.toNat ≠ j := fun e => hnA A hA (e ▸ hj)
          exact (List.getElem?_set_ne this).trans ((G.shut A hA).1 j hj)
        · by_cases e : x.toNat = j
          · right; subst e; exact hs2.1
          · have hj2 : rz.led[j]?.getD (-1) ≠ -1 := by simpa [List.getElem?_set_ne e] using hj
            exact G.looks j hj2
      case false =>
        have L := k2 rfl
        simp only [Bool.false_eq_true, if_false]
        obtain ⟨h1, h2⟩ := ih rz hl' hm' kok.1 (by have := kok.2; omega)
        refine ⟨fun y hy => ?_, fun h => ?_⟩
        · have G := h1 y hy
          refine ⟨fun w hw => by rw [G.cnt w hw, L.led], by rw [G.free, L.led], fun j hj => ?_, fun A hA => ?_, fun j hj => ?_⟩
          · rw [G.old j (L.grow j (hz1o j hj)), L.led]
          · have := G.shut A (by rw [L.led]; exact hA)
            rw [L.led] at this
            exact this
          · have := G.looks j hj
            rw [L.led] at this
            exact this
        · have G := h2 h
          refine ⟨by rw [G.led, L.led], fun j hj => G.grow j (L.grow j (hz1o j hj)), fun y hy hly => ?_, fun j h3 h4 => ?_⟩
          · rcases List.mem_cons.1 hy with rfl | hy
            · exact G.grow _ (L.grow _ hz1a)
            · exact G.all y hy hly
          · by_cases h5 : rz.asked[j]?.getD false = true
            · by_cases e6 : x.toNat = j
              · subst e6
                refine ⟨i, by rw [List.getElem?_eq_getElem hxl, hi], fun y hy hly => G.grow _ (L.all y hy hly)⟩
              · have h6 : (z.asked.set x.toNat true)[j]?.getD false = false := by rw [List.getElem?_set_ne e6]; exact h4
                obtain ⟨i', q1, q2⟩ := L.shut j h5 h6
                exact ⟨i', q1, fun y hy hly => G.grow _ (q2 y hy hly)⟩
            · have h5' : rz.asked[j]?.getD false = false := by simpa using h5
              have := G.shut j h3 h5'
              rw [L.led] at this
              exact this

theorem giveL_gives {F : List (List Int)} {looked : List Bool} {n : Nat} (hF : FollOk n F) : ∀ (fuel s : Nat) (z : JS), s < n → z.Ok n → z.asked.count false < fuel →
    ((giveL F looked fuel s z).1 = true → Gave F looked s z (giveL F looked fuel s z).2) ∧ ((giveL F looked fuel s z).1 = false → Lost F looked (F[s]?.getD []) z (giveL F looked fuel s z).2)
  | 0, s, z, _, _, h => by omega
  | fuel + 1, s, z, hs, hz, hc => by
    have hrow : ∀ x ∈ F[s]?.getD [], 0 ≤ x ∧ x < (n : Int) := by
      have : s < F.length := by rw [hF.1]; exact hs
      rw [List.getElem?_eq_getElem this]
      exact hF.2.2 _ (List.getElem_mem this)
    obtain ⟨h1, h2⟩ := scanL_gives (t := s) hF hs (giveL_gives hF fuel) (F[s]?.getD []) z hrow (fun x hx => hx) hz hc
    unfold giveL
    dsimp only
    generalize scanL (giveL F looked fuel) looked (F[s]?.getD []) z = r at h1 h2
    obtain ⟨ro, rz⟩ := r
    cases ro with
    | none =>
      dsimp only at h1 h2 ⊢
      exact ⟨fun h => (by cases h), fun _ => h2 rfl⟩
    | some x =>
      dsimp only at h1 h2 ⊢
      exact ⟨fun _ => h1 x rfl, fun h => (by cases h)⟩

end Go.Proofs.Ytohohnpjilinmaa

/-
  As many trips follow another one as can: a cover as large shows it.
-/
namespace Go.Proofs.Ytohohnpjilinmaa

/-- How many of the first n are so. -/
def cntN (n : Nat) (f : Nat → Bool) : Nat := ((List.range n).filter f).length

theorem cntN_succ {n : Nat} {f : Nat → Bool} : cntN (n + 1) f = cntN n f + (if f n then 1 else 0) := by
  simp only [cntN, List.range_succ, List.filter_append, List.length_append]
  congr 1
  cases h : f n <;> simp [h]
theorem cntN_congr {n : Nat} {f g : Nat → Bool} (h : ∀ k, k < n → f k = g k) : cntN n f = cntN n g := by
  induction n with
  | zero => rfl
  | succ n ih => rw [cntN_succ, cntN_succ, ih fun k hk => h k (by omega), h n (by omega)]
theorem cntN_split {n : Nat} {f : Nat → Bool} (b : Nat → Bool) : cntN n f = cntN n (fun k => f k && b k) + cntN n (fun k => f k && !b k) := by
  induction n with
  | zero => rfl
  | succ n ih => rw [cntN_succ, cntN_succ, cntN_succ, ih]; cases f n <;> cases b n <;> simp <;> omega
theorem cntN_mono {n : Nat} {f g : Nat → Bool} (h : ∀ k, k < n → f k = true → g k = true) : cntN n f ≤ cntN n g := by
  induction n with
  | zero => exact Nat.le_refl _
  | succ n ih =>
    rw [cntN_succ, cntN_succ]
    have := ih fun k hk => h k (by omega)
    have h2 := h n (by omega)
    cases hf : f n
    · simp; omega
    · rw [h2 hf]; simp; omega
theorem cntN_le {n : Nat} {f : Nat → Bool} : cntN n f ≤ n := by
  induction n with
  | zero => exact Nat.le_refl _
  | succ n ih => rw [cntN_succ]; split <;> omega
theorem cntN_more {n m : Nat} {f : Nat → Bool} (hnm : n ≤ m) (h : ∀ k, n ≤ k → k < m → f k = false) : cntN m f = cntN n f := by
  induction m with
  | zero =>
    have : n = 0 := by omega
    subst this; rfl
  | succ m ih =>
    by_cases e : n = m + 1
    · subst e; rfl
    · rw [cntN_succ, ih (by omega) fun k h1 h2 => h k h1 (by omega), h m (by omega) (by omega)]; simp

/-- What can be told apart by what it goes to is no more. -/
theorem cntN_inj {n m : Nat} {f g : Nat → Bool} (φ : Nat → Nat) (h1 : ∀ k, k < n → f k = true → φ k < m ∧ g (φ k) = true) (h2 : ∀ j k, j < n → k < n → f j = true → f k = true → φ j = φ k → j = k) : cntN n f ≤ cntN m g := by
  have e : cntN n f = (((List.range n).filter f).map φ).length := by simp [cntN]
  rw [e]
  refine List.Nodup.length_le_of_subset ?_ fun x hx => ?_
  · rw [List.Nodup, List.pairwise_map]
    have hnd : ((List.range n).filter f).Pairwise (· ≠ ·) := List.nodup_range.filter _
    refine hnd.imp_of_mem fun {a b} ha hb hne => ?_
    simp at ha hb
    exact fun he => hne (h2 a b ha.1 hb.1 ha.2 hb.2 he)
  · obtain ⟨k, hk, rfl⟩ := List.mem_map.1 hx
    simp at hk
    have := h1 k hk.1 hk.2
    simpa using this

/-- Who leads whom, by any reckoning. -/
structure PM (E : Nat → Nat → Bool) (n : Nat) (p : Nat → Option Nat) : Prop where
  edge : ∀ j i, j < n → p j = some i → i < n ∧ E i j = true
  inj : ∀ j k i, j < n → k < n → p j = some i → p k = some i → j = k

def pmSize (n : Nat) (p : Nat → Option Nat) : Nat := cntN n fun j => (p j).isSome

def Cov (E : Nat → Nat → Bool) (n : Nat) (a b : Nat → Bool) : Prop := ∀ i j, i < n → j < n → E i j = true → a i = true ∨ b j = true

theorem PM.le_cov {E : Nat → Nat → Bool} {n : Nat} {p : Nat → Option Nat} {a b : Nat → Bool} (h : PM E n p) (hc : Cov E n a b) : pmSize n p ≤ cntN n a + cntN n b := by
  unfold pmSize
  rw [cntN_split b]
  have h1 : cntN n (fun k => (p k).isSome && b k) ≤ cntN n b := cntN_mono fun k _ hk => by simp at hk; exact hk.2
  have h2 : cntN n (fun k => (p k).isSome && !b k) ≤ cntN n a := by
    refine cntN_inj (fun k => (p k).getD 0) (fun k hk hf => ?_) (fun j k hj hk hfj hfk he => ?_)
    · simp at hf
      obtain ⟨i, hi⟩ := Option.isSome_iff_exists.1 hf.1
      obtain ⟨h3, h4⟩ := h.edge k i hk hi
      rw [hi]
      refine ⟨h3, ?_⟩
      rcases hc i k h3 hk h4 with h5 | h5
      · exact h5
      · rw [hf.2] at h5; cases h5
    · simp at hfj hfk
      obtain ⟨i, hi⟩ := Option.isSome_iff_exists.1 hfj.1
      obtain ⟨i', hi'⟩ := Option.isSome_iff_exists.1 hfk.1
      rw [hi, hi'] at he
      simp at he
      subst he
      exact h.inj j k i hj hk hi hi'
  omega

/-- What holds while trips are given followers. -/
structure Mat (F : List (List Int)) (looked : List Bool) (n m : Nat) (led : List Int) : Prop where
  ok : LedOk n led
  foll : Foll F led
  one : ∀ x : Int, 0 ≤ x → led.count x ≤ 1
  lookR : ∀ j : Nat, led[j]?.getD (-1) ≠ -1 → looked[j]?.getD false = true
  lookL : ∀ x : Int, 0 ≤ x → 0 < led.count x → lk looked x ∧ x < (m : Int)
  shut : ∃ A : Nat → Prop, ShutA F looked led A ∧ ∀ s : Nat, s < m → looked[s]?.getD false = true → led.count (s : Int) = 0 → ∀ x ∈ F[s]?.getD [], lk looked x → A x.toNat

theorem joinL_mat {F : List (List Int)} {looked : List Bool} {n : Nat} (hF : FollOk n F) : ∀ m, m ≤ n → Mat F looked n m (joinL F looked m)
  | 0, _ => by
    have hc : ∀ x : Int, 0 ≤ x → (joinL F looked 0).count x = 0 := fun x hx => by
      simp only [joinL, List.range_zero, List.foldl_nil]
      rw [List.count_eq_zero]
      intro h
      have := List.eq_of_mem_replicate h
      omega
    refine ⟨joinL_ok hF 0 (by omega), joinL_foll hF 0 (by omega), fun x hx => by rw [hc x hx]; omega, fun j hj => ?_, fun x hx h => by rw [hc x hx] at h; omega, fun _ => False, fun j hj => hj.elim, fun s hs => by omega⟩
    exfalso; apply hj
    simp only [joinL, List.range_zero, List.foldl_nil]
    rw [List.getElem?_replicate]; split <;> rfl
  | m + 1, hm => by
    have ih := joinL_mat (looked := looked) hF m (by omega)
    have hok := joinL_ok (looked := looked) hF (m + 1) hm
    have hfo := joinL_foll (looked := looked) hF (m + 1) hm
    rw [joinL_succ] at hok hfo ⊢
    generalize joinL F looked m = led at ih hok hfo
    unfold joinStep at hok hfo ⊢
    obtain ⟨A, hA1, hA2⟩ := ih.shut
    by_cases hl : looked[m]?.getD false = true
    case neg =>
      simp only [hl, if_false, Bool.false_eq_true] at hok hfo ⊢
      refine ⟨hok, hfo, ih.one, ih.lookR, fun x h0 h1 => ⟨(ih.lookL x h0 h1).1, by have := (ih.lookL x h0 h1).2; omega⟩, A, hA1, fun s hs h1 h2 => ?_⟩
      have : s ≠ m := fun e => by subst e; exact hl h1
      exact hA2 s (by omega) h1 h2
    simp only [hl, if_true] at hok hfo ⊢
    have hz : JS.Ok n ⟨led, List.replicate 12 false⟩ := ⟨ih.ok.1, by simp, ih.ok.2⟩
    obtain ⟨h1, h2⟩ := giveL_gives (looked := looked) hF 13 m ⟨led, List.replicate 12 false⟩ (by omega) hz (by simp)
    generalize giveL F looked 13 m ⟨led, List.replicate 12 false⟩ = r at h1 h2 hok hfo
    obtain ⟨rb, rz⟩ := r
    dsimp only at h1 h2 hok hfo ⊢
    have hm0 : led.count (m : Int) = 0 := by
      have := fun h => (ih.lookL (m : Int) (by omega) h).2
      omega
    cases rb
    case true =>
      have G := h1 rfl
      refine ⟨hok, hfo, fun x hx => ?_, fun j hj => ?_, fun x hx h => ?_, A, fun j hj => ?_, fun s hs h3 h4 => ?_⟩
      · rw [G.cnt x hx]
        by_cases e : x = (m : Int)
        · simp [e, hm0]
        · simp [e]; exact ih.one x hx
      · rcases G.looks j hj with h | h
        · exact ih.lookR j h
        · exact h
      · rw [G.cnt x hx] at h
        by_cases e : x = (m : Int)
        · subst e
          exact ⟨by simpa [lk] using hl, by omega⟩
        · simp [e] at h
          have := ih.lookL x hx (List.count_pos_iff.2 h)
          exact ⟨this.1, by omega⟩
      · have := (G.shut A hA1).1 j hj
        rw [this]; exact hA1 j hj
      · rw [G.cnt s (by omega)] at h4
        have e : s ≠ m := fun e => by subst e; simp at h4
        have e' : ¬ (s : Int) = (m : Int) := by omega
        rw [if_neg e'] at h4
        exact hA2 s (by omega) h3 (by omega)
    case false =>
      have L := h2 rfl
      have hled : rz.led = led := L.led
      rw [hled]
      refine ⟨ih.ok, ih.foll, ih.one, ih.lookR, fun x h0 h1 => ⟨(ih.lookL x h0 h1).1, by have := (ih.lookL x h0 h1).2; omega⟩, fun j => A j ∨ rz.asked[j]?.getD false = true, fun j hj => ?_, fun s hs h3 h4 x hx hlx => ?_⟩
      · rcases hj with hj | hj
        · obtain ⟨i, q1, q2⟩ := hA1 j hj
          exact ⟨i, q1, fun x hx hlx => .inl (q2 x hx hlx)⟩
        · obtain ⟨i, q1, q2⟩ := L.shut j hj (by simp only; rw [List.getElem?_replicate]; split <;> rfl)
          exact ⟨i, q1, fun x hx hlx => .inr (q2 x hx hlx)⟩
      · by_cases e : s = m
        · subst e; exact .inr (L.all x hx hlx)
        · exact .inl (hA2 s (by omega) h3 h4 x hx hlx)

/-- Who leads each trip. -/
def ledP (led : List Int) (j : Nat) : Option Nat := if 0 ≤ led[j]?.getD (-1) then some (led[j]?.getD (-1)).toNat else none
def ledSize (n : Nat) (led : List Int) : Nat := pmSize n (ledP led)

/-- Who may follow, among those that are looked at. -/
def Tab.mayL (T : Tab) (looked : List Bool) (i j : Nat) : Bool := looked[i]?.getD false && looked[j]?.getD false && T.mayN i j

theorem count_two {l : List Int} {i j : Nat} {x : Int} (hij : i ≠ j) (hi : l[i]? = some x) (hj : l[j]? = some x) : 2 ≤ l.count x := by
  induction l generalizing i j with
  | nil => simp at hi
  | cons y l ih =>
    have hmem : ∀ k : Nat, l[k]? = some x → 1 ≤ l.count x := fun k hk => List.count_pos_iff.2 (List.mem_of_getElem? hk)
    cases i with
    | zero =>
      cases j with
      | zero => exact absurd rfl hij
      | succ j =>
        simp at hi hj
        subst hi
        have := hmem j hj
        simp; exact List.mem_of_getElem? hj
    | succ i =>
      cases j with
      | zero =>
        simp at hi hj
        subst hj
        simp; exact List.mem_of_getElem? hi
      | succ j =>
        simp at hi hj
        have := ih (by omega) hi hj
        rw [List.count_cons]; omega

theorem mem_followers {T : Tab} {i j : Nat} (hi : i < T.trips.length) (hj : j < T.trips.length) (h : T.mayN i j = true) : (j : Int) ∈ T.followers[i]?.getD [] := by
  have e : T.followers[i]?.getD [] = ((List.range T.trips.length).filter (T.mayN i)).map Int.ofNat := by simp [Tab.followers, hi]
  rw [e]
  exact List.mem_map.2 ⟨j, by simp [hj, h], rfl⟩

theorem ledP_some {led : List Int} {j i : Nat} (h : ledP led j = some i) : led[j]? = some (i : Int) := by
  unfold ledP at h
  split at h
  · rename_i h0
    have : j < led.length := by
      by_cases hj : j < led.length
      · exact hj
      · simp [List.getElem?_eq_none (Nat.le_of_not_lt hj)] at h0
    rw [List.getElem?_eq_getElem this] at h h0 ⊢
    simp at h h0 ⊢
    omega
  · cases h
theorem ledP_of {led : List Int} {j i : Nat} (h : led[j]? = some (i : Int)) : ledP led j = some i := by
  unfold ledP
  rw [h]; simp

theorem Mat.pm {T : Tab} {looked : List Bool} {m : Nat} {led : List Int} (h : Mat T.followers looked T.trips.length m led) : PM (T.mayL looked) T.trips.length (ledP led) where
  edge j i hj hp := by
    have hl := ledP_some hp
    obtain ⟨hjl, hv⟩ := List.getElem?_eq_some_iff.1 hl
    have hn := h.ok.2 _ (List.getElem_mem hjl)
    have hin : i < T.trips.length := by rw [hv] at hn; omega
    refine ⟨hin, ?_⟩
    have h1 := h.lookR j (by rw [hl]; simp <;> omega)
    have h2 := h.lookL (i : Int) (by omega) (List.count_pos_iff.2 (List.mem_of_getElem? hl))
    have h3 := h.foll j hjl
    rw [hv] at h3
    have h4 : (j : Int) ∈ T.followers[(i : Int).toNat]?.getD [] := by
      rcases h3 with h3 | h3
      · omega
      · exact h3
    have h5 := (followers_may h4).2
    simp at h5
    simp only [Tab.mayL, Bool.and_eq_true]
    exact ⟨⟨by simpa [lk] using h2.1, h1⟩, h5⟩
  inj j k i hj hk hpj hpk := by
    by_cases e : j = k
    · exact e
    · have := count_two e (ledP_some hpj) (ledP_some hpk)
      have := h.one (i : Int) (by omega)
      omega

open Classical in
/-- A cover that is as large. -/
theorem Mat.cov {T : Tab} {looked : List Bool} {led : List Int} (h : Mat T.followers looked T.trips.length T.trips.length led) :
    ∃ a b : Nat → Bool, Cov (T.mayL looked) T.trips.length a b ∧ cntN T.trips.length a + cntN T.trips.length b ≤ ledSize T.trips.length led := by
  obtain ⟨A, hA1, hA2⟩ := h.shut
  refine ⟨fun i => decide (∃ j, j < T.trips.length ∧ ledP led j = some i ∧ ¬ A j), fun j => decide (A j), fun i j hi hj he => ?_, ?_⟩
  · simp only [Tab.mayL, Bool.and_eq_true] at he
    have hmem := mem_followers hi hj he.2
    have hlj : lk looked (j : Int) := by simpa [lk] using he.1.2
    simp only [decide_eq_true_eq]
    by_cases h0 : led.count (i : Int) = 0
    · right; simpa using hA2 i hi he.1.1 h0 _ hmem hlj
    · obtain ⟨k, hk⟩ := List.getElem?_of_mem (List.count_pos_iff.1 (Nat.pos_of_ne_zero h0))
      have hp := ledP_of hk
      have hkn : k < T.trips.length := by
        have h1 := h.lookR k (by rw [hk]; simp <;> omega)
        obtain ⟨hkl, hv⟩ := List.getElem?_eq_some_iff.1 hk
        have h3 := h.foll k hkl
        rw [hv] at h3
        have h4 : (k : Int) ∈ T.followers[(i : Int).toNat]?.getD [] := by
          rcases h3 with h3 | h3
          · omega
          · exact h3
        have h5 := (followers_may h4).2
        simp [Tab.mayN] at h5
        split at h5
        · rename_i x y h6 h7
          exact (List.getElem?_eq_some_iff.1 h7).1
        · cases h5
      by_cases hAk : A k
      · right
        obtain ⟨i', q1, q2⟩ := hA1 k hAk
        rw [hk] at q1
        have : i' = i := by
          have := Option.some.inj q1
          omega
        subst this
        simpa using q2 _ hmem hlj
      · left; exact ⟨k, hkn, hp, hAk⟩
  · have h1 : ledSize T.trips.length led = _ := cntN_split (n := T.trips.length) (f := fun j => (ledP led j).isSome) (fun j => decide (A j))
    rw [h1]
    have h2 : cntN T.trips.length (fun j => decide (A j)) ≤ cntN T.trips.length (fun k => (ledP led k).isSome && decide (A k)) := cntN_mono fun k _ hk => by
      simp at hk
      obtain ⟨i, q1, _⟩ := hA1 k hk
      simp [ledP_of q1, hk]
    have h3 : cntN T.trips.length (fun i => decide (∃ j, j < T.trips.length ∧ ledP led j = some i ∧ ¬ A j)) ≤ cntN T.trips.length (fun k => (ledP led k).isSome && !decide (A k)) := by
      refine cntN_inj (fun i => if hx : ∃ j, j < T.trips.length ∧ ledP led j = some i ∧ ¬ A j then hx.choose else 0) (fun i hi hf => ?_) (fun i k hi hk hfi hfk he => ?_)
      · simp at hf
        rw [dif_pos hf]
        obtain ⟨q1, q2, q3⟩ := hf.choose_spec
        exact ⟨q1, by simp [q2, q3]⟩
      · simp at hfi hfk
        rw [dif_pos hfi, dif_pos hfk] at he
        have q1 := hfi.choose_spec.2.1
        have q2 := hfk.choose_spec.2.1
        rw [he, q2] at q1
        exact (Option.some.inj q1).symm
    omega

/-- No matching is larger. -/
theorem join_opt {T : Tab} (hfew : T.trips.length ≤ 12) {looked : List Bool} {p : Nat → Option Nat} (hp : PM (T.mayL looked) T.trips.length p) : pmSize T.trips.length p ≤ ledSize T.trips.length (joinL T.followers looked T.trips.length) := by
  have h := joinL_mat (looked := looked) (followers_ok hfew) T.trips.length (Nat.le_refl _)
  obtain ⟨a, b, h1, h2⟩ := h.cov
  exact Nat.le_trans (hp.le_cov h1) h2

end Go.Proofs.Ytohohnpjilinmaa

/-
  What a cutting is, in plain words; no cutting has fewer blocks than a cover says.
-/
namespace Go.Proofs.Ytohohnpjilinmaa

def maskL (l : List Int) : List Bool := (List.range 12).map fun (k : Nat) => decide ((k : Int) ∈ l)
theorem maskL_length (l : List Int) : (maskL l).length = 12 := by simp [maskL]
theorem maskL_nil : maskL [] = List.replicate 12 false := by decide
theorem maskL_at {l : List Int} {k : Nat} (hk : k < 12) : (maskL l)[k]?.getD false = decide ((k : Int) ∈ l) := by simp [maskL, hk]
theorem maskL_set {l : List Int} {x : Int} (h0 : 0 ≤ x) (h1 : x < 12) : (maskL l).set x.toNat true = maskL (l ++ [x]) := by
  apply List.ext_getElem
  · simp [maskL]
  · intro i h2 h3
    simp only [maskL, List.getElem_set, List.getElem_map, List.getElem_range]
    simp [maskL] at h3
    split
    · rename_i e
      have : ((i : Nat) : Int) = x := by omega
      simp [this]
    · rename_i e
      have : ¬ ((i : Nat) : Int) = x := by omega
      simp [this]

structure RunB (T : Tab) (l b : List Int) : Prop where
  ne : b ≠ []
  num : ∀ x ∈ b, T.num x = true
  new : ∀ k (h : k < b.length), b[k] ∉ l ++ b.take k
  may : ∀ k (h : k + 1 < b.length), T.mayN b[k].toNat b[k + 1].toNat = true

theorem num_lt {T : Tab} (hfew : T.trips.length ≤ 12) {x : Int} (h : T.num x = true) : 0 ≤ x ∧ x < 12 ∧ x.toNat < T.trips.length := by
  simp [Tab.num] at h; omega

theorem trip_fold {T : Tab} (hfew : T.trips.length ≤ 12) {l b : List Int} (hn : ∀ x ∈ b, T.num x = true) : ∀ j, j ≤ b.length → ∀ d',
    ((List.range j).foldlM (tripStep T b) (maskL l) = some d' ↔ (∀ k (h : k < b.length), k < j → b[k] ∉ l ++ b.take k) ∧ (∀ k (h : k + 1 < b.length), k + 1 < j → T.mayN b[k].toNat b[k + 1].toNat = true) ∧ d' = maskL (l ++ b.take j))
  | 0, _, d' => by
    constructor
    · intro h
      simp at h
      exact ⟨fun k _ hk => by omega, fun k _ hk => by omega, by simp [← h]⟩
    · rintro ⟨_, _, rfl⟩
      simp
  | j + 1, hj, d' => by
    have ih := trip_fold (l := l) hfew hn j (by omega)
    have hjl : j < b.length := by omega
    obtain ⟨x0, x1, x2⟩ := num_lt hfew (hn _ (List.getElem_mem hjl))
    have hbj : b[j]?.getD 0 = b[j] := by simp [hjl]
    rw [List.range_succ, List.foldlM_append]
    constructor
    · intro h
      simp only [Option.bind_eq_bind, Option.bind_eq_some_iff, List.foldlM_cons, List.foldlM_nil] at h
      obtain ⟨d, h1, d2, h2, h3⟩ := h
      simp at h3; subst h3
      obtain ⟨i1, i2, i3⟩ := (ih d).1 h1
      subst i3
      obtain ⟨k1, k2⟩ := tripStep_some h2
      rw [hbj] at k1 k2
      rw [maskL_at (by omega)] at k2
      have e : ((b[j].toNat : Nat) : Int) = b[j] := by omega
      rw [e] at k2
      have hnew : b[j] ∉ l ++ b.take j := by simpa using k2
      refine ⟨fun k hk hkj => ?_, fun k hk hkj => ?_, ?_⟩
      · by_cases ek : k = j
        · subst ek; exact hnew
        · exact i1 k hk (by omega)
      · by_cases ek : k + 1 = j
        · subst ek
          unfold tripStep at h2
          split at h2
          · cases h2
          · split at h2
            · cases h2
            · rename_i _ h4
              simp [hjl, (by omega : k < b.length)] at h4
              exact h4
        · exact i2 k hk (by omega)
      · rw [k1, maskL_set x0 x1, List.append_assoc, ← List.take_succ_eq_append_getElem hjl]
    · rintro ⟨h1, h2, h3⟩
      have i := (ih (maskL (l ++ b.take j))).2 ⟨fun k hk hkj => h1 k hk (by omega), fun k hk hkj => h2 k hk (by omega), rfl⟩
      rw [i]
      simp only [Option.bind_eq_bind, Option.bind_some, List.foldlM_cons, List.foldlM_nil]
      have e : ((b[j].toNat : Nat) : Int) = b[j] := by omega
      have hd : (maskL (l ++ b.take j))[(b[j]?.getD 0).toNat]?.getD false = false := by
        rw [hbj, maskL_at (by omega), e]
        simpa using h1 j hjl (by omega)
      have hm : (decide (0 < j) && !T.mayN (b[j - 1]?.getD 0).toNat (b[j]?.getD 0).toNat) = false := by
        by_cases j0 : 0 < j
        · obtain ⟨k, rfl⟩ : ∃ k, j = k + 1 := ⟨j - 1, by omega⟩
          have := h2 k hjl (by omega)
          simp [hjl, (by omega : k < b.length), this]
        · simp [j0]
      unfold tripStep
      rw [hd, hm, hbj]
      simp
      rw [h3, maskL_set x0 x1, List.append_assoc, ← List.take_succ_eq_append_getElem hjl]

theorem block_fold {T : Tab} (hfew : T.trips.length ≤ 12) {l b : List Int} {d' : List Bool} : blockStep T (maskL l) b = some d' ↔ RunB T l b ∧ d' = maskL (l ++ b) := by
  constructor
  · intro h
    unfold blockStep at h
    split at h
    · cases h
    rename_i h0
    split at h
    · rename_i ha
      have hn := List.all_eq_true.1 ha
      obtain ⟨h1, h2, h3⟩ := (trip_fold hfew hn b.length (Nat.le_refl _) d').1 h
      rw [List.take_length] at h3
      exact ⟨⟨by simpa using h0, hn, fun k hk => h1 k hk hk, fun k hk => h2 k hk hk⟩, h3⟩
    · cases h
  · rintro ⟨h, rfl⟩
    rw [blockStep_some h.ne h.num]
    exact (trip_fold hfew h.num b.length (Nat.le_refl _) _).2 ⟨fun k hk _ => h.new k hk, fun k hk _ => h.may k hk, by rw [List.take_length]⟩

def GoodB (T : Tab) : List Int → List (List Int) → Prop
  | _, [] => True
  | l, b :: bs => RunB T l b ∧ GoodB T (l ++ b) bs

theorem blocks_fold {T : Tab} (hfew : T.trips.length ≤ 12) : ∀ {bs : List (List Int)} {l : List Int} {d' : List Bool}, bs.foldlM (blockStep T) (maskL l) = some d' ↔ GoodB T l bs ∧ d' = maskL (l ++ bs.flatten)
  | [], l, d' => by simp [GoodB, eq_comm]
  | b :: bs, l, d' => by
    simp only [List.foldlM_cons, Option.bind_eq_bind, Option.bind_eq_some_iff, GoodB, List.flatten_cons]
    constructor
    · rintro ⟨d, h1, h2⟩
      obtain ⟨h3, rfl⟩ := (block_fold hfew).1 h1
      obtain ⟨h4, rfl⟩ := (blocks_fold hfew).1 h2
      exact ⟨⟨h3, h4⟩, by rw [List.append_assoc]⟩
    · rintro ⟨⟨h1, h2⟩, rfl⟩
      exact ⟨_, (block_fold hfew).2 ⟨h1, rfl⟩, (blocks_fold hfew).2 ⟨h2, by rw [List.append_assoc]⟩⟩

theorem isCutL_iff {T : Tab} (hfew : T.trips.length ≤ 12) {bs : List (List Int)} : isCutL T bs = true ↔ GoodB T [] bs ∧ maskL bs.flatten = upTo T.trips.length := by
  unfold isCutL
  rw [← maskL_nil]
  constructor
  · intro h
    split at h
    · cases h
    · rename_i d hd
      obtain ⟨h1, rfl⟩ := (blocks_fold hfew).1 hd
      exact ⟨h1, by simpa using h⟩
  · rintro ⟨h1, h2⟩
    rw [(blocks_fold hfew).2 ⟨h1, rfl⟩]
    simpa using h2

theorem GoodB.nodup {T : Tab} : ∀ {bs : List (List Int)} {l : List Int}, l.Nodup → GoodB T l bs → (l ++ bs.flatten).Nodup
  | [], l, hl, _ => by simpa using hl
  | b :: bs, l, hl, h => by
    rw [List.flatten_cons, ← List.append_assoc]
    refine GoodB.nodup ?_ h.2
    have : ∀ j, j ≤ b.length → (l ++ b.take j).Nodup := by
      intro j
      induction j with
      | zero => intro _; simpa using hl
      | succ j ih =>
        intro hj
        rw [List.take_succ_eq_append_getElem (by omega), ← List.append_assoc, List.nodup_append]
        refine ⟨ih (by omega), by simp, fun x hx y hy => ?_⟩
        simp at hy; subst hy
        intro e; subst e
        exact h.1.new j (by omega) hx
    have := this b.length (Nat.le_refl _)
    rwa [List.take_length] at this

theorem GoodB.num {T : Tab} : ∀ {bs : List (List Int)} {l : List Int}, GoodB T l bs → ∀ x ∈ bs.flatten, T.num x = true
  | [], l, _, x, hx => by simp at hx
  | b :: bs, l, h, x, hx => by
    rw [List.flatten_cons] at hx
    rcases List.mem_append.1 hx with hx | hx
    · exact h.1.num x hx
    · exact GoodB.num h.2 x hx

/-- A block, against a cover. -/
theorem block_cov {a c : Nat → Bool} : ∀ {b : List Int} {x : Int}, (∀ k (h : k + 1 < (x :: b).length), a (x :: b)[k].toNat = true ∨ c (x :: b)[k + 1].toNat = true) → b.length ≤ (x :: b).countP (fun x => a x.toNat) + b.countP (fun x => c x.toNat)
  | [], x, _ => by simp
  | y :: b, x, h => by
    have ih := block_cov (a := a) (c := c) (b := b) (x := y) fun k hk => by
      have := h (k + 1) (by simp at hk ⊢; omega)
      simpa using this
    have h0 := h 0 (by simp)
    simp at h0
    rw [List.countP_cons (a := x), List.countP_cons (p := fun (x : Int) => c x.toNat) (a := y)]
    simp only [List.length_cons]
    rcases h0 with h0 | h0
    · simp only [h0, if_true]; omega
    · simp only [h0, if_true]; omega

theorem block_cov' {a c : Nat → Bool} {b : List Int} (h0 : b ≠ []) (h : ∀ k (h : k + 1 < b.length), a b[k].toNat = true ∨ c b[k + 1].toNat = true) : b.length ≤ 1 + b.countP (fun x => a x.toNat) + b.countP (fun x => c x.toNat) := by
  cases b with
  | nil => exact absurd rfl h0
  | cons x b =>
    have := block_cov h
    rw [List.countP_cons (p := fun (x : Int) => c x.toNat) (a := x)]
    simp only [List.length_cons]
    split <;> omega

theorem blocks_cov {T : Tab} (hfew : T.trips.length ≤ 12) {a c : Nat → Bool} (hc : Cov T.mayN T.trips.length a c) : ∀ {bs : List (List Int)} {l : List Int}, GoodB T l bs → bs.flatten.length ≤ bs.length + bs.flatten.countP (fun x => a x.toNat) + bs.flatten.countP (fun x => c x.toNat)
  | [], _, _ => by simp
  | b :: bs, l, h => by
    have ih := blocks_cov hfew hc h.2
    have h1 := block_cov' (a := a) (c := c) h.1.ne fun k hk => by
      have n1 := num_lt hfew (h.1.num b[k] (List.getElem_mem _))
      have n2 := num_lt hfew (h.1.num b[k + 1] (List.getElem_mem _))
      exact hc _ _ n1.2.2 n2.2.2 (h.1.may k hk)
    simp only [List.flatten_cons, List.length_append, List.countP_append, List.length_cons]
    omega

theorem flat_cnt {T : Tab} (hfew : T.trips.length ≤ 12) {l : List Int} (hn : l.Nodup) (hl : ∀ x ∈ l, T.num x = true) (a : Nat → Bool) : l.countP (fun x => a x.toNat) ≤ cntN T.trips.length a := by
  rw [List.countP_eq_length_filter]
  have e : cntN T.trips.length a = (((List.range T.trips.length).filter a).map Int.ofNat).length := by simp [cntN]
  rw [e]
  refine List.Nodup.length_le_of_subset (hn.filter _) fun x hx => ?_
  simp at hx
  have := num_lt hfew (hl x hx.1)
  exact List.mem_map.2 ⟨x.toNat, by simp; exact ⟨this.2.2, hx.2⟩, by simp; omega⟩

theorem full_length {T : Tab} (hfew : T.trips.length ≤ 12) {l : List Int} (h : maskL l = upTo T.trips.length) : T.trips.length ≤ l.length := by
  have e : T.trips.length = ((List.range T.trips.length).map Int.ofNat).length := by simp
  rw [e]
  refine List.Nodup.length_le_of_subset ?_ fun x hx => ?_
  · rw [List.Nodup, List.pairwise_map]
    exact List.nodup_range.imp fun {a b} hab h => hab (by simp at h; omega)
  · obtain ⟨k, hk, rfl⟩ := List.mem_map.1 hx
    have hk' : k < T.trips.length := by simpa using hk
    have := maskL_at (l := l) (k := k) (by omega)
    rw [h] at this
    simp [upTo, (by omega : k < 12), hk'] at this
    exact this

/-- No cutting has fewer blocks than a cover says. -/
theorem cut_ge {T : Tab} (hfew : T.trips.length ≤ 12) {bs : List (List Int)} (h : isCutL T bs = true) {a c : Nat → Bool} (hc : Cov T.mayN T.trips.length a c) : T.trips.length ≤ bs.length + cntN T.trips.length a + cntN T.trips.length c := by
  obtain ⟨h1, h2⟩ := (isCutL_iff hfew).1 h
  have hnd := h1.nodup (by simp)
  simp only [List.nil_append] at hnd
  have hnum := h1.num
  have k1 := blocks_cov hfew hc h1
  have k2 := full_length hfew h2
  have k3 := flat_cnt hfew hnd hnum a
  have k4 := flat_cnt hfew hnd hnum c
  omega

theorem mayL_upTo {T : Tab} (hfew : T.trips.length ≤ 12) {i j : Nat} (hi : i < T.trips.length) (hj : j < T.trips.length) : T.mayL (upTo T.trips.length) i j = T.mayN i j := by
  simp [Tab.mayL, upTo, hi, hj, (by omega : i < 12), (by omega : j < 12)]

theorem cut_ge_led {T : Tab} (hfew : T.trips.length ≤ 12) {bs : List (List Int)} (h : isCutL T bs = true) : T.trips.length ≤ bs.length + ledSize T.trips.length (joinL T.followers (upTo T.trips.length) T.trips.length) := by
  obtain ⟨a, b, h1, h2⟩ := (joinL_mat (looked := upTo T.trips.length) (followers_ok hfew) T.trips.length (Nat.le_refl _)).cov
  have := cut_ge hfew h (a := a) (c := b) fun i j hi hj he => h1 i j hi hj (by rw [mayL_upTo hfew hi hj]; exact he)
  omega

end Go.Proofs.Ytohohnpjilinmaa

/-
  What Cut returns is a cutting, and as short as can be.
-/
namespace Go.Proofs.Ytohohnpjilinmaa

theorem chain_head {next : List Int} {k : Nat} {f x : Int} (h : x ∈ chainL next k f) : f ≠ -1 := by
  cases k with
  | zero => simp [chainL] at h
  | succ k => intro e; simp [chainL, e] at h

/-- An element of a chain is its first one, or behind another one. -/
theorem chain_pred {next : List Int} : ∀ {k : Nat} {f x : Int}, x ∈ chainL next k f → x = f ∨ ∃ y ∈ chainL next k f, next[y.toNat]?.getD (-1) = x
  | 0, f, x, h => by simp [chainL] at h
  | k + 1, f, x, h => by
    have h0 := chain_head h
    simp only [chainL, if_neg h0] at h ⊢
    rcases List.mem_cons.1 h with h | h
    · exact .inl h
    · right
      rcases chain_pred h with h1 | ⟨y, h1, h2⟩
      · exact ⟨f, List.mem_cons_self, h1.symm⟩
      · exact ⟨y, List.mem_cons_of_mem _ h1, h2⟩

section
variable {T : Tab} (hT : Valid T) {next : List Int} (hn : NextOk T next)
include hT hn

theorem left_pos {x : Int} (h0 : 0 ≤ x) (h1 : x.toNat < T.trips.length) : 0 < T.left x := by
  have := (left_next hT hn h0 h1).1; omega

theorem chain_num : ∀ {k : Nat} {f x : Int}, (f = -1 ∨ (0 ≤ f ∧ f.toNat < T.trips.length)) → x ∈ chainL next k f → 0 ≤ x ∧ x.toNat < T.trips.length ∧ T.startOf f ≤ T.startOf x ∧ (x ≠ f → T.startOf f < T.startOf x)
  | 0, f, x, _, h => by simp [chainL] at h
  | k + 1, f, x, hf, h => by
    have h0 := chain_head h
    simp only [chainL, if_neg h0] at h
    obtain ⟨f0, f1⟩ := hf.resolve_left h0
    rcases List.mem_cons.1 h with rfl | h
    · exact ⟨f0, f1, Int.le_refl _, fun h => absurd rfl h⟩
    · obtain ⟨l1, l2⟩ := left_next hT hn f0 f1
      obtain ⟨i1, i2, i3, i4⟩ := chain_num l2 h
      have hne := chain_head h
      have hlt : T.startOf f < T.startOf (next[f.toNat]?.getD (-1)) := by
        unfold Tab.left at l1
        rw [if_neg hne, if_neg h0] at l1
        omega
      exact ⟨i1, i2, by omega, fun _ => by omega⟩

theorem chain_next : ∀ {k : Nat} {f y : Int}, (f = -1 ∨ (0 ≤ f ∧ f.toNat < T.trips.length)) → T.left f ≤ k → y ∈ chainL next k f → next[y.toNat]?.getD (-1) ≠ -1 → next[y.toNat]?.getD (-1) ∈ chainL next k f
  | 0, f, y, _, _, h, _ => by simp [chainL] at h
  | k + 1, f, y, hf, hl, h, hy => by
    have h0 := chain_head h
    simp only [chainL, if_neg h0] at h ⊢
    obtain ⟨f0, f1⟩ := hf.resolve_left h0
    obtain ⟨l1, l2⟩ := left_next hT hn f0 f1
    rcases List.mem_cons.1 h with rfl | h
    · refine List.mem_cons_of_mem _ ?_
      obtain ⟨n0, n1⟩ := l2.resolve_left hy
      have := left_pos hT hn n0 n1
      obtain ⟨j, rfl⟩ : ∃ j, k = j + 1 := ⟨k - 1, by omega⟩
      simp only [chainL, if_neg hy]
      exact List.mem_cons_self
    · exact List.mem_cons_of_mem _ (chain_next l2 (by omega) h hy)

theorem chain_may : ∀ {k : Nat} {f : Int} {i : Nat} (_ : f = -1 ∨ (0 ≤ f ∧ f.toNat < T.trips.length)) (h : i + 1 < (chainL next k f).length), T.mayN (chainL next k f)[i].toNat (chainL next k f)[i + 1].toNat = true
  | 0, f, i, _, h => by simp [chainL] at h
  | k + 1, f, i, hf, h => by
    have h0 : f ≠ -1 := by intro e; simp [chainL, e] at h
    obtain ⟨f0, f1⟩ := hf.resolve_left h0
    obtain ⟨l1, l2⟩ := left_next hT hn f0 f1
    simp only [chainL, if_neg h0] at h ⊢
    cases i with
    | zero =>
      simp only [List.getElem_cons_zero, List.getElem_cons_succ]
      have hlen : 0 < (chainL next k (next[f.toNat]?.getD (-1))).length := by simpa using h
      have hmem := List.getElem_mem hlen
      have hne := chain_head hmem
      have e : (chainL next k (next[f.toNat]?.getD (-1)))[0] = next[f.toNat]?.getD (-1) := by
        cases k with
        | zero => simp [chainL] at hlen
        | succ k => simp only [chainL, if_neg hne]; rfl
      rw [e]
      have hfl : f.toNat < next.length := by rw [hn.len]; have := hT.few; omega
      have e2 : next[f.toNat]?.getD (-1) = next[f.toNat] := by simp [hfl]
      rw [e2] at hne ⊢
      exact ((hn.may f.toNat hfl).resolve_left hne).2
    | succ i =>
      simp only [List.getElem_cons_succ]
      exact chain_may l2 (by simpa using h)

theorem chain_nodup : ∀ {k : Nat} {f : Int}, (f = -1 ∨ (0 ≤ f ∧ f.toNat < T.trips.length)) → (chainL next k f).Nodup
  | 0, f, _ => by simp [chainL]
  | k + 1, f, hf => by
    by_cases h0 : f = -1
    · simp [chainL, h0]
    · obtain ⟨f0, f1⟩ := hf.resolve_left h0
      obtain ⟨l1, l2⟩ := left_next hT hn f0 f1
      simp only [chainL, if_neg h0]
      refine List.nodup_cons.2 ⟨fun hm => ?_, chain_nodup l2⟩
      obtain ⟨i1, i2, i3, i4⟩ := chain_num hT hn l2 hm
      have hne := chain_head hm
      unfold Tab.left at l1
      rw [if_neg hne, if_neg h0] at l1
      omega
end

/-- Next is led, turned. -/
theorem turnTo_some {led : List Int} (hl : led.length = 12) : ∀ {m : Nat}, m ≤ 12 → ∀ {y x : Nat}, (turnTo led m)[y]? = some (x : Int) → x < m ∧ ∃ z, led[x]? = some z ∧ z ≠ -1 ∧ z.toNat = y
  | 0, _, y, x, h => by
    simp only [turnTo, List.range_zero, List.foldl_nil] at h
    rw [List.getElem?_replicate] at h
    split at h
    · have := Option.some.inj h; omega
    · cases h
  | m + 1, hm, y, x, h => by
    rw [turnTo_succ, turnStep] at h
    have hml : m < led.length := by omega
    have e : led[m]?.getD 0 = led[m] := by simp [hml]
    rw [e] at h
    split at h
    · obtain ⟨h1, h2⟩ := turnTo_some hl (by omega) h
      exact ⟨by omega, h2⟩
    · rename_i hne
      by_cases e2 : led[m].toNat = y
      · by_cases e3 : y < (turnTo led m).length
        · subst e2
          rw [List.getElem?_set_self e3] at h
          have hx := Option.some.inj h
          have : x = m := by omega
          subst this
          exact ⟨by omega, led[x], by simp [hml], hne, rfl⟩
        · rw [List.getElem?_eq_none (by simp; omega)] at h; cases h
      · rw [List.getElem?_set_ne e2] at h
        obtain ⟨h1, h2⟩ := turnTo_some hl (by omega) h
        exact ⟨by omega, h2⟩

theorem turnTo_of {n : Nat} {led : List Int} (hl : LedOk n led) (hn : n ≤ 12) (hone : ∀ x : Int, 0 ≤ x → led.count x ≤ 1) : ∀ {m : Nat}, m ≤ 12 → ∀ {y x : Nat}, x < m → led[x]? = some (y : Int) → (turnTo led m)[y]? = some (x : Int)
  | 0, _, y, x, hx, _ => by omega
  | m + 1, hm, y, x, hx, h => by
    rw [turnTo_succ, turnStep]
    have hml : m < led.length := by rw [hl.1]; omega
    have e : led[m]?.getD 0 = led[m] := by simp [hml]
    rw [e]
    by_cases exm : x = m
    · subst exm
      rw [List.getElem?_eq_getElem hml] at h
      have hy := Option.some.inj h
      have hv := hl.2 _ (List.getElem_mem hml)
      rw [if_neg (by omega)]
      have : led[x].toNat = y := by omega
      rw [this, List.getElem?_set_self (by rw [turnTo_length]; omega)]
    · have ih := turnTo_of hl hn hone (m := m) (by omega) (y := y) (x := x) (by omega) h
      split
      · exact ih
      · rename_i hne
        have hv := hl.2 _ (List.getElem_mem hml)
        have : led[m].toNat ≠ y := fun e2 => by
          have h2 : led[m]? = some (y : Int) := by rw [List.getElem?_eq_getElem hml]; congr 1; omega
          have := count_two exm h h2
          have := hone (y : Int) (by omega)
          omega
        rw [List.getElem?_set_ne this]
        exact ih

section
variable {T : Tab} (hT : Valid T) {looked : List Bool} {led : List Int} (h : Mat T.followers looked T.trips.length T.trips.length led)
include hT h

theorem turn_ok : NextOk T (turnL led) := turnTo_ok hT.few h.ok h.foll 12 (Nat.le_refl _)

theorem turn_led {y x : Int} (hy : 0 ≤ y) (hx : (turnL led)[y.toNat]?.getD (-1) = x) (h0 : x ≠ -1) : 0 ≤ x ∧ led[x.toNat]? = some y := by
  have hok := turn_ok hT h
  by_cases hl : y.toNat < (turnL led).length
  case neg => rw [List.getElem?_eq_none (by omega)] at hx; exact absurd hx.symm h0
  have e : (turnL led)[y.toNat]?.getD (-1) = (turnL led)[y.toNat] := by simp [hl]
  rw [e] at hx
  have hm := hok.may y.toNat hl
  rw [hx] at hm
  obtain ⟨x0, _⟩ := hm.resolve_left h0
  refine ⟨x0, ?_⟩
  have h2 : (turnTo led 12)[y.toNat]? = some ((x.toNat : Nat) : Int) := by
    show (turnL led)[y.toNat]? = _
    rw [List.getElem?_eq_getElem hl, hx]; congr 1; omega
  obtain ⟨_, z, h3, h4, h5⟩ := turnTo_some h.ok.1 (Nat.le_refl _) h2
  rw [h3]
  obtain ⟨hzl, hzv⟩ := List.getElem?_eq_some_iff.1 h3
  have := h.ok.2 _ (List.getElem_mem hzl)
  rw [hzv] at this
  congr 1; omega

theorem led_turn {y x : Int} (hy : 0 ≤ y) (hx0 : 0 ≤ x) (hx : led[x.toNat]? = some y) : (turnL led)[y.toNat]?.getD (-1) = x := by
  have hxl := (List.getElem?_eq_some_iff.1 hx).1
  rw [h.ok.1] at hxl
  have := turnTo_of h.ok hT.few h.one (m := 12) (Nat.le_refl _) (y := y.toNat) (x := x.toNat) hxl (by rw [hx]; congr 1; omega)
  show (turnTo led 12)[y.toNat]?.getD (-1) = x
  rw [this]; simp; omega

/-- Two chains that meet are one. -/
theorem chain_one : ∀ (k : Nat) {x f g : Int}, (T.startOf x).toNat ≤ k → (0 ≤ f ∧ f.toNat < T.trips.length) → (0 ≤ g ∧ g.toNat < T.trips.length) → led[f.toNat]?.getD 0 = -1 → led[g.toNat]?.getD 0 = -1 → x ∈ chainL (turnL led) 2001 f → x ∈ chainL (turnL led) 2001 g → f = g := by
  intro k
  induction k with
  | zero =>
    intro x f g hk hf hg hlf hlg h1 h2
    have hok := turn_ok hT h
    have key : ∀ f : Int, (0 ≤ f ∧ f.toNat < T.trips.length) → x ∈ chainL (turnL led) 2001 f → x = f := by
      intro f hf hm
      by_cases e : x = f
      · exact e
      · have := (chain_num hT hok (.inr hf) hm).2.2.2 e
        have := hT.trip (List.getElem_mem hf.2)
        simp [Tab.startOf, hf.2] at *
        omega
    rw [← key f hf h1, ← key g hg h2]
  | succ k ih =>
    intro x f g hk hf hg hlf hlg h1 h2
    have hok := turn_ok hT h
    have key : ∀ f : Int, (0 ≤ f ∧ f.toNat < T.trips.length) → led[f.toNat]?.getD 0 = -1 → x ∈ chainL (turnL led) 2001 f → x = f ∨ ∃ y ∈ chainL (turnL led) 2001 f, led[x.toNat]? = some y ∧ 0 ≤ y ∧ T.startOf y < T.startOf x := by
      intro f hf hlf hm
      rcases chain_pred hm with e | ⟨y, hy, hxy⟩
      · exact .inl e
      · right
        obtain ⟨y0, y1, _⟩ := chain_num hT hok (.inr hf) hy
        obtain ⟨x0, x1, _⟩ := chain_num hT hok (.inr hf) hm
        obtain ⟨_, hl⟩ := turn_led hT h y0 hxy (by omega)
        refine ⟨y, hy, hl, y0, ?_⟩
        have hl2 := (left_next hT hok y0 y1).1
        rw [hxy] at hl2
        unfold Tab.left at hl2
        rw [if_neg (by omega), if_neg (by omega)] at hl2
        omega
    have first : ∀ f : Int, led[f.toNat]?.getD 0 = -1 → ∀ y : Int, led[f.toNat]? = some y → 0 ≤ y → False := by
      intro f hlf y hy h0
      rw [hy] at hlf; simp at hlf; omega
    rcases key f hf hlf h1 with e1 | ⟨y1, m1, l1, p1, s1⟩
    · rcases key g hg hlg h2 with e2 | ⟨y2, m2, l2, p2, s2⟩
      · rw [← e1, ← e2]
      · rw [e1] at l2; exact (first f hlf y2 l2 p2).elim
    · rcases key g hg hlg h2 with e2 | ⟨y2, m2, l2, p2, s2⟩
      · rw [e2] at l1; exact (first g hlg y1 l1 p1).elim
      · rw [l1] at l2
        have := Option.some.inj l2
        subst this
        obtain ⟨y0, yl, _⟩ := chain_num hT hok (.inr hf) m1
        have := hT.trip (List.getElem_mem yl)
        have hs0 : 0 ≤ T.startOf y1 := by simp [Tab.startOf, yl]; omega
        exact ih (by omega) hf hg hlf hlg m1 m2

omit h in
theorem start_nonneg {i : Nat} (hi : i < T.trips.length) : 0 ≤ T.startOf (i : Int) := by
  have := hT.trip (List.getElem_mem hi)
  simp [Tab.startOf, hi]; omega

theorem led_lead {x : Int} (hx : 0 ≤ x ∧ x.toNat < T.trips.length) : led[x.toNat]?.getD 0 = -1 ∨ ∃ i : Nat, led[x.toNat]? = some (i : Int) ∧ i < T.trips.length ∧ T.startOf (i : Int) < T.startOf x := by
  have hxl : x.toNat < led.length := by rw [h.ok.1]; have := hT.few; omega
  rw [List.getElem?_eq_getElem hxl]
  rcases h.ok.2 _ (List.getElem_mem hxl) with e | e
  · left; simpa using e
  · right
    obtain ⟨i, hi⟩ : ∃ i : Nat, led[x.toNat] = (i : Int) := ⟨led[x.toNat].toNat, by omega⟩
    have hf := (h.foll x.toNat hxl).resolve_left (by omega)
    rw [hi] at hf
    have hm := (followers_may hf).2
    rw [Int.toNat_natCast, Int.toNat_natCast] at hm
    obtain ⟨m1, m2, m3⟩ := mayN_start hT hm
    have e3 : ((x.toNat : Nat) : Int) = x := by omega
    rw [e3] at m3
    exact ⟨i, by rw [hi], m1, by omega⟩

omit hT h in
theorem chain_self {next : List Int} {k : Nat} {f : Int} (hk : 0 < k) (hf : f ≠ -1) : f ∈ chainL next k f := by
  cases k with
  | zero => omega
  | succ k => simp only [chainL, if_neg hf]; exact List.mem_cons_self

/-- Each trip is in a chain. -/
theorem chain_all : ∀ (k : Nat) {x : Int}, (T.startOf x).toNat ≤ k → (0 ≤ x ∧ x.toNat < T.trips.length) → ∃ f : Nat, f < T.trips.length ∧ led[f]?.getD 0 = -1 ∧ x ∈ chainL (turnL led) 2001 (f : Int) := by
  intro k
  have base : ∀ x : Int, (0 ≤ x ∧ x.toNat < T.trips.length) → led[x.toNat]?.getD 0 = -1 → ∃ f : Nat, f < T.trips.length ∧ led[f]?.getD 0 = -1 ∧ x ∈ chainL (turnL led) 2001 (f : Int) := by
    intro x hx hl
    refine ⟨x.toNat, hx.2, hl, ?_⟩
    have e : ((x.toNat : Nat) : Int) = x := by omega
    rw [e]
    exact chain_self (by decide) (by omega)
  induction k with
  | zero =>
    intro x hk hx
    rcases led_lead hT h hx with hl | ⟨i, h1, h2, h3⟩
    · exact base x hx hl
    · have := start_nonneg hT h2
      omega
  | succ k ih =>
    intro x hk hx
    rcases led_lead hT h hx with hl | ⟨i, h1, h2, h3⟩
    · exact base x hx hl
    · have hs0 := start_nonneg hT h2
      obtain ⟨f, f1, f2, f3⟩ := ih (x := (i : Int)) (by omega) ⟨by omega, by simpa using h2⟩
      refine ⟨f, f1, f2, ?_⟩
      have hn := led_turn hT h (y := (i : Int)) (by omega) hx.1 h1
      have := chain_next hT (turn_ok hT h) (k := 2001) (f := (f : Int)) (y := (i : Int)) (.inr ⟨by omega, by simpa using f1⟩) (left_le hT ⟨by omega, by simpa using f1⟩) f3 (by rw [hn]; omega)
      rw [hn] at this
      exact this

omit hT h in
theorem good_of_nodup : ∀ {bs : List (List Int)} {l : List Int}, (∀ b ∈ bs, b ≠ [] ∧ (∀ x ∈ b, T.num x = true) ∧ ∀ k (h : k + 1 < b.length), T.mayN b[k].toNat b[k + 1].toNat = true) → (l ++ bs.flatten).Nodup → GoodB T l bs
  | [], _, _, _ => trivial
  | b :: bs, l, hb, hn => by
    obtain ⟨h1, h2, h3⟩ := hb b (List.mem_cons_self)
    rw [List.flatten_cons, ← List.append_assoc] at hn
    refine ⟨⟨h1, h2, fun k hk hm => ?_, h3⟩, good_of_nodup (fun c hc => hb c (List.mem_cons_of_mem _ hc)) hn⟩
    have hn2 := (List.nodup_append.1 hn).1
    have e : l ++ b = (l ++ b.take k) ++ b.drop k := by rw [List.append_assoc, List.take_append_drop]
    rw [e, List.nodup_append] at hn2
    exact hn2.2.2 b[k] hm b[k] (by rw [List.drop_eq_getElem_cons hk]; exact List.mem_cons_self) rfl

theorem blocks_good : isCutL T (blocksTo led (turnL led) T.trips.length) = true := by
  have hok := turn_ok hT h
  have hfew := hT.few
  have hmem : ∀ b ∈ blocksTo led (turnL led) T.trips.length, ∃ f : Nat, f < T.trips.length ∧ led[f]?.getD 0 = -1 ∧ b = chainL (turnL led) 2001 (f : Int) := by
    intro b hb
    obtain ⟨f, hf, rfl⟩ := List.mem_map.1 hb
    simp at hf
    exact ⟨f, hf.1, hf.2, rfl⟩
  have hnd : (blocksTo led (turnL led) T.trips.length).flatten.Nodup := by
    rw [List.Nodup, List.pairwise_flatten]
    refine ⟨fun b hb => ?_, ?_⟩
    · obtain ⟨f, f1, _, rfl⟩ := hmem b hb
      exact chain_nodup hT hok (.inr ⟨by omega, by simpa using f1⟩)
    · unfold blocksTo
      rw [List.pairwise_map]
      have hp : ((List.range T.trips.length).filter fun k => decide (led[k]?.getD 0 = -1)).Pairwise (· ≠ ·) := List.nodup_range.filter _
      refine hp.imp_of_mem fun {f g} hf hg hne x hx y hy e => ?_
      subst e
      simp at hf hg
      have := chain_one hT h (T.startOf x).toNat (x := x) (f := (f : Int)) (g := (g : Int)) (Nat.le_refl _) ⟨by omega, by simpa using hf.1⟩ ⟨by omega, by simpa using hg.1⟩ (by simpa using hf.2) (by simpa using hg.2) hx hy
      omega
  rw [isCutL_iff hfew]
  have hnum : ∀ b ∈ blocksTo led (turnL led) T.trips.length, b ≠ [] ∧ (∀ x ∈ b, T.num x = true) ∧ ∀ k (h : k + 1 < b.length), T.mayN b[k].toNat b[k + 1].toNat = true := by
    intro b hb
    obtain ⟨f, f1, _, rfl⟩ := hmem b hb
    refine ⟨fun e => ?_, fun x hx => ?_, fun k hk => chain_may hT hok (.inr ⟨by omega, by simpa using f1⟩) hk⟩
    · have := chain_self (next := turnL led) (k := 2001) (f := (f : Int)) (by decide) (by omega)
      rw [e] at this; simp at this
    · obtain ⟨x0, x1, _⟩ := chain_num hT hok (.inr ⟨by omega, by simpa using f1⟩) hx
      simp [Tab.num]; omega
  refine ⟨good_of_nodup hnum (by simpa using hnd), ?_⟩
  apply List.ext_getElem
  · simp [maskL, upTo]
  · intro i h1 h2
    simp only [maskL, upTo, List.getElem_map, List.getElem_range]
    congr 1
    apply propext
    constructor
    · intro hm
      obtain ⟨b, hb, hx⟩ := List.mem_flatten.1 hm
      have := num_lt hfew ((hnum b hb).2.1 _ hx)
      simpa using this.2.2
    · intro hi
      obtain ⟨f, f1, f2, f3⟩ := chain_all hT h (T.startOf (i : Int)).toNat (x := (i : Int)) (Nat.le_refl _) ⟨by omega, by simpa using hi⟩
      refine List.mem_flatten.2 ⟨_, List.mem_map.2 ⟨f, ?_, rfl⟩, f3⟩
      simp [f1, f2]

theorem blocks_size : (blocksTo led (turnL led) T.trips.length).length + ledSize T.trips.length led = T.trips.length := by
  have hfew := hT.few
  have e1 : (blocksTo led (turnL led) T.trips.length).length = cntN T.trips.length fun k => decide (led[k]?.getD 0 = -1) := by
    simp [blocksTo, cntN]
  have e2 : ledSize T.trips.length led = cntN T.trips.length fun k => !decide (led[k]?.getD 0 = -1) := by
    refine cntN_congr fun k hk => ?_
    have hkl : k < led.length := by rw [h.ok.1]; omega
    have := h.ok.2 _ (List.getElem_mem hkl)
    unfold ledP
    rw [List.getElem?_eq_getElem hkl]
    simp
    by_cases e : led[k] = -1
    · simp [e]
    · have : 0 ≤ led[k] := by omega
      simp [e, this]
  have e3 : cntN T.trips.length (fun _ => true) = T.trips.length := by
    unfold cntN; rw [List.filter_eq_self.2 (fun _ _ => rfl)]; simp
  have e4 := cntN_split (n := T.trips.length) (f := fun _ => true) (fun k => decide (led[k]?.getD 0 = -1))
  simp only [Bool.true_and] at e4
  omega
end

/-- As many trips follow another one as can. -/
def Tab.most (T : Tab) : Nat := ledSize T.trips.length (joinL T.followers (upTo T.trips.length) T.trips.length)

theorem cutL_good {T : Tab} (hT : Valid T) : isCutL T (cutL T) = true := blocks_good hT (joinL_mat (followers_ok hT.few) _ (Nat.le_refl _))
theorem cutL_size {T : Tab} (hT : Valid T) : (cutL T).length + T.most = T.trips.length := blocks_size hT (joinL_mat (followers_ok hT.few) _ (Nat.le_refl _))
theorem cutL_least {T : Tab} (hT : Valid T) {bs : List (List Int)} (h : isCutL T bs = true) : (cutL T).length ≤ bs.length := by
  have h1 := cutL_size hT
  have h2 := cut_ge_led hT.few h
  unfold Tab.most at h1
  omega

end Go.Proofs.Ytohohnpjilinmaa
