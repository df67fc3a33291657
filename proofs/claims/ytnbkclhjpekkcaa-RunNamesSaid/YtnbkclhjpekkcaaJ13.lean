/-
  Joined texts of a calculus of abstract memory, and of contracts of the program's functions.
-/
import Derived.Test.YtnbkclhjpekkcaaJ12
/-
  The contract of the reference's search for the fewest.
-/
namespace Go.Proofs.Ytnbkclhjpekkcaa
open Go Go.Ab

theorem wr_one {cs : List Value} {i : Nat} {v : Value} (h : i < cs.length) : wrL cs i [v] = cs.set i v := by
  rw [List.set_eq_take_append_cons_drop, if_pos h]; rfl

theorem refFewest_spec {H0 : Heap} {e s lv : Value} {T : Tab} {l : List Int} (h : TabAt H0 e s T) (hT : Valid T) (hl : IntsAt H0 lv l) (hnum : ∀ x ∈ l, T.num x = true) (hlen : l.length ≤ 12) :
    ∀ (d from_ : Nat) (tk : List Bool) (H : Heap) (tn cap c : Nat), from_ + d = l.length → Ge H0 H → H0.next ≤ tn → tn < H.next → H.get tn = .cells true (tk.map .bool) c → tk.length = T.trips.length →
      AFun Try.prog 58 [tabV T e s, lv, .int .i64 from_, .slice (some ⟨tn, 0, none⟩) T.trips.length cap] H (fun r B => r = .int .i64 (fewR T l (l.drop from_) tk) ∧ Ge H B) := by
  intro d
  have hfew := hT.few
  have hbnd := fewR_le (T := T) (l := l)
  induction d with
  | zero =>
    intro from_ tk H tn cap c hfd g htn htn2 htk htl
    have hff : from_ = l.length := by omega
    subst hff
    refine AFun.mk ok58 hm (Nat.le_of_ble_eq_true rfl) ?_
    simp [a58, r58, hl.lenV]
    simp [fewR]
  | succ d ih =>
    intro from_ tk H tn cap c hfd g htn htn2 htk htl
    have hf : from_ < l.length := by omega
    refine AFun.mk ok58 hm (Nat.le_of_ble_eq_true rfl) ?_
    have hne : ¬ (from_ : Int) = l.length := by omega
    have q0 : H.next ≠ tn := by omega
    have g0 : Ge H (H.new (.cells true [.int .i64 T.places, .int .i64 T.layover, e, s] 4)) := Ge.new _ _
    simp [a58, r58, hl.lenV, hne, add_in (x := from_) (y := 1) (by omega) (by omega)]
    have ih1 := ih (from_ + 1) tk _ tn cap c (by omega) (g.trans g0) htn (by simp; omega) (by simp [Ne.symm q0, htk]) htl
    simp at ih1
    refine fcall_fun ih1 ?_
    rintro _ B ⟨rfl, gB⟩
    have G1 := g0.trans gB
    have n1 := G1.next
    have nB := gB.next
    simp at nB
    have bB := gB.got (n := H.next) (by simp) rfl
    simp at bB
    have kB := G1.got htn2 htk
    have hb1 := hbnd (l.drop (from_ + 1)) tk
    have hdl : (l.drop (from_ + 1)).length = l.length - (from_ + 1) := by simp
    have hdrop : l.drop from_ = l[from_] :: l.drop (from_ + 1) := List.drop_eq_getElem_cons hf
    simp [add_in (x := 1) (y := fewR T l (l.drop (from_ + 1)) tk) (by omega) (by omega)]
    refine floop_intro (fun z => z.d = [] ∧ Ge H z.H ∧ H.next + 1 ≤ z.H.next ∧ z.t 1 = lv ∧ z.t 2 = .int .i64 from_ ∧ z.t 3 = .slice (some ⟨tn, 0, none⟩) T.trips.length cap ∧ z.t 4 = .pointer (some ⟨H.next, 0, none⟩) ∧ z.H.get H.next = .cells true [.int .i64 T.places, .int .i64 T.layover, e, s] 4 ∧
      ∃ m : Nat, m ≤ l.length ∧ z.t 10 = .int .i64 m ∧ z.t 9 = .int .i64 ((l.take m).foldl (fewStep T l[from_] tk (fewR T l (l.drop (from_ + 1)))) (1 + fewR T l (l.drop (from_ + 1)) tk) : Nat)) (fun z => l.length - (intOf (z.t 10)).toNat) ?_ ?_
    · exact ⟨rfl, G1, by omega, by simp, by simp, by simp, by simp, bB, 0, by simp, by simp, by simp⟩
    rintro ⟨t, _, A⟩ ⟨rfl, gA, hn, t1, t2, t3, t4, b0, m, hm', t10, t9⟩
    dsimp only at gA hn t1 t2 t3 t4 b0 t10 t9
    simp [t1, t10, hl.lenV]
    refine fcond_intro (fun hc => ?_) (fun hc => ?_)
    · have hmm : m < l.length := by simpa using hc
      have kA := gA.got htn2 htk
      have hnx := hnum _ (List.getElem_mem hmm)
      have hnf := hnum _ (List.getElem_mem hf)
      obtain ⟨x0, x1, x2⟩ := num_lt hfew hnx
      obtain ⟨q, e1, e2⟩ := (hl.ge (g.trans gA)).at hmm
      obtain ⟨q', e3, e4⟩ := (hl.ge ((g.trans gA).grow 14)).at hf
      have hI : islV 1 (.slice (some ⟨tn, 0, none⟩) T.trips.length cap) (.int .i64 l[m]) = some (.pointer (some ⟨tn, l[m].toNat, none⟩)) := by
        rw [islV_in (by omega) (by omega)]; simp
      have hnext : (l.take (m + 1)).foldl (fewStep T l[from_] tk (fewR T l (l.drop (from_ + 1)))) (1 + fewR T l (l.drop (from_ + 1)) tk) = fewStep T l[from_] tk (fewR T l (l.drop (from_ + 1))) ((l.take m).foldl (fewStep T l[from_] tk (fewR T l (l.drop (from_ + 1)))) (1 + fewR T l (l.drop (from_ + 1)) tk)) l[m] := by
        rw [List.take_succ_eq_append_getElem hmm, List.foldl_append]; rfl
      have hble : (l.take m).foldl (fewStep T l[from_] tk (fewR T l (l.drop (from_ + 1)))) (1 + fewR T l (l.drop (from_ + 1)) tk) ≤ 1 + fewR T l (l.drop (from_ + 1)) tk := fold_le
      generalize (l.take m).foldl (fewStep T l[from_] tk (fewR T l (l.drop (from_ + 1)))) (1 + fewR T l (l.drop (from_ + 1)) tk) = best at t9 hnext hble
      have hlt : l[m].toNat < tk.length := by omega
      have hat : tk[l[m].toNat]?.getD false = tk[l[m].toNat] := by simp [hlt]
      have hset : (tk.set l[m].toNat true).set l[m].toNat tk[l[m].toNat] = tk := by rw [List.set_set, List.set_getElem_self]
      have hst : fewStep T l[from_] tk (fewR T l (l.drop (from_ + 1))) best l[m] = if (!tk[l[m].toNat] && T.mayN l[from_].toNat l[m].toNat) = true then min best (fewR T l (l.drop (from_ + 1)) (tk.set l[m].toNat true)) else best := by
        simp only [fewStep, hat]
      rw [hst] at hnext
      clear hst
      have hnext2 : ∃ b2, (l.take (m + 1)).foldl (fewStep T l[from_] tk (fewR T l (l.drop (from_ + 1)))) (1 + fewR T l (l.drop (from_ + 1)) tk) = b2 := ⟨_, rfl⟩
      obtain ⟨b2, hb2⟩ := hnext2
      rw [hb2] at hnext
      simp [t1, t3, t10, e1, e2, hI, kA, hlt]
      generalize hv : tk[l[m].toNat] = v at hnext hset
      cases v
      case true =>
        simp at hnext
        simp [t10, add_in (x := m) (y := 1) (by omega) (by omega)]
        exact ⟨⟨gA.grow 14, by omega, t1, t2, t3, t4, b0, m + 1, by omega, by omega, by rw [hb2, hnext]; exact t9⟩, by omega⟩
      simp [t1, t2, t4, b0, e3, e4]
      refine fcall_fun (refMay_specI (h.ge ((g.trans gA).grow 14)) hT hnf hnx) ?_
      rintro _ C ⟨rfl, gC⟩
      have GC := (Ge.more A 14).trans gC
      have nC := gC.next
      simp at nC
      have gHC := gA.trans GC
      have c0 := GC.got (by omega) b0
      have kC := GC.got (by omega) kA
      have qt : H.next ≠ tn := q0
      cases hmay : T.mayN l[from_].toNat l[m].toNat
      · simp [hmay] at hnext
        simp [t10, add_in (x := m) (y := 1) (by omega) (by omega)]
        exact ⟨⟨gHC, by omega, t1, t2, t3, t4, c0, m + 1, by omega, by omega, by rw [hb2, hnext]; exact t9⟩, by omega⟩
      simp [hmay] at hnext
      have hwr1 : wrL (tk.map Value.bool) l[m].toNat [.bool true] = (tk.set l[m].toNat true).map .bool := by
        rw [wr_one (by simpa using hlt), List.map_set]
      have ih2 := ih (from_ + 1) (tk.set l[m].toNat true) (C.set tn (.cells true ((tk.set l[m].toNat true).map .bool) c)) tn cap c (by omega) (Ge.setNew (g.trans gHC) htn _) htn (by simp; omega) (by simp) (by simpa using htl)
      have hlt' : l[m].toNat + 1 ≤ tk.length := hlt
      simp [t1, t2, t3, t4, t9, hI, kC, c0, qt, hwr1, hlt', add_in (x := from_) (y := 1) (by omega) (by omega)]
      simp at ih2
      refine fcall_fun ih2 ?_
      rintro _ D ⟨rfl, gD⟩
      have nD := gD.next
      simp at nD
      have d0 := gD.got (n := H.next) (by simp; omega) (by simp [qt]; exact c0)
      have dt : D.get tn = .cells true ((tk.set l[m].toNat true).map .bool) c := gD.got (n := tn) (by simp; omega) (by simp)
      have hwr2 : wrL ((tk.set l[m].toNat true).map Value.bool) l[m].toNat [.bool false] = tk.map .bool := by
        rw [wr_one (by simpa using hlt), ← List.map_set, hset]
      simp
      rw [aval_min (k := .i64) (m := (best : Int)) (n := (fewR T l (l.drop (from_ + 1)) (tk.set l[m].toNat true) : Int)) (by simp) (by simp) (by decide) (by decide)]
      have hlt2 : l[m].toNat + 1 ≤ ((tk.set l[m].toNat true).map Value.bool).length := by simp; omega
      have hmin : min (best : Int) (fewR T l (l.drop (from_ + 1)) (tk.set l[m].toNat true) : Int) = (b2 : Int) := by rw [hnext]; omega
      rw [hmin]
      have hcs : ∃ cs, cs = (tk.set l[m].toNat true).map Value.bool := ⟨_, rfl⟩
      obtain ⟨cs, hcs⟩ := hcs
      rw [← hcs] at dt hwr2 hlt2
      simp [t3, t10, hI, dt, hlt2, hwr2, add_in (x := m) (y := 1) (by omega) (by omega)]
      refine ⟨⟨⟨by simp; omega, fun q hq => ?_⟩, by omega, t1, t2, t4, by rw [if_neg qt]; exact d0, m + 1, by omega, by omega, by rw [hb2]⟩, by omega⟩
      by_cases eq : q = tn
      · subst eq; simp [htk]
      · have nC := gHC.next
        simp [eq]
        rw [gD.get q (by simp; omega)]
        simp [eq]
        exact gHC.get q hq
    · have hmm : m = l.length := by simp at hc; omega
      subst hmm
      rw [List.take_length] at t9
      simp [t9]
      rw [hdrop]
      exact ⟨rfl, gA⟩

theorem buses_spec {H : Heap} {e s lv : Value} {T : Tab} {l : List Int} (h : TabAt H e s T) (hT : Valid T) (hl : IntsAt H lv l) (hnum : ∀ x ∈ l, T.num x = true) (hlen : l.length ≤ 12) : AFun Try.prog 30 [tabV T e s, lv] H (fun r B => r = .int .i64 (fewR T l l (List.replicate T.trips.length false)) ∧ Ge H B) := by
  refine AFun.mk ok30 hm (Nat.le_of_ble_eq_true rfl) ?_
  have hfew := hT.few
  have hmk : ∀ n, mksV n 1 1 [.bool false] (.int .i64 T.trips.length) (.int .i64 T.trips.length) = some _ := fun n => mksV_at (by omega) (by omega)
  have hz : zrep T.trips.length [Value.bool false] = (List.replicate T.trips.length false).map .bool := by
    have : ∀ n, zrep n [Value.bool false] = (List.replicate n false).map .bool := by
      intro n; induction n with
      | zero => rfl
      | succ n ih => rw [zrep_succ, ih]; rfl
    exact this _
  simp [a30, r30, h.trips.lenV, hmk]
  have hg : Ge H (({ get := (H.new (.cells true [.int .i64 T.places, .int .i64 T.layover, e, s] 4)).get, next := H.next + 9 } : Heap).set (H.next + 6) (.cells true (zrep T.trips.length [Value.bool false]) T.trips.length)) :=
    Ge.setNew (Ge.grow_le (by omega) (Ge.new _ _)) (by omega) _
  have hf := refFewest_spec h hT hl hnum hlen l.length 0 (List.replicate T.trips.length false) _ (H.next + 6) T.trips.length T.trips.length (by omega) hg (by omega) (by simp) (by rw [hz]; simp) (by simp)
  simp at hf
  refine fcall_fun hf ?_
  rintro _ B ⟨rfl, gB⟩
  simp
  exact hg.trans gB

/-- The fewest for some trips, by the reference's search, are the fewest. -/
theorem buses_eq {T : Tab} (hT : Valid T) (kind : Int) (w : List Int) : fewR T (allL T kind w) (allL T kind w) (List.replicate T.trips.length false) = (cutL (onlyT T (allL T kind w))).length := by
  have hlk : ∀ i, i < T.trips.length → ((List.range 12).map (okAll T kind w))[i]?.getD false = okAll T kind w i := fun i hi => by
    have := hT.few
    simp [(by omega : i < 12)]
  have h1 := fewR_most hT hlk rfl
  have h2 := only_cut hT hlk
  unfold allL
  omega

theorem buses_all {T : Tab} (hT : Valid T) : fewR T (allL T (-1) []) (allL T (-1) []) (List.replicate T.trips.length false) = (cutL T).length := by
  have hok : ∀ i, okAll T (-1) [] i = true := fun i => by simp [okAll]
  have h1 := fewR_most hT (f := okAll T (-1) []) (looked := upTo T.trips.length) (fun i hi => by rw [hok]; have := hT.few; simp [upTo, hi, (by omega : i < 12)]) rfl
  have h2 := cutL_size hT
  rw [most_all] at h2
  have h3 : cntN T.trips.length (okAll T (-1) []) = T.trips.length := by
    unfold cntN; rw [List.filter_eq_self.2 (fun x _ => hok x)]; simp
  unfold allL
  omega

end Go.Proofs.Ytnbkclhjpekkcaa

/-
  Truths that are compared, and contracts of Few and RunCuts.
-/
namespace Go.Proofs.Ytnbkclhjpekkcaa
open Go Go.Ab

theorem aval_eqB {t : Nat → Value} {H : Heap} {N x y : Nat} {a b : Bool} {d : Option Tmp} {ty U : TypeId} {pos : String} {af : Array Edge} {g : Option (Nat × Bool)} (hx : t x = .bool a) (hy : t y = .bool b) (h1 : x < N) (h2 : y < N) :
    aval Try.prog t H (.gen N ⟨d, .binOp .eql 4 (.tmp x) (.tmp y) U, ty, pos, af, g⟩) = some (.bool (a == b)) := by
  refine aval_gen ?_ rfl fun w => ?_
  · simp [Op.operands, flatO, hx, hy, h1, h2, flat, flat1]
  · have hg : Try.prog.eqGuardType Try.prog.depth 4 = false := by kernel_rfl
    simp only [execOp, evO, hx, hy, Sem.run_bind]
    have he := run_equalIn_bool' (P := Try.prog) w 9999 4 a b Try.underlying4
    simp [eqGuard, binOp, Op.equal, Op.maxDepth, he]

theorem aval_neB {t : Nat → Value} {H : Heap} {N x y : Nat} {a b : Bool} {d : Option Tmp} {ty U : TypeId} {pos : String} {af : Array Edge} {g : Option (Nat × Bool)} (hx : t x = .bool a) (hy : t y = .bool b) (h1 : x < N) (h2 : y < N) :
    aval Try.prog t H (.gen N ⟨d, .binOp .neq 4 (.tmp x) (.tmp y) U, ty, pos, af, g⟩) = some (.bool (!(a == b))) := by
  refine aval_gen ?_ rfl fun w => ?_
  · simp [Op.operands, flatO, hx, hy, h1, h2, flat, flat1]
  · have hg : Try.prog.eqGuardType Try.prog.depth 4 = false := by kernel_rfl
    simp only [execOp, evO, hx, hy, Sem.run_bind]
    have he := run_equalIn_bool' (P := Try.prog) w 9999 4 a b Try.underlying4
    simp [eqGuard, binOp, Op.equal, Op.maxDepth, he]

def fewT (T : Tab) : Bool := thin T && (decide (checkT T ≠ 0) || decide (T.trips.length ≤ 7))

theorem few_spec {e s : Value} {T : Tab} {H : Heap} (h : TabAt H e s T) : AFun Try.prog 24 [tabV T e s] H (fun r B => r = .bool (fewT T) ∧ Ge H B) := by
  refine AFun.mk ok24 hm (Nat.le_of_ble_eq_true rfl) ?_
  simp [a24, r24]
  refine fcall_fun (thin_spec (h.ge (Ge.new _ _))) ?_
  rintro _ B ⟨rfl, g⟩
  have G : Ge H B := Ge.trans (Ge.new _ _) g
  have b1 := g.got (n := H.next) (by simp) rfl
  simp at b1
  unfold fewT
  cases thin T
  · simp [G]
  · simp [b1]
    refine fcall_fun (fault_spec (h.ge G)) ?_
    rintro _ C ⟨rfl, gC⟩
    have c1 := gC.got (by have := g.next; simp at this; omega) b1
    by_cases hc : checkT T = 0
    · simp [hc, c1, h.trips.lenV]
      exact ⟨by omega, G.trans gC⟩
    · simp [hc]
      exact G.trans gC

end Go.Proofs.Ytnbkclhjpekkcaa

/-
  What RunCuts answers.
-/
namespace Go.Proofs.Ytnbkclhjpekkcaa
open Go Go.Ab

theorem runCuts_of {e s bv : Value} {T : Tab} {blocks : List (List Int)} {H : Heap} (h : TabAt H e s T) (hb : RowsAt H bv blocks) : AFun Try.prog 4 [tabV T e s, bv] H (fun v B => v = .bool true ∧ Ge H B) := by
  refine AFun.mk ok4 hm (Nat.le_of_ble_eq_true rfl) ?_
  have g0 : Ge H (H.new (.cells true [.int .i64 T.places, .int .i64 T.layover, e, s] 4)) := Ge.new _ _
  simp [a4, r4]
  refine fcall_fun (few_spec (h.ge g0)) ?_
  rintro _ H1 ⟨rfl, g1⟩
  have G1 := g0.trans g1
  have n1 := g1.next
  simp at n1
  have b1 := g1.got (n := H.next) (by simp) rfl
  simp at b1
  cases hrd : fewT T
  · simp
    refine fcall_fun (awake_spec _) ?_
    rintro _ B ⟨rfl, gB⟩
    simp
    exact G1.trans gB
  simp only [fewT, Bool.and_eq_true] at hrd
  obtain ⟨hth, hfw⟩ := hrd
  simp
  refine fcall_fun (short_spec (hb.ge G1)) ?_
  rintro _ H2 ⟨rfl, g2⟩
  have G2 := G1.trans g2
  have n2 := g2.next
  have b2 := g2.got (by omega) b1
  have hse : (decide (blocks.length ≤ 15) && blocks.all fun l => decide (l.length ≤ 15)) = shortL blocks := rfl
  rw [hse]
  cases hsh : shortL blocks
  · simp
    refine fcall_fun (awake_spec _) ?_
    rintro _ B ⟨rfl, gB⟩
    simp
    exact G2.trans gB
  obtain ⟨s1, s2⟩ := shortL_at hsh
  simp [b2]
  refine fcall_fun (table_spec (h.ge G2) hth) ?_
  rintro _ H3 ⟨⟨e3, s3, rfl, t3⟩, g3⟩
  have G3 := G2.trans g3
  have n3 := g3.next
  simp
  refine fcall_fun (cut_spec t3) ?_
  rintro r4 H4 ⟨g4, hbad, hcut⟩
  have G4 := G3.trans g4
  have n4 := g4.next
  have b4 := g4.got (by omega) (g3.got (by omega) b2)
  have hr4 : ∃ cv ev, r4 = .tuple #[cv, .int .i64 ev] ∧ ev = checkT T ∧ (checkT T ≠ 0 → cv = .slice none 0 0) ∧ (checkT T = 0 → RowsAt H4 cv (cutL T)) := by
    by_cases hc : checkT T = 0
    · obtain ⟨f, h1, h2⟩ := hcut hc
      exact ⟨f, 0, h1, hc.symm, fun h => absurd hc h, fun _ => h2⟩
    · exact ⟨_, _, hbad hc, rfl, fun _ => rfl, fun h => absurd h hc⟩
  obtain ⟨cv, ev, rfl, hev, hcn, hcv⟩ := hr4
  simp [b4]
  refine fcall_fun (table_spec (h.ge G4) hth) ?_
  rintro _ H5 ⟨⟨e5, s5, rfl, t5⟩, g5⟩
  have G5 := G4.trans g5
  have n5 := g5.next
  simp
  refine fcall_fun (rows_spec (hb.ge G5) (by omega) (fun l hl => by have := s2 l hl; omega)) ?_
  rintro r6 H6 ⟨hr6, g6⟩
  have G6 := G5.trans g6
  have n6 := g6.next
  simp
  refine fcall_fun (proveCut_spec (t5.ge g6) (hr6.rows (by omega))) ?_
  rintro _ H7 ⟨rfl, g7⟩
  have G7 := G6.trans g7
  have n7 := g7.next
  have b7 := g7.got (by omega) (g6.got (by omega) (g5.got (by omega) b4))
  simp [b7]
  refine fcall_fun (faultOf_spec (h.ge G7)) ?_
  rintro _ H8 ⟨rfl, g8⟩
  have G8 := G7.trans g8
  have n8 := g8.next
  have b8 := g8.got (by omega) b7
  subst hev
  by_cases hc : checkT T = 0
  case neg =>
    have := hcn hc
    subst this
    simp [hc]
    refine fcall_fun (awake_spec _) ?_
    rintro _ B ⟨rfl, gB⟩
    simp
    exact G8.trans gB
  have hT := checkT_zero.1 hc
  have hfew := hT.few
  have hcv := hcv hc
  have hgood := cutL_good hT
  have g48 := ((g5.trans g6).trans g7).trans g8
  simp [hc, b8]
  refine fcall_fun (refIsCutting_spec (h.ge (G8.grow 27)) hT (hcv.ge (g48.grow 27))) ?_
  rintro _ H9 ⟨rfl, g9⟩
  have G9 := (G8.grow 27).trans g9
  have b9 := g9.got (n := H.next) (by simp; omega) b8
  have n9 := g9.next
  simp at n9
  simp [hgood, hcv.lenV, b9]
  refine fcall_fun (all_spec (kind := -1) (w := []) (h.ge G9) (by omega) ⟨⟨by simp [slCells], fun a n c e => by cases e⟩, by simp⟩) ?_
  rintro v10 H10 ⟨hO, g10⟩
  have G10 := G9.trans g10
  have n10 := g10.next
  have b10 := g10.got (by omega) b9
  have hlen : (allL T (-1) []).length ≤ 12 := Nat.le_trans numsOf_bound hfew
  have hi10 : IntsAt H10 v10 (allL T (-1) []) := ⟨by simpa using hO.slr, by omega⟩
  simp [b10]
  have hnum : ∀ x ∈ allL T (-1) [], T.num x = true := fun x hx => by
    have := allL_ok x hx
    simp [Tab.num]; omega
  refine fcall_fun (buses_spec (h.ge G10) hT hi10 hnum hlen) ?_
  rintro _ H11 ⟨rfl, g11⟩
  have G11 := G10.trans g11
  have n11 := g11.next
  have b11 := g11.got (by omega) b10
  rw [buses_all hT]
  simp [b11]
  refine fcall_fun (refIsCutting_spec (h.ge G11) hT (hb.ge G11)) ?_
  rintro _ H12 ⟨rfl, g12⟩
  have G12 := G11.trans g12
  simp
  rw [aval_eqB (a := isCutL T blocks) (b := isCutL T blocks) (by simp [hc]) (by simp) (by decide) (by decide)]
  simp
  refine fcall_fun (awake_spec _) ?_
  rintro _ B ⟨rfl, gB⟩
  simp
  exact G12.trans gB

end Go.Proofs.Ytnbkclhjpekkcaa

/-
  A timetable with a trip more.
-/
namespace Go.Proofs.Ytnbkclhjpekkcaa

def moreT (T : Tab) (z : Tr) : Tab := { T with trips := T.trips ++ [z] }
theorem moreT_len {T : Tab} {z : Tr} : (moreT T z).trips.length = T.trips.length + 1 := by simp [moreT]
theorem moreT_may {T : Tab} {z : Tr} {i j : Nat} (hi : i < T.trips.length) (hj : j < T.trips.length) : (moreT T z).mayN i j = T.mayN i j := by
  simp only [Tab.mayN, moreT, List.getElem?_append_left hi, List.getElem?_append_left hj]
  rfl

theorem more_most {T : Tab} {z : Tr} (hfew : (moreT T z).trips.length ≤ 12) : T.most ≤ (moreT T z).most := by
  have hn := moreT_len (T := T) (z := z)
  obtain ⟨a, b, hc, hs⟩ := mostL_cov hfew (upTo (moreT T z).trips.length)
  have h := pm_most (T := T) (by omega) (a := a) (b := b) fun i j hi hj he => hc i j (by omega) (by omega) (by rw [mayL_upTo hfew (by omega) (by omega), moreT_may hi hj]; exact he)
  rw [most_all (moreT T z)]
  rw [hn, cntN_succ, cntN_succ] at hs
  rw [hn]
  omega

theorem more_most_last {T : Tab} {z : Tr} (hfew : (moreT T z).trips.length ≤ 12) (h : (∀ i, i < T.trips.length + 1 → (moreT T z).mayN i T.trips.length = false) ∨ (∀ j, j < T.trips.length + 1 → (moreT T z).mayN T.trips.length j = false)) : (moreT T z).most ≤ T.most + 1 := by
  have hn := moreT_len (T := T) (z := z)
  have hfT : T.trips.length ≤ 12 := by omega
  obtain ⟨a, b, hc, hs⟩ := mostL_cov hfT (upTo T.trips.length)
  rw [← most_all] at hs
  have hcT : ∀ i j, i < T.trips.length → j < T.trips.length → (moreT T z).mayN i j = true → a i = true ∨ b j = true := fun i j hi hj he => hc i j hi hj (by rw [mayL_upTo hfT hi hj, ← moreT_may (z := z) hi hj]; exact he)
  rcases h with h | h
  · have := pm_most hfew (a := fun i => if i < T.trips.length then a i else true) (b := fun i => if i < T.trips.length then b i else false) fun i j hi hj he => by
      rw [hn] at hi hj
      by_cases e : j = T.trips.length
      · subst e; rw [h i hi] at he; cases he
      · have hj' : j < T.trips.length := by omega
        by_cases e2 : i = T.trips.length
        · left; simp [e2]
        · have hi' : i < T.trips.length := by omega
          simpa [hi', hj'] using hcT i j hi' hj' he
    rw [hn, cntN_succ, cntN_succ] at this
    have e1 : cntN T.trips.length (fun i => if i < T.trips.length then a i else true) = cntN T.trips.length a := cntN_congr fun k hk => by simp [hk]
    have e2 : cntN T.trips.length (fun i => if i < T.trips.length then b i else false) = cntN T.trips.length b := cntN_congr fun k hk => by simp [hk]
    rw [e1, e2] at this
    simp at this
    omega
  · have := pm_most hfew (a := fun i => if i < T.trips.length then a i else false) (b := fun i => if i < T.trips.length then b i else true) fun i j hi hj he => by
      rw [hn] at hi hj
      by_cases e : i = T.trips.length
      · subst e; rw [h j hj] at he; cases he
      · have hi' : i < T.trips.length := by omega
        by_cases e2 : j = T.trips.length
        · right; simp [e2]
        · have hj' : j < T.trips.length := by omega
          simpa [hi', hj'] using hcT i j hi' hj' he
    rw [hn, cntN_succ, cntN_succ] at this
    have e1 : cntN T.trips.length (fun i => if i < T.trips.length then a i else false) = cntN T.trips.length a := cntN_congr fun k hk => by simp [hk]
    have e2 : cntN T.trips.length (fun i => if i < T.trips.length then b i else true) = cntN T.trips.length b := cntN_congr fun k hk => by simp [hk]
    rw [e1, e2] at this
    simp at this
    omega

end Go.Proofs.Ytnbkclhjpekkcaa

/-
  What RunMore answers.
-/
namespace Go.Proofs.Ytnbkclhjpekkcaa
open Go Go.Ab

def noneIs (n : Int) (row : List Int) : Bool := row.all fun x => !decide (x = n)
def firstTo (F : List (List Int)) (n : Int) (i : Nat) : Bool := (F.take i).all (noneIs n)
theorem noneIs_next {n : Int} {row : List Int} {k : Nat} (hk : k < row.length) : noneIs n (row.take (k + 1)) = (noneIs n (row.take k) && !decide (row[k] = n)) := by
  rw [noneIs, List.take_succ_eq_append_getElem hk, List.all_append]; simp [noneIs]
theorem firstTo_next {F : List (List Int)} {n : Int} {i : Nat} (hi : i < F.length) : firstTo F n (i + 1) = (firstTo F n i && noneIs n F[i]) := by
  rw [firstTo, List.take_succ_eq_append_getElem hi, List.all_append]; simp [firstTo]
theorem firstTo_may {X : Tab} {n : Nat} (hn : n < X.trips.length) (h : firstTo X.followers n X.followers.length = true) : ∀ i, i < X.trips.length → X.mayN i n = false := by
  intro i hi
  cases hm : X.mayN i n
  · rfl
  · exfalso
    have h1 := mem_followers hi hn hm
    have hl : X.followers.length = X.trips.length := by simp [Tab.followers]
    have hg : X.followers[i]?.getD [] = X.followers[i]'(by omega) := by simp [hl, hi]
    rw [hg] at h1
    simp only [firstTo, List.take_length, List.all_eq_true] at h
    have h2 := h _ (List.getElem_mem (by omega : i < X.followers.length))
    simp only [noneIs, List.all_eq_true] at h2
    have := h2 _ h1
    simp at this
theorem last_may {X : Tab} {n : Nat} (hn : n < X.trips.length) (h : X.followers[n]?.getD [] = []) : ∀ j, j < X.trips.length → X.mayN n j = false := by
  intro j hj
  cases hm : X.mayN n j
  · rfl
  · have h1 := mem_followers hn hj hm
    rw [h] at h1
    cases h1

theorem runMore_of {e s : Value} {T : Tab} {z : Tr} {H : Heap} (h : TabAt H e s T) (hlen : T.trips.length ≤ 2 ^ 20) : AFun Try.prog 12 [tabV T e s, z.val] H (fun v B => v = .bool true ∧ Ge H B) := by
  refine AFun.mk ok12 hm (Nat.le_of_ble_eq_true rfl) ?_
  have he := h.empty.one
  have hs := h.trips.one
  simp [a12, r12, Tr.val, he, hs]
  refine fapp_clone (m := H.next + 3) (xs := T.trips) (by simp) (h.trips.ge ?_) hlen (by omega) fun cap B1 hcap hB2 hBn hBk => ?_
  · refine Ge.setNew (Ge.setNew (Ge.grow_le (by omega) (Ge.setNew (((Ge.new _ _).newOf _).newOf _) (by omega) _)) (by omega) _) (by omega) _
  have k0 : B1.get H.next = .cells true [.int .i64 T.places, .int .i64 T.layover, e, s] 4 := by
    rw [hBk _ (by omega) (by omega)]; simp
  have k2 : B1.get (H.next + 2) = .cells true [.int .i64 T.places, .int .i64 T.layover, e, s] 4 := by
    rw [hBk _ (by omega) (by omega)]; simp
  have k8 : B1.get (H.next + 8) = .cells true z.cells 6 := by
    rw [hBk _ (by omega) (by omega)]; simp [Tr.cells]
  have klow : ∀ q, q < H.next → B1.get q = H.get q := fun q hq => by
    have r0 : q ≠ H.next := by omega
    have r1 : ∀ k, q ≠ H.next + k := fun k => by omega
    rw [hBk _ (by omega) (by omega)]
    simp [r0, r1]
  have hO : OwnS B1 (H.next + 4) 6 (.slice (some ⟨H.next + 6, 0, none⟩) T.trips.length cap) T.trips.length (T.trips.flatMap Tr.cells) :=
    .inr ⟨H.next + 6, cap, cap * 6, rfl, by omega, by omega, hB2, (trips_cells _).symm, hcap, Nat.le_refl _⟩
  have k1 : B1.get (H.next + 1) = .cells true z.cells 6 := by
    rw [hBk _ (by omega) (by omega)]; simp [Tr.cells]
  simp [k1, Tr.cells]
  refine fapp_ownS' (lo := H.next + 4) (len := T.trips.length) (xs := z.cells) hO ?_ rfl rfl hlen (by omega) (by omega) (by omega) fun u B2 j1 j2 j3 j4 => ?_
  · simp [slCells, rdL, k8, Tr.cells]
  have hu := j1.one
  have ou := one_cells hu
  have hk : ∀ q, q < H.next + 4 → B2.get q = B1.get q := fun q hq => by
    rw [j4 q (by omega) (fun e => by have := (hO.names e).1; omega)]
  have m0 := (hk H.next (by omega)).trans k0
  have m2 := (hk (H.next + 2) (by omega)).trans k2
  have oe := one_cells he
  have hA : ∃ A, A = B2.set (H.next + 2) (.cells true [.int .i64 T.places, .int .i64 T.layover, e, u] 4) := ⟨_, rfl⟩
  obtain ⟨A, hA⟩ := hA
  have gA : Ge H A := by
    rw [hA]
    exact Ge.setNew ⟨by omega, fun q hq => by rw [hk q (by omega), klow q hq]⟩ (by omega) _
  have nA : A.next = H.next + 12 := by rw [hA]; simp [j3, hBn]
  have a0 : A.get H.next = .cells true [.int .i64 T.places, .int .i64 T.layover, e, s] 4 := by rw [hA]; simp [m0]
  have a2 : A.get (H.next + 2) = .cells true [.int .i64 T.places, .int .i64 T.layover, e, u] 4 := by rw [hA]; simp
  have tX : TabAt A e u (moreT T z) := by
    refine ⟨h.empty.ge gA, ⟨?_, by simp [moreT]; omega⟩⟩
    have hj := (j1.keep (B := A) (by rw [hA]; simp) fun q hq => by
      have := (j1.names hq).1
      have e1 : q ≠ H.next + 2 := by omega
      rw [hA]; simp [e1]).slr
    simpa [moreT] using hj
  have hvX : tabV (moreT T z) e u = tabV T e u := rfl
  simp [m2, hu, ou, m0]
  rw [← hA]
  refine fcall_fun (readyS_spec (h.ge gA)) ?_
  rintro _ H1 ⟨rfl, g1⟩
  have G1 := gA.trans g1
  have n1 := g1.next
  have b1 := g1.got (by omega) a0
  have x1 := g1.got (by omega) a2
  cases hrd : readyT T
  · simp
    refine fcall_fun (awake_spec _) ?_
    rintro _ B ⟨rfl, gB⟩
    simp
    exact G1.trans gB
  have hrd2 : thin T = true ∧ checkT T = 0 := by simpa [readyT] using hrd
  obtain ⟨hth, hc⟩ := hrd2
  have hT := checkT_zero.1 hc
  have hrx := readyS_spec (tX.ge g1)
  rw [hvX] at hrx
  simp [x1]
  refine fcall_fun hrx ?_
  rintro _ H2 ⟨rfl, g2⟩
  have G2 := G1.trans g2
  have n2 := g2.next
  have b2 := g2.got (by omega) b1
  have x2 := g2.got (by omega) x1
  cases hrdX : readyT (moreT T z)
  · simp
    refine fcall_fun (awake_spec _) ?_
    rintro _ B ⟨rfl, gB⟩
    simp
    exact G2.trans gB
  have hrd3 : thin (moreT T z) = true ∧ checkT (moreT T z) = 0 := by simpa [readyT] using hrdX
  obtain ⟨hthX, hcX⟩ := hrd3
  have hTX := checkT_zero.1 hcX
  have tabX : ∀ B : Heap, Ge A B → AFun Try.prog 19 [.agg #[.int .i64 T.places, .int .i64 T.layover, e, u]] B (fun r B' => (∃ e' s', r = tabV (moreT T z) e' s' ∧ TabAt B' e' s' (moreT T z)) ∧ Ge B B') := fun B gB => by
    have := table_spec (tX.ge gB) hthX
    rwa [hvX] at this
  have hnX := moreT_len (T := T) (z := z)
  have hfX := hTX.few
  have q1 := more_most hfX
  have q2 := more_most_last (T := T) (z := z) hfX
  have z1 := cutL_size hT
  have z2 := cutL_size hTX
  generalize moreT T z = X at tX hvX tabX hnX hfX q1 q2 z2 hTX hcX hthX
  simp [b2]
  refine fcall_fun (table_spec (h.ge G2) hth) ?_
  rintro _ H3 ⟨⟨e3, s3, rfl, u3⟩, g3⟩
  have G3 := G2.trans g3
  simp
  refine fcall_fun (cut_spec u3) ?_
  rintro _ H4 ⟨g4, _, hcut⟩
  obtain ⟨cv, rfl, hcv⟩ := hcut hc
  have G4 := G3.trans g4
  have gA4 := ((g1.trans g2).trans g3).trans g4
  have x4 := gA4.got (by omega) a2
  simp [x4]
  refine fcall_fun (tabX _ gA4) ?_
  rintro _ H5 ⟨⟨e5, s5, rfl, u5⟩, g5⟩
  simp
  refine fcall_fun (cut_spec u5) ?_
  rintro _ H6 ⟨g6, _, hcut⟩
  obtain ⟨dv, rfl, hdv⟩ := hcut hcX
  have gA6 := (gA4.trans g5).trans g6
  have x6 := gA6.got (by omega) a2
  simp [x6]
  refine fcall_fun (tabX _ gA6) ?_
  rintro _ H7 ⟨⟨e7, s7, rfl, u7⟩, g7⟩
  simp
  refine fcall_fun (follows_spec u7) ?_
  rintro _ H8 ⟨g8, _, hfl⟩
  obtain ⟨fv, rfl, hfv⟩ := hfl hcX
  have gA8 := (gA6.trans g7).trans g8
  have x8 := gA8.got (by omega) a2
  have b8 := gA8.got (by omega) a0
  have n8 := gA8.next
  have l1 : X.followers.length = X.trips.length := by simp [Tab.followers]
  have w1 : ((cutL X).length : Int) ≤ (cutL T).length + 1 := by omega
  have w1' : ¬ ((cutL T).length : Int) + 1 < (cutL X).length := by omega
  simp [x8, hfv.lenV, hcv.lenV, hdv.lenV, tX.trips.lenV, l1, add_in (x := (cutL T).length) (y := 1) (by omega) (by omega), w1']
  have n63 : T.trips.length < 2 ^ 63 := by omega
  have tb8 : H.next ≠ H8.next := by omega
  refine floop_intro (fun z => z.d = [] ∧ Ge H8 z.H ∧ z.t 2 = .pointer (some ⟨H.next, 0, none⟩) ∧ z.t 6 = cv ∧ z.t 8 = dv ∧ z.t 10 = fv ∧ ∃ i : Nat, i ≤ X.trips.length ∧ z.t 13 = .int .i64 i ∧ z.t 12 = .bool (firstTo X.followers T.trips.length i)) (fun z => X.trips.length - (intOf (z.t 13)).toNat) ?_ ?_
  · exact ⟨rfl, by simp, by simp, by simp, by simp, by simp, 0, by simp, by simp, by simp [firstTo]⟩
  rintro ⟨t, _, C⟩ ⟨rfl, gC, t2, t6, t8, t10, i, hi, t13, t12⟩
  dsimp only at gC t2 t6 t8 t10 t13 t12
  simp [t10, t13, hfv.lenV, l1]
  refine fcond_intro (fun hci => ?_) (fun hci => ?_)
  · have hi' : i < X.trips.length := by simpa using hci
    have hil : i < X.followers.length := by omega
    have hfn := firstTo_next (F := X.followers) (n := T.trips.length) hil
    simp
    refine floop_intro (fun z => z.d = [] ∧ Ge H8 z.H ∧ z.t 2 = .pointer (some ⟨H.next, 0, none⟩) ∧ z.t 6 = cv ∧ z.t 8 = dv ∧ z.t 10 = fv ∧ z.t 13 = .int .i64 i ∧ ∃ k : Nat, k ≤ X.followers[i].length ∧ z.t 14 = .int .i64 k ∧ z.t 12 = .bool (firstTo X.followers T.trips.length i && noneIs T.trips.length (X.followers[i].take k))) (fun z => X.followers[i].length - (intOf (z.t 14)).toNat) ?_ ?_
    · exact ⟨rfl, gC, by simp [t2], by simp [t6], by simp [t8], by simp [t10], by simp [t13], 0, by simp, by simp, by simp [t12, noneIs]⟩
    rintro ⟨w, _, D⟩ ⟨rfl, gD, w2, w6, w8, w10, w13, k, hk, w14, w12⟩
    dsimp only at gD w2 w6 w8 w10 w13 w14 w12
    obtain ⟨p1, u1, e1, e2, e3⟩ := hfv.atGe gD (i := i) (by omega)
    simp [w10, w13, w14, e1, e2, e3.lenV]
    refine fcond_intro (fun hck => ?_) (fun hck => ?_)
    · have hk' : k < X.followers[i].length := by simpa using hck
      have hnn := noneIs_next (n := T.trips.length) hk'
      obtain ⟨p2, u2, e4, e5, e6⟩ := hfv.atGe (gD.grow 15) (i := i) (by omega)
      obtain ⟨q, e7, e8⟩ := (e6.ge (gD.grow 15)).at hk'
      have bD := gD.got (by omega) b8
      have k63 := e6.2
      have hbv : ∃ bv, (firstTo X.followers T.trips.length i && noneIs T.trips.length (X.followers[i].take k)) = bv := ⟨_, rfl⟩
      obtain ⟨bv, hbv⟩ := hbv
      rw [hbv] at w12
      have hnx : (firstTo X.followers T.trips.length i && noneIs T.trips.length (X.followers[i].take (k + 1))) = (bv && !decide (X.followers[i][k] = (T.trips.length : Int))) := by
        rw [hnn, ← Bool.and_assoc, hbv]
      cases bv
      · simp [w2, w10, w13, w14, w12, add_in (x := k) (y := 1) (by omega) (by omega)]
        simp only [Bool.false_and, Bool.and_eq_false_imp] at hnx
        exact ⟨⟨gD.grow 15, w6, w8, k + 1, by omega, by omega, hnx⟩, by omega⟩
      · simp [w2, w10, w13, w14, w12, bD, e4, e5, e7, e8, h.trips.lenV, add_in (x := k) (y := 1) (by omega) (by omega)]
        have hnx2 : decide (X.followers[i][k] = (T.trips.length : Int)) = (!firstTo X.followers T.trips.length i || !noneIs T.trips.length (X.followers[i].take (k + 1))) := by
          rw [← Bool.not_and, hnx]; simp
        exact ⟨⟨gD.grow 15, w6, w8, k + 1, by omega, by omega, hnx2⟩, by omega⟩
    · have hk' : k = X.followers[i].length := by simp at hck; omega
      subst hk'
      rw [List.take_length, ← hfn] at w12
      simp [w13, add_in (x := i) (y := 1) (by omega) (by omega)]
      exact ⟨⟨gD, w2, w6, w8, w10, i + 1, by omega, by omega, w12⟩, by first | omega | (simp [t13]; omega)⟩
  · have hi' : i = X.trips.length := by simp at hci; omega
    subst hi'
    obtain ⟨p1, u1, e1, e2, e3⟩ := hfv.atGe gC (i := T.trips.length) (by omega)
    have bC := gC.got (by omega) b8
    have hCA : Ge H C := gA.trans (gA8.trans gC)
    by_cases hle : (cutL T).length ≤ (cutL X).length
    · simp [t2, t6, t8, t10, bC, h.trips.lenV, e1, e2, e3.lenV, hcv.lenV, hdv.lenV, hle]
      refine fcall_fun (awake_spec _) ?_
      rintro _ B ⟨rfl, gB⟩
      simp
      exact hCA.trans gB
    have hmb : ¬ X.most ≤ T.most + 1 := by omega
    have hf1 : firstTo X.followers T.trips.length X.trips.length = false := by
      cases hf : firstTo X.followers T.trips.length X.trips.length
      · rfl
      · exact absurd (q2 (.inl fun i hi => firstTo_may (by omega) (by rw [l1]; exact hf) i (by omega))) hmb
    have hil : T.trips.length < X.followers.length := by omega
    have hf2 : ¬ X.followers[T.trips.length] = [] := fun hf => absurd (q2 (.inr fun j hj => last_may (by omega) (by simp [hil, hf]) j (by omega))) hmb
    have hf3 : ¬ ((X.followers[T.trips.length]).length : Int) = 0 := by
      have := List.length_pos_iff.2 hf2
      omega
    rw [hf1] at t12
    simp [t2, t6, t8, t10, t12, bC, h.trips.lenV, e1, e2, e3.lenV, hcv.lenV, hdv.lenV, hle, hf2]
    refine fcall_fun (awake_spec _) ?_
    rintro _ B ⟨rfl, gB⟩
    simp
    exact hCA.trans gB

end Go.Proofs.Ytnbkclhjpekkcaa

/-
  The chapter's timetable: what the statement of the names asks of it.
-/
namespace Go.Proofs.Ytnbkclhjpekkcaa
open Go Go.Ab

/-- The boxes of the chapter's timetable. -/
theorem day_boxes {H : Heap} : AFun Try.prog 42 [] H (fun r B => r = tabV dayT (.slice (some ⟨H.next + 3, 0, none⟩) 2 2) (.slice (some ⟨H.next + 4, 0, none⟩) 5 5) ∧ Ge H B ∧ B.next = H.next + 5 ∧ B.get (H.next + 1) = .cells true [.int .i64 0, .int .i64 20] 2 ∧ B.get (H.next + 2) = .cells true [.int .i64 30, .int .i64 0] 2 ∧ B.get (H.next + 3) = .cells true [.slice (some ⟨H.next + 1, 0, none⟩) 2 2, .slice (some ⟨H.next + 2, 0, none⟩) 2 2] 2 ∧ B.get (H.next + 4) = .cells true (dayT.trips.flatMap Tr.cells) 30) := by
  refine AFun.mk ok42 hm (Nat.le_of_ble_eq_true rfl) ?_
  simp [a42, r42]
  refine ⟨⟨rfl, rfl⟩, ?_, ?_⟩
  · refine Ge.setNew (((((Ge.new _ _).newOf _).newOf _).newOf _).newOf _) (by omega) _
  · simp [dayT, Tr.cells]

theorem day_most : dayT.most = 2 := by decide
theorem day_fits : fitsL dayT [40, 20, 40, 30, 10] = true := by decide
theorem day_fits2 : fitsL dayT [40, 20, 40, 30] = false := by decide
theorem day_fits3 : fitsL dayT [40, 31, 40, 30, 10] = false := by decide
theorem day_waits : [[0, 1, 3], [2], [4]].map (waitsL dayT [40, 20, 40, 30, 10]) = [[20, 10], [], []] := by decide
theorem day_bad : isCutL dayT [[0, 3], [1], [2]] = false := by decide
theorem day_bad2 : isCutL dayT [[0, 1, 3], [2]] = false := by decide
theorem day_bad3 : isCutL dayT [[0, 1, 3], [2], [4], []] = false := by decide
theorem day_left1 : leftL dayT [1, 1, 0] = [2] := by decide
theorem day_left2 : leftL dayT [2, 0, 0] = [4] := by decide
theorem day_left3 : leftL dayT [2, 1, 0] = [] := by decide
theorem day_pr1 : proves dayT [0, 1] [] 3 = true := by decide
theorem day_pr2 : proves dayT [0] [] 3 = false := by decide
theorem own_lit {A : Heap} {lo n c : Nat} {cs : List Value} (h : A.get n = .cells true cs c) (h1 : lo ≤ n) (h2 : n < A.next) (h3 : cs.length ≤ c) : OwnSl A lo (.slice (some ⟨n, 0, none⟩) cs.length cs.length) cs :=
  .inr ⟨n, cs.length, c, rfl, h1, h2, h, Nat.le_refl _, h3⟩
theorem ints_lit {A : Heap} {n c k : Nat} (xs : List Int) (hk : k = xs.length) (h : A.get n = .cells true (xs.map (.int .i64)) c) (h2 : n < A.next) (h3 : k ≤ c) (h4 : k < 2 ^ 63) : IntsAt A (.slice (some ⟨n, 0, none⟩) k k) xs := by
  subst hk
  have := own_lit h (Nat.zero_le _) h2 (by simpa using h3)
  exact ⟨by simpa using this.slr, h4⟩
theorem rows_lit {A : Heap} {lo m c k : Nat} {vs : List Value} (rows : List (List Int)) (hk : k = rows.length) (h : A.get m = .cells true vs c) (hl : vs.length = rows.length) (h1 : lo ≤ m) (h2 : m < A.next) (h3 : k ≤ c) (h5 : ∀ r ∈ rows, r.length < 2 ^ 63)
    (h4 : ∀ k (hk : k < rows.length), ∃ n c, vs[k]? = some (.slice (some ⟨n, 0, none⟩) rows[k].length rows[k].length) ∧ A.get n = .cells true (rows[k].map (.int .i64)) c ∧ lo ≤ n ∧ n < A.next ∧ rows[k].length ≤ c ∧ n ≠ m) : RowsO A lo (.slice (some ⟨m, 0, none⟩) k k) rows where
  ex := by
    subst hk
    refine ⟨vs, ?_, hl, fun k hk => ?_⟩
    · have := own_lit h h1 h2 (by omega)
      rw [hl] at this
      exact this
    · obtain ⟨n, c', k1, k2, k3, k4, k5, k6⟩ := h4 k hk
      refine ⟨_, k1, ?_, fun q hq => ?_⟩
      · have := own_lit k2 k3 k4 (by simpa using k5)
        simpa using this
      · simp [slName] at hq ⊢
        omega
  short := h5

def oddT : Tab := { dayT with trips := [⟨0, 1, 100, 0, 60, 0⟩, ⟨1, 0, 165, 20, 30, 0⟩, ⟨0, 1, 165, 40, 60, 0⟩, ⟨0, 1, 200, 30, 30, 0⟩, ⟨1, 0, 240, 10, 20, 1⟩] }
def loopT : Tab := { dayT with empty := [[0, 20], [30, 1]] }
def manyT : Tab := { dayT with trips := List.replicate 13 noTr }
def emptyT : Tab := ⟨0, 0, [], []⟩
theorem odd_check : checkT oddT = 1 := by decide
theorem loop_check : checkT loopT = 1 := by decide
theorem many_check : checkT manyT = 3 := by decide
theorem empty_check : checkT emptyT = 1 := by decide
theorem odd_wr : wrL (dayT.trips.flatMap Tr.cells) 3 [.int .i64 0] = oddT.trips.flatMap Tr.cells := rfl
theorem day_len : 4 ≤ (dayT.trips.flatMap Tr.cells).length := by decide

def noneT : Tab := { places := 1, layover := 0, empty := [[0]], trips := [] }
theorem none_check : checkT noneT = 0 := by decide
theorem none_cut : cutL noneT = [] := by decide
theorem none_cutting : isCutL noneT [] = true := by decide
theorem none_pr : proves noneT [] [] 0 = true := by decide

end Go.Proofs.Ytnbkclhjpekkcaa

/-
  What RunNames answers: the examples, and errors.
-/
namespace Go.Proofs.Ytnbkclhjpekkcaa
open Go Go.Ab

set_option maxRecDepth 20000 in
theorem runNames_of {H : Heap} : AFun Try.prog 8 [] H (fun v B => v = .bool true ∧ Ge H B) := by
  refine AFun.mk ok8 hm (Nat.le_of_ble_eq_true rfl) ?_
  simp [a8, r8]
  refine fcall_fun day_spec ?_
  rintro _ H1 ⟨⟨e1, s1, rfl, t1⟩, g1⟩
  simp
  refine fcall_fun (coverAll_spec t1) ?_
  rintro _ H2 ⟨g2, _, hcov⟩
  obtain ⟨va, vb, a, b, rfl, hva, hvb, hok, hab⟩ := hcov day_check
  clear hcov
  rw [day_most] at hab
  obtain ⟨la, lb⟩ := isCovL_len (by decide) hok
  have G2 := g1.trans g2
  simp
  refine fcall_fun day_spec ?_
  rintro _ H3 ⟨⟨e3, s3, rfl, t3⟩, g3⟩
  have G3 := G2.trans g3
  simp
  refine fcall_fun (play_spec (lo := H3.next) (times := [40, 20, 40, 30, 10]) (blocks := [[0, 1, 3], [2], [4]]) (t3.ge ?_) (rows_lit (c := 3) (vs := [.slice (some ⟨H3.next, 0, none⟩) 3 3, .slice (some ⟨H3.next + 1, 0, none⟩) 1 1, .slice (some ⟨H3.next + 2, 0, none⟩) 1 1]) _ rfl (by simp) rfl (by omega) (by simp) (by omega) (by simp) ?_) (by simp) (by simp) (ints_lit (c := 5) _ rfl (by simp) (by simp) (by omega) (by omega))) ?_
  · exact ((((Ge.new _ _).newOf _).newOf _).newOf _).newOf _
  · intro k hk
    match k, hk with
    | 0, _ => exact ⟨H3.next, 3, rfl, by simp, by omega, by simp, by simp, by omega⟩
    | 1, _ => exact ⟨H3.next + 1, 1, rfl, by simp, by omega, by simp, by simp, by omega⟩
    | 2, _ => exact ⟨H3.next + 2, 1, rfl, by simp, by omega, by simp, by simp, by omega⟩
  rintro _ H4 ⟨g4, _, _, hp⟩
  obtain ⟨w, rfl, hw⟩ := hp day_check (by rw [day_cutting, day_fits]; rfl)
  clear hp
  rw [day_waits] at hw
  have G4 := (((((G3.newOf _).newOf _).newOf _).newOf _).newOf _).trans g4
  simp
  refine fcall_fun day_spec ?_
  rintro _ H5 ⟨⟨e5, s5, rfl, t5⟩, g5⟩
  have G5 := G4.trans g5
  simp
  refine fcall_fun (lacks_spec (fleet := [1, 1, 0]) (t5.ge (Ge.new _ _)) (ints_lit (c := 3) _ rfl (by simp) (by simp) (by omega) (by omega))) ?_
  rintro _ H6 ⟨g6, _, _, hl⟩
  obtain ⟨l5, rfl, hl5⟩ := hl day_check (by decide)
  clear hl
  rw [day_left1] at hl5
  have G6 := (G5.newOf _).trans g6
  simp
  refine fcall_fun day_spec ?_
  rintro _ H7 ⟨⟨e7, s7, rfl, t7⟩, g7⟩
  have G7 := G6.trans g7
  simp
  refine fcall_fun (lacks_spec (fleet := [2, 0, 0]) (t7.ge (Ge.new _ _)) (ints_lit (c := 3) _ rfl (by simp) (by simp) (by omega) (by omega))) ?_
  rintro _ H8 ⟨g8, _, _, hl⟩
  obtain ⟨l7, rfl, hl7⟩ := hl day_check (by decide)
  clear hl
  rw [day_left2] at hl7
  have G8 := (G7.newOf _).trans g8
  simp
  refine fcall_fun day_spec ?_
  rintro _ H9 ⟨⟨e9, s9, rfl, t9⟩, g9⟩
  have G9 := G8.trans g9
  simp
  refine fcall_fun (lacks_spec (fleet := [2, 1, 0]) (t9.ge (Ge.new _ _)) (ints_lit (c := 3) _ rfl (by simp) (by simp) (by omega) (by omega))) ?_
  rintro _ H10 ⟨g10, _, _, hl⟩
  obtain ⟨l9, rfl, hl9⟩ := hl day_check (by decide)
  clear hl
  rw [day_left3] at hl9
  have G10 := (G9.newOf _).trans g10
  simp
  have hn5 : (dayT.trips.length : Int) = 5 := rfl
  have pr3 : proves dayT a b 3 = true := by simp only [proves, day_check, hok, hn5, decide_true, Bool.true_and, decide_eq_true_eq]; omega
  have pr4 : proves dayT a b 4 = false := by simp only [proves, day_check, hok, hn5, decide_true, Bool.true_and, decide_eq_false_iff_not]; omega
  have q210 : Ge H2 H10 := (((((((g3.newOf _).newOf _).newOf _).newOf _).newOf _).trans g4).trans g5).newOf _ |>.trans g6 |>.trans g7 |>.newOf _ |>.trans g8 |>.trans g9 |>.newOf _ |>.trans g10
  have g0 : Ge H10 { get := H10.get, next := H10.next + 84 } := Ge.more _ _
  refine fcall_fun day_spec ?_
  rintro _ K1 ⟨⟨f1, z1, rfl, u1⟩, k1⟩
  have y1 := g0.trans k1
  simp
  refine fcall_fun (proveCover_spec (a := a) (b := b) (buses := 3) u1 (hva.ge (q210.trans y1)) (hvb.ge (q210.trans y1))) ?_
  rintro _ K2 ⟨rfl, k2⟩
  have y2 := y1.trans k2
  simp [pr3]
  refine fcall_fun day_spec ?_
  rintro _ K3 ⟨⟨f3, z3, rfl, u3⟩, k3⟩
  have y3 := y2.trans k3
  simp
  refine fcall_fun (proveCover_spec (a := a) (b := b) (buses := 4) u3 (hva.ge (q210.trans y3)) (hvb.ge (q210.trans y3))) ?_
  rintro _ K4 ⟨rfl, k4⟩
  have y4 := y3.trans k4
  simp [pr4]
  have x4 := k4.next
  have x40 := ((k1.trans k2).trans (k3.trans k4)).next
  simp at x40
  have hS1 : Ge H10 (K4.set (H10.next + 17) (.cells true [.int .i64 0, .int .i64 1] 2)) := Ge.setNew y4 (by omega) _
  refine fcall_fun day_spec ?_
  rintro _ K5 ⟨⟨f5, z5, rfl, u5⟩, k5⟩
  have y5 := hS1.trans k5
  have w5 := k5.next
  have d5 := k5.got (n := H10.next + 17) (by simp; omega) (by simp; rfl)
  simp
  refine fcall_fun (proveCover_spec (a := [0, 1]) (b := []) (buses := 3) u5 (ints_lit (c := 2) _ rfl (by simpa using d5) (by simp at w5; omega) (by omega) (by omega)) ⟨⟨by simp [slCells], fun a n c e => by cases e⟩, by simp⟩) ?_
  rintro _ K6 ⟨rfl, k6⟩
  have y6 := y5.trans k6
  simp [day_pr1]
  have w6 := k6.next
  simp at w5
  have hS2 : Ge H10 (K6.set (H10.next + 23) (.cells true [.int .i64 0] 1)) := Ge.setNew y6 (by omega) _
  refine fcall_fun day_spec ?_
  rintro _ K7 ⟨⟨f7, z7, rfl, u7⟩, k7⟩
  have y7 := hS2.trans k7
  have w7 := k7.next
  have d7 := k7.got (n := H10.next + 23) (by simp; omega) (by simp; rfl)
  simp at w7
  simp
  refine fcall_fun (proveCover_spec (a := [0]) (b := []) (buses := 3) u7 (ints_lit (c := 1) _ rfl (by simpa using d7) (by omega) (by omega) (by omega)) ⟨⟨by simp [slCells], fun a n c e => by cases e⟩, by simp⟩) ?_
  rintro _ K8 ⟨rfl, k8⟩
  have y8 := y7.trans k8
  have w8 := k8.next
  have hwl := hw.lenV
  have q410 : Ge H4 H10 := ((g5.newOf _).trans g6).trans g7 |>.newOf _ |>.trans g8 |>.trans g9 |>.newOf _ |>.trans g10
  obtain ⟨p0, o0, i0, c0, r0⟩ := hw.atAll (i := 0) (by decide)
  obtain ⟨p1, o1, i1, c1, r1⟩ := hw.atAll (i := 1) (by decide)
  obtain ⟨p2, o2, i2, c2, r2⟩ := hw.atAll (i := 2) (by decide)
  have m1 := r1.lenV
  have m2 := r2.lenV
  simp at hwl i0 i1 i2 m1 m2
  simp [day_pr2, hwl, i0, c0 _ (q410.trans y8)]
  have hS3 : Ge H10 (K8.set (H10.next + 39) (.cells true [.int .i64 20, .int .i64 10] 2)) := Ge.setNew y8 (by omega) _
  refine fcall_fun (ints_spec (xs := [20, 10]) (ys := [20, 10]) (r0.ge (q410.trans hS3)) (ints_lit (c := 2) _ rfl (by simp) (by simp; omega) (by omega) (by omega))) ?_
  rintro _ K9 ⟨rfl, k9⟩
  have y9 := hS3.trans k9
  have w9 := k9.next
  simp at w9
  simp [i1, i2, c1 _ (q410.trans y9), c2 _ (q410.trans y9), m1, m2, add_in (x := 0) (y := 0) (by omega) (by omega)]
  have q610 : Ge H6 H10 := (g7.newOf _).trans g8 |>.trans g9 |>.newOf _ |>.trans g10
  have q810 : Ge H8 H10 := (g9.newOf _).trans g10
  have hS4 : Ge H10 (K9.set (H10.next + 61) (.cells true [.int .i64 2] 1)) := Ge.setNew y9 (by omega) _
  refine fcall_fun (ints_spec (xs := [2]) (ys := [2]) (hl5.ge (q610.trans hS4)) (ints_lit (c := 1) _ rfl (by simp) (by simp; omega) (by omega) (by omega))) ?_
  rintro _ K10 ⟨rfl, k10⟩
  have y10 := hS4.trans k10
  have w10 := k10.next
  simp at w10
  simp
  have hS5 : Ge H10 (K10.set (H10.next + 71) (.cells true [.int .i64 4] 1)) := Ge.setNew y10 (by omega) _
  refine fcall_fun (ints_spec (xs := [4]) (ys := [4]) (hl7.ge (q810.trans hS5)) (ints_lit (c := 1) _ rfl (by simp) (by simp; omega) (by omega) (by omega))) ?_
  rintro _ K11 ⟨rfl, k11⟩
  have y11 := hS5.trans k11
  have w11 := k11.next
  simp at w11
  have m9 := hl9.lenV
  simp at m9
  have G11 := G10.trans y11
  simp [m9]
  refine fcall_fun day_spec ?_
  rintro _ K12 ⟨⟨f12, z12, rfl, u12⟩, k12⟩
  have G12 := G11.trans k12
  simp
  refine fcall_fun (play_spec (lo := K12.next) (times := [40, 20, 40, 30, 10]) (blocks := [[0, 3], [1], [2]]) (u12.ge ?_) (rows_lit (c := 3) (vs := [.slice (some ⟨K12.next, 0, none⟩) 2 2, .slice (some ⟨K12.next + 1, 0, none⟩) 1 1, .slice (some ⟨K12.next + 2, 0, none⟩) 1 1]) _ rfl (by simp) rfl (by omega) (by simp) (by omega) (by simp) ?_) (by simp) (by simp) (ints_lit (c := 5) _ rfl (by simp) (by simp) (by omega) (by omega))) ?_
  · exact ((((Ge.new _ _).newOf _).newOf _).newOf _).newOf _
  · intro k hk
    match k, hk with
    | 0, _ => exact ⟨K12.next, 2, rfl, by simp, by omega, by simp, by simp, by omega⟩
    | 1, _ => exact ⟨K12.next + 1, 1, rfl, by simp, by omega, by simp, by simp, by omega⟩
    | 2, _ => exact ⟨K12.next + 2, 1, rfl, by simp, by omega, by simp, by simp, by omega⟩
  rintro _ K13 ⟨k13, _, hp, _⟩
  obtain rfl := hp day_check (by rw [day_bad]; rfl)
  clear hp
  have G13 := (((((G12.newOf _).newOf _).newOf _).newOf _).newOf _).trans k13
  simp
  refine fcall_fun day_spec ?_
  rintro _ K14 ⟨⟨f14, z14, rfl, u14⟩, k14⟩
  have G14 := G13.trans k14
  simp
  refine fcall_fun (play_spec (lo := K14.next) (times := [40, 20, 40, 30]) (blocks := [[0, 1, 3], [2], [4]]) (u14.ge ?_) (rows_lit (c := 3) (vs := [.slice (some ⟨K14.next, 0, none⟩) 3 3, .slice (some ⟨K14.next + 1, 0, none⟩) 1 1, .slice (some ⟨K14.next + 2, 0, none⟩) 1 1]) _ rfl (by simp) rfl (by omega) (by simp) (by omega) (by simp) ?_) (by simp) (by simp) (ints_lit (c := 4) _ rfl (by simp) (by simp) (by omega) (by omega))) ?_
  · exact ((((Ge.new _ _).newOf _).newOf _).newOf _).newOf _
  · intro k hk
    match k, hk with
    | 0, _ => exact ⟨K14.next, 3, rfl, by simp, by omega, by simp, by simp, by omega⟩
    | 1, _ => exact ⟨K14.next + 1, 1, rfl, by simp, by omega, by simp, by simp, by omega⟩
    | 2, _ => exact ⟨K14.next + 2, 1, rfl, by simp, by omega, by simp, by simp, by omega⟩
  rintro _ K15 ⟨k15, _, hp, _⟩
  obtain rfl := hp day_check (by rw [day_fits2]; simp)
  clear hp
  have G15 := (((((G14.newOf _).newOf _).newOf _).newOf _).newOf _).trans k15
  simp
  refine fcall_fun day_spec ?_
  rintro _ K16 ⟨⟨f16, z16, rfl, u16⟩, k16⟩
  have G16 := G15.trans k16
  simp
  refine fcall_fun (play_spec (lo := K16.next) (times := [40, 31, 40, 30, 10]) (blocks := [[0, 1, 3], [2], [4]]) (u16.ge ?_) (rows_lit (c := 3) (vs := [.slice (some ⟨K16.next, 0, none⟩) 3 3, .slice (some ⟨K16.next + 1, 0, none⟩) 1 1, .slice (some ⟨K16.next + 2, 0, none⟩) 1 1]) _ rfl (by simp) rfl (by omega) (by simp) (by omega) (by simp) ?_) (by simp) (by simp) (ints_lit (c := 5) _ rfl (by simp) (by simp) (by omega) (by omega))) ?_
  · exact ((((Ge.new _ _).newOf _).newOf _).newOf _).newOf _
  · intro k hk
    match k, hk with
    | 0, _ => exact ⟨K16.next, 3, rfl, by simp, by omega, by simp, by simp, by omega⟩
    | 1, _ => exact ⟨K16.next + 1, 1, rfl, by simp, by omega, by simp, by simp, by omega⟩
    | 2, _ => exact ⟨K16.next + 2, 1, rfl, by simp, by omega, by simp, by simp, by omega⟩
  rintro _ K17 ⟨k17, _, hp, _⟩
  obtain rfl := hp day_check (by rw [day_fits3]; simp)
  clear hp
  have G17 := (((((G16.newOf _).newOf _).newOf _).newOf _).newOf _).trans k17
  simp
  refine fcall_fun day_spec ?_
  rintro _ K18 ⟨⟨f18, z18, rfl, u18⟩, k18⟩
  have G18 := G17.trans k18
  simp
  refine fcall_fun (lacks_spec (fleet := [1, 1]) (u18.ge (Ge.new _ _)) (ints_lit (c := 2) _ rfl (by simp) (by simp) (by omega) (by omega))) ?_
  rintro _ K19 ⟨k19, _, hl, _⟩
  obtain rfl := hl day_check (by decide)
  clear hl
  have G19 := (G18.newOf _).trans k19
  simp
  refine fcall_fun day_spec ?_
  rintro _ K20 ⟨⟨f20, z20, rfl, u20⟩, k20⟩
  have G20 := G19.trans k20
  simp
  refine fcall_fun (lacks_spec (fleet := [1, 13, 0]) (u20.ge (Ge.new _ _)) (ints_lit (c := 3) _ rfl (by simp) (by simp) (by omega) (by omega))) ?_
  rintro _ K21 ⟨k21, _, hl, _⟩
  obtain rfl := hl day_check (by decide)
  clear hl
  have G21 := (G20.newOf _).trans k21
  simp
  refine fcall_fun day_spec ?_
  rintro _ K22 ⟨⟨f22, z22, rfl, u22⟩, k22⟩
  have G22 := G21.trans k22
  simp
  refine fcall_fun day_boxes ?_
  rintro _ K23 ⟨rfl, k23, v23, a1, a2, a3, a4⟩
  have G23 := G22.trans k23
  simp
  refine fcall_fun day_boxes ?_
  rintro _ K24 ⟨rfl, k24, v24, b1, b2, b3, b4⟩
  have G24 := G23.trans k24
  have of := u22.empty.one
  have oz := u22.trips.one
  have off := one_cells of
  have ozz := one_cells oz
  have hmk : ∀ n, mksV n 6 48 [.int .i64 0, .int .i64 0, .int .i64 0, .int .i64 0, .int .i64 0, .int .i64 0] (.int .i64 13) (.int .i64 13) = some (.cells true ((List.replicate 13 noTr).flatMap Tr.cells) 78, .slice (some ⟨n, 0, none⟩) 13 13) := fun n => mksV_at (m := 13) (by decide) (by decide)
  generalize hmz : (List.replicate 13 noTr).flatMap Tr.cells = mz at hmk
  have hX : ∀ (sz q len : Nat) (k : Nat), k < len → islV sz (.slice (some ⟨q, 0, none⟩) len len) (.int .i64 k) = some (.pointer (some ⟨q, k * sz, none⟩)) := fun sz q len k hk => by
    rw [islV_in (by omega) (by omega)]; simp
  have hX0 := fun q => hX 6 q 5 0 (by omega)
  have hX1 := fun q => hX 1 q 2 1 (by omega)
  simp at hX0 hX1
  have c4 := k24.got (n := K22.next + 4) (by omega) a4
  have c1 := k24.got (n := K22.next + 1) (by omega) a1
  have c2 := k24.got (n := K22.next + 2) (by omega) a2
  have c3 := k24.got (n := K22.next + 3) (by omega) a3
  rw [v23] at v24 b1 b2 b3 b4
  have owr := odd_wr
  have olen := day_len
  have hdc : ∃ dc, dc = dayT.trips.flatMap Tr.cells := ⟨_, rfl⟩
  obtain ⟨dc, hdc⟩ := hdc
  rw [← hdc] at c4 b4 owr olen
  have hoc : ∃ oc, oc = oddT.trips.flatMap Tr.cells := ⟨_, rfl⟩
  obtain ⟨oc, hoc⟩ := hoc
  rw [← hoc] at owr
  simp [of, oz, hmk, v23, v24, hX0, hX1, c4, b3, b2, owr, olen]
  generalize hE : Heap.set _ (K22.next + 16) _ = E
  have nE : E.next = K22.next + 17 := by rw [← hE]; simp [v24]
  have E10 : E.get (K22.next + 10) = .cells true [.int .i64 dayT.places, .int .i64 dayT.layover, f22, .slice (some ⟨K22.next + 13, 0, none⟩) 13 13] 4 := by rw [← hE]; simp [v24]
  have E11 : E.get (K22.next + 11) = .cells true [.int .i64 dayT.places, .int .i64 dayT.layover, .slice (some ⟨K22.next + 3, 0, none⟩) 2 2, .slice (some ⟨K22.next + 4, 0, none⟩) 5 5] 4 := by rw [← hE]; simp [v24]
  have E12 : E.get (K22.next + 12) = .cells true [.int .i64 dayT.places, .int .i64 dayT.layover, .slice (some ⟨K22.next + 8, 0, none⟩) 2 2, .slice (some ⟨K22.next + 9, 0, none⟩) 5 5] 4 := by rw [← hE]; simp [v24]
  have E16 : E.get (K22.next + 16) = .cells true [.int .i64 1, .int .i64 0, .slice (some ⟨K22.next + 15, 0, none⟩) 1 1, .slice none 0 0] 4 := by rw [← hE]; simp [v24]
  have E1 : E.get (K22.next + 1) = .cells true [.int .i64 0, .int .i64 20] 2 := by rw [← hE]; simp [v24, c1]
  have E2 : E.get (K22.next + 2) = .cells true [.int .i64 30, .int .i64 0] 2 := by rw [← hE]; simp [v24, c2]
  have E3 : E.get (K22.next + 3) = .cells true [.slice (some ⟨K22.next + 1, 0, none⟩) 2 2, .slice (some ⟨K22.next + 2, 0, none⟩) 2 2] 2 := by rw [← hE]; simp [v24, c3]
  have E4 : E.get (K22.next + 4) = .cells true oc 30 := by rw [← hE]; simp [v24]
  have E6 : E.get (K22.next + 6) = .cells true [.int .i64 0, .int .i64 20] 2 := by rw [← hE]; simp [v24, b1]
  have E7 : E.get (K22.next + 7) = .cells true [.int .i64 30, .int .i64 1] 2 := by rw [← hE]; simp [v24]
  have E8 : E.get (K22.next + 8) = .cells true [.slice (some ⟨K22.next + 6, 0, none⟩) 2 2, .slice (some ⟨K22.next + 7, 0, none⟩) 2 2] 2 := by rw [← hE]; simp [v24, b3]
  have E9 : E.get (K22.next + 9) = .cells true dc 30 := by rw [← hE]; simp [v24, b4]
  have E13 : E.get (K22.next + 13) = .cells true mz 78 := by rw [← hE]; simp [v24]
  have E14 : E.get (K22.next + 14) = .cells true [.int .i64 0] 1 := by rw [← hE]; simp [v24]
  have E15 : E.get (K22.next + 15) = .cells true [.slice (some ⟨K22.next + 14, 0, none⟩) 1 1] 1 := by rw [← hE]; simp [v24]
  have gE : Ge K22 E := by
    refine ⟨by omega, fun q hq => ?_⟩
    have r : ∀ k, q ≠ K22.next + k := fun k => by omega
    rw [← hE]
    simp [r, v24]
    rw [(k23.trans k24).get q hq]
  clear hE
  have GE := G22.trans gE
  have nilR : ∀ A : Heap, RowsAt A (.slice none 0 0) [] := fun A => ⟨[], ⟨by simp [slCells], fun a n c e => by cases e⟩, by simp, fun i hi => by simp at hi⟩
  have nilI : ∀ A : Heap, IntsAt A (.slice none 0 0) [] := fun A => ⟨⟨by simp [slCells], fun a n c e => by cases e⟩, by simp⟩
  have nilT : ∀ A : Heap, TripsAt A (.slice none 0 0) [] := fun A => ⟨⟨by simp [slCells], fun a n c e => by cases e⟩, by simp⟩
  have tN : TabAt E (.slice (some ⟨K22.next + 15, 0, none⟩) 1 1) (.slice none 0 0) noneT := by
    refine ⟨(rows_lit (lo := 0) (c := 1) (vs := [.slice (some ⟨K22.next + 14, 0, none⟩) 1 1]) [[0]] rfl E15 rfl (by omega) (by omega) (by decide) (by simp) fun k hk => ?_).rows (by simp), nilT _⟩
    match k, hk with
    | 0, _ => exact ⟨K22.next + 14, 1, rfl, E14, by omega, by omega, by simp, by omega⟩
  have tO : TabAt E (.slice (some ⟨K22.next + 3, 0, none⟩) 2 2) (.slice (some ⟨K22.next + 4, 0, none⟩) 5 5) oddT := by
    refine ⟨(rows_lit (lo := 0) (c := 2) (vs := [.slice (some ⟨K22.next + 1, 0, none⟩) 2 2, .slice (some ⟨K22.next + 2, 0, none⟩) 2 2]) [[0, 20], [30, 0]] rfl E3 rfl (by omega) (by omega) (by decide) (by simp) fun k hk => ?_).rows (by simp), ⟨⟨?_, ?_⟩, by decide⟩⟩
    · match k, hk with
      | 0, _ => exact ⟨K22.next + 1, 2, rfl, E1, by omega, by omega, by simp, by omega⟩
      | 1, _ => exact ⟨K22.next + 2, 2, rfl, E2, by omega, by omega, by simp, by omega⟩
    · rw [hoc] at E4
      simp only [slCells, E4]
      rfl
    · intro a n c e; simp at e; rw [← e.1]; simp; omega
  have tL : TabAt E (.slice (some ⟨K22.next + 8, 0, none⟩) 2 2) (.slice (some ⟨K22.next + 9, 0, none⟩) 5 5) loopT := by
    refine ⟨(rows_lit (lo := 0) (c := 2) (vs := [.slice (some ⟨K22.next + 6, 0, none⟩) 2 2, .slice (some ⟨K22.next + 7, 0, none⟩) 2 2]) [[0, 20], [30, 1]] rfl E8 rfl (by omega) (by omega) (by decide) (by simp) fun k hk => ?_).rows (by simp), ⟨⟨?_, ?_⟩, by decide⟩⟩
    · match k, hk with
      | 0, _ => exact ⟨K22.next + 6, 2, rfl, E6, by omega, by omega, by simp, by omega⟩
      | 1, _ => exact ⟨K22.next + 7, 2, rfl, E7, by omega, by omega, by simp, by omega⟩
    · rw [hdc] at E9
      simp only [slCells, E9]
      rfl
    · intro a n c e; simp at e; rw [← e.1]; simp; omega
  have tM : TabAt E f22 (.slice (some ⟨K22.next + 13, 0, none⟩) 13 13) manyT := by
    refine ⟨u22.empty.ge gE, ⟨⟨?_, ?_⟩, by decide⟩⟩
    · rw [← hmz] at E13
      simp only [slCells, E13]
      rfl
    · intro a n c e; simp at e; rw [← e.1]; simp; omega
  refine fcall_fun (cut_spec tN) ?_
  rintro _ L1 ⟨j1, _, hcut⟩
  obtain ⟨nv, rfl, hnv⟩ := hcut none_check
  clear hcut
  rw [none_cut] at hnv
  have mn := hnv.lenV
  simp at mn
  have v1 := j1.next
  have L10 := j1.got (by omega) E10
  have L11 := j1.got (by omega) E11
  have L12 := j1.got (by omega) E12
  have L16 := j1.got (by omega) E16
  simp [L10]
  have q1 := j1
  refine fcall_fun (checkTable_spec (T := manyT) (tM.ge q1)) ?_
  rintro _ L2 ⟨rfl, j2⟩
  have q2 := q1.trans j2
  have v2 := q2.next
  have P2 := q2.got (by omega) E11
  simp [many_check, P2]
  refine fcall_fun (checkTable_spec (T := oddT) (tO.ge q2)) ?_
  rintro _ L3 ⟨rfl, j3⟩
  have q3 := q2.trans j3
  have v3 := q3.next
  have P3 := q3.got (by omega) E12
  simp [odd_check, P3]
  refine fcall_fun (checkTable_spec (T := loopT) (tL.ge q3)) ?_
  rintro _ L4 ⟨rfl, j4⟩
  have q4 := q3.trans j4
  have v4 := q4.next
  have P4 := q4.got (by omega) E16
  simp [loop_check, P4]
  refine fcall_fun (checkTable_spec (T := emptyT) (e := .slice none 0 0) (s := .slice none 0 0) ⟨nilR _, nilT _⟩) ?_
  rintro _ L5 ⟨rfl, j5⟩
  have q5 := q4.trans j5
  have v5 := q5.next
  have P5 := q5.got (by omega) E16
  simp [empty_check, mn, P5]
  refine fcall_fun (proveCut_spec (T := noneT) (blocks := []) (tN.ge q5) (nilR _)) ?_
  rintro _ L6 ⟨rfl, j6⟩
  have q6 := q5.trans j6
  have P6 := q6.got (by omega) E16
  simp [none_check, none_cutting, P6]
  refine fcall_fun (proveCover_spec (T := noneT) (a := []) (b := []) (buses := 0) (tN.ge q6) (nilI _) (nilI _)) ?_
  rintro _ L7 ⟨rfl, j7⟩
  have q7 := q6.trans j7
  simp [none_pr]
  refine fcall_fun day_spec ?_
  rintro _ L8 ⟨⟨f8, z8, rfl, u8⟩, j8⟩
  have q8 := q7.trans j8
  simp
  refine fcall_fun (proveCut_spec (blocks := [[0, 1, 3], [2]]) (u8.ge ?_) ((rows_lit (lo := 0) (m := L8.next + 2) (c := 2) (vs := [.slice (some ⟨L8.next, 0, none⟩) 3 3, .slice (some ⟨L8.next + 1, 0, none⟩) 1 1]) [[0, 1, 3], [2]] rfl (by simp) rfl (by omega) (by simp) (by decide) (by simp) ?_).rows (by simp))) ?_
  · exact ((Ge.new _ _).newOf _).newOf _
  · intro k hk
    match k, hk with
    | 0, _ => exact ⟨L8.next, 3, rfl, by simp, by omega, by simp, by simp, by omega⟩
    | 1, _ => exact ⟨L8.next + 1, 1, rfl, by simp, by omega, by simp, by simp, by omega⟩
  rintro _ L9 ⟨rfl, j9⟩
  have q9 := (((q8.newOf _).newOf _).newOf _).trans j9
  simp [day_bad2]
  refine fcall_fun day_spec ?_
  rintro _ L10' ⟨⟨f10, z10, rfl, u10⟩, j10⟩
  have q10 := q9.trans j10
  simp
  refine fcall_fun (proveCut_spec (blocks := [[0, 1, 3], [2], [4], []]) (u10.ge ?_) ((rows_lit (lo := 0) (m := L10'.next + 4) (c := 4) (vs := [.slice (some ⟨L10'.next, 0, none⟩) 3 3, .slice (some ⟨L10'.next + 1, 0, none⟩) 1 1, .slice (some ⟨L10'.next + 2, 0, none⟩) 1 1, .slice (some ⟨L10'.next + 3, 0, none⟩) 0 0]) [[0, 1, 3], [2], [4], []] rfl (by simp) rfl (by omega) (by simp) (by decide) (by simp) ?_).rows (by simp))) ?_
  · exact ((((Ge.new _ _).newOf _).newOf _).newOf _).newOf _
  · intro k hk
    match k, hk with
    | 0, _ => exact ⟨L10'.next, 3, rfl, by simp, by omega, by simp, by simp, by omega⟩
    | 1, _ => exact ⟨L10'.next + 1, 1, rfl, by simp, by omega, by simp, by simp, by omega⟩
    | 2, _ => exact ⟨L10'.next + 2, 1, rfl, by simp, by omega, by simp, by simp, by omega⟩
    | 3, _ => exact ⟨L10'.next + 3, 0, rfl, by simp, by omega, by simp, by simp, by omega⟩
  rintro _ L11' ⟨rfl, j11⟩
  have q11 := (((((q10.newOf _).newOf _).newOf _).newOf _).newOf _).trans j11
  simp [day_bad3]
  refine fcall_fun (awake_spec _) ?_
  rintro _ B ⟨rfl, gB⟩
  simp
  exact (GE.trans q11).trans gB

end Go.Proofs.Ytnbkclhjpekkcaa
