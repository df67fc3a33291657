/-
  Joined texts of a calculus of abstract memory, and of contracts of the program's functions.
-/
import Derived.Test.YtnbkclhjpekkcaaJ12
/-
  The contract of the reference's search for the fewest.
-/
namespace Go.Proofs.Ytnbkclhjpekkcaa
open Go Go.Ab

theorem wr_one {cs : List Value} {i : Nat} {v : Value} (h : i < cs.length) : wrL cs i [v] = cs.set i v := by
  rw [List.set_eq_take_append_cons_drop, if_pos h]; rfl

theorem refFewest_spec {H0 : Heap} {e s lv : Value} {T : Tab} {l : List Int} (h : TabAt H0 e s T) (hT : Valid T) (hl : IntsAt H0 lv l) (hnum : ∀ x ∈ l, T.num x = true) (hlen : l.length ≤ 12) :
    ∀ (d from_ : Nat) (tk : List Bool) (H : Heap) (tn cap c : Nat), from_ + d = l.length → Ge H0 H → H0.next ≤ tn → tn < H.next → H.get tn = .cells true (tk.map .bool) c → tk.length = T.trips.length →
      AFun Try.prog 58 [tabV T e s, lv, .int .i64 from_, .slice (some ⟨tn, 0, none⟩) T.trips.length cap] H (fun r B => r = .int .i64 (fewR T l (l.drop from_) tk) ∧ Ge H B) := by
  intro d
  have hfew := hT.few
  have hbnd := fewR_le (T := T) (l := l)
  induction d with
  | zero =>
    intro from_ tk H tn cap c hfd g htn htn2 htk htl
    have hff : from_ = l.length := by omega
    subst hff
    refine AFun.mk ok58 hm (Nat.le_of_ble_eq_true rfl) ?_
    simp [a58, r58, hl.lenV]
    simp [fewR]
  | succ d ih =>
    intro from_ tk H tn cap c hfd g htn htn2 htk htl
    have hf : from_ < l.length := by omega
    refine AFun.mk ok58 hm (Nat.le_of_ble_eq_true rfl) ?_
    have hne : ¬ (from_ : Int) = l.length := by omega
    have q0 : H.next ≠ tn := by omega
    have g0 : Ge H (H.new (.cells true [.int .i64 T.places, .int .i64 T.layover, e, s] 4)) := Ge.new _ _
    simp [a58, r58, hl.lenV, hne, add_in (x := from_) (y := 1) (by omega) (by omega)]
    have ih1 := ih (from_ + 1) tk _ tn cap c (by omega) (g.trans g0) htn (by simp; omega) (by simp [Ne.symm q0, htk]) htl
    simp at ih1
    refine fcall_fun ih1 ?_
    rintro _ B ⟨rfl, gB⟩
    have G1 := g0.trans gB
    have n1 := G1.next
    have nB := gB.next
    simp at nB
    have bB := gB.got (n := H.next) (by simp) rfl
    simp at bB
    have kB := G1.got htn2 htk
    have hb1 := hbnd (l.drop (from_ + 1)) tk
    have hdl : (l.drop (from_ + 1)).length = l.length - (from_ + 1) := by simp
    have hdrop : l.drop from_ = l[from_] :: l.drop (from_ + 1) := List.drop_eq_getElem_cons hf
    simp [add_in (x := 1) (y := fewR T l (l.drop (from_ + 1)) tk) (by omega) (by omega)]
    refine floop_intro (fun z => z.d = [] ∧ Ge H z.H ∧ H.next + 1 ≤ z.H.next ∧ z.t 1 = lv ∧ z.t 2 = .int .i64 from_ ∧ z.t 3 = .slice (some ⟨tn, 0, none⟩) T.trips.length cap ∧ z.t 4 = .pointer (some ⟨H.next, 0, none⟩) ∧ z.H.get H.next = .cells true [.int .i64 T.places, .int .i64 T.layover, e, s] 4 ∧
      ∃ m : Nat, m ≤ l.length ∧ z.t 10 = .int .i64 m ∧ z.t 9 = .int .i64 ((l.take m).foldl (fewStep T l[from_] tk (fewR T l (l.drop (from_ + 1)))) (1 + fewR T l (l.drop (from_ + 1)) tk) : Nat)) (fun z => l.length - (intOf (z.t 10)).toNat) ?_ ?_
    · exact ⟨rfl, G1, by omega, by simp, by simp, by simp, by simp, bB, 0, by simp, by simp, by simp⟩
    rintro ⟨t, _, A⟩ ⟨rfl, gA, hn, t1, t2, t3, t4, b0, m, hm', t10, t9⟩
    dsimp only at gA hn t1 t2 t3 t4 b0 t10 t9
    simp [t1, t10, hl.lenV]
    refine fcond_intro (fun hc => ?_) (fun hc => ?_)
    · have hmm : m < l.length := by simpa using hc
      have kA := gA.got htn2 htk
      have hnx := hnum _ (List.getElem_mem hmm)
      have hnf := hnum _ (List.getElem_mem hf)
      obtain ⟨x0, x1, x2⟩ := num_lt hfew hnx
      obtain ⟨q, e1, e2⟩ := (hl.ge (g.trans gA)).at hmm
      obtain ⟨q', e3, e4⟩ := (hl.ge ((g.trans gA).grow 14)).at hf
      have hI : islV 1 (.slice (some ⟨tn, 0, none⟩) T.trips.length cap) (.int .i64 l[m]) = some (.pointer (some ⟨tn, l[m].toNat, none⟩)) := by
        rw [islV_in (by omega) (by omega)]; simp
      have hnext : (l.take (m + 1)).foldl (fewStep T l[from_] tk (fewR T l (l.drop (from_ + 1)))) (1 + fewR T l (l.drop (from_ + 1)) tk) = fewStep T l[from_] tk (fewR T l (l.drop (from_ + 1))) ((l.take m).foldl (fewStep T l[from_] tk (fewR T l (l.drop (from_ + 1)))) (1 + fewR T l (l.drop (from_ + 1)) tk)) l[m] := by
        rw [List.take_succ_eq_append_getElem hmm, List.foldl_append]; rfl
      have hble : (l.take m).foldl (fewStep T l[from_] tk (fewR T l (l.drop (from_ + 1)))) (1 + fewR T l (l.drop (from_ + 1)) tk) ≤ 1 + fewR T l (l.drop (from_ + 1)) tk := fold_le
      generalize (l.take m).foldl (fewStep T l[from_] tk (fewR T l (l.drop (from_ + 1)))) (1 + fewR T l (l.drop (from_ + 1)) tk) = best at t9 hnext hble
      have hlt : l[m].toNat < tk.length := by omega
      have hat : tk[l[m].toNat]?.getD false = tk[l[m].toNat] := by simp [hlt]
      have hset : (tk.set l[m].toNat true).set l[m].toNat tk[l[m].toNat] = tk := by rw [List.set_set, List.set_getElem_self]
      have hst : fewStep T l[from_] tk (fewR T l (l.drop (from_ + 1))) best l[m] = if (!tk[l[m].toNat] && T.mayN l[from_].toNat l[m].toNat) = true then min best (fewR T l (l.drop (from_ + 1)) (tk.set l[m].toNat true)) else best := by
        simp only [fewStep, hat]
      rw [hst] at hnext
      clear hst
      have hnext2 : ∃ b2, (l.take (m + 1)).foldl (fewStep T l[from_] tk (fewR T l (l.drop (from_ + 1)))) (1 + fewR T l (l.drop (from_ + 1)) tk) = b2 := ⟨_, rfl⟩
      obtain ⟨b2, hb2⟩ := hnext2
      rw [hb2] at hnext
      simp [t1, t2, t3, t4, t10, e1, e2, e3, e4, hI, kA, hlt, b0]
      generalize hv : tk[l[m].toNat] = v at hnext hset
      cases v
      case true =>
        simp at hnext
        simp [t10, add_in (x := m) (y := 1) (by omega) (by omega)]
        exact ⟨⟨gA.grow 14, by omega, t1, t2, t3, t4, b0, m + 1, by omega, by omega, by rw [hb2, hnext]; exact t9⟩, by omega⟩
      simp [t1, t2, t4, b0, e3, e4]
      refine fcall_fun (refMay_specI (h.ge ((g.trans gA).grow 14)) hT hnf hnx) ?_
      rintro _ C ⟨rfl, gC⟩
      have GC := (Ge.more A 14).trans gC
      have nC := gC.next
      simp at nC
      have gHC := gA.trans GC
      have c0 := GC.got (by omega) b0
      have kC := GC.got (by omega) kA
      have qt : H.next ≠ tn := q0
      cases hmay : T.mayN l[from_].toNat l[m].toNat
      · simp [hmay] at hnext
        simp [t10, add_in (x := m) (y := 1) (by omega) (by omega)]
        exact ⟨⟨gHC, by omega, t1, t2, t3, t4, c0, m + 1, by omega, by omega, by rw [hb2, hnext]; exact t9⟩, by omega⟩
      simp [hmay] at hnext
      have hwr1 : wrL (tk.map Value.bool) l[m].toNat [.bool true] = (tk.set l[m].toNat true).map .bool := by
        rw [wr_one (by simpa using hlt), List.map_set]
      have ih2 := ih (from_ + 1) (tk.set l[m].toNat true) (C.set tn (.cells true ((tk.set l[m].toNat true).map .bool) c)) tn cap c (by omega) (Ge.setNew (g.trans gHC) htn _) htn (by simp; omega) (by simp) (by simpa using htl)
      have hlt' : l[m].toNat + 1 ≤ tk.length := hlt
      simp [t1, t2, t3, t4, t9, hI, kC, c0, qt, hwr1, hlt', add_in (x := from_) (y := 1) (by omega) (by omega)]
      simp at ih2
      refine fcall_fun ih2 ?_
      rintro _ D ⟨rfl, gD⟩
      have nD := gD.next
      simp at nD
      have d0 := gD.got (n := H.next) (by simp; omega) (by simp [qt]; exact c0)
      have dt : D.get tn = .cells true ((tk.set l[m].toNat true).map .bool) c := gD.got (n := tn) (by simp; omega) (by simp)
      have hwr2 : wrL ((tk.set l[m].toNat true).map Value.bool) l[m].toNat [.bool false] = tk.map .bool := by
        rw [wr_one (by simpa using hlt), ← List.map_set, hset]
      simp
      rw [aval_min (k := .i64) (m := (best : Int)) (n := (fewR T l (l.drop (from_ + 1)) (tk.set l[m].toNat true) : Int)) (by simp) (by simp) (by decide) (by decide)]
      have hlt2 : l[m].toNat + 1 ≤ ((tk.set l[m].toNat true).map Value.bool).length := by simp; omega
      have hmin : min (best : Int) (fewR T l (l.drop (from_ + 1)) (tk.set l[m].toNat true) : Int) = (b2 : Int) := by rw [hnext]; omega
      rw [hmin]
      have hcs : ∃ cs, cs = (tk.set l[m].toNat true).map Value.bool := ⟨_, rfl⟩
      obtain ⟨cs, hcs⟩ := hcs
      rw [← hcs] at dt hwr2 hlt2
      simp [t3, t10, hI, dt, hlt2, hwr2, add_in (x := m) (y := 1) (by omega) (by omega)]
      refine ⟨⟨⟨by simp; omega, fun q hq => ?_⟩, by omega, t1, t2, t4, by rw [if_neg qt]; exact d0, m + 1, by omega, by omega, by rw [hb2]⟩, by omega⟩
      by_cases eq : q = tn
      · subst eq; simp [htk]
      · have nC := gHC.next
        simp [eq]
        rw [gD.get q (by simp; omega)]
        simp [eq]
        exact gHC.get q hq
    · have hmm : m = l.length := by simp at hc; omega
      subst hmm
      rw [List.take_length] at t9
      simp [t9]
      rw [hdrop]
      exact ⟨rfl, gA⟩

theorem buses_spec {H : Heap} {e s lv : Value} {T : Tab} {l : List Int} (h : TabAt H e s T) (hT : Valid T) (hl : IntsAt H lv l) (hnum : ∀ x ∈ l, T.num x = true) (hlen : l.length ≤ 12) : AFun Try.prog 30 [tabV T e s, lv] H (fun r B => r = .int .i64 (fewR T l l (List.replicate T.trips.length false)) ∧ Ge H B) := by
  refine AFun.mk ok30 hm (Nat.le_of_ble_eq_true rfl) ?_
  have hfew := hT.few
  have hmk : ∀ n, mksV n 1 1 [.bool false] (.int .i64 T.trips.length) (.int .i64 T.trips.length) = some _ := fun n => mksV_at (by omega) (by omega)
  have hz : zrep T.trips.length [Value.bool false] = (List.replicate T.trips.length false).map .bool := by
    have : ∀ n, zrep n [Value.bool false] = (List.replicate n false).map .bool := by
      intro n; induction n with
      | zero => rfl
      | succ n ih => rw [zrep_succ, ih]; rfl
    exact this _
  simp [a30, r30, h.trips.lenV, hmk]
  have hg : Ge H (({ get := (H.new (.cells true [.int .i64 T.places, .int .i64 T.layover, e, s] 4)).get, next := H.next + 9 } : Heap).set (H.next + 6) (.cells true (zrep T.trips.length [Value.bool false]) T.trips.length)) :=
    Ge.setNew (Ge.grow_le (by omega) (Ge.new _ _)) (by omega) _
  have hf := refFewest_spec h hT hl hnum hlen l.length 0 (List.replicate T.trips.length false) _ (H.next + 6) T.trips.length T.trips.length (by omega) hg (by omega) (by simp) (by rw [hz]; simp) (by simp)
  simp at hf
  refine fcall_fun hf ?_
  rintro _ B ⟨rfl, gB⟩
  simp
  exact hg.trans gB

/-- The fewest for some trips, by the reference's search, are the fewest. -/
theorem buses_eq {T : Tab} (hT : Valid T) (kind : Int) (w : List Int) : fewR T (allL T kind w) (allL T kind w) (List.replicate T.trips.length false) = (cutL (onlyT T (allL T kind w))).length := by
  have hlk : ∀ i, i < T.trips.length → ((List.range 12).map (okAll T kind w))[i]?.getD false = okAll T kind w i := fun i hi => by
    have := hT.few
    simp [(by omega : i < 12)]
  have h1 := fewR_most hT hlk rfl
  have h2 := only_cut hT hlk
  unfold allL
  omega

theorem buses_all {T : Tab} (hT : Valid T) : fewR T (allL T (-1) []) (allL T (-1) []) (List.replicate T.trips.length false) = (cutL T).length := by
  have hok : ∀ i, okAll T (-1) [] i = true := fun i => by simp [okAll]
  have h1 := fewR_most hT (f := okAll T (-1) []) (looked := upTo T.trips.length) (fun i hi => by rw [hok]; have := hT.few; simp [upTo, hi, (by omega : i < 12)]) rfl
  have h2 := cutL_size hT
  rw [most_all] at h2
  have h3 : cntN T.trips.length (okAll T (-1) []) = T.trips.length := by
    unfold cntN; rw [List.filter_eq_self.2 (fun x _ => hok x)]; simp
  unfold allL
  omega

end Go.Proofs.Ytnbkclhjpekkcaa

/-
  Truths that are compared, and contracts of Few and RunCuts.
-/
namespace Go.Proofs.Ytnbkclhjpekkcaa
open Go Go.Ab

theorem aval_eqB {t : Nat → Value} {H : Heap} {N x y : Nat} {a b : Bool} {d : Option Tmp} {ty U : TypeId} {pos : String} {af : Array Edge} {g : Option (Nat × Bool)} (hx : t x = .bool a) (hy : t y = .bool b) (h1 : x < N) (h2 : y < N) :
    aval Try.prog t H (.gen N ⟨d, .binOp .eql 4 (.tmp x) (.tmp y) U, ty, pos, af, g⟩) = some (.bool (a == b)) := by
  refine aval_gen ?_ rfl fun w => ?_
  · simp [Op.operands, flatO, hx, hy, h1, h2, flat, flat1]
  · have hg : Try.prog.eqGuardType Try.prog.depth 4 = false := by kernel_rfl
    simp only [execOp, evO, hx, hy, Sem.run_bind]
    have he := run_equalIn_bool' (P := Try.prog) w 9999 4 a b Try.underlying4
    simp [eqGuard, binOp, Op.equal, Op.maxDepth, he]

theorem aval_neB {t : Nat → Value} {H : Heap} {N x y : Nat} {a b : Bool} {d : Option Tmp} {ty U : TypeId} {pos : String} {af : Array Edge} {g : Option (Nat × Bool)} (hx : t x = .bool a) (hy : t y = .bool b) (h1 : x < N) (h2 : y < N) :
    aval Try.prog t H (.gen N ⟨d, .binOp .neq 4 (.tmp x) (.tmp y) U, ty, pos, af, g⟩) = some (.bool (!(a == b))) := by
  refine aval_gen ?_ rfl fun w => ?_
  · simp [Op.operands, flatO, hx, hy, h1, h2, flat, flat1]
  · have hg : Try.prog.eqGuardType Try.prog.depth 4 = false := by kernel_rfl
    simp only [execOp, evO, hx, hy, Sem.run_bind]
    have he := run_equalIn_bool' (P := Try.prog) w 9999 4 a b Try.underlying4
    simp [eqGuard, binOp, Op.equal, Op.maxDepth, he]

def fewT (T : Tab) : Bool := thin T && (decide (checkT T ≠ 0) || decide (T.trips.length ≤ 7))

theorem few_spec {e s : Value} {T : Tab} {H : Heap} (h : TabAt H e s T) : AFun Try.prog 24 [tabV T e s] H (fun r B => r = .bool (fewT T) ∧ Ge H B) := by
  refine AFun.mk ok24 hm (Nat.le_of_ble_eq_true rfl) ?_
  simp [a24, r24]
  refine fcall_fun (thin_spec (h.ge (Ge.new _ _))) ?_
  rintro _ B ⟨rfl, g⟩
  have G : Ge H B := Ge.trans (Ge.new _ _) g
  have b1 := g.got (n := H.next) (by simp) rfl
  simp at b1
  unfold fewT
  cases thin T
  · simp [G]
  · simp [b1]
    refine fcall_fun (fault_spec (h.ge G)) ?_
    rintro _ C ⟨rfl, gC⟩
    have c1 := gC.got (by have := g.next; simp at this; omega) b1
    by_cases hc : checkT T = 0
    · simp [hc, c1, h.trips.lenV]
      exact ⟨by omega, G.trans gC⟩
    · simp [hc]
      exact G.trans gC

end Go.Proofs.Ytnbkclhjpekkcaa

/-
  What RunCuts answers.
-/
namespace Go.Proofs.Ytnbkclhjpekkcaa
open Go Go.Ab

theorem runCuts_of {e s bv : Value} {T : Tab} {blocks : List (List Int)} {H : Heap} (h : TabAt H e s T) (hb : RowsAt H bv blocks) : AFun Try.prog 4 [tabV T e s, bv] H (fun v B => v = .bool true ∧ Ge H B) := by
  refine AFun.mk ok4 hm (Nat.le_of_ble_eq_true rfl) ?_
  have g0 : Ge H (H.new (.cells true [.int .i64 T.places, .int .i64 T.layover, e, s] 4)) := Ge.new _ _
  simp [a4, r4]
  refine fcall_fun (few_spec (h.ge g0)) ?_
  rintro _ H1 ⟨rfl, g1⟩
  have G1 := g0.trans g1
  have n1 := g1.next
  simp at n1
  have b1 := g1.got (n := H.next) (by simp) rfl
  simp at b1
  cases hrd : fewT T
  · simp
    refine fcall_fun (awake_spec _) ?_
    rintro _ B ⟨rfl, gB⟩
    simp
    exact G1.trans gB
  simp only [fewT, Bool.and_eq_true] at hrd
  obtain ⟨hth, hfw⟩ := hrd
  simp
  refine fcall_fun (short_spec (hb.ge G1)) ?_
  rintro _ H2 ⟨rfl, g2⟩
  have G2 := G1.trans g2
  have n2 := g2.next
  have b2 := g2.got (by omega) b1
  have hse : (decide (blocks.length ≤ 15) && blocks.all fun l => decide (l.length ≤ 15)) = shortL blocks := rfl
  rw [hse]
  cases hsh : shortL blocks
  · simp
    refine fcall_fun (awake_spec _) ?_
    rintro _ B ⟨rfl, gB⟩
    simp
    exact G2.trans gB
  obtain ⟨s1, s2⟩ := shortL_at hsh
  simp [b2]
  refine fcall_fun (table_spec (h.ge G2) hth) ?_
  rintro _ H3 ⟨⟨e3, s3, rfl, t3⟩, g3⟩
  have G3 := G2.trans g3
  have n3 := g3.next
  simp
  refine fcall_fun (cut_spec t3) ?_
  rintro r4 H4 ⟨g4, hbad, hcut⟩
  have G4 := G3.trans g4
  have n4 := g4.next
  have b4 := g4.got (by omega) (g3.got (by omega) b2)
  have hr4 : ∃ cv ev, r4 = .tuple #[cv, .int .i64 ev] ∧ ev = checkT T ∧ (checkT T ≠ 0 → cv = .slice none 0 0) ∧ (checkT T = 0 → RowsAt H4 cv (cutL T)) := by
    by_cases hc : checkT T = 0
    · obtain ⟨f, h1, h2⟩ := hcut hc
      exact ⟨f, 0, h1, hc.symm, fun h => absurd hc h, fun _ => h2⟩
    · exact ⟨_, _, hbad hc, rfl, fun _ => rfl, fun h => absurd h hc⟩
  obtain ⟨cv, ev, rfl, hev, hcn, hcv⟩ := hr4
  simp [b4]
  refine fcall_fun (table_spec (h.ge G4) hth) ?_
  rintro _ H5 ⟨⟨e5, s5, rfl, t5⟩, g5⟩
  have G5 := G4.trans g5
  have n5 := g5.next
  simp
  refine fcall_fun (rows_spec (hb.ge G5) (by omega) (fun l hl => by have := s2 l hl; omega)) ?_
  rintro r6 H6 ⟨hr6, g6⟩
  have G6 := G5.trans g6
  have n6 := g6.next
  simp
  refine fcall_fun (proveCut_spec (t5.ge g6) (hr6.rows (by omega))) ?_
  rintro _ H7 ⟨rfl, g7⟩
  have G7 := G6.trans g7
  have n7 := g7.next
  have b7 := g7.got (by omega) (g6.got (by omega) (g5.got (by omega) b4))
  simp [b7]
  refine fcall_fun (faultOf_spec (h.ge G7)) ?_
  rintro _ H8 ⟨rfl, g8⟩
  have G8 := G7.trans g8
  have n8 := g8.next
  have b8 := g8.got (by omega) b7
  subst hev
  by_cases hc : checkT T = 0
  case neg =>
    have := hcn hc
    subst this
    simp [hc]
    refine fcall_fun (awake_spec _) ?_
    rintro _ B ⟨rfl, gB⟩
    simp
    exact G8.trans gB
  have hT := checkT_zero.1 hc
  have hfew := hT.few
  have hcv := hcv hc
  have hgood := cutL_good hT
  have g48 := ((g5.trans g6).trans g7).trans g8
  simp [hc, b8]
  refine fcall_fun (refIsCutting_spec (h.ge (G8.grow 27)) hT (hcv.ge (g48.grow 27))) ?_
  rintro _ H9 ⟨rfl, g9⟩
  have G9 := (G8.grow 27).trans g9
  have b9 := g9.got (n := H.next) (by simp; omega) b8
  have n9 := g9.next
  simp at n9
  simp [hgood, hcv.lenV, b9]
  refine fcall_fun (all_spec (kind := -1) (w := []) (h.ge G9) (by omega) ⟨⟨by simp [slCells], fun a n c e => by cases e⟩, by simp⟩) ?_
  rintro v10 H10 ⟨hO, g10⟩
  have G10 := G9.trans g10
  have n10 := g10.next
  have b10 := g10.got (by omega) b9
  have hlen : (allL T (-1) []).length ≤ 12 := Nat.le_trans numsOf_bound hfew
  have hi10 : IntsAt H10 v10 (allL T (-1) []) := ⟨by simpa using hO.slr, by omega⟩
  simp [b10]
  have hnum : ∀ x ∈ allL T (-1) [], T.num x = true := fun x hx => by
    have := allL_ok x hx
    simp [Tab.num]; omega
  refine fcall_fun (buses_spec (h.ge G10) hT hi10 hnum hlen) ?_
  rintro _ H11 ⟨rfl, g11⟩
  have G11 := G10.trans g11
  have n11 := g11.next
  have b11 := g11.got (by omega) b10
  rw [buses_all hT]
  simp [b11]
  refine fcall_fun (refIsCutting_spec (h.ge G11) hT (hb.ge G11)) ?_
  rintro _ H12 ⟨rfl, g12⟩
  have G12 := G11.trans g12
  simp
  rw [aval_eqB (a := isCutL T blocks) (b := isCutL T blocks) (by simp [hc]) (by simp) (by decide) (by decide)]
  simp
  refine fcall_fun (awake_spec _) ?_
  rintro _ B ⟨rfl, gB⟩
  simp
  exact G12.trans gB

end Go.Proofs.Ytnbkclhjpekkcaa

/-
  Contracts of the reference's checks of a list that rises and of a cover.
-/
namespace Go.Proofs.Ytnbkclhjpekkcaa
open Go Go.Ab

theorem risAt_eq {T : Tab} {xs : List Int} {i : Nat} (hi : i < xs.length) : risAt T xs i = (T.num xs[i] && !(decide (0 < i) && decide (xs[i] ≤ xs[i - 1]?.getD 0))) := by
  simp only [risAt, prevOf, hi, List.getElem?_eq_getElem, Option.getD_some]
  by_cases e : i = 0
  · subst e
    simp only [Tab.num, if_true]
    by_cases h0 : (0 : Int) ≤ xs[0]
    · have : (-1 : Int) < xs[0] := by omega
      simp [h0, this]
    · simp only [h0, decide_false, Bool.false_and, Bool.and_false]
  · have h0 : 0 < i := by omega
    simp only [if_neg e, h0, decide_true, Bool.true_and]
    by_cases hl : xs[i - 1]?.getD 0 < xs[i]
    · have : ¬ xs[i] ≤ xs[i - 1]?.getD 0 := by omega
      simp [hl, this]
    · have : xs[i] ≤ xs[i - 1]?.getD 0 := by omega
      simp [hl, this]

theorem refRising_spec {e s v : Value} {T : Tab} {xs : List Int} {H : Heap} (h : TabAt H e s T) (hv : IntsAt H v xs) : AFun Try.prog 46 [tabV T e s, v] H (fun r B => r = .bool (risL T xs) ∧ Ge H B) := by
  refine AFun.mk ok46 hm (Nat.le_of_ble_eq_true rfl) ?_
  have h63 := hv.2
  have t63 := h.trips.2
  simp [a46, r46]
  refine floop_intro (fun z => z.d = [] ∧ Ge H z.H ∧ H.next < z.H.next ∧ z.t 1 = v ∧ z.t 2 = .pointer (some ⟨H.next, 0, none⟩) ∧ z.H.get H.next = .cells true [.int .i64 T.places, .int .i64 T.layover, e, s] 4 ∧ ∃ i : Nat, i ≤ xs.length ∧ z.t 5 = .int .i64 i ∧ ∀ k, k < i → risAt T xs k = true) (fun z => xs.length - (intOf (z.t 5)).toNat) ?_ ?_
  · exact ⟨rfl, by simp, by simp, by simp, by simp, by simp, 0, by simp, by simp, fun k hk => by omega⟩
  rintro ⟨t, _, A⟩ ⟨rfl, g, hn, t1, t2, b0, i, hi, t5, hall⟩
  dsimp only at g hn t1 t2 b0 t5
  simp [t1, t5, hv.lenV]
  refine fcond_intro (fun hc => ?_) (fun hc => ?_)
  · have hi' : i < xs.length := by simpa using hc
    obtain ⟨q, e1, e2⟩ := (hv.ge (g.grow 26)).at hi'
    have hra := risAt_eq (T := T) hi'
    simp [t1, t2, t5, b0, e1, e2, h.trips.lenV, sub_in (x := T.trips.length) (y := 1) (by omega) (by omega)]
    refine fcall_fun (in_spec _ _ _ _) ?_
    rintro _ _ ⟨rfl, rfl⟩
    have hnm : T.num xs[i] = (decide (0 ≤ xs[i]) && decide (xs[i] ≤ T.trips.length - 1)) := rfl
    rw [← hnm]
    cases hx : T.num xs[i]
    · simp
      rw [hx] at hra
      exact ⟨all_range_false hi' (by simpa using hra), g.grow 26⟩
    rw [hx] at hra
    by_cases h0 : i = 0
    · subst h0
      simp [t5, add_in (x := 0) (y := 1) (by omega) (by omega)]
      simp at hra
      exact ⟨⟨g.grow 26, by omega, t1, t2, b0, 1, by omega, by omega, fun k hk => by obtain rfl : k = 0 := by omega
                                                                                     exact hra⟩, by omega⟩
    · have h0' : 0 < i := by omega
      obtain ⟨q2, e3, e4⟩ := (hv.ge (g.grow 26)).at (i := i - 1) (by omega)
      have hc1 : ((i - 1 : Nat) : Int) = (i : Int) - 1 := by omega
      rw [hc1] at e3
      have hg : xs[i - 1]?.getD 0 = xs[i - 1] := by simp [(by omega : i - 1 < xs.length)]
      rw [hg] at hra
      simp [t1, t5, h0', e1, e2, e3, e4, sub_in (x := i) (y := 1) (by omega) (by omega)]
      simp [h0'] at hra
      refine fcond_intro (fun hle => ?_) (fun hle => ?_)
      · have hle' : xs[i] ≤ xs[i - 1] := by simpa using hle
        simp
        rw [decide_eq_true hle'] at hra
        exact ⟨all_range_false hi' (by simpa using hra), g.grow 26⟩
      · have hle' : ¬ xs[i] ≤ xs[i - 1] := by simpa using hle
        simp [t5, add_in (x := i) (y := 1) (by omega) (by omega)]
        rw [decide_eq_false hle'] at hra
        simp at hra
        exact ⟨⟨g.grow 26, by omega, t1, t2, b0, i + 1, by omega, by omega, lt_succ_all hall hra⟩, by omega⟩
  · have hi' : i = xs.length := by simp at hc; omega
    subst hi'
    have : risL T xs = true := by simpa [risL] using hall
    simp [this, g]

end Go.Proofs.Ytnbkclhjpekkcaa

/-
  The contract of the reference's check of a cover.
-/
namespace Go.Proofs.Ytnbkclhjpekkcaa
open Go Go.Ab

theorem pairOk_eq {T : Tab} (hfew : T.trips.length ≤ 12) {a b : List Int} (ha : risL T a = true) (hb : risL T b = true) {i j : Nat} (hi : i < T.trips.length) (hj : j < T.trips.length) : pairOk T a b i j = !((T.mayN i j && !decide ((i : Int) ∈ a)) && !decide ((j : Int) ∈ b)) := by
  have hbd : ∀ xs : List Int, risL T xs = true → ∀ x ∈ xs, 0 ≤ x ∧ x < 12 := fun xs hr x hx => by
    have := num_lt hfew ((risL_ok hfew hr).2 x hx); omega
  simp only [pairOk, pickL_at (hbd a ha) (Nat.lt_of_lt_of_le hi hfew), pickL_at (hbd b hb) (Nat.lt_of_lt_of_le hj hfew)]
  cases T.mayN i j <;> cases decide ((i : Int) ∈ a) <;> cases decide ((j : Int) ∈ b) <;> rfl

theorem refIsCover_spec {e s va vb : Value} {T : Tab} {a b : List Int} {H : Heap} (h : TabAt H e s T) (hT : Valid T) (ha : IntsAt H va a) (hb : IntsAt H vb b) : AFun Try.prog 35 [tabV T e s, va, vb] H (fun r B => r = .bool (isCovL T a b) ∧ Ge H B) := by
  refine AFun.mk ok35 hm (Nat.le_of_ble_eq_true rfl) ?_
  have hfew := hT.few
  have g0 : Ge H (H.new (.cells true [.int .i64 T.places, .int .i64 T.layover, e, s] 4)) := Ge.new _ _
  simp [a35, r35]
  refine fcall_fun (refRising_spec (h.ge g0) (ha.ge g0)) ?_
  rintro _ H1 ⟨rfl, g1⟩
  have G1 := g0.trans g1
  have n1 := g1.next
  simp at n1
  have b1 := g1.got (n := H.next) (by simp) rfl
  simp at b1
  cases hra : risL T a
  · simp [isCovL, hra, G1]
  simp [b1]
  refine fcall_fun (refRising_spec (h.ge G1) (hb.ge G1)) ?_
  rintro _ H2 ⟨rfl, g2⟩
  have G2 := G1.trans g2
  have n2 := g2.next
  have b2 := g2.got (by omega) b1
  cases hrb : risL T b
  · simp [isCovL, hra, hrb, G2]
  have hcv : isCovL T a b = allPairs T a b := by simp [isCovL, hra, hrb]
  rw [hcv]
  simp
  refine floop_intro (fun z => z.d = [] ∧ Ge H z.H ∧ H.next < z.H.next ∧ z.t 1 = va ∧ z.t 2 = vb ∧ z.t 3 = .pointer (some ⟨H.next, 0, none⟩) ∧ z.H.get H.next = .cells true [.int .i64 T.places, .int .i64 T.layover, e, s] 4 ∧ ∃ i : Nat, i ≤ T.trips.length ∧ z.t 7 = .int .i64 i ∧ ∀ i' j', i' < T.trips.length → j' < T.trips.length → i' < i → pairOk T a b i' j' = true) (fun z => T.trips.length - (intOf (z.t 7)).toNat) ?_ ?_
  · exact ⟨rfl, G2, by simp; omega, by simp, by simp, by simp, b2, 0, by simp, by simp, fun _ _ _ _ h => by omega⟩
  rintro ⟨t, _, A⟩ ⟨rfl, g, hn, t1, t2, t3, b0, i, hi, t7, hall⟩
  dsimp only at g hn t1 t2 t3 b0 t7
  simp [t3, t7, b0, h.trips.lenV]
  refine fcond_intro (fun hc => ?_) (fun hc => ?_)
  · have hi' : i < T.trips.length := by simpa using hc
    simp
    refine floop_intro (fun z => z.d = [] ∧ Ge H z.H ∧ H.next < z.H.next ∧ z.t 1 = va ∧ z.t 2 = vb ∧ z.t 3 = .pointer (some ⟨H.next, 0, none⟩) ∧ z.t 7 = .int .i64 i ∧ z.H.get H.next = .cells true [.int .i64 T.places, .int .i64 T.layover, e, s] 4 ∧ ∃ j : Nat, j ≤ T.trips.length ∧ z.t 8 = .int .i64 j ∧ ∀ j', j' < j → pairOk T a b i j' = true) (fun z => T.trips.length - (intOf (z.t 8)).toNat) ?_ ?_
    · exact ⟨rfl, g, hn, by simp [t1], by simp [t2], by simp [t3], by simp [t7], b0, 0, by simp, by simp, fun _ h => by omega⟩
    rintro ⟨u, _, C⟩ ⟨rfl, gC, hnC, u1, u2, u3, u7, c0, j, hj, u8, hrow⟩
    dsimp only at gC hnC u1 u2 u3 u7 c0 u8
    simp [u3, u8, c0, h.trips.lenV]
    refine fcond_intro (fun hc => ?_) (fun hc => ?_)
    · have hj' : j < T.trips.length := by simpa using hc
      have hpo := pairOk_eq hfew hra hrb hi' hj'
      simp [u3, u7, u8, c0]
      have hmay := refMay_spec (h.ge gC) hT hi' hj'
      rw [refMay_eq hT hi' hj'] at hmay
      refine fcall_fun hmay ?_
      rintro _ D ⟨rfl, gD⟩
      have d0 := gD.got (by omega) c0
      have hnD := gD.next
      cases hm' : T.mayN i j
      · rw [hm'] at hpo
        simp at hpo
        simp [u8, add_in (x := j) (y := 1) (by omega) (by omega)]
        exact ⟨⟨gC.trans gD, by omega, u1, u2, u3, u7, d0, j + 1, by omega, by omega, lt_succ_all hrow hpo⟩, by omega⟩
      rw [hm'] at hpo
      simp [u1, u7]
      refine fcall_fun (has_spec (ha.ge (gC.trans gD))) ?_
      rintro _ _ ⟨rfl, rfl⟩
      generalize decide ((i : Int) ∈ a) = ba at hpo
      cases ba
      case true =>
        simp at hpo
        simp [u8, add_in (x := j) (y := 1) (by omega) (by omega)]
        exact ⟨⟨gC.trans gD, by omega, u1, u2, u3, u7, d0, j + 1, by omega, by omega, lt_succ_all hrow hpo⟩, by omega⟩
      simp [u2, u8]
      refine fcall_fun (has_spec (hb.ge (gC.trans gD))) ?_
      rintro _ _ ⟨rfl, rfl⟩
      generalize decide ((j : Int) ∈ b) = bb at hpo
      cases bb
      case true =>
        simp at hpo
        simp [u8, add_in (x := j) (y := 1) (by omega) (by omega)]
        exact ⟨⟨gC.trans gD, by omega, u1, u2, u3, u7, d0, j + 1, by omega, by omega, lt_succ_all hrow hpo⟩, by omega⟩
      simp at hpo
      simp
      exact ⟨allPairs_bad hi' hj' hpo, gC.trans gD⟩
    · have hj' : j = T.trips.length := by simp at hc; omega
      subst hj'
      simp [u7, add_in (x := i) (y := 1) (by omega) (by omega)]
      refine ⟨⟨gC, hnC, u1, u2, u3, c0, i + 1, by omega, by omega, fun i' j' h1 h2 h3 => ?_⟩, by first | omega | (simp [t7]; omega)⟩
      by_cases e : i' = i
      · subst e; exact hrow j' h2
      · exact hall i' j' h1 h2 (by omega)
  · have hi' : i = T.trips.length := by simp at hc; omega
    subst hi'
    have : allPairs T a b = true := by
      simp only [allPairs, List.all_eq_true, List.mem_range]
      exact fun i' h1 j' h2 => hall i' j' h1 h2 h1
    simp [this, g]

end Go.Proofs.Ytnbkclhjpekkcaa

/-
  What RunCovers answers.
-/
namespace Go.Proofs.Ytnbkclhjpekkcaa
open Go Go.Ab

theorem runCovers_of {e s av cv : Value} {T : Tab} {xs ys : List Int} {buses : Int} {H : Heap} (h : TabAt H e s T) (ha : IntsAt H av xs) (hy : IntsAt H cv ys) (_ : buses = buses) : AFun Try.prog 5 [tabV T e s, av, cv, .int .i64 buses] H (fun v B => v = .bool true ∧ Ge H B) := by
  refine AFun.mk ok5 hm (Nat.le_of_ble_eq_true rfl) ?_
  have g0 : Ge H (H.new (.cells true [.int .i64 T.places, .int .i64 T.layover, e, s] 4)) := Ge.new _ _
  simp [a5, r5]
  refine fcall_fun (few_spec (h.ge g0)) ?_
  rintro _ H1 ⟨rfl, g1⟩
  have G1 := g0.trans g1
  have n1 := g1.next
  simp at n1
  have b1 := g1.got (n := H.next) (by simp) rfl
  simp at b1
  cases hrd : fewT T
  · simp
    refine fcall_fun (awake_spec _) ?_
    rintro _ B ⟨rfl, gB⟩
    simp
    exact G1.trans gB
  simp only [fewT, Bool.and_eq_true] at hrd
  obtain ⟨hth, hfw⟩ := hrd
  simp [ha.lenV]
  by_cases hx : 15 < (xs.length : Int)
  · simp [hx]
    refine fcall_fun (awake_spec _) ?_
    rintro _ B ⟨rfl, gB⟩
    simp
    exact G1.trans gB
  by_cases hz : 15 < (ys.length : Int)
  · simp [hx, hz, hy.lenV]
    refine fcall_fun (awake_spec _) ?_
    rintro _ B ⟨rfl, gB⟩
    simp
    exact G1.trans gB
  simp [hx, hz, b1, hy.lenV]
  refine fcall_fun (table_spec (h.ge G1) hth) ?_
  rintro _ H3 ⟨⟨e3, s3, rfl, t3⟩, g3⟩
  have G3 := G1.trans g3
  have n3 := g3.next
  simp
  refine fcall_fun (coverAll_spec t3) ?_
  rintro r4 H4 ⟨g4, hbad, hcov⟩
  have G4 := G3.trans g4
  have n4 := g4.next
  have b4 := g4.got (by omega) (g3.got (by omega) b1)
  have hr4 : ∃ va vb ev, r4 = .tuple #[va, vb, .int .i64 ev] ∧ ev = checkT T ∧ (checkT T ≠ 0 → va = .slice none 0 0 ∧ vb = .slice none 0 0) ∧ (checkT T = 0 → ∃ a b, IntsAt H4 va a ∧ IntsAt H4 vb b ∧ isCovL T a b = true ∧ a.length + b.length = T.most) := by
    by_cases hc : checkT T = 0
    · obtain ⟨va, vb, a, b, h1, h2, h3, h4, h5⟩ := hcov hc
      exact ⟨va, vb, 0, h1, hc.symm, fun h => absurd hc h, fun _ => ⟨a, b, h2, h3, h4, h5⟩⟩
    · exact ⟨_, _, _, hbad hc, rfl, fun _ => ⟨rfl, rfl⟩, fun h => absurd h hc⟩
  obtain ⟨va, vb, ev, rfl, hev, hcn, hcv⟩ := hr4
  simp [b4]
  refine fcall_fun (table_spec (h.ge G4) hth) ?_
  rintro _ H5 ⟨⟨e5, s5, rfl, t5⟩, g5⟩
  have G5 := G4.trans g5
  have n5 := g5.next
  simp
  refine fcall_fun (list_spec (ha.ge G5) (by omega)) ?_
  rintro r6 H6 ⟨hr6, g6⟩
  have G6 := G5.trans g6
  have n6 := g6.next
  simp
  refine fcall_fun (list_spec (hy.ge G6) (by omega)) ?_
  rintro r7 H7 ⟨hr7, g7⟩
  have G7 := G6.trans g7
  have n7 := g7.next
  have i6 : IntsAt H7 r6 xs := ⟨by simpa using (hr6.ge g7).slr, by omega⟩
  have i7 : IntsAt H7 r7 ys := ⟨by simpa using hr7.slr, by omega⟩
  simp
  refine fcall_fun (proveCover_spec ((t5.ge g6).ge g7) i6 i7) ?_
  rintro _ H8 ⟨rfl, g8⟩
  have G8 := G7.trans g8
  have n8 := g8.next
  have b8 := g8.got (by omega) (g7.got (by omega) (g6.got (by omega) (g5.got (by omega) b4)))
  simp [b8]
  refine fcall_fun (faultOf_spec (h.ge G8)) ?_
  rintro _ H9 ⟨rfl, g9⟩
  have G9 := G8.trans g9
  have n9 := g9.next
  have b9 := g9.got (by omega) b8
  subst hev
  by_cases hc : checkT T = 0
  case neg =>
    obtain ⟨rfl, rfl⟩ := hcn hc
    have hpr : proves T xs ys buses = false := by simp [proves, hc]
    simp [hc, hpr, add_in (x := 0) (y := 0) (by omega) (by omega)]
    refine fcall_fun (awake_spec _) ?_
    rintro _ B ⟨rfl, gB⟩
    simp
    exact G9.trans gB
  have hT := checkT_zero.1 hc
  have hfew := hT.few
  obtain ⟨a, b, hva, hvb, hok, hab⟩ := hcv hc
  obtain ⟨l1, l2⟩ := isCovL_len hfew hok
  have g49 := (((g5.trans g6).trans g7).trans g8).trans g9
  simp [hc, b9]
  refine fcall_fun (refIsCover_spec (h.ge G9) hT (ha.ge G9) (hy.ge G9)) ?_
  rintro _ H10 ⟨rfl, g10⟩
  have G10 := G9.trans g10
  have n10 := g10.next
  have b10 := g10.got (by omega) b9
  have hpr : proves T xs ys buses = (isCovL T xs ys && decide (buses ≤ (T.trips.length : Int) - xs.length - ys.length)) := by simp [proves, hc]
  have hlen : (allL T (-1) []).length ≤ 12 := Nat.le_trans numsOf_bound hfew
  have hnum : ∀ x ∈ allL T (-1) [], T.num x = true := fun x hx => by
    have := allL_ok x hx
    simp [Tab.num]; omega
  have hsz := cutL_size hT
  have heq : (T.trips.length : Int) - a.length - b.length = (cutL T).length := by omega
  have g410 := g49.trans g10
  cases hcx : isCovL T xs ys
  all_goals
    rw [hcx] at hpr
    simp [b10, ha.lenV, hy.lenV, h.trips.lenV, sub_in (x := T.trips.length) (y := xs.length) (by omega) (by omega), sub_in (x := (T.trips.length : Int) - xs.length) (y := ys.length) (by omega) (by omega)]
  case' pos.false => rw [aval_neB (a := proves T xs ys buses) (b := false) (by simp) (by simp) (by decide) (by decide), hpr]
  case' pos.true => rw [aval_neB (a := proves T xs ys buses) (b := decide (buses ≤ (T.trips.length : Int) - xs.length - ys.length)) (by simp) (by simp) (by decide) (by decide), hpr]
  all_goals
    simp [hc, b10]
    refine fcall_fun (refIsCover_spec (h.ge (G10.grow 28)) hT (hva.ge (g410.grow 28)) (hvb.ge (g410.grow 28))) ?_
    rintro _ H11 ⟨rfl, g11⟩
    have G11 := (G10.grow 28).trans g11
    have b11 := g11.got (n := H.next) (by simp; omega) b10
    have n11 := g11.next
    simp at n11
    simp [hok, b11, hva.lenV, hvb.lenV, h.trips.lenV, sub_in (x := T.trips.length) (y := a.length) (by omega) (by omega), sub_in (x := (T.trips.length : Int) - a.length) (y := b.length) (by omega) (by omega)]
    refine fcall_fun (all_spec (kind := -1) (w := []) (h.ge G11) (by omega) ⟨⟨by simp [slCells], fun a n c e => by cases e⟩, by simp⟩) ?_
    rintro v12 H12 ⟨hO, g12⟩
    have G12 := G11.trans g12
    have n12 := g12.next
    have b12 := g12.got (by omega) b11
    have hi12 : IntsAt H12 v12 (allL T (-1) []) := ⟨by simpa using hO.slr, by omega⟩
    simp [b12, h.trips.lenV]
    refine fcall_fun (buses_spec (h.ge G12) hT hi12 hnum hlen) ?_
    rintro _ H13 ⟨rfl, g13⟩
    have G13 := G12.trans g13
    have n13 := g13.next
    have b13 := g13.got (by omega) b12
    rw [buses_all hT]
    simp [b13, heq, h.trips.lenV]
    refine fcall_fun (awake_spec _) ?_
    rintro _ B ⟨rfl, gB⟩
    simp
    exact G13.trans gB

end Go.Proofs.Ytnbkclhjpekkcaa
