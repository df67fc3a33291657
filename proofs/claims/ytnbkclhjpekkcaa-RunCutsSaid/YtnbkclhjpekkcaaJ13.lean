/-
  Joined texts of a calculus of abstract memory, and of contracts of the program's functions.
-/
import Derived.Test.YtnbkclhjpekkcaaJ12
/-
  The contract of the reference's search for the fewest.
-/
namespace Go.Proofs.Ytnbkclhjpekkcaa
open Go Go.Ab

theorem wr_one {cs : List Value} {i : Nat} {v : Value} (h : i < cs.length) : wrL cs i [v] = cs.set i v := by
  rw [List.set_eq_take_append_cons_drop, if_pos h]; rfl

theorem refFewest_spec {H0 : Heap} {e s lv : Value} {T : Tab} {l : List Int} (h : TabAt H0 e s T) (hT : Valid T) (hl : IntsAt H0 lv l) (hnum : ∀ x ∈ l, T.num x = true) (hlen : l.length ≤ 12) :
    ∀ (d from_ : Nat) (tk : List Bool) (H : Heap) (tn cap c : Nat), from_ + d = l.length → Ge H0 H → H0.next ≤ tn → tn < H.next → H.get tn = .cells true (tk.map .bool) c → tk.length = T.trips.length →
      AFun Try.prog 58 [tabV T e s, lv, .int .i64 from_, .slice (some ⟨tn, 0, none⟩) T.trips.length cap] H (fun r B => r = .int .i64 (fewR T l (l.drop from_) tk) ∧ Ge H B) := by
  intro d
  have hfew := hT.few
  have hbnd := fewR_le (T := T) (l := l)
  induction d with
  | zero =>
    intro from_ tk H tn cap c hfd g htn htn2 htk htl
    have hff : from_ = l.length := by omega
    subst hff
    refine AFun.mk ok58 hm (Nat.le_of_ble_eq_true rfl) ?_
    simp [a58, r58, hl.lenV]
    simp [fewR]
  | succ d ih =>
    intro from_ tk H tn cap c hfd g htn htn2 htk htl
    have hf : from_ < l.length := by omega
    refine AFun.mk ok58 hm (Nat.le_of_ble_eq_true rfl) ?_
    have hne : ¬ (from_ : Int) = l.length := by omega
    have q0 : H.next ≠ tn := by omega
    have g0 : Ge H (H.new (.cells true [.int .i64 T.places, .int .i64 T.layover, e, s] 4)) := Ge.new _ _
    simp [a58, r58, hl.lenV, hne, add_in (x := from_) (y := 1) (by omega) (by omega)]
    have ih1 := ih (from_ + 1) tk _ tn cap c (by omega) (g.trans g0) htn (by simp; omega) (by simp [Ne.symm q0, htk]) htl
    simp at ih1
    refine fcall_fun ih1 ?_
    rintro _ B ⟨rfl, gB⟩
    have G1 := g0.trans gB
    have n1 := G1.next
    have nB := gB.next
    simp at nB
    have bB := gB.got (n := H.next) (by simp) rfl
    simp at bB
    have kB := G1.got htn2 htk
    have hb1 := hbnd (l.drop (from_ + 1)) tk
    have hdl : (l.drop (from_ + 1)).length = l.length - (from_ + 1) := by simp
    have hdrop : l.drop from_ = l[from_] :: l.drop (from_ + 1) := List.drop_eq_getElem_cons hf
    simp [add_in (x := 1) (y := fewR T l (l.drop (from_ + 1)) tk) (by omega) (by omega)]
    refine floop_intro (fun z => z.d = [] ∧ Ge H z.H ∧ H.next + 1 ≤ z.H.next ∧ z.t 1 = lv ∧ z.t 2 = .int .i64 from_ ∧ z.t 3 = .slice (some ⟨tn, 0, none⟩) T.trips.length cap ∧ z.t 4 = .pointer (some ⟨H.next, 0, none⟩) ∧ z.H.get H.next = .cells true [.int .i64 T.places, .int .i64 T.layover, e, s] 4 ∧
      ∃ m : Nat, m ≤ l.length ∧ z.t 10 = .int .i64 m ∧ z.t 9 = .int .i64 ((l.take m).foldl (fewStep T l[from_] tk (fewR T l (l.drop (from_ + 1)))) (1 + fewR T l (l.drop (from_ + 1)) tk) : Nat)) (fun z => l.length - (intOf (z.t 10)).toNat) ?_ ?_
    · exact ⟨rfl, G1, by omega, by simp, by simp, by simp, by simp, bB, 0, by simp, by simp, by simp⟩
    rintro ⟨t, _, A⟩ ⟨rfl, gA, hn, t1, t2, t3, t4, b0, m, hm', t10, t9⟩
    dsimp only at gA hn t1 t2 t3 t4 b0 t10 t9
    simp [t1, t10, hl.lenV]
    refine fcond_intro (fun hc => ?_) (fun hc => ?_)
    · have hmm : m < l.length := by simpa using hc
      have kA := gA.got htn2 htk
      have hnx := hnum _ (List.getElem_mem hmm)
      have hnf := hnum _ (List.getElem_mem hf)
      obtain ⟨x0, x1, x2⟩ := num_lt hfew hnx
      obtain ⟨q, e1, e2⟩ := (hl.ge (g.trans gA)).at hmm
      obtain ⟨q', e3, e4⟩ := (hl.ge ((g.trans gA).grow 14)).at hf
      have hI : islV 1 (.slice (some ⟨tn, 0, none⟩) T.trips.length cap) (.int .i64 l[m]) = some (.pointer (some ⟨tn, l[m].toNat, none⟩)) := by
        rw [islV_in (by omega) (by omega)]; simp
      have hnext : (l.take (m + 1)).foldl (fewStep T l[from_] tk (fewR T l (l.drop (from_ + 1)))) (1 + fewR T l (l.drop (from_ + 1)) tk) = fewStep T l[from_] tk (fewR T l (l.drop (from_ + 1))) ((l.take m).foldl (fewStep T l[from_] tk (fewR T l (l.drop (from_ + 1)))) (1 + fewR T l (l.drop (from_ + 1)) tk)) l[m] := by
        rw [List.take_succ_eq_append_getElem hmm, List.foldl_append]; rfl
      have hble : (l.take m).foldl (fewStep T l[from_] tk (fewR T l (l.drop (from_ + 1)))) (1 + fewR T l (l.drop (from_ + 1)) tk) ≤ 1 + fewR T l (l.drop (from_ + 1)) tk := fold_le
      generalize (l.take m).foldl (fewStep T l[from_] tk (fewR T l (l.drop (from_ + 1)))) (1 + fewR T l (l.drop (from_ + 1)) tk) = best at t9 hnext hble
      have hlt : l[m].toNat < tk.length := by omega
      have hat : tk[l[m].toNat]?.getD false = tk[l[m].toNat] := by simp [hlt]
      have hset : (tk.set l[m].toNat true).set l[m].toNat tk[l[m].toNat] = tk := by rw [List.set_set, List.set_getElem_self]
      have hst : fewStep T l[from_] tk (fewR T l (l.drop (from_ + 1))) best l[m] = if (!tk[l[m].toNat] && T.mayN l[from_].toNat l[m].toNat) = true then min best (fewR T l (l.drop (from_ + 1)) (tk.set l[m].toNat true)) else best := by
        simp only [fewStep, hat]
      rw [hst] at hnext
      clear hst
      have hnext2 : ∃ b2, (l.take (m + 1)).foldl (fewStep T l[from_] tk (fewR T l (l.drop (from_ + 1)))) (1 + fewR T l (l.drop (from_ + 1)) tk) = b2 := ⟨_, rfl⟩
      obtain ⟨b2, hb2⟩ := hnext2
      rw [hb2] at hnext
      simp [t1, t2, t3, t4, t10, e1, e2, e3, e4, hI, kA, hlt, b0]
      generalize hv : tk[l[m].toNat] = v at hnext hset
      cases v
      case true =>
        simp at hnext
        simp [t10, add_in (x := m) (y := 1) (by omega) (by omega)]
        exact ⟨⟨gA.grow 14, by omega, t1, t2, t3, t4, b0, m + 1, by omega, by omega, by rw [hb2, hnext]; exact t9⟩, by omega⟩
      simp [t1, t2, t4, b0, e3, e4]
      refine fcall_fun (refMay_specI (h.ge ((g.trans gA).grow 14)) hT hnf hnx) ?_
      rintro _ C ⟨rfl, gC⟩
      have GC := (Ge.more A 14).trans gC
      have nC := gC.next
      simp at nC
      have gHC := gA.trans GC
      have c0 := GC.got (by omega) b0
      have kC := GC.got (by omega) kA
      have qt : H.next ≠ tn := q0
      cases hmay : T.mayN l[from_].toNat l[m].toNat
      · simp [hmay] at hnext
        simp [t10, add_in (x := m) (y := 1) (by omega) (by omega)]
        exact ⟨⟨gHC, by omega, t1, t2, t3, t4, c0, m + 1, by omega, by omega, by rw [hb2, hnext]; exact t9⟩, by omega⟩
      simp [hmay] at hnext
      have hwr1 : wrL (tk.map Value.bool) l[m].toNat [.bool true] = (tk.set l[m].toNat true).map .bool := by
        rw [wr_one (by simpa using hlt), List.map_set]
      have ih2 := ih (from_ + 1) (tk.set l[m].toNat true) (C.set tn (.cells true ((tk.set l[m].toNat true).map .bool) c)) tn cap c (by omega) (Ge.setNew (g.trans gHC) htn _) htn (by simp; omega) (by simp) (by simpa using htl)
      have hlt' : l[m].toNat + 1 ≤ tk.length := hlt
      simp [t1, t2, t3, t4, t9, hI, kC, c0, qt, hwr1, hlt', add_in (x := from_) (y := 1) (by omega) (by omega)]
      simp at ih2
      refine fcall_fun ih2 ?_
      rintro _ D ⟨rfl, gD⟩
      have nD := gD.next
      simp at nD
      have d0 := gD.got (n := H.next) (by simp; omega) (by simp [qt]; exact c0)
      have dt : D.get tn = .cells true ((tk.set l[m].toNat true).map .bool) c := gD.got (n := tn) (by simp; omega) (by simp)
      have hwr2 : wrL ((tk.set l[m].toNat true).map Value.bool) l[m].toNat [.bool false] = tk.map .bool := by
        rw [wr_one (by simpa using hlt), ← List.map_set, hset]
      simp
      rw [aval_min (k := .i64) (m := (best : Int)) (n := (fewR T l (l.drop (from_ + 1)) (tk.set l[m].toNat true) : Int)) (by simp) (by simp) (by decide) (by decide)]
      have hlt2 : l[m].toNat + 1 ≤ ((tk.set l[m].toNat true).map Value.bool).length := by simp; omega
      have hmin : min (best : Int) (fewR T l (l.drop (from_ + 1)) (tk.set l[m].toNat true) : Int) = (b2 : Int) := by rw [hnext]; omega
      rw [hmin]
      have hcs : ∃ cs, cs = (tk.set l[m].toNat true).map Value.bool := ⟨_, rfl⟩
      obtain ⟨cs, hcs⟩ := hcs
      rw [← hcs] at dt hwr2 hlt2
      simp [t3, t10, hI, dt, hlt2, hwr2, add_in (x := m) (y := 1) (by omega) (by omega)]
      refine ⟨⟨⟨by simp; omega, fun q hq => ?_⟩, by omega, t1, t2, t4, by rw [if_neg qt]; exact d0, m + 1, by omega, by omega, by rw [hb2]⟩, by omega⟩
      by_cases eq : q = tn
      · subst eq; simp [htk]
      · have nC := gHC.next
        simp [eq]
        rw [gD.get q (by simp; omega)]
        simp [eq]
        exact gHC.get q hq
    · have hmm : m = l.length := by simp at hc; omega
      subst hmm
      rw [List.take_length] at t9
      simp [t9]
      rw [hdrop]
      exact ⟨rfl, gA⟩

theorem buses_spec {H : Heap} {e s lv : Value} {T : Tab} {l : List Int} (h : TabAt H e s T) (hT : Valid T) (hl : IntsAt H lv l) (hnum : ∀ x ∈ l, T.num x = true) (hlen : l.length ≤ 12) : AFun Try.prog 30 [tabV T e s, lv] H (fun r B => r = .int .i64 (fewR T l l (List.replicate T.trips.length false)) ∧ Ge H B) := by
  refine AFun.mk ok30 hm (Nat.le_of_ble_eq_true rfl) ?_
  have hfew := hT.few
  have hmk : ∀ n, mksV n 1 1 [.bool false] (.int .i64 T.trips.length) (.int .i64 T.trips.length) = some _ := fun n => mksV_at (by omega) (by omega)
  have hz : zrep T.trips.length [Value.bool false] = (List.replicate T.trips.length false).map .bool := by
    have : ∀ n, zrep n [Value.bool false] = (List.replicate n false).map .bool := by
      intro n; induction n with
      | zero => rfl
      | succ n ih => rw [zrep_succ, ih]; rfl
    exact this _
  simp [a30, r30, h.trips.lenV, hmk]
  have hg : Ge H (({ get := (H.new (.cells true [.int .i64 T.places, .int .i64 T.layover, e, s] 4)).get, next := H.next + 9 } : Heap).set (H.next + 6) (.cells true (zrep T.trips.length [Value.bool false]) T.trips.length)) :=
    Ge.setNew (Ge.grow_le (by omega) (Ge.new _ _)) (by omega) _
  have hf := refFewest_spec h hT hl hnum hlen l.length 0 (List.replicate T.trips.length false) _ (H.next + 6) T.trips.length T.trips.length (by omega) hg (by omega) (by simp) (by rw [hz]; simp) (by simp)
  simp at hf
  refine fcall_fun hf ?_
  rintro _ B ⟨rfl, gB⟩
  simp
  exact hg.trans gB

/-- The fewest for some trips, by the reference's search, are the fewest. -/
theorem buses_eq {T : Tab} (hT : Valid T) (kind : Int) (w : List Int) : fewR T (allL T kind w) (allL T kind w) (List.replicate T.trips.length false) = (cutL (onlyT T (allL T kind w))).length := by
  have hlk : ∀ i, i < T.trips.length → ((List.range 12).map (okAll T kind w))[i]?.getD false = okAll T kind w i := fun i hi => by
    have := hT.few
    simp [(by omega : i < 12)]
  have h1 := fewR_most hT hlk rfl
  have h2 := only_cut hT hlk
  unfold allL
  omega

theorem buses_all {T : Tab} (hT : Valid T) : fewR T (allL T (-1) []) (allL T (-1) []) (List.replicate T.trips.length false) = (cutL T).length := by
  have hok : ∀ i, okAll T (-1) [] i = true := fun i => by simp [okAll]
  have h1 := fewR_most hT (f := okAll T (-1) []) (looked := upTo T.trips.length) (fun i hi => by rw [hok]; have := hT.few; simp [upTo, hi, (by omega : i < 12)]) rfl
  have h2 := cutL_size hT
  rw [most_all] at h2
  have h3 : cntN T.trips.length (okAll T (-1) []) = T.trips.length := by
    unfold cntN; rw [List.filter_eq_self.2 (fun x _ => hok x)]; simp
  unfold allL
  omega

end Go.Proofs.Ytnbkclhjpekkcaa

/-
  Truths that are compared, and contracts of Few and RunCuts.
-/
namespace Go.Proofs.Ytnbkclhjpekkcaa
open Go Go.Ab

theorem aval_eqB {t : Nat → Value} {H : Heap} {N x y : Nat} {a b : Bool} {d : Option Tmp} {ty U : TypeId} {pos : String} {af : Array Edge} {g : Option (Nat × Bool)} (hx : t x = .bool a) (hy : t y = .bool b) (h1 : x < N) (h2 : y < N) :
    aval Try.prog t H (.gen N ⟨d, .binOp .eql 4 (.tmp x) (.tmp y) U, ty, pos, af, g⟩) = some (.bool (a == b)) := by
  refine aval_gen ?_ rfl fun w => ?_
  · simp [Op.operands, flatO, hx, hy, h1, h2, flat, flat1]
  · have hg : Try.prog.eqGuardType Try.prog.depth 4 = false := by kernel_rfl
    simp only [execOp, evO, hx, hy, Sem.run_bind]
    have he := run_equalIn_bool' (P := Try.prog) w 9999 4 a b Try.underlying4
    simp [eqGuard, binOp, Op.equal, Op.maxDepth, he]

theorem aval_neB {t : Nat → Value} {H : Heap} {N x y : Nat} {a b : Bool} {d : Option Tmp} {ty U : TypeId} {pos : String} {af : Array Edge} {g : Option (Nat × Bool)} (hx : t x = .bool a) (hy : t y = .bool b) (h1 : x < N) (h2 : y < N) :
    aval Try.prog t H (.gen N ⟨d, .binOp .neq 4 (.tmp x) (.tmp y) U, ty, pos, af, g⟩) = some (.bool (!(a == b))) := by
  refine aval_gen ?_ rfl fun w => ?_
  · simp [Op.operands, flatO, hx, hy, h1, h2, flat, flat1]
  · have hg : Try.prog.eqGuardType Try.prog.depth 4 = false := by kernel_rfl
    simp only [execOp, evO, hx, hy, Sem.run_bind]
    have he := run_equalIn_bool' (P := Try.prog) w 9999 4 a b Try.underlying4
    simp [eqGuard, binOp, Op.equal, Op.maxDepth, he]

def fewT (T : Tab) : Bool := thin T && (decide (checkT T ≠ 0) || decide (T.trips.length ≤ 7))

theorem few_spec {e s : Value} {T : Tab} {H : Heap} (h : TabAt H e s T) : AFun Try.prog 24 [tabV T e s] H (fun r B => r = .bool (fewT T) ∧ Ge H B) := by
  refine AFun.mk ok24 hm (Nat.le_of_ble_eq_true rfl) ?_
  simp [a24, r24]
  refine fcall_fun (thin_spec (h.ge (Ge.new _ _))) ?_
  rintro _ B ⟨rfl, g⟩
  have G : Ge H B := Ge.trans (Ge.new _ _) g
  have b1 := g.got (n := H.next) (by simp) rfl
  simp at b1
  unfold fewT
  cases thin T
  · simp [G]
  · simp [b1]
    refine fcall_fun (fault_spec (h.ge G)) ?_
    rintro _ C ⟨rfl, gC⟩
    have c1 := gC.got (by have := g.next; simp at this; omega) b1
    by_cases hc : checkT T = 0
    · simp [hc, c1, h.trips.lenV]
      exact ⟨by omega, G.trans gC⟩
    · simp [hc]
      exact G.trans gC

end Go.Proofs.Ytnbkclhjpekkcaa

/-
  What RunCuts answers.
-/
namespace Go.Proofs.Ytnbkclhjpekkcaa
open Go Go.Ab

theorem runCuts_of {e s bv : Value} {T : Tab} {blocks : List (List Int)} {H : Heap} (h : TabAt H e s T) (hb : RowsAt H bv blocks) : AFun Try.prog 4 [tabV T e s, bv] H (fun v B => v = .bool true ∧ Ge H B) := by
  refine AFun.mk ok4 hm (Nat.le_of_ble_eq_true rfl) ?_
  have g0 : Ge H (H.new (.cells true [.int .i64 T.places, .int .i64 T.layover, e, s] 4)) := Ge.new _ _
  simp [a4, r4]
  refine fcall_fun (few_spec (h.ge g0)) ?_
  rintro _ H1 ⟨rfl, g1⟩
  have G1 := g0.trans g1
  have n1 := g1.next
  simp at n1
  have b1 := g1.got (n := H.next) (by simp) rfl
  simp at b1
  cases hrd : fewT T
  · simp
    refine fcall_fun (awake_spec _) ?_
    rintro _ B ⟨rfl, gB⟩
    simp
    exact G1.trans gB
  simp only [fewT, Bool.and_eq_true] at hrd
  obtain ⟨hth, hfw⟩ := hrd
  simp
  refine fcall_fun (short_spec (hb.ge G1)) ?_
  rintro _ H2 ⟨rfl, g2⟩
  have G2 := G1.trans g2
  have n2 := g2.next
  have b2 := g2.got (by omega) b1
  have hse : (decide (blocks.length ≤ 15) && blocks.all fun l => decide (l.length ≤ 15)) = shortL blocks := rfl
  rw [hse]
  cases hsh : shortL blocks
  · simp
    refine fcall_fun (awake_spec _) ?_
    rintro _ B ⟨rfl, gB⟩
    simp
    exact G2.trans gB
  obtain ⟨s1, s2⟩ := shortL_at hsh
  simp [b2]
  refine fcall_fun (table_spec (h.ge G2) hth) ?_
  rintro _ H3 ⟨⟨e3, s3, rfl, t3⟩, g3⟩
  have G3 := G2.trans g3
  have n3 := g3.next
  simp
  refine fcall_fun (cut_spec t3) ?_
  rintro r4 H4 ⟨g4, hbad, hcut⟩
  have G4 := G3.trans g4
  have n4 := g4.next
  have b4 := g4.got (by omega) (g3.got (by omega) b2)
  have hr4 : ∃ cv ev, r4 = .tuple #[cv, .int .i64 ev] ∧ ev = checkT T ∧ (checkT T ≠ 0 → cv = .slice none 0 0) ∧ (checkT T = 0 → RowsAt H4 cv (cutL T)) := by
    by_cases hc : checkT T = 0
    · obtain ⟨f, h1, h2⟩ := hcut hc
      exact ⟨f, 0, h1, hc.symm, fun h => absurd hc h, fun _ => h2⟩
    · exact ⟨_, _, hbad hc, rfl, fun _ => rfl, fun h => absurd h hc⟩
  obtain ⟨cv, ev, rfl, hev, hcn, hcv⟩ := hr4
  simp [b4]
  refine fcall_fun (table_spec (h.ge G4) hth) ?_
  rintro _ H5 ⟨⟨e5, s5, rfl, t5⟩, g5⟩
  have G5 := G4.trans g5
  have n5 := g5.next
  simp
  refine fcall_fun (rows_spec (hb.ge G5) (by omega) (fun l hl => by have := s2 l hl; omega)) ?_
  rintro r6 H6 ⟨hr6, g6⟩
  have G6 := G5.trans g6
  have n6 := g6.next
  simp
  refine fcall_fun (proveCut_spec (t5.ge g6) (hr6.rows (by omega))) ?_
  rintro _ H7 ⟨rfl, g7⟩
  have G7 := G6.trans g7
  have n7 := g7.next
  have b7 := g7.got (by omega) (g6.got (by omega) (g5.got (by omega) b4))
  simp [b7]
  refine fcall_fun (faultOf_spec (h.ge G7)) ?_
  rintro _ H8 ⟨rfl, g8⟩
  have G8 := G7.trans g8
  have n8 := g8.next
  have b8 := g8.got (by omega) b7
  subst hev
  by_cases hc : checkT T = 0
  case neg =>
    have := hcn hc
    subst this
    simp [hc]
    refine fcall_fun (awake_spec _) ?_
    rintro _ B ⟨rfl, gB⟩
    simp
    exact G8.trans gB
  have hT := checkT_zero.1 hc
  have hfew := hT.few
  have hcv := hcv hc
  have hgood := cutL_good hT
  have g48 := ((g5.trans g6).trans g7).trans g8
  simp [hc, b8]
  refine fcall_fun (refIsCutting_spec (h.ge (G8.grow 27)) hT (hcv.ge (g48.grow 27))) ?_
  rintro _ H9 ⟨rfl, g9⟩
  have G9 := (G8.grow 27).trans g9
  have b9 := g9.got (n := H.next) (by simp; omega) b8
  have n9 := g9.next
  simp at n9
  simp [hgood, hcv.lenV, b9]
  refine fcall_fun (all_spec (kind := -1) (w := []) (h.ge G9) (by omega) ⟨⟨by simp [slCells], fun a n c e => by cases e⟩, by simp⟩) ?_
  rintro v10 H10 ⟨hO, g10⟩
  have G10 := G9.trans g10
  have n10 := g10.next
  have b10 := g10.got (by omega) b9
  have hlen : (allL T (-1) []).length ≤ 12 := Nat.le_trans numsOf_bound hfew
  have hi10 : IntsAt H10 v10 (allL T (-1) []) := ⟨by simpa using hO.slr, by omega⟩
  simp [b10]
  have hnum : ∀ x ∈ allL T (-1) [], T.num x = true := fun x hx => by
    have := allL_ok x hx
    simp [Tab.num]; omega
  refine fcall_fun (buses_spec (h.ge G10) hT hi10 hnum hlen) ?_
  rintro _ H11 ⟨rfl, g11⟩
  have G11 := G10.trans g11
  have n11 := g11.next
  have b11 := g11.got (by omega) b10
  rw [buses_all hT]
  simp [b11]
  refine fcall_fun (refIsCutting_spec (h.ge G11) hT (hb.ge G11)) ?_
  rintro _ H12 ⟨rfl, g12⟩
  have G12 := G11.trans g12
  simp
  rw [aval_eqB (a := isCutL T blocks) (b := isCutL T blocks) (by simp [hc]) (by simp) (by decide) (by decide)]
  simp
  refine fcall_fun (awake_spec _) ?_
  rintro _ B ⟨rfl, gB⟩
  simp
  exact G12.trans gB

end Go.Proofs.Ytnbkclhjpekkcaa
