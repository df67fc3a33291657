/-
  Joined texts of a calculus of abstract memory, of the program's code in it, and of contracts.
-/
import Derived.Test.YtllkhaabcfnlpaaDoorJ6
import Derived.Test.YtllkhaabcfnlpaaDoorJ9
import Derived.Test.YtllkhaabcfnlpaaDoorJ10
import Derived.Test.YtllkhaabcfnlpaaDoorJ11
import Derived.Test.YtllkhaabcfnlpaaDoorJ12
import Derived.WalkKit
import Derived.ProofKit
import Derived.OpenShut
import Derived.Deep.DeepHandedRow
import Derived.Test.YtllkhaabcfnlpaaDoorCards
import Derived.Test.YtllkhaabcfnlpaaDoorTie
/-
  DutyEasier: reliefs that are not so early.
-/
namespace Go.Proofs.YtllkhaabcfnlpaaDoor
open Go Go.Ab

theorem wr_lo {a : Int} : ∀ (l : List Rl) (i : Nat) (h : i < l.length), wrL (l.flatMap Rl.cells) (i * 3 + 1) [.int .i64 a] = (l.set i ⟨(l[i]'h).place, a, (l[i]'h).hi⟩).flatMap Rl.cells
  | [], i, h => by simp at h
  | r :: l, 0, _ => by simp [wrL, Rl.cells]
  | r :: l, i + 1, h => by
    have hi : i < l.length := by simpa using h
    have ih := wr_lo (a := a) l i hi
    have ih2 : (l.flatMap Rl.cells).take (i * 3 + 1) ++ (Value.int .i64 a :: (l.flatMap Rl.cells).drop (i * 3 + 1 + 1)) = (l.set i ⟨l[i].place, a, l[i].hi⟩).flatMap Rl.cells := ih
    have e : (i + 1) * 3 + 1 = i * 3 + 1 + 3 := by omega
    have e' : (i + 1) * 3 + 1 + 1 = i * 3 + 1 + 1 + 3 := by omega
    have e3 : ((r :: l).set (i + 1) ⟨(r :: l)[i + 1].place, a, (r :: l)[i + 1].hi⟩).flatMap Rl.cells = .int .i64 r.place :: .int .i64 r.lo :: .int .i64 r.hi :: (l.set i ⟨l[i].place, a, l[i].hi⟩).flatMap Rl.cells := rfl
    rw [e3, ← ih2]
    show ((r :: l).flatMap Rl.cells).take ((i + 1) * 3 + 1) ++ (Value.int .i64 a :: ((r :: l).flatMap Rl.cells).drop ((i + 1) * 3 + 1 + 1)) = _
    rw [e', e]
    rfl

/-- A relief that is not so early. -/
def Rl.late (e : Int) (x : Rl) : Rl := ⟨x.place, min x.hi (x.lo + e), x.hi⟩
/-- Some reliefs of a block are late. -/
def LateAt (e : Int) (r L : List Rl) (k j : Nat) : Prop := L.length = r.length ∧ ∀ i, L[i]? = if k ≤ i ∧ i < j then (r[i]?).map (Rl.late e) else r[i]?
def blkS (D : Dy) (a : Nat) (L : List Rl) : Dy := { D with blocks := D.blocks.set a L }

theorem blkS_easy {D : Dy} (hV : Valid D) {a k j : Nat} {e : Int} {L : List Rl} (he : 0 ≤ e) (ha : a < D.blocks.length) (h : LateAt e D.blocks[a] L k j) : EasyD D (blkS D a L) := by
  obtain ⟨hl, hat⟩ := h
  have hlen : ∀ b : Nat, ((blkS D a L).blocks[b]?.map List.length).getD 0 = (D.blocks[b]?.map List.length).getD 0 := fun b => by
    by_cases e : a = b
    · subst e
      simp [blkS, ha, hl]
    · simp [blkS, List.getElem?_set_ne e]
  have hseg : segPs (blkS D a L) = segPs D := by
    unfold segPs spotsTo
    have : (blkS D a L).blocks.length = D.blocks.length := by simp [blkS]
    simp only [hlen, this]
  have hrel : ∀ b n, D.has b n → (blkS D a L).has b n ∧ ((blkS D a L).rel b n = D.rel b n ∨ (blkS D a L).rel b n = (D.rel b n).late e) := fun b n hb => by
    obtain ⟨r, h1, h2⟩ := hb
    by_cases e : a = b
    · subst e
      rw [List.getElem?_eq_getElem ha] at h1
      cases h1
      have hn : n < L.length := by omega
      refine ⟨⟨L, by simp [blkS, ha], hn⟩, ?_⟩
      have h3 := hat n
      have e1 : (blkS D a L).rel a n = L[n] := by simp [Dy.rel, blkS, ha, hn]
      have e2 : D.rel a n = D.blocks[a][n] := by simp [Dy.rel, ha, h2]
      rw [e1, e2]
      rw [List.getElem?_eq_getElem hn, List.getElem?_eq_getElem h2] at h3
      split at h3
      · right; simpa using h3
      · left; simpa using h3
    · refine ⟨⟨r, by simp [blkS, List.getElem?_set_ne e, h1], h2⟩, .inl ?_⟩
      simp [Dy.rel, blkS, List.getElem?_set_ne e]
  have hplace : ∀ b n, D.has b n → ((blkS D a L).rel b n).place = (D.rel b n).place := fun b n hb => by
    rcases (hrel b n hb).2 with e | e <;> rw [e]
    rfl
  refine ⟨hseg, fun b n hb => (hrel b n hb).1, fun b n hb => ?_, fun b n hb => ?_, fun b n c q hb hc => ?_, Int.le_refl _, Int.le_refl _, Int.le_refl _, Int.le_refl _, Int.le_refl _, Int.le_refl _, Int.le_refl _, rfl⟩
  · have hv := rel_valid hV hb
    rcases (hrel b n hb).2 with e | e <;> rw [e]
    · exact Int.le_refl _
    · simp only [Rl.late]; omega
  · rcases (hrel b n hb).2 with e | e <;> rw [e]
    rfl
  · unfold Dy.walkOf
    rw [hplace b n hb, hplace c q hc]
    exact Int.le_refl _

theorem arm8_spec {D : Dy} {H2 A : Heap} {v8 w' : Value} {vs ws : List Value} {t : Nat → Value} {N n p : Nat} {Q : APost} (hV : Valid D) (hT : D.Thin) (hpos : 0 < D.blocks.length) (hp : Pre12 D H2 A v8 w' vs ws) (hn : n < 200) (hpz : p < 256) (t2 : t 2 = .int .u8 (p : Int)) (t4 : t 4 = t 4) (t11 : t 11 = .pointer (some ⟨H2.next, 0, none⟩)) (t13 : t 13 = .int .i64 (n : Int))
    (K : ∀ t' A', t' 4 = t 4 → t' 5 = t 5 → t' 11 = t 11 → Fin12 D H2 A' → Q .normal ⟨t', [], A'⟩) : vc Tryd.prog N none (vdrawD Tryd.prog) arm8 Q ⟨t, [], A⟩ := by
  have hc := hp.cell
  have hlt := hp.lt
  have hlen := hp.own.lenV
  rw [hp.len] at hlen
  have hwp : IntKind.i64.wrap (p : Int) = (p : Int) := wrap_i64n (by omega)
  obtain ⟨a, ha⟩ : ∃ a, p % D.blocks.length = a := ⟨_, rfl⟩
  have ha1 : a < D.blocks.length := by rw [← ha]; exact Nat.mod_lt _ hpos
  have hrem := rem_int (a := p) (c := D.blocks.length) hpos
  rw [ha] at hrem
  obtain ⟨u, f1, f2⟩ := hp.rel a ha1
  obtain ⟨ptr, e1, e2⟩ := (hp.own.ge (Ge.new A (.cells true [] 0))).slr.at1 (k := .i64) (i := a) (by rw [hp.len]; exact ha1)
  rw [f1] at e2
  have hrT := hT.short _ (List.getElem_mem ha1)
  have hrel := fun i (hi : i < D.blocks[a].length) => hV.rel (List.getElem_mem ha1) (List.getElem_mem hi)
  have hblk := hV.blk _ (List.getElem_mem ha1)
  have hr2 : 2 ≤ D.blocks[a].length := by
    unfold okBlk at hblk
    rw [Bool.and_eq_true, decide_eq_true_eq] at hblk
    exact hblk.1
  have hX : H2.next ≠ A.next := by omega
  simp [arm8, t2, t11, hc, hwp, hlen, hrem, hX, e1, e2]
  obtain ⟨r, hr⟩ : ∃ r, D.blocks[a] = r := ⟨_, rfl⟩
  rw [hr] at f2 hrT hr2
  simp only [hr] at hrel
  have hcells := cells_len r
  have hc0 : r.length ≤ capN 0 0 r.length := by unfold capN; split <;> omega
  generalize hcap : capN 0 0 r.length = cap at hc0
  have e3A := (f2.ge (hp.ge.newOf (.cells true [] 0))).1.1
  refine ⟨0, [], some A.next, 0, r.length, r.flatMap Rl.cells, by simp [baseOf], e3A, cells_one r, by omega, ?_⟩
  rw [if_neg (by simp), hcap]
  simp
  generalize hB : appHeap _ (A.next + 1) (A.next + 2) (some A.next) _ _ = B
  have gAB : Ge A B := by rw [← hB]; exact Ge.app (Ge.new _ _) (by omega) (by simp) (by simp)
  have nB : B.next = A.next + 2 := by rw [← hB]; simp [appHeap]
  have kB : B.get (A.next + 1) = .cells true (r.flatMap Rl.cells) (cap * 3) := by rw [← hB]; simp [appHeap]
  clear hB
  obtain ⟨k, hk⟩ : ∃ k, n % r.length = k := ⟨_, rfl⟩
  have hk1 : k < r.length := by rw [← hk]; exact Nat.mod_lt _ (by omega)
  have hrem2 := rem_int (a := n) (c := r.length) (by omega)
  rw [hk] at hrem2
  obtain ⟨e, he⟩ : ∃ e, n % 7 = e := ⟨_, rfl⟩
  have he7 : e < 7 := by omega
  have hrem7 : binI BinOp.rem (.int .i64 (n : Int)) (.int .i64 7) = some (.int .i64 (e : Int)) := by
    have := rem_int (a := n) (c := 7) (by omega)
    rw [he] at this
    exact this
  simp [t13, hrem2]
  refine floop_intro (fun z => z.d = [] ∧ Ge A z.H ∧ A.next + 2 ≤ z.H.next ∧ z.t 4 = t 4 ∧ z.t 5 = t 5 ∧ z.t 11 = .pointer (some ⟨H2.next, 0, none⟩) ∧ z.t 13 = .int .i64 (n : Int) ∧ z.t 16 = .int .i64 (a : Int) ∧ z.t 17 = .slice (some ⟨A.next + 1, 0, none⟩) r.length cap ∧
    ∃ j : Nat, k ≤ j ∧ j ≤ r.length ∧ z.t 18 = .int .i64 (j : Int) ∧ ∃ L, z.H.get (A.next + 1) = .cells true (L.flatMap Rl.cells) (cap * 3) ∧ LateAt (e : Int) r L k j) (fun z => r.length - (intOf (z.t 18)).toNat) ?_ ?_
  · refine ⟨rfl, gAB, by show A.next + 2 ≤ B.next; omega, by simp, by simp, by simp [t11], by simp [t13], by simp, by simp, k, Nat.le_refl _, by omega, by simp, r, kB, rfl, fun i => ?_⟩
    rw [if_neg (by omega)]
  clear kB nB gAB
  rintro ⟨s, _, B⟩ ⟨rfl, gB, nB, s4, s5, s11, s13, s16, s17, j, hkj, hj, s18, L, kq, hL⟩
  dsimp only at gB nB s4 s5 s11 s13 s16 s17 s18 kq
  have hLl := hL.1
  simp [s17, s18]
  by_cases hjn : j < r.length
  case pos =>
    have heq : islV 3 (.slice (some ⟨A.next + 1, 0, none⟩) r.length cap) (.int .i64 (j : Int)) = some (.pointer (some ⟨A.next + 1, j * 3, none⟩)) := by
      rw [islV_in (by omega) (by omega)]; simp
    have hpj : j < L.length := by omega
    obtain ⟨ld1, ld2⟩ := rel_ld L j hpj
    have hat : L[j] = r[j] := by
      have := hL.2 j
      rw [if_neg (by omega), List.getElem?_eq_getElem hpj, List.getElem?_eq_getElem hjn] at this
      exact Option.some.inj this
    rw [hat] at ld1 ld2
    have hv := hrel j hjn
    obtain ⟨x, hx⟩ : ∃ x, min r[j].hi (r[j].lo + (e : Int)) = x := ⟨_, rfl⟩
    have hwr := wr_lo (a := x) L j hpj
    rw [hat] at hwr
    have hclen : ((L.map fun a => a.cells.length).sum) = r.length * 3 := by rw [← List.length_flatMap, cells_len, hLl]
    have hroom : j * 3 + 1 + 1 ≤ r.length * 3 := by omega
    have hroom2 : j * 3 + 1 < r.length * 3 := by omega
    simp [hjn, s13, s17, s18, heq, kq, ld1, ld2, hrem7, add_in (x := r[j].lo) (y := (e : Int)) (by omega) (by omega)]
    rw [aval_min (k := .i64) (m := r[j].hi) (n := r[j].lo + (e : Int)) (by simp) (by simp) (by decide) (by decide), hx]
    simp [s17, s18, heq, kq]
    rw [hclen, if_pos hroom, hwr]
    simp [s18, add_in (x := j) (y := 1) (by omega) (by omega)]
    refine ⟨⟨Ge.setNew (Ge.grow_le (by have := gB.next; omega) gB) (by omega) _, by omega, s4, s5, s11, s13, s16, s17, j + 1, by omega, by omega, by omega, _, rfl, by rw [List.length_set]; exact hLl, fun i => ?_⟩, by omega⟩
    by_cases e1 : i = j
    · subst e1
      rw [List.getElem?_set_self hpj, if_pos ⟨hkj, by omega⟩, List.getElem?_eq_getElem hjn]
      simp [Rl.late, ← hx]
    · rw [List.getElem?_set_ne (Ne.symm e1), hL.2 i]
      by_cases e2 : k ≤ i ∧ i < j
      · rw [if_pos e2, if_pos ⟨e2.1, by omega⟩]
      · rw [if_neg e2, if_neg (by omega)]
  have hje : j = r.length := by omega
  have hgB := gB.next
  have hcB := gB.got hlt hc
  have hownB := hp.own.ge gB
  have hvl := hp.len
  -- the array of the blocks
  rcases hownB with ⟨hv0, h0⟩ | ⟨q, cap8, c8, hv0, q1, q2, q3, q4, q5⟩
  · have : vs.length = 0 := by rw [h0]; rfl
    omega
  have hqA : q < A.next := by
    have := hp.own.names (n := q) (by rw [hv0]; rfl)
    exact this.2
  have hislq : islV 1 (.slice (some ⟨q, 0, none⟩) vs.length cap8) (.int .i64 (a : Int)) = some (.pointer (some ⟨q, a, none⟩)) := by
    rw [islV_in (by omega) (by omega)]; simp
  have hwrq : wrL vs a [.slice (some ⟨A.next + 1, 0, none⟩) r.length cap] = vs.set a (.slice (some ⟨A.next + 1, 0, none⟩) r.length cap) := wrL_one _ _ _ (by omega)
  have haq : a + 1 ≤ vs.length := by omega
  simp [hjn, s11, s16, s17, hcB, hv0, hislq, q3, haq, hwrq]
  refine K _ _ (by simp [s4]) (by simp [s5]) (by simp [s11, t11]) ?_
  have gH : Ge H2 (B.set q (.cells true (vs.set a (.slice (some ⟨A.next + 1, 0, none⟩) r.length cap)) c8)) := (hp.ge.trans gB).setNew (by omega) _
  have hfew := hT.few
  have hpl := hT.places
  have hqX : H2.next ≠ q := by omega
  have hq1 : A.next + 1 ≠ q := by omega
  have hap := hp.ap q (by rw [hv0]; rfl)
  refine ⟨blkS D a L, v8, w', gH, by simp; omega, by rw [Heap.set_get, if_neg hqX]; exact hcB, ⟨?_, ?_⟩, ⟨by simp only [blkS, List.length_set]; exact hT.few, fun r' hr' => ?_, hT.places, hT.rows⟩, fun _ => blkS_easy hV (e := (e : Int)) (by omega) ha1 (by rw [hr]; exact hL)⟩
  · refine ⟨vs.set a (.slice (some ⟨A.next + 1, 0, none⟩) r.length cap), ?_, by simp only [blkS, List.length_set]; omega, fun i hi => ?_⟩
    · have ho : OwnSl (B.set q (.cells true (vs.set a (.slice (some ⟨A.next + 1, 0, none⟩) r.length cap)) c8)) (H2.next + 1) v8 (vs.set a (.slice (some ⟨A.next + 1, 0, none⟩) r.length cap)) :=
        .inr ⟨q, cap8, c8, by rw [List.length_set]; exact hv0, q1, by simpa using q2, by simp, by rw [List.length_set]; exact q4, q5⟩
      have := ho.slr
      rw [List.length_set, hvl] at this
      simpa [blkS] using this
    · have hi' : i < D.blocks.length := by simpa [blkS] using hi
      by_cases e1 : i = a
      · subst e1
        have hget : ((blkS D i L).blocks)[i]'hi = L := by simp [blkS]
        refine ⟨_, by rw [List.getElem?_set_self (by omega)], ?_⟩
        rw [hget]
        have ho := rels_cells (A := B.set q (.cells true (vs.set i (.slice (some ⟨A.next + 1, 0, none⟩) r.length cap)) c8)) (lo := H2.next + 1) (q := A.next + 1) (cap := cap) (c := cap * 3) (l := L) (by omega) (by simp; omega) (by rw [Heap.set_get, if_neg hq1]; exact kq) (by omega) (Nat.le_refl _)
        rw [hLl] at ho
        exact ⟨by rw [hLl]; exact ho.slr, by omega⟩
      · obtain ⟨u', m1, m2⟩ := hp.rel i hi'
        have hget : ((blkS D a L).blocks)[i]'hi = D.blocks[i] := by simp [blkS, List.getElem_set, Ne.symm e1]
        refine ⟨u', by rw [List.getElem?_set_ne (Ne.symm e1)]; exact m1, ?_⟩
        rw [hget]
        exact m2.ge gH
  · refine ⟨ws, ?_, by show D.walk.length < 2 ^ 63; omega, fun i hi => ?_⟩
    · have := ((hp.walk.own.ge gB).keep (B := B.set q (.cells true (vs.set a (.slice (some ⟨A.next + 1, 0, none⟩) r.length cap)) c8)) (by simp) fun m hm => by
        have : m ≠ q := fun e2 => hap.1 (by rw [← e2]; exact hm)
        rw [Heap.set_get, if_neg this]).slr
      rw [hp.walk.len] at this
      exact this
    · have hi' : i < D.walk.length := hi
      obtain ⟨u', m1, m2, _⟩ := hp.walk.row i hi'
      have hri := hT.rows _ (List.getElem_mem hi')
      refine ⟨u', m1, own_ints (((m2.ge gB)).keep (by simp) fun m hm => ?_) (show (D.walk[i]).length < 2 ^ 63 by omega)⟩
      have : m ≠ q := fun e2 => hap.2 i u' m1 (by rw [← e2]; exact hm)
      rw [Heap.set_get, if_neg this]
  · simp only [blkS] at hr'
    rcases List.mem_or_eq_of_mem_set hr' with hr' | rfl
    · exact hT.short r' hr'
    · omega

end Go.Proofs.YtllkhaabcfnlpaaDoor


/-
  What DutyEasier answers.
-/
namespace Go.Proofs.YtllkhaabcfnlpaaDoor
open Go Go.Ab

theorem rem8 {a c : Nat} (hc : 0 < c) : binI BinOp.rem (.int .u8 (a : Int)) (.int .u8 (c : Int)) = some (.int .u8 ((a % c : Nat) : Int)) := by
  have e : binI BinOp.rem (.int .u8 (a : Int)) (.int .u8 (c : Int)) = if (c : Int) = 0 then none else some (.int .u8 ((a : Int).tmod c)) := rfl
  have e2 : ((a : Int).tmod c) = ((a % c : Nat) : Int) := (Int.ofNat_tmod a c).symm
  rw [e, if_neg (by omega), e2]

theorem dutyEasier_of {D : Dy} {b w : Value} {H : Heap} {o p y z : Int} (h : DayAt H b w D) (ho : 0 ≤ o ∧ o < 2 ^ 8) (hp : 0 ≤ p ∧ p < 2 ^ 8) (hy : 0 ≤ y ∧ y < 2 ^ 16) (hz : 0 ≤ z ∧ z < 2 ^ 16) (hG : Gl H) (hwk : ∀ A, Ge H A → AFun Tryd.prog 16 [] A (fun r B => r = .bool true ∧ Ge A B)) :
    AFun Tryd.prog 12 [dayV D b w, .int .u8 o, .int .u8 p, .int .u16 y, .int .u16 z] H (fun r _ => r = .bool true) := by
  obtain ⟨m, rfl⟩ : ∃ m : Nat, z = (m : Int) := ⟨z.toNat, by omega⟩
  obtain ⟨n, rfl⟩ : ∃ n : Nat, y = (n : Int) := ⟨y.toNat, by omega⟩
  obtain ⟨o, rfl⟩ : ∃ n : Nat, o = (n : Int) := ⟨o.toNat, by omega⟩
  obtain ⟨p, rfl⟩ : ∃ n : Nat, p = (n : Int) := ⟨p.toNat, by omega⟩
  refine AFun.mk ok12 hm (Nat.le_of_ble_eq_true rfl) ?_
  have hb := h.blocks.one
  have hw := h.walk.one
  rw [a12_eq]
  simp [hb, hw]
  refine fcall_fun (light_spec (h.ge (by simp))) ?_
  rintro _ H1 ⟨rfl, g1⟩
  have G1 : Ge H H1 := Ge.trans (by simp) g1
  have k1 := g1.got (n := H.next) (by simp) rfl
  have n1 := g1.next
  simp at k1 n1
  cases hli : lightB D
  · simp
    refine fcall_fun (hwk _ G1) ?_
    rintro _ _ ⟨rfl, _⟩
    simp [r12]
  have hli2 := hli
  unfold lightB at hli2
  rw [Bool.and_eq_true, decide_eq_true_eq] at hli2
  obtain ⟨hT, hc, hV⟩ := ready_facts hli2.1
  have hseg : segsOf D.blocks = segN D := segPs_length.symm
  have h10 := segN_le hV
  simp [k1]
  refine fcall_fun (segments_spec (h.ge G1) hT) ?_
  rintro _ H2 ⟨rfl, g2⟩
  have G2 := G1.trans g2
  have k2 := g2.got (n := H.next) (by omega) k1
  have n2 := g2.next
  rw [hseg]
  by_cases h0 : segPs D = []
  · simp [h0]
    refine fcall_fun (hwk _ G2) ?_
    rintro _ _ ⟨rfl, _⟩
    simp [r12]
  have hpos : 0 < segN D := List.length_pos_iff.2 h0
  have hbpos : 0 < D.blocks.length := by
    refine Nat.pos_of_ne_zero fun e => ?_
    have : D.blocks = [] := List.length_eq_zero_iff.1 e
    rw [← hseg, this] at hpos
    simp [segsOf] at hpos
  have hne : H.next ≠ H2.next := by omega
  have hwn : IntKind.i64.wrap (n : Int) = (n : Int) := wrap_i64n (by omega)
  obtain ⟨x, hx⟩ : ∃ x, n % 200 = x := ⟨_, rfl⟩
  have hx2 : x < 200 := by omega
  have hrem : binI BinOp.rem (.int .i64 (n : Int)) (.int .i64 200) = some (.int .i64 (x : Int)) := by
    have := rem_int (a := n) (c := 200) (by omega)
    rw [hx] at this; exact this
  simp [h0, k2, hb, hw, hwn, hrem, hne]
  generalize hS : Heap.set _ H2.next _ = S
  have gS : Ge H2 S := by rw [← hS]; exact (Ge.new _ _).setNew (Nat.le_refl _) _
  have nS : S.next = H2.next + 1 := by rw [← hS]; simp
  have xS : S.get H2.next = .cells true [.int .i64 D.law.piece, .int .i64 D.law.drive, .int .i64 D.law.spread, .int .i64 D.law.brk, .int .i64 D.law.on, .int .i64 D.law.off, .int .i64 D.law.least, .int .i64 D.law.pieces, b, w] 10 := by rw [← hS]; simp
  clear hS
  refine fcall_fun (rowsX_spec (RowsOf.ge h.walk (G2.trans gS)) (by have := hT.places; omega) (fun l hl => by have := hT.rows l hl; omega)) ?_
  rintro w' B ⟨⟨ws, hW⟩, gB⟩
  have nB := gB.next
  have xB := gB.got (by omega) xS
  have gHB := gS.trans gB
  have kB := gHB.got (n := H.next) (by omega) k2
  have hw'1 := hW.own.one
  have hXB : H2.next ≠ B.next := by omega
  have hHB : H.next ≠ B.next := by omega
  obtain ⟨vs, hbs, hb63, hbr⟩ := h.blocks
  have hvl : vs.length = D.blocks.length := by have := hbs.length; omega
  have hfew := hT.few
  have gfull : Ge H B := G2.trans gHB
  simp [xB, hw'1, one_cells, kB, hne, hXB, hHB]
  have hone : vs.all one = true := by
    rw [List.all_eq_true]
    intro u hu
    obtain ⟨i, hi, rfl⟩ := List.mem_iff_getElem.1 hu
    obtain ⟨u', h1, h2⟩ := hbr i (by omega)
    rw [List.getElem?_eq_getElem hi] at h1
    cases h1
    exact RelsAt.one h2
  have hc0 : D.blocks.length ≤ capN 0 0 D.blocks.length := by unfold capN; split <;> omega
  generalize hcap : capN 0 0 D.blocks.length = cap at hc0
  have gX : Ge H2 ((B.set H2.next (.cells true [.int .i64 D.law.piece, .int .i64 D.law.drive, .int .i64 D.law.spread, .int .i64 D.law.brk, .int .i64 D.law.on, .int .i64 D.law.off, .int .i64 D.law.least, .int .i64 D.law.pieces, b, w'] 10)).new (.cells true [] 0)) := (gHB.setNew (Nat.le_refl _) _).newOf _
  refine ⟨0, [], some B.next, 0, D.blocks.length, vs, by simp [baseOf], (hbs.ge (G2.trans gX)).1, hone, by omega, ?_⟩
  rw [if_neg (by simp), hcap]
  simp
  generalize hC : appHeap _ (B.next + 1) (B.next + 2) (some B.next) vs cap = C
  have nC : C.next = B.next + 2 := by rw [← hC]; simp [appHeap]
  have xC : C.get H2.next = .cells true [.int .i64 D.law.piece, .int .i64 D.law.drive, .int .i64 D.law.spread, .int .i64 D.law.brk, .int .i64 D.law.on, .int .i64 D.law.off, .int .i64 D.law.least, .int .i64 D.law.pieces, b, w'] 10 := by
    have e1 : H2.next ≠ B.next + 1 := by omega
    rw [← hC]; simp [appHeap, e1, hXB]
  have qC : C.get (B.next + 1) = .cells true vs cap := by rw [← hC]; simp [appHeap]
  have oC : ∀ q, q < B.next → q ≠ H2.next → C.get q = B.get q := fun q h1 h2 => by
    have e1 : q ≠ B.next + 1 := by omega
    have e2 : q ≠ B.next := by omega
    rw [← hC]; simp [appHeap, e1, e2, h2]
  have gC : Ge H2 C := ⟨by omega, fun q hq => by rw [oC q (by omega) (by omega)]; exact gHB.get q hq⟩
  clear hC
  have hv8 : one (.slice (some ⟨B.next + 1, 0, none⟩) D.blocks.length cap) = true := rfl
  rw [nS] at hW
  have hpre : Pre12 D H2 (C.set H2.next (.cells true [.int .i64 D.law.piece, .int .i64 D.law.drive, .int .i64 D.law.spread, .int .i64 D.law.brk, .int .i64 D.law.on, .int .i64 D.law.off, .int .i64 D.law.least, .int .i64 D.law.pieces, .slice (some ⟨B.next + 1, 0, none⟩) D.blocks.length cap, w'] 10)) (.slice (some ⟨B.next + 1, 0, none⟩) D.blocks.length cap) w' vs ws := by
    have e1 : B.next + 1 ≠ H2.next := by omega
    refine ⟨gC.setNew (Nat.le_refl _) _, by simp; omega, by simp, .inr ⟨B.next + 1, cap, cap, by rw [hvl], by omega, by simp; omega, by simp [e1]; exact qC, by omega, Nat.le_refl _⟩, hvl, fun i hi => ?_, hW.keep (by simp; omega) fun q h1 h2 => ?_, fun q hq => ?_⟩
    · obtain ⟨u, h1, h2⟩ := hbr i hi
      exact ⟨u, h1, h2.ge G2⟩
    · rw [Heap.set_get, if_neg (by omega)]
      exact oC q h2 (by omega)
    · have hqe : q = B.next + 1 := by simp [slName] at hq; omega
      subst hqe
      refine ⟨fun e => ?_, fun k u hk e => ?_⟩
      · have := (hW.own.names e).2; omega
      · have hkl : k < D.walk.length := by
          have := (List.getElem?_eq_some_iff.1 hk).1
          have := hW.len
          omega
        obtain ⟨u', m1, m2, _⟩ := hW.row k hkl
        rw [hk] at m1; cases m1
        have := (m2.names e).2; omega
  obtain ⟨r9, hr9⟩ : ∃ r, o % 9 = r := ⟨_, rfl⟩
  have hr9' : r9 < 9 := by omega
  have hrem9 : binI BinOp.rem (.int .u8 (o : Int)) (.int .u8 9) = some (.int .u8 (r9 : Int)) := by
    have := rem8 (a := o) (c := 9) (by omega)
    rw [hr9] at this; exact this
  have hfinal : ∀ (t t' : Nat → Value) (A' : Heap), t 4 = .int .u16 (m : Int) → t 5 = .pointer (some ⟨H.next, 0, none⟩) → t 11 = .pointer (some ⟨H2.next, 0, none⟩) → t' 4 = t 4 → t' 5 = t 5 → t' 11 = t 11 → Fin12 D H2 A' → ∀ N, vc Tryd.prog N none (vdrawD Tryd.prog) tail12 (bodyQ Tryd.prog r12 fun r _ => r = .bool true) ⟨t', [], A'⟩ := fun t t' A' a4 a5 a11 e4 e5 e11 hF N =>
    tail12_spec h hT hc hli2.2 hpos hG hwk G2 (by omega) k2 (e4.trans a4) (e5.trans a5) (e11.trans a11) hF
  have hcases : r9 = 0 ∨ r9 = 1 ∨ r9 = 2 ∨ r9 = 3 ∨ r9 = 4 ∨ r9 = 5 ∨ r9 = 6 ∨ r9 = 7 ∨ r9 = 8 := by omega
  simp [xC, hrem9]
  rcases hcases with e | e | e | e | e | e | e | e | e
  · subst e
    simp
    refine arm0_spec hV hT hpre hx2 (by simp) (by simp) fun t' A' e4 e5 e11 hF => ?_
    simp
    exact hfinal _ _ _ (by simp) (by simp) (by simp) e4 e5 e11 hF _
  · subst e
    simp
    refine arm1_spec hV hT hpre hx2 (by simp) (by simp) fun t' A' e4 e5 e11 hF => ?_
    simp
    exact hfinal _ _ _ (by simp) (by simp) (by simp) e4 e5 e11 hF _
  · subst e
    simp
    refine arm2_spec hV hT hpre hx2 (by simp) (by simp) fun t' A' e4 e5 e11 hF => ?_
    simp
    exact hfinal _ _ _ (by simp) (by simp) (by simp) e4 e5 e11 hF _
  · subst e
    simp
    refine arm3_spec hV hT hpre hx2 (by simp) (by simp) fun t' A' e4 e5 e11 hF => ?_
    simp
    exact hfinal _ _ _ (by simp) (by simp) (by simp) e4 e5 e11 hF _
  · subst e
    simp
    refine arm4_spec hV hT hpre hx2 (by simp) (by simp) fun t' A' e4 e5 e11 hF => ?_
    simp
    exact hfinal _ _ _ (by simp) (by simp) (by simp) e4 e5 e11 hF _
  · subst e
    simp
    refine arm5_spec hV hT hpre hx2 (by simp) (by simp) fun t' A' e4 e5 e11 hF => ?_
    simp
    exact hfinal _ _ _ (by simp) (by simp) (by simp) e4 e5 e11 hF _
  · subst e
    simp
    refine arm6_spec hV hT hpre hx2 (by simp) (by simp) fun t' A' e4 e5 e11 hF => ?_
    simp
    exact hfinal _ _ _ (by simp) (by simp) (by simp) e4 e5 e11 hF _
  · subst e
    simp
    refine arm7_spec (p := p) hV hT hpre hx2 (by omega) (by simp) (by simp) (by simp) fun t' A' e4 e5 e11 hF => ?_
    simp
    exact hfinal _ _ _ (by simp) (by simp) (by simp) e4 e5 e11 hF _
  · subst e
    simp
    refine arm8_spec (p := p) hV hT hbpos hpre hx2 (by omega) (by simp) rfl (by simp) (by simp) fun t' A' e4 e5 e11 hF => ?_
    simp
    exact hfinal _ _ _ (by simp) (by simp) (by simp) e4 e5 e11 hF _

end Go.Proofs.YtllkhaabcfnlpaaDoor


/-
  The tables of math/bits, and a world for the witness, as the laws of package duty need them.
-/
namespace Go.Proofs.YtllkhaabcfnlpaaDoor
open Go Go.Ab Go.ChangeShapes Go.WideShapes Go.ChangeAt Go.RowKit

theorem ownT : ownKnob Tryd.prog.godebug = none := by kernel_rfl
theorem gTab0 : Tryd.prog.globalNamed "math/bits.deBruijn32tab" = some 0 := by kernel_rfl
theorem gTab1 : Tryd.prog.globalNamed "math/bits.deBruijn64tab" = some 1 := by kernel_rfl
theorem gType0 : (Tryd.prog.globals[0]?).map (·.type) = some 180 := by kernel_rfl
theorem gType1 : (Tryd.prog.globals[1]?).map (·.type) = some 181 := by kernel_rfl
theorem cellsT180 : Tryd.prog.cellsOf 180 = 32 := by kernel_rfl
theorem cellsT181 : Tryd.prog.cellsOf 181 = 64 := by kernel_rfl
theorem cellsT5 : Tryd.prog.cellsOf 5 = 1 := by kernel_rfl

theorem laidT : laidOutB Tryd.prog = true := by kernel_rfl
theorem readT {l : List Nat} (h : l.all (fun t => Tryd.prog.readableRec t && decide (t < Tryd.prog.types.size)) = true) : ∀ t ∈ l, Tryd.prog.readableRec t = true ∧ t < Tryd.prog.types.size := by
  intro t ht
  have := List.all_eq_true.1 h t ht
  simpa using this

/-- What the row's list gives. -/
abbrev tabsL {H : Type} : List (String × DataW H) := [("math/bits.deBruijn32tab", Rows.laid_math_bits_deBruijn32tab), ("math/bits.deBruijn64tab", Rows.laid_math_bits_deBruijn64tab)]
theorem tables {W : World} (h : laidMetH Tryd.prog tabsL W) : gmax ≤ W.heap.size ∧ ∀ g, g < gmax → ∃ cs c, [gl0, gl1][g]? = some (some (false, cs, c)) ∧ cs.all flat1 = true ∧ (absH W.heap).get g = .cells false cs c := by
  have t0 := abs_tab (Lib.tabIs_of_head (k := .u8) (zs := [0, 1, 28, 2, 29, 14, 24, 3, 30, 22, 20, 15, 25, 17, 4, 8, 31, 27, 13, 23, 21, 19, 16, 7, 26, 12, 18, 6, 11, 5, 10, 9]) gTab0 gType0 Tryd.underlying180 Tryd.underlying5 cellsT5 cellsT180 h) gTab0
  have t1 := abs_tab (Lib.tabIs_of_head (k := .u8) (zs := [0, 1, 56, 2, 57, 49, 28, 3, 61, 58, 42, 50, 38, 29, 17, 4, 62, 47, 59, 36, 45, 43, 51, 22, 53, 39, 33, 30, 24, 18, 12, 5, 63, 55, 48, 27, 60, 41, 37, 16, 46, 35, 44, 21, 52, 32, 23, 11, 54, 26, 40, 15, 34, 20, 31, 10, 25, 14, 19, 9, 13, 8, 7, 6]) (rest := []) gTab1 gType1 Tryd.underlying181 Tryd.underlying5 cellsT5 cellsT181 (laidMet.tail h)) gTab1
  refine ⟨t1.1, fun g hg => ?_⟩
  match g, hg with
  | 0, _ => exact ⟨_, _, rfl, rfl, t0.2⟩
  | 1, _ => exact ⟨_, _, rfl, rfl, t1.2⟩

/-- A world for the witness: the settled one with the arguments' memory, the tables holding what their initialisers lay. -/
noncomputable def laidCells (l : Array Value) : Obj → Obj
  | .cells _ t frozen => .cells l t frozen
  | o => o
noncomputable def laidWorld (os : Os) (args : Array Value) : World :=
  { World.holding Tryd.prog os ⟨#[], args, []⟩ with heap := ((World.holding Tryd.prog os ⟨#[], args, []⟩).heap.modify 0 (laidCells #[.int .u8 0, .int .u8 1, .int .u8 28, .int .u8 2, .int .u8 29, .int .u8 14, .int .u8 24, .int .u8 3, .int .u8 30, .int .u8 22, .int .u8 20, .int .u8 15, .int .u8 25, .int .u8 17, .int .u8 4, .int .u8 8, .int .u8 31, .int .u8 27, .int .u8 13, .int .u8 23, .int .u8 21, .int .u8 19, .int .u8 16, .int .u8 7, .int .u8 26, .int .u8 12, .int .u8 18, .int .u8 6, .int .u8 11, .int .u8 5, .int .u8 10, .int .u8 9])).modify 1 (laidCells #[.int .u8 0, .int .u8 1, .int .u8 56, .int .u8 2, .int .u8 57, .int .u8 49, .int .u8 28, .int .u8 3, .int .u8 61, .int .u8 58, .int .u8 42, .int .u8 50, .int .u8 38, .int .u8 29, .int .u8 17, .int .u8 4, .int .u8 62, .int .u8 47, .int .u8 59, .int .u8 36, .int .u8 45, .int .u8 43, .int .u8 51, .int .u8 22, .int .u8 53, .int .u8 39, .int .u8 33, .int .u8 30, .int .u8 24, .int .u8 18, .int .u8 12, .int .u8 5, .int .u8 63, .int .u8 55, .int .u8 48, .int .u8 27, .int .u8 60, .int .u8 41, .int .u8 37, .int .u8 16, .int .u8 46, .int .u8 35, .int .u8 44, .int .u8 21, .int .u8 52, .int .u8 32, .int .u8 23, .int .u8 11, .int .u8 54, .int .u8 26, .int .u8 40, .int .u8 15, .int .u8 34, .int .u8 20, .int .u8 31, .int .u8 10, .int .u8 25, .int .u8 14, .int .u8 19, .int .u8 9, .int .u8 13, .int .u8 8, .int .u8 7, .int .u8 6]) }

end Go.Proofs.YtllkhaabcfnlpaaDoor


/-
  The arguments of the laws of package duty, as the calculus has them: days, lists, rows, words, numbers.
-/
namespace Go.Proofs.YtllkhaabcfnlpaaDoor
open Go Go.Ab Go.RowKit Go.ChangeShapes Go.WideShapes

theorem cells3 : Tryd.prog.cellsOf 3 = 1 := by kernel_rfl
theorem cells28 : Tryd.prog.cellsOf 28 = 1 := by kernel_rfl
theorem cells80 : Tryd.prog.cellsOf 80 = 1 := by kernel_rfl
theorem cells24 : Tryd.prog.cellsOf 24 = 1 := by kernel_rfl
theorem cells25 : Tryd.prog.cellsOf 25 = 1 := by kernel_rfl
theorem cells82 : Tryd.prog.cellsOf 82 = 2 := by kernel_rfl
theorem cells84 : Tryd.prog.cellsOf 84 = 3 := by kernel_rfl
theorem cells23 : Tryd.prog.cellsOf 23 = 8 := by kernel_rfl
theorem cells27 : Tryd.prog.cellsOf 27 = 10 := by kernel_rfl
theorem abs_size (hp : Array Obj) : hp.size ≤ (absH hp).next := Nat.le_succ_of_le (Nat.le_mul_of_pos_right _ (Nat.succ_pos _))

theorem list3 {l : List Value} (h : l.length = 3) : ∃ a b c, l = [a, b, c] := by
  match l, h with
  | [a, b, c], _ => exact ⟨a, b, c, rfl⟩
theorem list10 {l : List Value} (h : l.length = 10) : ∃ a b c d e f g i j k, l = [a, b, c, d, e, f, g, i, j, k] := by
  match l, h with
  | [a, b, c, d, e, f, g, i, j, k], _ => exact ⟨a, b, c, d, e, f, g, i, j, k, rfl⟩

section
variable {H : Type} {enc : TypeId × Value → H} {w : World} {fuel : Nat} {v : Value} {x : DataW H × List MemPlace}

theorem maxLen_lt {n : Nat} (h : n ≤ maxLen) : n < 2 ^ 63 := by
  have : maxLen = 9223372036854775807 := rfl
  omega

theorem read_list (h : DataW.trod enc Tryd.prog w 0 (fun _ => true) true fuel 28 [v] = some x) : goodV w.heap.size (capM w.heap) v = true ∧ ∃ xs : List Int, IntsAt (absH w.heap) (absV w.heap.size v) xs := by
  obtain ⟨h1, xs, h2, h3, _⟩ := read_ints Tryd.underlying28 Tryd.underlying3 cells3 h
  exact ⟨h1, xs, h2, maxLen_lt h3⟩

theorem read_of {t e : TypeId} {α : Type} {R : Heap → Value → α → Prop} (ht : Tryd.prog.underlying t = some (.slice e)) (hc : Tryd.prog.cellsOf e = 1)
    (hs : ∀ n cs y, DataW.trod enc Tryd.prog w 0 (fun _ => true) true n e cs = some y → ∃ u, cs = [u])
    (hr : ∀ n u y, DataW.trod enc Tryd.prog w 0 (fun _ => true) true n e [u] = some y → goodV w.heap.size (capM w.heap) u = true ∧ ∃ x : α, R (absH w.heap) (absV w.heap.size u) x)
    (h : DataW.trod enc Tryd.prog w 0 (fun _ => true) true fuel t [v] = some x) : goodV w.heap.size (capM w.heap) v = true ∧ ∃ xs : List α, RowsOf R (absH w.heap) (absV w.heap.size v) xs := by
  obtain ⟨h1, l, h2, h3, h4⟩ := read_slice (α := α × Value) (f := fun x => [x.2]) (Q := fun x => R (absH w.heap) x.2 x.1) ht (by rw [hc]; omega) (fun n cs y hy => by
    obtain ⟨u, rfl⟩ := hs _ _ _ hy
    obtain ⟨k1, xs, k2⟩ := hr _ _ _ hy
    exact ⟨by simpa using k1, (xs, absV w.heap.size u), rfl, k2⟩) h
  refine ⟨h1, l.map (·.1), l.map (·.2), ?_, by simpa using maxLen_lt h3, fun i hi => ?_⟩
  · rw [hc] at h2
    have e : l.flatMap (fun x => [x.2]) = l.map (·.2) := by
      clear h2 h3 h4
      induction l with
      | nil => rfl
      | cons x l ih => simp [ih]
    rw [← e, List.length_map]
    exact h2
  · simp at hi
    exact ⟨l[i].2, by simp [hi], by simpa using h4 _ (List.getElem_mem hi)⟩

theorem one_slice {t e : TypeId} (ht : Tryd.prog.underlying t = some (.slice e)) {n : Nat} {cs : List Value} {y : DataW H × List MemPlace} (hy : DataW.trod enc Tryd.prog w 0 (fun _ => true) true n t cs = some y) : ∃ u, cs = [u] := by
  rcases Deep.open_slice ht hy with ⟨hv, _⟩ | ⟨a, len, cap, m, n, D, Pl, hv, _⟩ <;> exact ⟨_, hv⟩

theorem read_rows (h : DataW.trod enc Tryd.prog w 0 (fun _ => true) true fuel 25 [v] = some x) : goodV w.heap.size (capM w.heap) v = true ∧ ∃ xs : List (List Int), RowsAt (absH w.heap) (absV w.heap.size v) xs :=
  read_of Tryd.underlying25 cells28 (fun _ _ _ hy => one_slice Tryd.underlying28 hy) (fun _ _ _ hy => read_list hy) h

theorem read_relief {cs : List Value} (h : DataW.trod enc Tryd.prog w 0 (fun _ => true) true fuel 84 cs = some x) : (∀ u ∈ cs, goodV w.heap.size (capM w.heap) u = true) ∧ ∃ t : Rl, cs.map (absV w.heap.size) = t.cells ∧ True := by
  obtain ⟨ys, n, _, _, hl, hyl, hf⟩ := DataW.trod_struct Tryd.underlying84 h
  rw [cells84] at hl
  obtain ⟨c0, c1, c2, rfl⟩ := list3 hl
  have hy2 : ys.length = 2 := by simpa using hyl
  have e0 := hf 0 _ rfl
  have e1 := hf 1 _ rfl
  simp [cells3, cells82, hy2] at e0 e1
  obtain ⟨zs, m, _, _, hl', hyl', hf'⟩ := DataW.trod_struct Tryd.underlying82 e1
  have hz2 : zs.length = 2 := by simpa using hyl'
  have e2 := hf' 0 _ rfl
  have e3 := hf' 1 _ rfl
  simp [cells3, hz2] at e2 e3
  obtain ⟨z0, hz0, _⟩ := DataW.trod_int Tryd.underlying3 e0
  obtain ⟨z1, hz1, _⟩ := DataW.trod_int Tryd.underlying3 e2
  obtain ⟨z2, hz2, _⟩ := DataW.trod_int Tryd.underlying3 e3
  simp at hz0 hz1 hz2
  subst hz0 hz1 hz2
  exact ⟨by simp [goodV], ⟨z0, z1, z2⟩, rfl, trivial⟩

theorem read_rels (h : DataW.trod enc Tryd.prog w 0 (fun _ => true) true fuel 80 [v] = some x) : goodV w.heap.size (capM w.heap) v = true ∧ ∃ xs : List Rl, RelsAt (absH w.heap) (absV w.heap.size v) xs := by
  obtain ⟨h1, xs, h2, h3, _⟩ := read_slice (α := Rl) (f := Rl.cells) (Q := fun _ => True) Tryd.underlying80 (by rw [cells84]; omega) (fun n cs y hy => read_relief hy) h
  rw [cells84] at h2
  exact ⟨h1, xs, h2, maxLen_lt h3⟩

theorem read_blks (h : DataW.trod enc Tryd.prog w 0 (fun _ => true) true fuel 24 [v] = some x) : goodV w.heap.size (capM w.heap) v = true ∧ ∃ xs : List (List Rl), BlksAt (absH w.heap) (absV w.heap.size v) xs :=
  read_of Tryd.underlying24 cells80 (fun _ _ _ hy => one_slice Tryd.underlying80 hy) (fun _ _ _ hy => read_rels hy) h
end

section
variable {H : Type} {enc : TypeId × Value → H} {w : World} {base : Nat} {v : Value} {d : DataW H} {p : List MemPlace}

set_option maxRecDepth 100000 in
theorem read_dayV (hval : Value.okWide Tryd.prog w .any base 27 v) (h : DataW.Trod enc Tryd.prog w 0 (fun _ => true) true 27 v d p) :
    ∃ D b u, VR (absB w.heap) (dayV D b u) v ∧ DayAt (absH w.heap) b u D := by
  obtain ⟨cs, rfl, hsz⟩ := okWide_struct Tryd.underlying27 hval
  obtain ⟨fuel, h⟩ := h
  simp only [Value.cells] at h
  obtain ⟨ys, n, _, _, hl, hyl, hf⟩ := DataW.trod_struct Tryd.underlying27 h
  rw [cells27] at hl
  obtain ⟨l, rfl⟩ : ∃ l : List Value, cs = l.toArray := ⟨cs.toList, by simp⟩
  simp only at hl hf
  obtain ⟨c0, c1, c2, c3, c4, c5, c6, c7, c8, c9, rfl⟩ := list10 hl
  have hy3 : ys.length = 3 := by simpa using hyl
  have e0 := hf 0 _ rfl
  have e1 := hf 1 _ rfl
  have e2 := hf 2 _ rfl
  simp [cells23, cells24, cells25, hy3] at e0 e1 e2
  obtain ⟨zs, m, _, _, hl', hyl', hf'⟩ := DataW.trod_struct Tryd.underlying23 e0
  have hz8 : zs.length = 8 := by simpa using hyl'
  have f0 := hf' 0 _ rfl
  have f1 := hf' 1 _ rfl
  have f2 := hf' 2 _ rfl
  have f3 := hf' 3 _ rfl
  have f4 := hf' 4 _ rfl
  have f5 := hf' 5 _ rfl
  have f6 := hf' 6 _ rfl
  have f7 := hf' 7 _ rfl
  simp [cells3, hz8] at f0 f1 f2 f3 f4 f5 f6 f7
  obtain ⟨z0, h0, _⟩ := DataW.trod_int Tryd.underlying3 f0
  obtain ⟨z1, h1, _⟩ := DataW.trod_int Tryd.underlying3 f1
  obtain ⟨z2, h2, _⟩ := DataW.trod_int Tryd.underlying3 f2
  obtain ⟨z3, h3, _⟩ := DataW.trod_int Tryd.underlying3 f3
  obtain ⟨z4, h4, _⟩ := DataW.trod_int Tryd.underlying3 f4
  obtain ⟨z5, h5, _⟩ := DataW.trod_int Tryd.underlying3 f5
  obtain ⟨z6, h6, _⟩ := DataW.trod_int Tryd.underlying3 f6
  obtain ⟨z7, h7, _⟩ := DataW.trod_int Tryd.underlying3 f7
  obtain ⟨g8, xs, k8⟩ := read_blks e1
  obtain ⟨g9, us, k9⟩ := read_rows e2
  simp at h0 h1 h2 h3 h4 h5 h6 h7
  subst h0 h1 h2 h3 h4 h5 h6 h7
  refine ⟨⟨⟨z0, z1, z2, z3, z4, z5, z6, z7⟩, xs, us⟩, absV w.heap.size c8, absV w.heap.size c9, VR.mk_agg ?_, ⟨k8, k9⟩⟩
  exact ⟨.int _ _, .int _ _, .int _ _, .int _ _, .int _ _, .int _ _, .int _ _, .int _ _, good_VR g8, good_VR g9, trivial⟩

set_option maxRecDepth 100000 in
theorem read_u16V (hval : Value.okWide Tryd.prog w .any base 71 v) (h : DataW.Trod enc Tryd.prog w 0 (fun _ => true) true 71 v d p) : ∃ x : Int, VR (absB w.heap) (.int .u16 x) v ∧ (0 ≤ x ∧ x < 65536) := by
  obtain ⟨x, rfl⟩ := okWide_int Tryd.underlying71 hval
  obtain ⟨fuel, h⟩ := h
  obtain ⟨z, hz, _, hw⟩ := DataW.trod_int Tryd.underlying71 h
  simp [Value.cells] at hz
  subst hz
  simp [Lit.wf, IntKind.min, IntKind.max, IntKind.signed, IntKind.bits] at hw
  exact ⟨x, .int _ _, by omega⟩
set_option maxRecDepth 100000 in
theorem read_u8V (hval : Value.okWide Tryd.prog w .any base 5 v) (h : DataW.Trod enc Tryd.prog w 0 (fun _ => true) true 5 v d p) : ∃ x : Int, VR (absB w.heap) (.int .u8 x) v ∧ (0 ≤ x ∧ x < 256) := by
  obtain ⟨x, rfl⟩ := okWide_int Tryd.underlying5 hval
  obtain ⟨fuel, h⟩ := h
  obtain ⟨z, hz, _, hw⟩ := DataW.trod_int Tryd.underlying5 h
  simp [Value.cells] at hz
  subst hz
  simp [Lit.wf, IntKind.min, IntKind.max, IntKind.signed, IntKind.bits] at hw
  exact ⟨x, .int _ _, by omega⟩
end

end Go.Proofs.YtllkhaabcfnlpaaDoor


/-
  The table of the package math/bits in the program's memory.
-/
namespace Go.Proofs.YtllkhaabcfnlpaaDoor
open Go Go.Ab

theorem gl_of {W : World} (hgl : gmax ≤ W.heap.size) (hgc : ∀ g, g < gmax → ∃ cs c, [gl0, gl1][g]? = some (some (false, cs, c)) ∧ cs.all flat1 = true ∧ (absH W.heap).get g = .cells false cs c) : Gl (absH W.heap) := by
  obtain ⟨cs, c, k1, _, k3⟩ := hgc 1 (by decide)
  have e := Option.some.inj (Option.some.inj k1)
  have e1 : tz64 = cs := congrArg (fun p => p.2.1) e
  subst e1
  exact ⟨Nat.le_trans hgl (abs_size _), c, k3⟩

end Go.Proofs.YtllkhaabcfnlpaaDoor

