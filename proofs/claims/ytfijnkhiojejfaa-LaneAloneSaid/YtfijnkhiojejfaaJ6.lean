/-
  Joined texts of a calculus of abstract memory, of the program's code in it, and of contracts.
-/
import Derived.Test.YtfijnkhiojejfaaJ5
import Derived.Lib.LaidTab
import Derived.Stop.LaidErr
namespace Go.Ab

def COk (P : Program) (N : Nat) : ACode → Prop
  | .seq a b => COk P N a ∧ COk P N b
  | .cond _ a b => COk P N a ∧ COk P N b
  | .block _ b => COk P N b
  | .loop b => COk P N b
  | .rangeF _ _ as bo x y => ccode P N (cdraw P N) as = some x ∧ ccode P N (cdraw P N) bo = some y
  | _ => True

theorem ccode_COk {P : Program} {N : Nat} : ∀ {c : Code} {ac : ACode}, ccode P N (cdraw P N) c = some ac → COk P N ac := by
  intro c
  induction c with
  | seq a b iha ihb =>
    intro ac h
    simp only [ccode] at h
    split at h
    · rename_i x y h1 h2
      simp only [Option.some.injEq] at h; subst h
      exact ⟨iha h1, ihb h2⟩
    · cases h
  | cond c a b iha ihb =>
    intro ac h
    simp only [ccode] at h
    split at h
    · rename_i c' x y h0 h1 h2
      simp only [Option.some.injEq] at h; subst h
      exact ⟨iha h1, ihb h2⟩
    · cases h
  | block i b ih =>
    intro ac h
    simp only [ccode, Option.map_eq_some_iff] at h
    obtain ⟨x, h1, rfl⟩ := h
    show COk P N x
    exact ih h1
  | loop b ih =>
    intro ac h
    simp only [ccode, Option.map_eq_some_iff] at h
    obtain ⟨x, h1, rfl⟩ := h
    show COk P N x
    exact ih h1
  | scope b ih =>
    intro ac h
    simp only [ccode] at h
    exact ih h
  | rangeFunc g ps as bo iha ihb =>
    intro ac h
    simp only [ccode] at h
    split at h
    · rename_i g' x y h0 h1 h2
      simp only [Option.some.injEq] at h; subst h
      exact ⟨h1, h2⟩
    · cases h
  | region i ops d =>
    intro ac h
    cases d with
    | false =>
      simp only [ccode, Option.map_eq_some_iff] at h
      obtain ⟨x, _, rfl⟩ := h
      trivial
    | true =>
      simp only [ccode, Option.map_eq_some_iff] at h
      obtain ⟨x, _, rfl⟩ := h
      trivial
  | skip => intro ac h; simp only [ccode, Option.some.injEq] at h; subst h; trivial
  | exit i => intro ac h; simp only [ccode, Option.some.injEq] at h; subst h; trivial
  | ret => intro ac h; simp only [ccode, Option.some.injEq] at h; subst h; trivial
  | label l => intro ac h; simp only [ccode, Option.some.injEq] at h; subst h; trivial
  | _ => intro ac h; simp [ccode] at h

section
variable {P : Program} {tab : Tab} {run : RunT} {eo : EqO}

def Leads (P : Program) (N : Nat) (ro : Option Nat) (c : ACode) (t : Tri Value) (d : List Nat) (h : Tri EObj) (nx : Nat) (e : AExit) (t1 : Tri Value) (d1 : List Nat) (h1 : Tri EObj) (nx1 : Nat) : Prop :=
  ∀ (F : Nat → FuncId) (Q : APost), (∀ F', Q e (stX F' t1 d1 h1 nx1)) → vc P N ro (vdrawD P) c Q (stX F t d h nx)

inductive LTr (P : Program) (N : Nat) (ro : Option Nat) (b : ACode) (e : AExit) (t1 : Tri Value) (d1 : List Nat) (h1 : Tri EObj) (nx1 : Nat) : Nat → Tri Value → List Nat → Tri EObj → Nat → Prop
  | out {t d h nx} (he : e ≠ .normal) (hl : Leads P N ro b t d h nx e t1 d1 h1 nx1) : LTr P N ro b e t1 d1 h1 nx1 0 t d h nx
  | on {n t d h nx t2 d2 h2 nx2} (hl : Leads P N ro b t d h nx .normal t2 d2 h2 nx2) (hr : LTr P N ro b e t1 d1 h1 nx1 n t2 d2 h2 nx2) : LTr P N ro b e t1 d1 h1 nx1 (n + 1) t d h nx

theorem least_of {p : Nat → Prop} : ∀ n, p n → ∃ m, p m ∧ ∀ k, p k → m ≤ k := by
  intro n
  induction n using Nat.strongRecOn with
  | _ n ih =>
    intro hn
    by_cases h : ∃ k, k < n ∧ p k
    · obtain ⟨k, hk, hp⟩ := h
      exact ih k hk hp
    · exact ⟨n, hn, fun k hk => Nat.le_of_not_lt fun hlt => h ⟨k, hlt, hk⟩⟩

theorem LTr.leads {N : Nat} {ro : Option Nat} {b : ACode} {e : AExit} {t1 : Tri Value} {d1 : List Nat} {h1 : Tri EObj} {nx1 n : Nat} {t : Tri Value} {d : List Nat} {h : Tri EObj} {nx : Nat} (hl : LTr P N ro b e t1 d1 h1 nx1 n t d h nx) :
    Leads P N ro (.loop b) t d h nx e t1 d1 h1 nx1 := by
  intro F Q hQ
  classical
  let p : St → Nat → Prop := fun x m => ∃ t d h nx F, x = stX F t d h nx ∧ LTr P N ro b e t1 d1 h1 nx1 m t d h nx
  let μ : St → Nat := fun x => if hx : ∃ m, p x m ∧ ∀ k, p x k → m ≤ k then hx.choose else 0
  have hμ : ∀ x m, p x m → p x (μ x) ∧ μ x ≤ m := by
    intro x m hm
    have hx := least_of (p := p x) m hm
    have e1 : μ x = hx.choose := dif_pos hx
    rw [e1]
    exact ⟨hx.choose_spec.1, hx.choose_spec.2 m hm⟩
  refine ⟨fun x => ∃ m, p x m, μ, ⟨n, t, d, h, nx, F, rfl, hl⟩, fun x ⟨m, hm⟩ => ?_⟩
  obtain ⟨hp, _⟩ := hμ x m hm
  obtain ⟨t', d', h', nx', F', rfl, hr⟩ := hp
  generalize hk : μ (stX F' t' d' h' nx') = k at hr
  cases hr with
  | out he hl =>
    refine hl F' _ fun F2 => ?_
    cases e with
    | normal => exact absurd rfl he
    | exit i => exact hQ F2
    | ret => exact hQ F2
  | on hl hr =>
    refine hl F' _ fun F2 => ?_
    have hq : p (stX F2 _ _ _ _) _ := ⟨_, _, _, _, F2, rfl, hr⟩
    refine ⟨⟨_, hq⟩, ?_⟩
    have := (hμ _ _ hq).2
    omega

def RunOk (P : Program) (run : RunT) : Prop := ∀ N ro c t d h nx κ, COk P N c → HOk P h → run N ro c t d h nx κ = true →
  ∃ e t1 d1 h1 nx1, κ e t1 d1 h1 nx1 = true ∧ HOk P h1 ∧ Leads P N ro c t d h nx e t1 d1 h1 nx1 ∧ ∀ b, c = .loop b → ∃ n, LTr P N ro b e t1 d1 h1 nx1 n t d h nx

def TabOk (P : Program) (tab : Tab) : Prop := ∀ f N ac rs, tab f = some (N, ac, rs) → FnOk P f N ac rs

theorem FnOk.cok {f N : Nat} {ac : ACode} {rs : List AOp} (h : FnOk P f N ac rs) : COk P N ac := by
  obtain ⟨fn, h1, rfl, h3, h4, h5⟩ := h
  cases hb : fn.body with
  | none => rw [hb] at h3; cases h3
  | some c => rw [hb] at h3; exact ccode_COk h3

theorem initK_ok : ∀ {vs : List Value} {i : Nat} {t : Tri Value} {κ : Tri Value → Bool}, initK vs i t κ = true → ∃ t', κ t' = true ∧ ∀ j, t'.get j = if i ≤ j ∧ j < i + vs.length then vs[j - i]? else t.get j
  | [], i, t, κ, h => ⟨t, h, fun j => by rw [if_neg (by simp only [List.length_nil]; omega)]⟩
  | v :: vs, i, t, κ, h => by
    unfold initK at h
    obtain ⟨t1, h, hs⟩ := Tri.setK_ok h
    obtain ⟨t', h1, h2⟩ := initK_ok h
    refine ⟨t', h1, fun j => ?_⟩
    have e : Nat.add i 1 = i + 1 := rfl
    rw [h2, e, hs]
    by_cases hj : j = i
    · subst hj
      rw [if_neg (by omega), if_pos rfl, if_pos (by simp)]
      simp
    · rw [if_neg hj]
      by_cases hr : i + 1 ≤ j ∧ j < i + 1 + vs.length
      · rw [if_pos hr, if_pos (by simp; omega)]
        have : j - i = (j - (i + 1)) + 1 := by omega
        rw [this, List.getElem?_cons_succ]
      · rw [if_neg hr, if_neg (by simp; omega)]
theorem initK_tinit {vs : List Value} {κ : Tri Value → Bool} (h : initK vs 0 .leaf κ = true) : ∃ t', κ t' = true ∧ toT t' = tinit vs := by
  obtain ⟨t', h1, h2⟩ := initK_ok h
  refine ⟨t', h1, ?_⟩
  funext j
  simp only [toT, tinit, h2, Nat.zero_le, true_and, Nat.zero_add, Nat.sub_zero, Tri.get_leaf, List.getD_eq_getElem?_getD]
  by_cases hj : j < vs.length
  · rw [if_pos hj]
  · rw [if_neg hj, List.getElem?_eq_none (by omega)]

theorem leaveK_ok : ∀ {d : List Nat} {h : Tri EObj} {κ : Tri EObj → Bool}, leaveK d h κ = true → HOk P h → ∃ h1, κ h1 = true ∧ HOk P h1 ∧ ∀ (F : Nat → FuncId) (nx : Nat) (K : Heap → Prop), K (toH F h1 nx) → vleave d (toH F h nx) K
  | [], h, κ, hk, hh => ⟨h, hk, hh, fun F nx K hK => hK⟩
  | n :: d, h, κ, hk, hh => by
    unfold leaveK at hk
    split at hk
    · rename_i hg
      obtain ⟨h1, hk, hs⟩ := Tri.setK_ok hk
      obtain ⟨h2, q1, q2, q3⟩ := leaveK_ok hk (hh.set hs fun r hr => (by cases hr))
      refine ⟨h2, q1, q2, fun F nx K hK => ⟨by rw [toH_get hg]; rfl, ?_⟩⟩
      have e : (toH F h nx).set n .gone = toH F h1 nx := by rw [toH_set (nx := nx) hs]; rfl
      rw [e]
      exact q3 F nx K hK
    · cases hk

theorem ressK_ok {t : Tri Value} {h : Tri EObj} : ∀ {rs : List AOp} {κ : List Value → Bool}, ressK P t h rs κ = true → ∃ vs, κ vs = true ∧ ∀ (F : Nat → FuncId) nx, avals P (toT t) (toH F h nx) rs = some vs
  | [], κ, hk => ⟨[], hk, fun F nx => rfl⟩
  | x :: rs, κ, hk => by
    unfold ressK at hk
    cases hd : dMov x with
    | none =>
      rw [hd] at hk
      obtain ⟨v, hv, hk⟩ := opn_ok hk
      rw [valC_eq] at hk
      obtain ⟨vs, h1, h2⟩ := ressK_ok hk
      exact ⟨v :: vs, h1, fun F nx => by simp only [avals, valX_ok (F := F) (nx := nx) hv, h2 F nx]⟩
    | some y =>
      rw [hd] at hk
      have := dMov_ok hd
      subst this
      have hk' : (evK t y fun v => ressK P t h rs fun vs => κ (v :: vs)) = true := hk
      rw [evK_eq] at hk'
      obtain ⟨vs, h1, h2⟩ := ressK_ok hk'
      exact ⟨_, h1, fun F nx => by simp only [avals, aval, h2 F nx]⟩

theorem retK_ok {rs : List AOp} {t : Tri Value} {d : List Nat} {h : Tri EObj} {nx : Nat} {κ : Value → Tri EObj → Nat → Bool} (hk : retK P rs t d h nx κ = true) (hh : HOk P h) :
    ∃ v h1, κ v h1 nx = true ∧ HOk P h1 ∧ ∀ (F : Nat → FuncId) (R : Value → Heap → Prop) (e : AExit), e = .normal ∨ e = .ret → R v (toH F h1 nx) → bodyQ P rs R e (stX F t d h nx) := by
  unfold retK at hk
  obtain ⟨h1, hk, hh1, hv⟩ := leaveK_ok hk hh
  obtain ⟨vs, hk, hr⟩ := ressK_ok hk
  have : κ (tup vs) h1 nx = true := by
    match vs, hk with
    | [], hk => exact hk
    | [v], hk => exact hk
    | v :: u :: l, hk => exact hk
  refine ⟨tup vs, h1, this, hh1, fun F R e he hR => ?_⟩
  rcases he with rfl | rfl
  · rw [stX, bodyQ_normal]
    exact hv F nx _ ⟨vs, hr F nx, hR⟩
  · rw [stX, bodyQ_ret]
    exact hv F nx _ ⟨vs, hr F nx, hR⟩

theorem funK_ok (hm : P.follows .mixedOrders = true) (ht : TabOk P tab) (hr : RunOk P run) {f : FuncId} {args : List Value} {h : Tri EObj} {nx : Nat} {κ : Value → Tri EObj → Nat → Bool} (hk : funK P tab run f args h nx κ = true) (hh : HOk P h) :
    ∃ v h1 nx1, κ v h1 nx1 = true ∧ HOk P h1 ∧ ∀ (F : Nat → FuncId) (R : Value → Heap → Prop), (∀ F', R v (toH F' h1 nx1)) → AFun P f args (toH F h nx) R := by
  unfold funK at hk
  split at hk
  · cases hk
  · rename_i N ac rs htab
    have hf := ht _ _ _ _ htab
    split at hk
    · rename_i hle
      obtain ⟨t0, hk, ht0⟩ := initK_tinit hk
      obtain ⟨e, t1, d1, h1, nx1, hk, hh1, hl, _⟩ := hr _ _ _ _ _ _ _ _ hf.cok hh hk
      have fin : (e = .normal ∨ e = .ret) → retK P rs t1 d1 h1 nx1 κ = true → ∃ v h1 nx1, κ v h1 nx1 = true ∧ HOk P h1 ∧ ∀ (F : Nat → FuncId) (R : Value → Heap → Prop), (∀ F', R v (toH F' h1 nx1)) → AFun P f args (toH F h nx) R := by
        intro he hk
        obtain ⟨v, h2, q1, q2, q3⟩ := retK_ok hk hh1
        refine ⟨v, h2, nx1, q1, q2, fun F R hR => ?_⟩
        refine AFun.mk hf hm (Nat.le_of_ble_eq_true hle) ?_
        have := hl F (bodyQ P rs R) fun F' => q3 F' R e he (hR F')
        rw [stX, ht0] at this
        exact this
      cases e with
      | normal => exact fin (.inl rfl) hk
      | ret => exact fin (.inr rfl) hk
      | exit i => cases hk
    · cases hk

theorem troundK_ok : ∀ {ps : List Nat} {vs : List Value} {t : Tri Value} {κ : Tri Value → Bool}, troundK ps vs t κ = true → ∃ t', κ t' = true ∧ toT t' = tround ps vs (toT t)
  | [], _, t, κ, h => ⟨t, h, rfl⟩
  | _ :: _, [], t, κ, h => ⟨t, h, rfl⟩
  | p :: ps, v :: vs, t, κ, h => by
    unfold troundK at h
    obtain ⟨t1, h, hs⟩ := Tri.setK_ok h
    obtain ⟨t2, h1, h2⟩ := troundK_ok h
    exact ⟨t2, h1, by rw [h2, toT_set hs]; rfl⟩

theorem roundK_ok (hm : P.follows .mixedOrders = true) (hr : RunOk P run) {n : Nat} {args : List Value} {h : Tri EObj} {nx : Nat} {κ : Value → Tri EObj → Nat → Bool} (hk : roundK run n args h nx κ = true) (hh : HOk P h) :
    ∃ v h1 nx1, κ v h1 nx1 = true ∧ HOk P h1 ∧ ∀ (F : Nat → FuncId) (R : Value → Heap → Prop), (∀ F', R v (toH F' h1 nx1)) → ACall P (.func (.yield n) #[] #[]) args (toH F h nx) R := by
  unfold roundK at hk
  split at hk
  · rename_i st0 pd0 t0 N ps as bo x y df hg
    obtain ⟨hc1, hc2⟩ := hh _ _ hg
    split at hk
    · rename_i hb
      rw [Bool.and_eq_true] at hb
      obtain ⟨t1, hk, ht1⟩ := troundK_ok hk
      obtain ⟨e, t2, d2, h2, nx2, hk, hh2, hl1, _⟩ := hr _ _ _ _ _ _ _ _ (ccode_COk hc1) hh hk
      split at hk
      · unfold roundBusy at hk
        split at hk
        · rename_i pd1 t3 N1 ps1 as1 bo1 x1 y1 df1 hg1
          obtain ⟨h3, hk, hs3⟩ := Tri.setK_ok hk
          have hh3 : HOk P h3 := hh2.set hs3 fun r hr => by
            simp only [EObj.loop.injEq] at hr; subst hr
            have := hh2 _ _ hg1
            exact this
          obtain ⟨e2, t4, d4, h4, nx4, hk, hh4, hl2, _⟩ := hr _ _ _ _ _ _ _ _ (ccode_COk hc2) hh3 hk
          unfold roundEnd at hk
          split at hk
          · rename_i st5 pd5 t5 N5 ps5 as5 bo5 x5 y5 df5 hg5
            -- the end of the round
            obtain ⟨v, h5, hk5, hh5, hend⟩ : ∃ v h5, κ v h5 nx4 = true ∧ HOk P h5 ∧ ∀ (F : Nat → FuncId) (R : Value → Heap → Prop), R v (toH F h5 nx4) → roundQ n R e2 (stX F t4 d4 h4 nx4) := by
              cases e2 with
              | normal =>
                obtain ⟨h5, hk, hs5⟩ := Tri.setK_ok hk
                refine ⟨.bool true, h5, hk, hh4.set hs5 fun r hr => by simp only [EObj.loop.injEq] at hr; subst hr; have := hh4 _ _ hg5; exact this, fun F R hR => ?_⟩
                refine ⟨_, toH_get hg5, ?_⟩
                have e : (toH F h4 nx4).set n (.loop { (ELoop.toA (F n) ⟨st5, pd5, t5, N5, ps5, as5, bo5, x5, y5, df5⟩) with state := .ready, pending := none }) = toH F h5 nx4 := by rw [toH_set (nx := nx4) hs5]; rfl
                show R (.bool true) ((toH F h4 nx4).set n _)
                rw [e]; exact hR
              | ret =>
                obtain ⟨h5, hk, hs5⟩ := Tri.setK_ok hk
                refine ⟨.bool false, h5, hk, hh4.set hs5 fun r hr => by simp only [EObj.loop.injEq] at hr; subst hr; have := hh4 _ _ hg5; exact this, fun F R hR => ?_⟩
                refine ⟨_, toH_get hg5, ?_⟩
                have e : (toH F h4 nx4).set n (.loop { (ELoop.toA (F n) ⟨st5, pd5, t5, N5, ps5, as5, bo5, x5, y5, df5⟩) with state := .done, pending := some .ret }) = toH F h5 nx4 := by rw [toH_set (nx := nx4) hs5]; rfl
                show R (.bool false) ((toH F h4 nx4).set n _)
                rw [e]; exact hR
              | exit i =>
                obtain ⟨h5, hk, hs5⟩ := Tri.setK_ok hk
                refine ⟨.bool false, h5, hk, hh4.set hs5 fun r hr => by simp only [EObj.loop.injEq] at hr; subst hr; have := hh4 _ _ hg5; exact this, fun F R hR => ?_⟩
                refine ⟨_, toH_get hg5, ?_⟩
                have e : (toH F h4 nx4).set n (.loop { (ELoop.toA (F n) ⟨st5, pd5, t5, N5, ps5, as5, bo5, x5, y5, df5⟩) with state := .done, pending := some (.exit i) }) = toH F h5 nx4 := by rw [toH_set (nx := nx4) hs5]; rfl
                show R (.bool false) ((toH F h4 nx4).set n _)
                rw [e]; exact hR
            refine ⟨v, h5, nx4, hk5, hh5, fun F R hR => ?_⟩
            refine ACall.of_yield (r := ELoop.toA (F n) ⟨st0, pd0, t0, N, ps, as, bo, x, y, df⟩) (toH_get hg) (of_decide_eq_true hb.1) (fun p hp => ?_) hc1 hc2 (draw_sound hm) ?_
            · have := List.all_eq_true.1 hb.2 p hp
              exact of_decide_eq_true this
            · show vc P N (some n) (vdrawD P) x _ ⟨tround ps.toList args (toT t0), [], toH F h nx⟩
              rw [← ht1]
              refine hl1 F _ fun F2 => ⟨rfl, _, toH_get hg1, rfl, ?_⟩
              have e : (toH F2 h2 nx2).set n (.loop { (ELoop.toA (F2 n) ⟨.ready, pd1, t3, N1, ps1, as1, bo1, x1, y1, df1⟩) with state := .busy }) = toH F2 h3 nx2 := by rw [toH_set (nx := nx2) hs3]; rfl
              show vc P N (some n) (vdrawD P) y _ ⟨toT t2, d2, (toH F2 h2 nx2).set n _⟩
              rw [e]
              exact hl2 F2 _ fun F3 => hend F3 R (hR F3)
          · cases hk
        · cases hk
      · cases hk
    · cases hk
  · cases hk

theorem callWith_ok (hm : P.follows .mixedOrders = true) (ht : TabOk P tab) (hr : RunOk P run) : CallOk P (callWith P tab run) := by
  intro fv args h nx κ hk hh
  unfold callWith at hk
  split at hk
  · rename_i f xs us
    rw [idK_eq] at hk
    obtain ⟨v, h1, nx1, q1, q2, q3⟩ := funK_ok hm ht hr hk hh
    exact ⟨v, h1, nx1, q1, q2, fun F R hR => ACall.of_fun (q3 F R hR)⟩
  · rename_i T f xs us
    split at hk
    · rename_i td x rest hT hx
      split at hk
      · cases hk
      · rename_i hp
        rw [idK_eq] at hk
        obtain ⟨v, h1, nx1, q1, q2, q3⟩ := funK_ok hm ht hr hk hh
        refine ⟨v, h1, nx1, q1, q2, fun F R hR => ACall.of_via hT (fun e he => ?_) hx (q3 F R hR)⟩
        subst he
        cases hp
    · cases hk
  · exact roundK_ok hm hr hk hh
  · cases hk

theorem endK_ok {n : Nat} {t : Tri Value} {d : List Nat} {h : Tri EObj} {nx : Nat} {κ : AExit → StK} (hk : endK n t d h nx κ = true) (hh : HOk P h) :
    ∃ e h1, κ e t d h1 nx = true ∧ HOk P h1 ∧ ∀ (F : Nat → FuncId) (Q : APost) (d0 : List Nat) (H0 : Heap), Q e (stX F t d h1 nx) → endQ Q ⟨toT t, d0, H0⟩ n d (toH F h nx) := by
  unfold endK at hk
  split at hk
  · rename_i st pd t1 N1 ps1 as1 bo1 x1 y1 df1 hg
    split at hk
    · cases hk
    · rename_i hb
      have hb := of_decide_eq_false hb
      obtain ⟨h1, hk, hs⟩ := Tri.setK_ok hk
      have hh1 : HOk P h1 := hh.set hs fun r hr => by simp only [EObj.loop.injEq] at hr; subst hr; have := hh _ _ hg; exact this
      have key : ∀ F : Nat → FuncId, (toH F h nx).set n (.loop { (ELoop.toA (F n) ⟨st, pd, t1, N1, ps1, as1, bo1, x1, y1, df1⟩) with state := .exhausted }) = toH F h1 nx := fun F => by rw [toH_set (nx := nx) hs]; rfl
      split at hk
      · refine ⟨.normal, h1, hk, hh1, fun F Q d0 H0 hQ => ⟨_, toH_get hg, hb, ?_⟩⟩
        show Q .normal ⟨toT t, d, (toH F h nx).set n _⟩
        rw [key F]; exact hQ
      · refine ⟨.ret, h1, hk, hh1, fun F Q d0 H0 hQ => ⟨_, toH_get hg, hb, ?_⟩⟩
        show Q .ret ⟨toT t, d, (toH F h nx).set n _⟩
        rw [key F]; exact hQ
      · rename_i id _
        refine ⟨.exit id, h1, hk, hh1, fun F Q d0 H0 hQ => ⟨_, toH_get hg, hb, ?_⟩⟩
        show Q (.exit id) ⟨toT t, d, (toH F h nx).set n _⟩
        rw [key F]; exact hQ
      · cases hk
  · cases hk

theorem heap_eq {g g' : Nat → AObj} {n n' : Nat} (h1 : ∀ m, g m = g' m) (h2 : n = n') : Heap.mk g n = Heap.mk g' n' := by
  subst h2
  congr 1
  funext m
  exact h1 m

def setF (F : Nat → FuncId) (n : Nat) (f : FuncId) : Nat → FuncId := fun m => if m = n then f else F m

theorem rangeK_ok (hm : P.follows .mixedOrders = true) (ht : TabOk P tab) (hr : RunOk P run) {N : Nat} {ro : Option Nat} {g : Opd} {ps : Array Tmp} {as bo : Code} {x y : ACode} {t : Tri Value} {d : List Nat} {h : Tri EObj} {nx : Nat} {κ : AExit → StK}
    (hc : ccode P N (cdraw P N) as = some x ∧ ccode P N (cdraw P N) bo = some y) (hfr : ∀ n, nx ≤ n → h.get n = none ∨ True) (hk : rangeK P tab run N ro g ps as bo x y t d h nx κ = true) (hh : HOk P h) :
    ∃ e t1 d1 h1 nx1, κ e t1 d1 h1 nx1 = true ∧ HOk P h1 ∧ Leads P N ro (.rangeF g ps as bo x y) t d h nx e t1 d1 h1 nx1 := by
  unfold rangeK at hk
  split at hk
  · rename_i f xs us hgv
    split at hk
    · rw [natK_eq, natK_eq] at hk
      obtain ⟨h1, hk, hs1⟩ := Tri.setK_ok hk
      obtain ⟨h2, hk, hs2⟩ := Tri.setK_ok hk
      rw [idK_eq] at hk
      have hh1 : HOk P h1 := hh.set hs1 fun r hr => (by cases hr)
      have hh2 : HOk P h2 := hh1.set hs2 fun r hr => by simp only [EObj.loop.injEq] at hr; subst hr; exact hc
      obtain ⟨v, h3, nx3, hk, hh3, hA⟩ := funK_ok hm ht hr hk hh2
      obtain ⟨e, h4, hk, hh4, hE⟩ := endK_ok hk hh3
      refine ⟨e, t, nx :: d, h4, nx3, hk, hh4, fun F Q hQ => ?_⟩
      refine ⟨f, _, _, hgv, fun fn => ?_⟩
      have e1 : ((toH F h nx).new .dfr).new (.loop { state := .ready, pending := none, fn, t := toT t, N, params := ps, assign := as, body := bo, defers := nx }) = toH (setF F (nx + 1) fn) h2 (nx + 2) := by
        rw [toH_set (nx := nx + 1) (nx' := nx + 2) hs2, toH_set (nx := nx) (nx' := nx + 1) hs1]
        refine heap_eq (fun m => ?_) rfl
        show (if m = nx + 1 then _ else if m = nx then _ else _) = if m = nx + 1 then _ else if m = nx then _ else _
        by_cases q1 : m = nx + 1
        · simp only [q1, if_true, EObj.toA, ELoop.toA, setF]
        · by_cases q2 : m = nx
          · rw [if_neg q1, if_neg q1, if_pos q2, if_pos q2]; rfl
          · rw [if_neg q1, if_neg q1, if_neg q2, if_neg q2]; simp only [toH, setF, q1, if_false]
      show AFun P f _ (((toH F h nx).new .dfr).new _) _
      have e2 : (stX F t d h nx).H.next = nx := rfl
      show AFun P f (xs ++ [.func (.yield (nx + 1)) #[] #[]] ++ us) (((toH F h nx).new .dfr).new (.loop { state := .ready, pending := none, fn, t := toT t, N, params := ps, assign := as, body := bo, defers := nx })) _
      rw [e1]
      exact hA _ _ fun F' => hE F' Q _ _ (hQ F')
    · split at hk
      · rename_i l0 _ st0 pd0 t0 N0 ps0 as0 bo0 x0 y0 df0 hg0
        rw [natK_eq] at hk
        obtain ⟨h2, hk, hs2⟩ := Tri.setK_ok hk
        rw [idK_eq] at hk
        have hh2 : HOk P h2 := hh.set hs2 fun r hr => by simp only [EObj.loop.injEq] at hr; subst hr; exact hc
        obtain ⟨v, h3, nx3, hk, hh3, hA⟩ := funK_ok hm ht hr hk hh2
        obtain ⟨e, h4, hk, hh4, hE⟩ := endK_ok hk hh3
        refine ⟨e, t, d, h4, nx3, hk, hh4, fun F Q hQ => ?_⟩
        refine ⟨f, _, _, hgv, _, toH_get hg0, fun fn => ?_⟩
        have e1 : (toH F h nx).new (.loop { state := .ready, pending := none, fn, t := toT t, N, params := ps, assign := as, body := bo, defers := df0 }) = toH (setF F nx fn) h2 (nx + 1) := by
          rw [toH_set (nx := nx) (nx' := nx + 1) hs2]
          refine heap_eq (fun m => ?_) rfl
          show (if m = nx then _ else _) = if m = nx then _ else _
          by_cases q2 : m = nx
          · simp only [q2, if_true, EObj.toA, ELoop.toA, setF]
          · rw [if_neg q2, if_neg q2]; simp only [toH, setF, q2, if_false]
        show AFun P f (xs ++ [.func (.yield nx) #[] #[]] ++ us) ((toH F h nx).new (.loop { state := .ready, pending := none, fn, t := toT t, N, params := ps, assign := as, body := bo, defers := df0 })) _
        rw [e1]
        exact hA _ _ fun F' => hE F' Q _ _ (hQ F')
      · cases hk
  · cases hk

def WOk (P : Program) (W : CallK → CallK) : Prop := ∀ call, CallOk P call → CallOk P (W call)
theorem WOk.id (P : Program) : WOk P fun c => c := fun _ h => h

variable {W : CallK → CallK}
theorem runS_ok (hm : P.follows .mixedOrders = true) (ht : TabOk P tab) (he : EqOk P eo) (hW : WOk P W) (hr : RunOk P run) : RunOk P (runS P eo tab W run) := by
  intro N ro c t d h nx κ hc hh hk
  have hcall := hW _ (callWith_ok hm ht hr)
  cases c with
  | skip => exact ⟨_, t, d, h, nx, hk, hh, fun F Q hQ => hQ F, fun b hb => by cases hb⟩
  | region ops =>
    obtain ⟨t1, h1, nx1, q1, q2, q3⟩ := opsK_ok hcall he (show opsK P eo (W (callWith P tab run)) ops t d h nx (κ .normal) = true from hk) hh
    exact ⟨_, t1, d, h1, nx1, q1, q2, fun F Q hQ => q3 F (Q .normal) hQ, fun b hb => by cases hb⟩
  | draw n steps =>
    have hk' : (natK (Nat.add nx n) fun nx' => drawK P eo (W (callWith P tab run)) nx steps [] t d h nx' (κ .normal)) = true := hk
    rw [natK_eq] at hk'
    obtain ⟨t1, h1, nx1, q1, q2, q3⟩ := drawK_ok hcall he hk' hh
    exact ⟨_, t1, d, h1, nx1, q1, q2, fun F Q hQ => q3 F (Q .normal) hQ, fun b hb => by cases hb⟩
  | seq a b =>
    obtain ⟨e, t1, d1, h1, nx1, hk, hh1, hl, _⟩ := hr _ _ _ _ _ _ _ _ hc.1 hh (show run N ro a t d h nx _ = true from hk)
    cases e with
    | normal =>
      obtain ⟨e2, t2, d2, h2, nx2, hk, hh2, hl2, _⟩ := hr _ _ _ _ _ _ _ _ hc.2 hh1 hk
      exact ⟨e2, t2, d2, h2, nx2, hk, hh2, fun F Q hQ => hl F _ fun F' => hl2 F' Q hQ, fun b hb => by cases hb⟩
    | exit i => exact ⟨_, t1, d1, h1, nx1, hk, hh1, fun F Q hQ => hl F _ fun F' => hQ F', fun b hb => by cases hb⟩
    | ret => exact ⟨_, t1, d1, h1, nx1, hk, hh1, fun F Q hQ => hl F _ fun F' => hQ F', fun b hb => by cases hb⟩
  | cond g a b =>
    unfold runS at hk
    simp only at hk
    split at hk
    · rename_i hg
      obtain ⟨e, t1, d1, h1, nx1, hk, hh1, hl, _⟩ := hr _ _ _ _ _ _ _ _ hc.1 hh hk
      exact ⟨e, t1, d1, h1, nx1, hk, hh1, fun F Q hQ => ⟨true, hg, by rw [acond_true]; exact hl F Q hQ⟩, fun b hb => by cases hb⟩
    · rename_i hg
      obtain ⟨e, t1, d1, h1, nx1, hk, hh1, hl, _⟩ := hr _ _ _ _ _ _ _ _ hc.2 hh hk
      exact ⟨e, t1, d1, h1, nx1, hk, hh1, fun F Q hQ => ⟨false, hg, by rw [acond_false]; exact hl F Q hQ⟩, fun b hb => by cases hb⟩
    · cases hk
  | block i b =>
    obtain ⟨e, t1, d1, h1, nx1, hk, hh1, hl, _⟩ := hr _ _ _ _ _ _ _ _ (show COk P N b from hc) hh (show run N ro b t d h nx _ = true from hk)
    cases e with
    | normal => exact ⟨_, t1, d1, h1, nx1, hk, hh1, fun F Q hQ => hl F _ fun F' => hQ F', fun b hb => by cases hb⟩
    | ret => exact ⟨_, t1, d1, h1, nx1, hk, hh1, fun F Q hQ => hl F _ fun F' => hQ F', fun b hb => by cases hb⟩
    | exit j =>
      simp only at hk
      split at hk
      · rename_i hb
        have hji := Nat.eq_of_beq_eq_true hb
        exact ⟨_, t1, d1, h1, nx1, hk, hh1, fun F Q hQ => hl F _ fun F' => by rw [hji, blockQ_exit_same]; exact hQ F', fun b hb => by cases hb⟩
      · rename_i hb
        have hne : j ≠ i := fun e => by subst e; rw [Nat.beq_refl] at hb; cases hb
        exact ⟨_, t1, d1, h1, nx1, hk, hh1, fun F Q hQ => hl F _ fun F' => by rw [blockQ_exit_other hne]; exact hQ F', fun b hb => by cases hb⟩
  | loop b =>
    obtain ⟨e, t1, d1, h1, nx1, hk, hh1, hl, _⟩ := hr _ _ _ _ _ _ _ _ (show COk P N b from hc) hh (show run N ro b t d h nx _ = true from hk)
    cases e with
    | normal =>
      obtain ⟨e2, t2, d2, h2, nx2, hk, hh2, _, hl2⟩ := hr _ _ _ _ _ _ _ _ hc hh1 hk
      obtain ⟨n, hn⟩ := hl2 b rfl
      have hL : LTr P N ro b e2 t2 d2 h2 nx2 (n + 1) t d h nx := .on hl hn
      exact ⟨e2, t2, d2, h2, nx2, hk, hh2, hL.leads, fun b' hb => by cases hb; exact ⟨_, hL⟩⟩
    | exit i =>
      have hL : LTr P N ro b (.exit i) t1 d1 h1 nx1 0 t d h nx := .out (by simp) hl
      exact ⟨_, t1, d1, h1, nx1, hk, hh1, hL.leads, fun b' hb => by cases hb; exact ⟨_, hL⟩⟩
    | ret =>
      have hL : LTr P N ro b .ret t1 d1 h1 nx1 0 t d h nx := .out (by simp) hl
      exact ⟨_, t1, d1, h1, nx1, hk, hh1, hL.leads, fun b' hb => by cases hb; exact ⟨_, hL⟩⟩
  | exit i => exact ⟨_, t, d, h, nx, hk, hh, fun F Q hQ => hQ F, fun b hb => by cases hb⟩
  | ret => exact ⟨_, t, d, h, nx, hk, hh, fun F Q hQ => hQ F, fun b hb => by cases hb⟩
  | rangeF g ps as bo x y =>
    obtain ⟨e, t1, d1, h1, nx1, q1, q2, q3⟩ := rangeK_ok hm ht hr hc (fun _ _ => .inr trivial) (show rangeK P tab run N ro g ps as bo x y t d h nx κ = true from hk) hh
    exact ⟨e, t1, d1, h1, nx1, q1, q2, q3, fun b hb => by cases hb⟩

theorem runK_ok (hm : P.follows .mixedOrders = true) (ht : TabOk P tab) (he : EqOk P eo) (hW : WOk P W) : ∀ f, RunOk P (runK P eo tab W f)
  | 0 => fun _ _ _ _ _ _ _ _ _ _ hk => by cases hk
  | f + 1 => runS_ok hm ht he hW (runK_ok hm ht he hW f)

end

end Go.Ab


namespace Go.Ab

def globP : Places := fun n => if n < gmax then some ⟨n, 0, 0, 0, 0⟩ else none

theorem OR.flatten {β β' : Places} {l : Loc} {hp : Array Obj} {cs : List Value} {c : Nat} (hf : cs.all flat1 = true) (h : OR β l hp (.cells false cs c)) : OR β' l hp (.cells false cs c) := by
  obtain ⟨h1, arr, el, fr, h2, h3, h4, h5⟩ := h
  refine ⟨h1, arr, el, fr, h2, h3, h4, ?_⟩
  rw [flatL_eq hf h5]
  exact flatL_VR β' hf

theorem AFun.closed {P : Program} {f : FuncId} {Hs H : Heap} {b : Bool} (hnx : Hs.next = gmax) (hgo : ∀ n, gmax ≤ n → Hs.get n = .gone)
    (hc : ∀ g, g < gmax → ∃ cs c, Hs.get g = .cells false cs c ∧ cs.all flat1 = true ∧ H.get g = .cells false cs c)
    (h : AFun P f [] Hs fun v _ => v = .bool b) : AFun P f [] H fun v B => v = .bool b ∧ B = H := by
  refine ⟨h.1, fun β w us hw hus => ?_⟩
  have hus0 : VL globP [] us := by cases us with | nil => trivial | cons _ _ => exact hus.elim
  have hw0 : WR globP Hs w.heap := by
    refine ⟨fun n l hn => ?_, fun n m k l hn _ ho => ?_, fun n hn => ?_, fun n hn => ?_, fun g hg => ?_⟩
    · unfold globP at hn
      split at hn
      · rename_i hlt
        cases hn
        obtain ⟨cs, c, e1, e2, e3⟩ := hc n hlt
        have := hw.obj n _ (hw.glob n hlt)
        rw [e3] at this
        rw [e1]
        exact this.flatten e2
      · cases hn
    · unfold globP at hn
      split at hn
      · rename_i hlt
        obtain ⟨cs, c, e1, _, _⟩ := hc n hlt
        rw [e1] at ho
        cases ho
      · cases hn
    · rw [hnx] at hn
      unfold globP
      rw [if_neg (by omega)]
    · rw [hnx] at hn
      exact hgo n hn
    · unfold globP; rw [if_pos hg]
  refine (h.2 globP w us hw0 hus0).mono (RetE.mono fun u w' ⟨v, H', β', hR, hv, hw', hf⟩ => ?_)
  subst hR
  have hno : ∀ n l, globP n = some l → (Hs.get n).owns = true → False := by
    intro n l hn ho
    unfold globP at hn
    split at hn
    · rename_i hlt
      obtain ⟨cs, c, e1, _, _⟩ := hc n hlt
      rw [e1] at ho; cases ho
    · cases hn
  have hkeep : ∀ q, q < w.heap.size → w'.heap[q]? = w.heap[q]? := fun q hq => hf.keep q hq fun n l hn ho => (hno n l hn ho).elim
  rw [hv.of_bool]
  refine ⟨.bool b, H, β, ⟨rfl, rfl⟩, .bool b, ⟨fun n l hn => ?_, hw.apart, hw.fresh, hw.clean, hw.glob⟩, ⟨hf.os, hf.tape, hf.output, hf.size, fun _ _ => rfl, Nat.le_refl _, fun q hq _ => hkeep q hq, fun n l hn ho _ => ⟨n, l, hn, ho, rfl⟩, fun _ _ _ => rfl⟩⟩
  have ho := hw.obj n l hn
  by_cases hl : (H.get n).live = true
  · exact ho.same (hkeep _ (ho.lt hl))
  · have : H.get n = .gone := by cases hg : H.get n <;> simp_all [AObj.live]
    rw [this]; trivial

theorem HOk.leaf {P : Program} : HOk P .leaf := fun n r h => by cases h

end Go.Ab


namespace Go.Ab

def rn1 (τ : Nat → Option Nat) (v : Value) : Option Value := match v with
  | .pointer (some ⟨n, o, none⟩) => (τ n).map fun m => .pointer (some ⟨m, o, none⟩)
  | .slice (some ⟨n, o, none⟩) l c => (τ n).map fun m => .slice (some ⟨m, o, none⟩) l c
  | .slice (some ⟨0, 0, some 0⟩) 0 0 => some v
  | v => if flat1 v then some v else none
def rnL (τ : Nat → Option Nat) : List Value → Option (List Value)
  | [] => some []
  | x :: l => match rn1 τ x, rnL τ l with
    | some x, some l => some (x :: l)
    | _, _ => none
def rnA (τ : Nat → Option Nat) (v : Value) : Option Value := match v with
  | .agg ⟨l⟩ => (rnL τ l).map fun l => .agg ⟨l⟩
  | v => rn1 τ v
def rnAL (τ : Nat → Option Nat) : List Value → Option (List Value)
  | [] => some []
  | x :: l => match rnA τ x, rnAL τ l with
    | some x, some l => some (x :: l)
    | _, _ => none
def rnV (τ : Nat → Option Nat) (v : Value) : Option Value := match v with
  | .tuple ⟨l⟩ => (rnAL τ l).map fun l => .tuple ⟨l⟩
  | v => rnA τ v
def rnO (τ : Nat → Option Nat) : AObj → Option AObj
  | .gone => some .gone
  | .cells rw cs c => (rnL τ cs).map fun cs => .cells rw cs c
  | _ => none

section
variable {β β' : Places} {τ : Nat → Option Nat}

theorem flat1_swap {v u : Value} (h : flat1 v = true) (hr : VR β v u) : VR β' v u := by
  rw [flat1_eq h hr]; exact flat1_VR β' h

theorem rn1_VR (hE : ∀ n m, τ n = some m → β n = β' m) {v v' : Value} (h : rn1 τ v = some v') : ∀ u, VR β v u ↔ VR β' v' u := by
  intro u
  unfold rn1 at h
  split at h
  · rename_i n o
    cases hn : τ n with
    | none => rw [hn] at h; cases h
    | some m =>
      rw [hn] at h
      simp only [Option.map_some, Option.some.injEq] at h; subst h
      have e := hE n m hn
      constructor
      · intro hr; cases hr with
        | ptr h => exact .ptr (e ▸ h)
      · intro hr; cases hr with
        | ptr h => exact .ptr (e ▸ h)
  · rename_i n o l c
    cases hn : τ n with
    | none => rw [hn] at h; cases h
    | some m =>
      rw [hn] at h
      simp only [Option.map_some, Option.some.injEq] at h; subst h
      have e := hE n m hn
      constructor
      · intro hr; cases hr with
        | slice h hc => exact .slice (e ▸ h) hc
      · intro hr; cases hr with
        | slice h hc => exact .slice (e ▸ h) hc
  · simp only [Option.some.injEq] at h; subst h
    constructor
    · intro hr; cases hr with
      | void a c => exact .void a c
    · intro hr; cases hr with
      | void a c => exact .void a c
  · split at h
    · rename_i hf
      simp only [Option.some.injEq] at h; subst h
      exact ⟨flat1_swap hf, flat1_swap hf⟩
    · cases h

theorem rnL_VL (hE : ∀ n m, τ n = some m → β n = β' m) : ∀ {l l' : List Value}, rnL τ l = some l' → ∀ us, VL β l us ↔ VL β' l' us
  | [], l', h, us => by
    simp only [rnL, Option.some.injEq] at h; subst h
    cases us <;> exact Iff.rfl
  | x :: l, l', h, us => by
    simp only [rnL] at h
    split at h
    · rename_i y k h1 h2
      simp only [Option.some.injEq] at h; subst h
      cases us with
      | nil => exact Iff.rfl
      | cons u us => exact and_congr (rn1_VR hE h1 u) (rnL_VL hE h2 us)
    · cases h
theorem rnL_length : ∀ {l l' : List Value}, rnL τ l = some l' → l'.length = l.length
  | [], l', h => by simp only [rnL, Option.some.injEq] at h; subst h; rfl
  | x :: l, l', h => by
    simp only [rnL] at h
    split at h
    · rename_i y k h1 h2
      simp only [Option.some.injEq] at h; subst h
      simp [rnL_length h2]
    · cases h

theorem rnA_VR (hE : ∀ n m, τ n = some m → β n = β' m) {v v' : Value} (h : rnA τ v = some v') : ∀ u, VR β v u ↔ VR β' v' u := by
  intro u
  unfold rnA at h
  split at h
  · rename_i l
    cases hl : rnL τ l with
    | none => rw [hl] at h; cases h
    | some l' =>
      rw [hl] at h
      simp only [Option.map_some, Option.some.injEq] at h; subst h
      constructor
      · intro hr
        obtain ⟨ys, rfl, hy⟩ := hr.of_agg
        exact .mk_agg ((rnL_VL hE hl _).1 hy)
      · intro hr
        obtain ⟨ys, rfl, hy⟩ := hr.of_agg
        exact .mk_agg ((rnL_VL hE hl _).2 hy)
  · exact rn1_VR hE h u

theorem rnAL_VL (hE : ∀ n m, τ n = some m → β n = β' m) : ∀ {l l' : List Value}, rnAL τ l = some l' → ∀ us, VL β l us ↔ VL β' l' us
  | [], l', h, us => by
    simp only [rnAL, Option.some.injEq] at h; subst h
    cases us <;> exact Iff.rfl
  | x :: l, l', h, us => by
    simp only [rnAL] at h
    split at h
    · rename_i y k h1 h2
      simp only [Option.some.injEq] at h; subst h
      cases us with
      | nil => exact Iff.rfl
      | cons u us => exact and_congr (rnA_VR hE h1 u) (rnAL_VL hE h2 us)
    · cases h

theorem rnV_VR (hE : ∀ n m, τ n = some m → β n = β' m) {v v' : Value} (h : rnV τ v = some v') : ∀ u, VR β v u ↔ VR β' v' u := by
  intro u
  unfold rnV at h
  split at h
  · rename_i l
    cases hl : rnAL τ l with
    | none => rw [hl] at h; cases h
    | some l' =>
      rw [hl] at h
      simp only [Option.map_some, Option.some.injEq] at h; subst h
      constructor
      · intro hr
        obtain ⟨ys, rfl, hy⟩ := hr.of_tuple
        exact .mk_tuple ((rnAL_VL hE hl _).1 hy)
      · intro hr
        obtain ⟨ys, rfl, hy⟩ := hr.of_tuple
        exact .mk_tuple ((rnAL_VL hE hl _).2 hy)
  · exact rnA_VR hE h u

theorem rnO_OR (hE : ∀ n m, τ n = some m → β n = β' m) {x y : AObj} (h : rnO τ x = some y) (l : Loc) (hp : Array Obj) : OR β l hp x ↔ OR β' l hp y := by
  cases x with
  | gone => simp only [rnO, Option.some.injEq] at h; subst h; exact Iff.rfl
  | cells rw cs c =>
    simp only [rnO] at h
    cases hl : rnL τ cs with
    | none => rw [hl] at h; cases h
    | some cs' =>
      rw [hl] at h
      simp only [Option.map_some, Option.some.injEq] at h; subst h
      have e := rnL_length hl
      simp only [OR, e]
      constructor
      · rintro ⟨h1, arr, el, fr, h2, h3, h4, h5⟩
        exact ⟨h1, arr, el, fr, h2, h3, h4, (rnL_VL hE hl _).1 h5⟩
      · rintro ⟨h1, arr, el, fr, h2, h3, h4, h5⟩
        exact ⟨h1, arr, el, fr, h2, h3, h4, (rnL_VL hE hl _).2 h5⟩
  | _ => simp [rnO] at h
theorem rnO_owns {x y : AObj} (h : rnO τ x = some y) : y.owns = x.owns ∧ y.live = x.live := by
  cases x with
  | gone => simp only [rnO, Option.some.injEq] at h; subst h; exact ⟨rfl, rfl⟩
  | cells rw cs c =>
    simp only [rnO] at h
    cases hl : rnL τ cs with
    | none => rw [hl] at h; cases h
    | some cs' =>
      rw [hl] at h
      simp only [Option.map_some, Option.some.injEq] at h; subst h
      exact ⟨rfl, rfl⟩
  | _ => simp [rnO] at h
end

structure Lies (H0 H : Heap) (ι : Nat → Option Nat) : Prop where
  clean0 : ∀ n, H0.next ≤ n → H0.get n = .gone
  obj : ∀ n m, ι n = some m → H0.get n = .gone ∨ rnO ι (H0.get n) = some (H.get m)
  inj : ∀ n n' m, ι n = some m → ι n' = some m → n = n'
  glob : ∀ g, g < gmax → ι g = some g
  bnd : ∀ n m, ι n = some m → n < H0.next ∧ m < H.next

structure Turn (H0 HB : Heap) (H B : Heap) (ι τ : Nat → Option Nat) : Prop where
  old : ∀ n m, ι n = some m → τ n = some m
  new : ∀ n m, τ n = some m → ι n = some m ∨ (H0.next ≤ n ∧ H.next ≤ m ∧ m < B.next ∧ (HB.get n).owns = true ∧ rnO τ (HB.get n) = some (B.get m))
  tinj : ∀ n n' m, τ n = some m → τ n' = some m → n = n'
  same : ∀ n m, ι n = some m → HB.get n = H0.get n
  bold : ∀ m, m < H.next → B.get m = H.get m
  bclean : ∀ m, B.next ≤ m → B.get m = .gone ∨ B.get m = H.get m
  bnext : H.next ≤ B.next

theorem AFun.turn {P : Program} {f : FuncId} {args0 args : List Value} {H0 H : Heap} {ι : Nat → Option Nat} {R0 R : Value → Heap → Prop} (T0 : Lies H0 H ι)
    (ha : rnAL ι args0 = some args) (h : AFun P f args0 H0 R0) (hT : ∀ v X, R0 v X → ∃ τ r B, Turn H0 X H B ι τ ∧ rnV τ v = some r ∧ R r B) : AFun P f args H R := by
  refine ⟨h.1, fun β w us hw hus => ?_⟩
  obtain ⟨β0, hβ0⟩ : ∃ β0 : Places, ∀ n, β0 n = (ι n).bind β := ⟨fun n => (ι n).bind β, fun _ => rfl⟩
  have k0 : ∀ n m, ι n = some m → β0 n = β m := fun n m e => by rw [hβ0, e]; rfl
  have k1 : ∀ n l, β0 n = some l → ∃ m, ι n = some m ∧ β m = some l := fun n l e => by
    rw [hβ0] at e
    cases hi : ι n with
    | none => rw [hi] at e; cases e
    | some m => rw [hi] at e; exact ⟨m, rfl, e⟩
  have hown : ∀ n m, ι n = some m → (H0.get n).owns = true → (H.get m).owns = true := fun n m e ho => by
    rcases T0.obj n m e with hg | hg
    · rw [hg] at ho; cases ho
    · rw [(rnO_owns hg).1]; exact ho
  have hlive : ∀ n m, ι n = some m → (H0.get n).live = true → (H.get m).live = true := fun n m e ho => by
    rcases T0.obj n m e with hg | hg
    · rw [hg] at ho; cases ho
    · rw [(rnO_owns hg).2]; exact ho
  have hw0 : WR β0 H0 w.heap := by
    refine ⟨fun n l hn => ?_, fun n m k l hn hm ho hl hne => ?_, fun n hn => ?_, T0.clean0, fun g hg => ?_⟩
    · obtain ⟨m, e, hm⟩ := k1 n l hn
      rcases T0.obj n m e with hg | hg
      · rw [hg]; trivial
      · exact (rnO_OR k0 hg l w.heap).2 (hw.obj m l hm)
    · obtain ⟨a, ea, ha⟩ := k1 n k hn
      obtain ⟨b, eb, hb⟩ := k1 m l hm
      exact hw.apart a b k l ha hb (hown n a ea ho) (hlive m b eb hl) fun e => hne (T0.inj n m b (e ▸ ea) eb)
    · cases hi : ι n with
      | none => rw [hβ0, hi]; rfl
      | some m => exact absurd (T0.bnd n m hi).1 (by omega)
    · rw [k0 g g (T0.glob g hg)]; exact hw.glob g hg
  refine (h.2 β0 w us hw0 ((rnAL_VL k0 ha us).2 hus)).mono (RetE.mono fun u w' ⟨v, X, β1, hRX, hvu, hw1, hf⟩ => ?_)
  obtain ⟨τ, r, B, T, hr, hRB⟩ := hT v X hRX
  have hgm : gmax ≤ H.next := by
    refine Nat.le_of_not_lt fun hlt => ?_
    have := (T0.bnd _ _ (T0.glob H.next hlt)).2
    omega
  classical
  obtain ⟨β2, hβ2⟩ : ∃ β2 : Places, ∀ m, β2 m = if m < H.next then β m else if hx : ∃ n, τ n = some m then β1 hx.choose else none := ⟨_, fun _ => rfl⟩
  have kold : ∀ m, m < H.next → β2 m = β m := fun m hm => by rw [hβ2, if_pos hm]
  have knew : ∀ n m, τ n = some m → H.next ≤ m → β2 m = β1 n := fun n m e hm => by
    have hx : ∃ n, τ n = some m := ⟨n, e⟩
    rw [hβ2, if_neg (by omega), dif_pos hx, T.tinj _ _ _ hx.choose_spec e]
  have kE : ∀ n m, τ n = some m → β1 n = β2 m := fun n m e => by
    rcases T.new n m e with hi | ⟨h1, h2, h3, h4, h5⟩
    · have hb := T0.bnd n m hi
      rw [kold m hb.2, ← k0 n m hi]
      exact hf.names n hb.1
    · exact (knew n m e h2).symm
  have kEi : ∀ n m, ι n = some m → β1 n = β2 m := fun n m e => kE n m (T.old n m e)
  have knone : ∀ m l, H.next ≤ m → β2 m = some l → ∃ n, τ n = some m ∧ β1 n = some l ∧ H0.next ≤ n ∧ m < X.next + B.next ∧ m < B.next ∧ (X.get n).owns = true ∧ rnO τ (X.get n) = some (B.get m) := fun m l hm e => by
    rw [hβ2, if_neg (by omega)] at e
    split at e
    · rename_i hx
      obtain ⟨n, hn⟩ : ∃ n, n = hx.choose := ⟨_, rfl⟩
      have hs := hx.choose_spec
      rw [← hn] at e hs
      rcases T.new n m hs with hi | ⟨h1, h2, h3, h4, h5⟩
      · exact absurd (T0.bnd n m hi).2 (by omega)
      · exact ⟨n, hs, e, h1, by omega, h3, h4, h5⟩
    · cases e
  have hext : Ext β β2 := fun m l hm => by rw [kold m (hw.lt hm)]; exact hm
  -- an old block that is no block of the run's is as it was
  have hkeep : ∀ m l, m < H.next → β m = some l → (H.get m).live = true → (∀ n, ι n = some m → (H0.get n).owns = false) → w'.heap[l.b]? = w.heap[l.b]? := fun m l hm hl hlv hno => by
    refine hf.keep l.b ((hw.obj m l hl).lt hlv) fun n l' hn ho => ?_
    obtain ⟨a, ea, ha⟩ := k1 n l' hn
    refine hw.apart a m l' l ha hl (hown n a ea ho) hlv fun e => ?_
    subst e
    rw [hno n ea] at ho; cases ho
  refine ⟨r, B, β2, hRB, (rnV_VR kE hr u).1 hvu, ⟨fun m l hm => ?_, fun a b k l ha hb ho hl hne => ?_, fun m hm => ?_, fun m hm => (T.bclean m hm).elim id fun e => e.trans (hw.clean m (Nat.le_trans T.bnext hm)), fun g hg => ?_⟩, ⟨hf.os, hf.tape, hf.output, hf.size, fun n hn => kold n hn, T.bnext, fun b hb ho => ?_, fun n l hn ho hl => ?_, fun n hn h0 => T.bold n hn⟩⟩
  · by_cases hlt : m < H.next
    · rw [kold m hlt] at hm
      rw [T.bold m hlt]
      by_cases hx : ∃ n, ι n = some m ∧ (H0.get n).live = true
      · obtain ⟨n, e, hg⟩ := hx
        have h1 := hw1.obj n l (by rw [kEi n m e, kold m hlt]; exact hm)
        rw [T.same n m e] at h1
        rcases T0.obj n m e with hg' | hg'
        · rw [hg'] at hg; cases hg
        · exact (rnO_OR kEi hg' l w'.heap).1 h1
      · by_cases hlv : (H.get m).live = true
        · refine ((hw.obj m l hm).same (hkeep m l hlt hm hlv fun n e => ?_)).ext hext
          cases ho : (H0.get n).owns
          · rfl
          · exact absurd ⟨n, e, AObj.live_of_owns ho⟩ hx
        · have : H.get m = .gone := by cases hg : H.get m <;> simp_all [AObj.live]
          rw [this]; trivial
    · obtain ⟨n, e, hn, _, _, _, _, h5⟩ := knone m l (by omega) hm
      exact (rnO_OR kE h5 l w'.heap).1 (hw1.obj n l hn)
  · -- blocks apart
    have oldnew : ∀ a b k l, a < H.next → H.next ≤ b → β2 a = some k → β2 b = some l → (H.get a).live = true → k.b ≠ l.b := fun a b k l hla hlb ha hb hlv => by
      rw [kold a hla] at ha
      obtain ⟨n, e, hn, hge, _, _, how, h5⟩ := knone b l hlb hb
      by_cases hx : ∃ n', ι n' = some a ∧ (H0.get n').live = true
      · obtain ⟨n', e', hg⟩ := hx
        have hne : n ≠ n' := fun q => by have := (T0.bnd n' a e').1; omega
        have hb1 : β1 n' = some k := by rw [kEi n' a e', kold a hla]; exact ha
        exact (hw1.apart n n' l k hn hb1 how (by rw [T.same n' a e']; exact hg) hne).symm
      · intro q
        have hsz := (hw.obj a k ha).lt hlv
        obtain ⟨m0, k0', hm0, ho0, q2⟩ := hf.own n l hn how (by omega)
        obtain ⟨c, ec, hc⟩ := k1 m0 k0' hm0
        refine hw.apart c a k0' k hc ha (hown m0 c ec ho0) hlv (fun q3 => ?_) (by omega)
        subst q3
        exact hx ⟨m0, ec, AObj.live_of_owns ho0⟩
    by_cases h1 : a < H.next
    · by_cases h2 : b < H.next
      · rw [kold a h1] at ha; rw [kold b h2] at hb
        rw [T.bold a h1] at ho; rw [T.bold b h2] at hl
        exact hw.apart a b k l ha hb ho hl hne
      · rw [T.bold a h1] at ho
        exact oldnew a b k l h1 (by omega) ha hb (AObj.live_of_owns ho)
    · by_cases h2 : b < H.next
      · rw [T.bold b h2] at hl
        exact (oldnew b a l k h2 (by omega) hb ha hl).symm
      · obtain ⟨n, e, hn, _, _, _, how, h5⟩ := knone a k (by omega) ha
        obtain ⟨n', e', hn', _, _, _, how', h5'⟩ := knone b l (by omega) hb
        exact hw1.apart n n' k l hn hn' how (AObj.live_of_owns how') fun q => hne (by subst q; rw [e] at e'; exact Option.some.inj e')
  · cases hb : β2 m with
    | none => rfl
    | some l =>
      obtain ⟨n, e, hn, _, _, h3, _⟩ := knone m l (Nat.le_trans T.bnext hm) hb
      omega
  · rw [kold g (by omega)]; exact hw.glob g hg
  · refine hf.keep b hb fun n l hn hl => ?_
    obtain ⟨a, ea, ha⟩ := k1 n l hn
    exact ho a l ha (hown n a ea hl)
  · by_cases h1 : n < H.next
    · rw [kold n h1] at hn; rw [T.bold n h1] at ho
      exact ⟨n, l, hn, ho, rfl⟩
    · obtain ⟨n', e, hn', _, _, _, how, h5⟩ := knone n l (by omega) hn
      obtain ⟨m0, k0', hm0, ho0, q2⟩ := hf.own n' l hn' how hl
      obtain ⟨c, ec, hc⟩ := k1 m0 k0' hm0
      exact ⟨c, k0', hc, hown m0 c ec ho0, q2⟩

end Go.Ab


namespace Go.Ab

abbrev CObj := Option (Bool × List Value × Nat)
def CObj.toA : CObj → AObj
  | some (rw, cs, c) => .cells rw cs c
  | none => .gone
def canon (l : List CObj) : Heap := { get := fun n => match l[n]? with | some x => x.toA | none => .gone, next := l.length }

structure Entry where
  args : List Value
  objs : List CObj
  res : Value
  new : List CObj

def Entry.Ok (P : Program) (f : FuncId) (e : Entry) : Prop := AFun P f e.args (canon e.objs) fun v B => v = e.res ∧ B = canon (e.objs ++ e.new)

def meet1 (v0 v : Value) (ι : List Nat) : List Nat := match v0, v with
  | .pointer (some ⟨n, _, _⟩), .pointer (some ⟨m, _, _⟩) => if n = ι.length then ι ++ [m] else ι
  | .slice (some ⟨n, _, none⟩) _ _, .slice (some ⟨m, _, none⟩) _ _ => if n = ι.length then ι ++ [m] else ι
  | _, _ => ι
def meetL : List Value → List Value → List Nat → List Nat
  | x :: xs, y :: ys, ι => meetL xs ys (meet1 x y ι)
  | _, _, ι => ι
def meetA (v0 v : Value) (ι : List Nat) : List Nat := match v0, v with
  | .agg ⟨xs⟩, .agg ⟨ys⟩ => meetL xs ys ι
  | u, v => meet1 u v ι
def meetAL : List Value → List Value → List Nat → List Nat
  | x :: xs, y :: ys, ι => meetAL xs ys (meetA x y ι)
  | _, _, ι => ι
def meetV (v0 v : Value) (ι : List Nat) : List Nat := match v0, v with
  | .tuple ⟨xs⟩, .tuple ⟨ys⟩ => meetAL xs ys ι
  | u, v => meetA u v ι
noncomputable def meetO (h : Tri EObj) : List CObj → Nat → List Nat → List Nat
  | [], _, ι => ι
  | none :: l, k, ι => meetO h l (k + 1) ι
  | some (_, cs, _) :: l, k, ι => match ι[k]? with
    | some m => match h.get m with
      | some (.cells _ ds _) => meetO h l (k + 1) (meetL cs ds ι)
      | _ => meetO h l (k + 1) ι
    | none => ι

noncomputable def natsK : List Nat → (List Nat → Bool) → Bool
  | [], κ => κ []
  | n :: l, κ => natK n fun n => natsK l fun l => κ (n :: l)
theorem natsK_eq : ∀ (l : List Nat) (κ : List Nat → Bool), natsK l κ = κ l
  | [], _ => rfl
  | n :: l, κ => by simp only [natsK, natK_eq, natsK_eq l]

abbrev Orc := Nat → List Entry
noncomputable def loadK : List CObj → Nat → Tri EObj → (Tri EObj → Bool) → Bool
  | [], _, h, κ => κ h
  | none :: l, n, h, κ => natK (Nat.add n 1) fun n => loadK l n h κ
  | some (rw, cs, c) :: l, n, h, κ => Tri.setK (.cells rw cs c) h n fun h => natK (Nat.add n 1) fun n => loadK l n h κ
def backOf (σ : List Nat) (k : Nat) (n : Nat) : Option Nat := match σ with
  | [] => none
  | m :: σ => if n = m then some k else backOf σ (k + 1) n
noncomputable def sameOs (h : Tri EObj) : List CObj → Nat → Bool
  | [], _ => true
  | none :: l, n => (match h.get n with | none => true | some _ => false) && sameOs h l (n + 1)
  | some (rw, cs, c) :: l, n => (match h.get n with
    | some (.cells rw' ds c') => (rw == rw') && (Nat.beq c c' && sameL (same 6) cs ds)
    | _ => false) && sameOs h l (n + 1)
noncomputable def newOs (τ : Nat → Option Nat) (h : Tri EObj) : List CObj → List Nat → Bool
  | [], [] => true
  | some (true, cs, c) :: l, m :: σ => (match h.get m with
    | some (.cells true ds c') => Nat.beq c c' && (match rnL τ ds with | some ds => sameL (same 6) ds cs | none => false)
    | _ => false) && newOs τ h l σ
  | _, _ => false
noncomputable def finE (e : Entry) (v : Value) (h : Tri EObj) : Bool :=
  natsK ((meetO h ((e.objs ++ e.new).drop gmax) gmax (meetV e.res v (List.range e.objs.length)))) fun ι => natsK (ι.drop e.objs.length) fun σ =>
    sameOs h e.objs 0 && (σ.all (fun m => Nat.ble e.objs.length m) && ((match rnV (fun n => if n < e.objs.length then some n else backOf σ e.objs.length n) v with | some r => same 6 r e.res | none => false) && newOs (fun n => if n < e.objs.length then some n else backOf σ e.objs.length n) h e.new σ))
def idT (n0 : Nat) (n : Nat) : Option Nat := if n < n0 then some n else none
def ownNames (n0 : Nat) (l : List CObj) : Bool := l.all fun o => match o with
  | some (_, cs, _) => match rnL (idT n0) cs with
    | some cs' => sameL (same 6) cs' cs
    | none => false
  | none => true
def ownArgs (n0 : Nat) (l : List Value) : Bool := match rnAL (idT n0) l with
  | some l' => sameL (same 6) l' l
  | none => false
noncomputable def entryK (P : Program) (tab : Tab) (run : RunT) (f : FuncId) (e : Entry) : Bool := Nat.ble gmax e.objs.length && (ownNames e.objs.length e.objs && (ownArgs e.objs.length e.args && loadK e.objs 0 .leaf fun h => funK P tab run f e.args h e.objs.length fun v h _ => finE e v h))

end Go.Ab


namespace Go.Ab

section
variable {P : Program}

theorem sameL6 {xs ys : List Value} (h : sameL (same 6) xs ys = true) : xs = ys := sameL_ok (fun _ _ => same_ok) h

theorem canon_get (l : List CObj) (n : Nat) : (canon l).get n = match l[n]? with | some x => x.toA | none => .gone := rfl

def OrcOk (P : Program) (orc : Orc) : Prop := ∀ f e, e ∈ orc f → e.Ok P f
theorem OrcOk.nil : OrcOk P fun _ => [] := fun _ _ h => by cases h

theorem loadK_ok : ∀ {l : List CObj} {n : Nat} {h : Tri EObj} {κ : Tri EObj → Bool}, loadK l n h κ = true → HOk P h → (∀ j, n ≤ j → h.get j = none) →
    ∃ h1, κ h1 = true ∧ HOk P h1 ∧ ∀ (F : Nat → FuncId) j, (match h1.get j with | some o => o.toA (F j) | none => .gone) = if j < n then (match h.get j with | some o => o.toA (F j) | none => .gone) else (match l[j - n]? with | some x => x.toA | none => .gone)
  | [], n, h, κ, hk, hh, hn => ⟨h, hk, hh, fun F j => by
      by_cases hj : j < n
      · rw [if_pos hj]
      · rw [if_neg hj, hn j (by omega)]; simp⟩
  | none :: l, n, h, κ, hk, hh, hn => by
    simp only [loadK] at hk
    rw [natK_eq] at hk
    obtain ⟨h1, q1, q2, q3⟩ := loadK_ok hk hh fun j hj => hn j (by have : Nat.add n 1 = n + 1 := rfl; omega)
    refine ⟨h1, q1, q2, fun F j => ?_⟩
    rw [q3]
    have e : Nat.add n 1 = n + 1 := rfl
    rw [e]
    by_cases hj : j < n
    · rw [if_pos (by omega), if_pos hj]
    · by_cases hj2 : j = n
      · subst hj2
        rw [if_pos (by omega), if_neg hj, hn j (by omega)]; simp [CObj.toA]
      · rw [if_neg (by omega), if_neg hj]
        have : j - n = (j - (n + 1)) + 1 := by omega
        rw [this, List.getElem?_cons_succ]
  | some (rw, cs, c) :: l, n, h, κ, hk, hh, hn => by
    simp only [loadK] at hk
    obtain ⟨h2, hk, hs⟩ := Tri.setK_ok hk
    rw [natK_eq] at hk
    have e : Nat.add n 1 = n + 1 := rfl
    rw [e] at hk
    obtain ⟨h1, q1, q2, q3⟩ := loadK_ok hk (hh.set hs fun r hr => (by cases hr)) fun j hj => by rw [hs, if_neg (by omega)]; exact hn j (by omega)
    refine ⟨h1, q1, q2, fun F j => ?_⟩
    rw [q3]
    by_cases hj : j < n
    · rw [if_pos (by omega), if_pos hj, hs, if_neg (by omega)]
    · by_cases hj2 : j = n
      · subst hj2
        rw [if_pos (by omega), if_neg hj, hs, if_pos rfl]; simp [CObj.toA, EObj.toA]
      · rw [if_neg (by omega), if_neg hj]
        have : j - n = (j - (n + 1)) + 1 := by omega
        rw [this, List.getElem?_cons_succ]

theorem sameOs_ok {h : Tri EObj} (F : Nat → FuncId) (nx : Nat) : ∀ {l : List CObj} {n : Nat}, sameOs h l n = true → ∀ i, i < l.length → (toH F h nx).get (n + i) = match l[i]? with | some x => x.toA | none => .gone
  | [], _, _, i, hi => absurd hi (Nat.not_lt_zero _)
  | o :: l, n, hs, i, hi => by
    have hx : (toH F h nx).get n = o.toA ∧ sameOs h l (n + 1) = true := by
      cases o with
      | none =>
        simp only [sameOs, Bool.and_eq_true] at hs
        refine ⟨?_, hs.2⟩
        have h1 := hs.1
        split at h1
        · rename_i hg
          simp only [toH, hg, CObj.toA]
        · cases h1
      | some p =>
        obtain ⟨rw, cs, c⟩ := p
        simp only [sameOs, Bool.and_eq_true] at hs
        refine ⟨?_, hs.2⟩
        have h1 := hs.1
        split at h1
        · rename_i rw' ds c' hg
          simp only [Bool.and_eq_true, beq_iff_eq] at h1
          obtain ⟨a1, a2, a3⟩ := h1
          subst a1
          rw [Nat.beq_eq] at a2; subst a2
          have := sameL6 a3; subst this
          rw [toH_get hg]; rfl
        · cases h1
    cases i with
    | zero => exact hx.1
    | succ i =>
      simp only [List.length_cons] at hi
      have := sameOs_ok F nx hx.2 i (by omega)
      rw [List.getElem?_cons_succ, ← this]
      congr 1
      omega

theorem backOf_ok {σ : List Nat} : ∀ {k n m : Nat}, backOf σ k n = some m → k ≤ m ∧ σ[m - k]? = some n := by
  induction σ with
  | nil => intro k n m h; cases h
  | cons a σ ih =>
    intro k n m h
    simp only [backOf] at h
    split at h
    · rename_i e
      simp only [Option.some.injEq] at h; subst h; subst e
      exact ⟨Nat.le_refl _, by simp⟩
    · obtain ⟨h1, h2⟩ := ih h
      refine ⟨by omega, ?_⟩
      have : m - k = (m - (k + 1)) + 1 := by omega
      rw [this, List.getElem?_cons_succ, h2]

theorem newOs_ok {τ : Nat → Option Nat} {h : Tri EObj} (F : Nat → FuncId) (nx : Nat) : ∀ {l : List CObj} {σ : List Nat}, newOs τ h l σ = true → σ.length = l.length ∧ ∀ i n : Nat, σ[i]? = some n → ∃ o : CObj, l[i]? = some o ∧ ((toH F h nx).get n).owns = true ∧ rnO τ ((toH F h nx).get n) = some o.toA
  | [], [], _ => ⟨rfl, fun i n hi => by simp at hi⟩
  | some (true, cs, c) :: l, m :: σ, hk => by
    simp only [newOs, Bool.and_eq_true] at hk
    obtain ⟨h1, h2⟩ := hk
    obtain ⟨e, hx⟩ := newOs_ok F nx h2
    refine ⟨by simp [e], fun i n hi => ?_⟩
    cases i with
    | zero =>
      simp only [List.getElem?_cons_zero, Option.some.injEq] at hi; subst hi
      refine ⟨_, rfl, ?_⟩
      split at h1
      · rename_i ds c' hg
        simp only [Bool.and_eq_true] at h1
        obtain ⟨a1, a2⟩ := h1
        have := Nat.eq_of_beq_eq_true a1; subst this
        split at a2
        · rename_i ds' hd
          have := sameL6 a2; subst this
          rw [toH_get hg]
          exact ⟨rfl, by simp only [EObj.toA, rnO, hd, Option.map_some, CObj.toA]⟩
        · cases a2
      · cases h1
    | succ i =>
      rw [List.getElem?_cons_succ] at hi
      obtain ⟨o, q1, q2⟩ := hx i n hi
      exact ⟨o, by rw [List.getElem?_cons_succ, q1], q2⟩
  | [], _ :: _, h => by simp [newOs] at h
  | none :: _, _, h => by simp [newOs] at h
  | some (false, _, _) :: _, _, h => by simp [newOs] at h
  | some (true, _, _) :: _, [], h => by simp [newOs] at h

def Tri.Holds {α : Type} (Q : Nat → α → Prop) : (Nat → Nat) → Tri α → Prop
  | _, .leaf => True
  | g, .node l x r => (∀ v, x = some v → Q (g 0) v) ∧ Tri.Holds Q (fun j => g (2 * j + 1)) l ∧ Tri.Holds Q (fun j => g (2 * j + 2)) r
theorem Tri.Holds.leaf {α : Type} {Q : Nat → α → Prop} {g : Nat → Nat} : Tri.Holds Q g .leaf := trivial
theorem Tri.Holds.node {α : Type} {Q : Nat → α → Prop} {g : Nat → Nat} {l r : Tri α} {x : Option α} (h : ∀ v, x = some v → Q (g 0) v) (hl : Tri.Holds Q (fun j => g (2 * j + 1)) l) (hr : Tri.Holds Q (fun j => g (2 * j + 2)) r) : Tri.Holds Q g (.node l x r) := ⟨h, hl, hr⟩
theorem Tri.hs {α : Type} {Q : α → Prop} {a : α} (h : Q a) : ∀ v, some a = some v → Q v := fun v e => Option.some.inj e ▸ h
theorem Tri.hn {α : Type} {Q : α → Prop} : ∀ v, (none : Option α) = some v → Q v := fun v e => by cases e
theorem Tri.Holds.at {α : Type} {Q : Nat → α → Prop} : ∀ {t : Tri α} {g : Nat → Nat} {k : Nat} {v : α}, t.Holds Q g → t.get k = some v → Q (g k) v
  | .leaf, g, k, v, _, h => by cases h
  | .node l x r, g, k, v, hq, h => by
    cases k with
    | zero => exact hq.1 v h
    | succ k =>
      rcases mod2 k with hk | hk
      · rw [Tri.get_even hk] at h
        have := Tri.Holds.at hq.2.1 h
        have e : 2 * Nat.div k 2 + 1 = k + 1 := by
          have h1 : k % 2 = 0 := hk
          show 2 * (k / 2) + 1 = k + 1
          omega
        rw [e] at this; exact this
      · rw [Tri.get_odd hk] at h
        have := Tri.Holds.at hq.2.2 h
        have e : 2 * Nat.div k 2 + 2 = k + 1 := by
          have h1 : k % 2 = 1 := hk
          show 2 * (k / 2) + 2 = k + 1
          omega
        rw [e] at this; exact this
theorem TabOk.of {t : Tri (Nat × ACode × List AOp)} (h : t.Holds (fun f p => FnOk P f p.1 p.2.1 p.2.2) fun j => j) : TabOk P fun f => t.get f := fun _ _ _ _ e => h.at e

theorem entryK_ok {tab : Tab} {run : RunT} (hm : P.follows .mixedOrders = true) (ht : TabOk P tab) (hr : RunOk P run) {f : FuncId} {e : Entry} (hk : (match entryK P tab run f e with | true => true | false => false) = true) : e.Ok P f := by
  have hk' : entryK P tab run f e = true := by
    cases hq : entryK P tab run f e
    · rw [hq] at hk; cases hk
    · rfl
  unfold entryK at hk'
  simp only [Bool.and_eq_true] at hk'
  obtain ⟨g1, g2, g3, g4⟩ := hk'
  have g1 := Nat.le_of_ble_eq_true g1
  obtain ⟨h0, g4, hh0, hl⟩ := loadK_ok (P := P) g4 (fun n r h => by cases h) fun _ _ => rfl
  obtain ⟨v, h1, nx1, g5, hh1, hA⟩ := funK_ok hm ht hr g4 hh0
  have e0 : ∀ F, toH F h0 e.objs.length = canon e.objs := fun F => by
    refine heap_eq (fun m => ?_) rfl
    have := hl F m
    simp only [Nat.not_lt_zero, if_false, Nat.sub_zero] at this
    show (match h0.get m with | none => AObj.gone | some o => o.toA (F m)) = (canon e.objs).get m
    rw [canon_get, ← this]
    cases h0.get m <;> rfl
  obtain ⟨F⟩ : Nonempty (Nat → FuncId) := ⟨fun _ => f⟩
  unfold finE at g5
  rw [natsK_eq, natsK_eq] at g5
  generalize List.drop e.objs.length (meetO h1 ((e.objs ++ e.new).drop gmax) gmax (meetV e.res v (List.range e.objs.length))) = σ at g5
  simp only [Bool.and_eq_true, List.all_eq_true] at g5
  obtain ⟨s1, s2, s3, s4⟩ := g5
  cases hrv : rnV (fun n => if n < e.objs.length then some n else backOf σ e.objs.length n) v with
  | none => rw [hrv] at s3; cases s3
  | some r =>
    rw [hrv] at s3
    have := same_ok s3; subst this
    have hA' := hA F (fun u X => u = v ∧ ∃ F', X = toH F' h1 nx1) fun F' => ⟨rfl, F', rfl⟩
    unfold ownArgs at g3
    cases ha : rnAL (idT e.objs.length) e.args with
    | none => rw [ha] at g3; cases g3
    | some as =>
      rw [ha] at g3
      have := sameL6 g3; subst this
      have hid : ∀ n m, idT e.objs.length n = some m → n = m ∧ n < e.objs.length := fun n m hn => by
        unfold idT at hn
        split at hn
        · exact ⟨Option.some.inj hn, by assumption⟩
        · cases hn
      have hid2 : ∀ n, n < e.objs.length → idT e.objs.length n = some n := fun n hn => if_pos hn
      rw [e0 F] at hA'
      obtain ⟨n1, n2⟩ := newOs_ok F nx1 s4
      refine AFun.turn (ι := idT e.objs.length) ⟨fun n hn => ?_, fun n m hn => ?_, fun n n' m hn hn' => ?_, fun g hg => hid2 g (Nat.lt_of_lt_of_le hg g1), fun n m hn => ?_⟩ ha hA' fun u X hX => ?_
      · have hn' : e.objs.length ≤ n := hn
        rw [canon_get, List.getElem?_eq_none hn']
      · obtain ⟨rfl, hlt⟩ := hid n m hn
        rw [canon_get]
        have hm : e.objs[n]? = some e.objs[n] := by simp [hlt]
        rw [hm]
        have := List.all_eq_true.1 g2 _ (List.getElem_mem hlt)
        revert this
        cases e.objs[n] with
        | none => intro _; exact .inl rfl
        | some p =>
          obtain ⟨rw, cs, c⟩ := p
          intro h
          right
          cases hc : rnL (idT e.objs.length) cs with
          | none => simp only [hc] at h; cases h
          | some cs' =>
            simp only [hc] at h
            have := sameL6 h; subst this
            simp only [CObj.toA, rnO, hc, Option.map_some]
      · rw [(hid _ _ hn).1, (hid _ _ hn').1]
      · obtain ⟨rfl, hlt⟩ := hid n m hn
        exact ⟨hlt, hlt⟩
      · obtain ⟨rfl, F', rfl⟩ := hX
        obtain ⟨n1, n2⟩ := newOs_ok F' nx1 s4
        refine ⟨_, _, canon (e.objs ++ e.new), ⟨fun n m hn => ?_, fun n m hn => ?_, fun n n' m hn hn' => ?_, fun n m hn => ?_, fun m hm => ?_, fun m hm => ?_, ?_⟩, hrv, rfl, rfl⟩
        · obtain ⟨rfl, hlt⟩ := hid n m hn
          show (if n < e.objs.length then _ else _) = _
          rw [if_pos hlt]
        · have hn' : (if n < e.objs.length then some n else backOf σ e.objs.length n) = some m := hn
          split at hn'
          · rename_i hlt
            have := Option.some.inj hn'; subst this
            exact .inl (hid2 n hlt)
          · obtain ⟨q1, q2⟩ := backOf_ok hn'
            obtain ⟨o, q3, q4, q5⟩ := n2 _ _ q2
            have q6 := (List.getElem?_eq_some_iff.1 q3).1
            refine .inr ⟨by show e.objs.length ≤ n; omega, q1, ?_, q4, ?_⟩
            · show m < (e.objs ++ e.new).length
              simp; omega
            · rw [q5, canon_get, List.getElem?_append_right q1, q3]
        · have hn1 : (if n < e.objs.length then some n else backOf σ e.objs.length n) = some m := hn
          have hn2 : (if n' < e.objs.length then some n' else backOf σ e.objs.length n') = some m := hn'
          split at hn1
          · split at hn2
            · rw [Option.some.inj hn1, Option.some.inj hn2]
            · have := (backOf_ok hn2).1
              have := Option.some.inj hn1
              omega
          · split at hn2
            · have := (backOf_ok hn1).1
              have := Option.some.inj hn2
              omega
            · have a1 := (backOf_ok hn1).2
              rw [(backOf_ok hn2).2] at a1
              exact (Option.some.inj a1).symm
        · obtain ⟨rfl, hlt⟩ := hid n m hn
          have := sameOs_ok F' nx1 s1 n hlt
          rw [Nat.zero_add] at this
          rw [this, canon_get]
        · have hm' : m < e.objs.length := hm
          rw [canon_get, canon_get, List.getElem?_append_left hm']
        · left
          have hm' : (e.objs ++ e.new).length ≤ m := hm
          rw [canon_get, List.getElem?_eq_none hm']
        · show e.objs.length ≤ (e.objs ++ e.new).length
          simp
end

end Go.Ab


namespace Go.Ab

theorem Entry.closed {P : Program} {f : FuncId} {e : Entry} {b : Bool} {H : Heap} (h : e.Ok P f) (ha : e.args = []) (hr : e.res = .bool b) (hl : e.objs.length = gmax)
    (hc : ∀ g, g < gmax → ∃ cs c, e.objs[g]? = some (some (false, cs, c)) ∧ cs.all flat1 = true ∧ H.get g = .cells false cs c) : AFun P f [] H fun v B => v = .bool b ∧ B = H := by
  unfold Entry.Ok at h
  rw [ha, hr] at h
  refine AFun.closed (Hs := canon e.objs) hl (fun n hn => ?_) (fun g hg => ?_) (h.mono fun v X hX => hX.1)
  · rw [canon_get, List.getElem?_eq_none (by omega)]
  · obtain ⟨cs, c, h1, h2, h3⟩ := hc g hg
    exact ⟨cs, c, by rw [canon_get, h1]; rfl, h2, h3⟩

end Go.Ab


namespace Go.Ab

section
variable {P : Program} {t : Nat → Value} {H : Heap} {sz n o len cap k : Nat} {x y : Opd} {kd : IntKind}
theorem aval_sl_from (hx : x.ev t = .slice (some ⟨n, o, none⟩) len cap) (hy : y.ev t = .int kd (k : Int)) (h : k < len) (h0 : 0 < k) : aval P t H (.sl sz x (some y) none) = some (.slice (some ⟨n, o + k * sz, none⟩) (len - k) 0) := by
  have e2 : (len : Int) ≤ (cap : Int) ∨ (len : Int) ≤ (len : Int) := .inr (Int.le_refl _)
  simp only [aval, hx, hy, Option.getD_some, Option.getD_none]
  rw [if_pos ⟨by omega, e2, by omega, by omega⟩, if_neg (by omega), if_pos (by omega), Int.toNat_natCast, Int.toNat_natCast]

theorem slCells_from {rw : Bool} {ds cs : List Value} {c : Nat} {cap' : Nat} (hg : H.get n = .cells rw ds c) (hr : rdL ds o (len * sz) = some cs) (h : k ≤ len) : slCells H sz (.slice (some ⟨n, o + k * sz, none⟩) (len - k) cap') = some (len - k, cs.drop (k * sz)) := by
  obtain ⟨h1, h2, h3⟩ := rdL_some hr
  have hm := Nat.mul_le_mul_right sz h
  have e : k * sz + (len - k) * sz = len * sz := by rw [← Nat.add_mul]; congr 1; omega
  simp only [slCells, hg]
  unfold rdL
  rw [if_pos (by omega), h1, List.drop_take, List.drop_drop]
  simp only [Option.map_some]
  congr 4
  omega
end

theorem SlR.sl_from {H : Heap} {sz len k : Nat} {v : Value} {cs : List Value} (h : SlR H sz v len cs) (h0 : 0 < len) (hk : k ≤ len) :
    ∃ u, (∀ (P : Program) (t : Nat → Value) (G : Heap) (x y : Opd) (kd : IntKind), x.ev t = v → y.ev t = .int kd (k : Int) → aval P t G (.sl sz x (some y) none) = some u) ∧ SlR H sz u (len - k) (cs.drop (k * sz)) := by
  have hlen := h.length
  rcases h.cases with ⟨_, rfl, _⟩ | ⟨n, o, cap, rw', ds, c, rfl, hg, hr⟩
  · omega
  have e2 : (len : Int) ≤ (cap : Int) ∨ (len : Int) ≤ (len : Int) := .inr (Int.le_refl _)
  by_cases hk0 : k = 0
  · subst hk0
    refine ⟨.slice (some ⟨n, o, none⟩) len cap, fun P t G x y kd hx hy => ?_, by simpa using h.1, fun a m c' e => h.2 a m c' e⟩
    simp only [aval, hx, hy, Option.getD_some, Option.getD_none]
    rw [if_pos ⟨by omega, e2, by omega, by omega⟩, if_pos ⟨by omega, .inr (by omega)⟩, Int.toNat_natCast]
  by_cases hkl : k = len
  · subst hkl
    refine ⟨.slice (some ⟨0, 0, some 0⟩) 0 0, fun P t G x y kd hx hy => ?_, ?_, fun a m c' e => ?_⟩
    · simp only [aval, hx, hy, Option.getD_some, Option.getD_none]
      rw [if_pos ⟨by omega, e2, by omega, by omega⟩, if_neg (by omega), if_neg (by omega)]
    · simp [slCells, hlen]
    · simp at e
      rw [← e.1]
      exact Nat.lt_of_le_of_lt (Nat.zero_le _) (h.2 _ _ _ rfl)
  · refine ⟨.slice (some ⟨n, o + k * sz, none⟩) (len - k) 0, fun P t G x y kd hx hy => aval_sl_from hx hy (by omega) (by omega), slCells_from hg hr hk, fun a m c' e => ?_⟩
    simp at e
    rw [← e.1]; exact h.2 ⟨n, o, none⟩ len cap rfl

end Go.Ab


namespace Go.Ab

theorem flatMap_at {α β : Type} {f : α → List β} {k : Nat} (hf : ∀ x, (f x).length = k) : ∀ (xs : List α) (i : Nat) (hi : i < xs.length), ((xs.flatMap f).drop (i * k)).take k = f xs[i]
  | [], i, hi => by simp at hi
  | x :: xs, 0, hi => by
    simp only [List.flatMap_cons, Nat.zero_mul, List.drop_zero, List.getElem_cons_zero]
    rw [← hf x, List.take_left]
  | x :: xs, i + 1, hi => by
    have := flatMap_at hf xs i (by simpa using hi)
    simp only [List.flatMap_cons, List.getElem_cons_succ]
    rw [← this, Nat.succ_mul, Nat.add_comm, ← hf x, ← List.drop_drop, List.drop_left]
theorem SlR.one {H : Heap} {sz len : Nat} {v : Value} {cs : List Value} (h : SlR H sz v len cs) : one v = true := by
  rcases h.cases with ⟨rfl | rfl, _⟩ | ⟨n, o, cap, rw, ds, c, rfl, _⟩ <;> rfl
theorem IntsAt.one {H : Heap} {v : Value} {xs : List Int} (h : IntsAt H v xs) : Go.Ab.one v = true := SlR.one h.1
theorem IntsAt.atAll {H : Heap} {v : Value} {xs : List Int} (h : IntsAt H v xs) {i : Nat} (hi : i < xs.length) : ∃ p, islV 1 v (.int .i64 i) = some p ∧ ∀ A, Ge H A → ldV A false 1 p = some (.int .i64 xs[i]) := by
  obtain ⟨p, h1, _⟩ := h.at hi
  refine ⟨p, h1, fun A g => ?_⟩
  obtain ⟨q, h2, h3⟩ := (h.ge g).at hi
  rw [h1] at h2; cases h2; exact h3
theorem own_ints {A : Heap} {lo : Nat} {v : Value} {xs : List Int} (h : OwnSl A lo v (xs.map (Value.int .i64))) (hl : xs.length < 2 ^ 63) : IntsAt A v xs := by
  have := h.slr
  rw [List.length_map] at this
  exact ⟨this, hl⟩
theorem OwnSl.lower {A : Heap} {lo lo' : Nat} {v : Value} {cs : List Value} (h : OwnSl A lo v cs) (hl : lo' ≤ lo) : OwnSl A lo' v cs := by
  rcases h with h | ⟨n, cap, c, h1, h2, h3⟩
  · exact .inl h
  · exact .inr ⟨n, cap, c, h1, by omega, h3⟩
theorem OwnSl.geApp {H A B : Heap} {lo n : Nat} {v : Value} {cs : List Value} (own : OwnSl A lo v cs) (hlo : H.next ≤ lo) (g : Ge H A) (hn : H.next ≤ n) (hB : A.next ≤ B.next) (k : ∀ m, m ≠ n → slName v ≠ some m → B.get m = A.get m) : Ge H B :=
  ⟨Nat.le_trans g.next hB, fun q hq => by
    rw [k q (by omega) (fun e => by have := (own.names e).1; omega)]
    exact g.get q hq⟩
theorem OwnS.geApp {H A B : Heap} {lo n sz len : Nat} {v : Value} {cs : List Value} (own : OwnS A lo sz v len cs) (hlo : H.next ≤ lo) (g : Ge H A) (hn : H.next ≤ n) (hB : A.next ≤ B.next) (k : ∀ m, m ≠ n → slName v ≠ some m → B.get m = A.get m) : Ge H B :=
  ⟨Nat.le_trans g.next hB, fun q hq => by
    rw [k q (by omega) (fun e => by have := (own.names e).1; omega)]
    exact g.get q hq⟩
theorem map_one_int (xs : List Int) : (xs.map (Value.int .i64)).all one = true := by simp

theorem IntsAt.sl_from {H : Heap} {v : Value} {xs : List Int} {k : Nat} (h : IntsAt H v xs) (h0 : 0 < xs.length) (hk : k ≤ xs.length) :
    ∃ u, (∀ (P : Program) (t : Nat → Value) (G : Heap) (x y : Opd) (kd : IntKind), x.ev t = v → y.ev t = .int kd (k : Int) → aval P t G (.sl 1 x (some y) none) = some u) ∧ IntsAt H u (xs.drop k) := by
  obtain ⟨u, h1, h2⟩ := h.1.sl_from h0 hk
  refine ⟨u, h1, ?_, by rw [List.length_drop]; have := h.2; omega⟩
  rw [List.map_drop, List.length_drop]
  simpa using h2

def RecsAt {α : Type} (f : α → List Value) (k : Nat) (H : Heap) (v : Value) (xs : List α) : Prop := SlR H k v xs.length (xs.flatMap f) ∧ xs.length < 2 ^ 63
section
variable {α : Type} {f : α → List Value} {k : Nat} {H H' : Heap} {v : Value} {xs : List α}
theorem RecsAt.lenV (h : RecsAt f k H v xs) : Go.Ab.lenV v = some (.int .i64 xs.length) := h.1.lenV
theorem RecsAt.ge (h : RecsAt f k H v xs) (g : Ge H H') : RecsAt f k H' v xs := ⟨h.1.ge g, h.2⟩
theorem RecsAt.one (h : RecsAt f k H v xs) : Go.Ab.one v = true := SlR.one h.1
theorem RecsAt.at (hf : ∀ x, (f x).length = k) (h : RecsAt f k H v xs) {i : Nat} (hi : i < xs.length) : ∃ n o, islV k v (.int .i64 i) = some (.pointer (some ⟨n, o, none⟩)) ∧ n < H.next ∧
    ∀ A, Ge H A → ldA (A.get n) true k o = some (.agg (f xs[i]).toArray) ∧ ∀ j, j < k → ldA (A.get n) false 1 (o + j) = (f xs[i])[j]? := by
  obtain ⟨n, o, rw', ds, c, h1, hn, h2, h3⟩ := h.1.isl (k := .i64) hi
  rw [flatMap_at hf xs i hi] at h3
  refine ⟨n, o, h1, hn, fun A g => ?_⟩
  rw [g.get n hn, h2]
  refine ⟨by rw [ldA_agg, h3]; rfl, fun j hj => ?_⟩
  rw [ldA_one]
  obtain ⟨h4, _⟩ := rdL_some h3
  rw [h4, List.getElem?_take, if_pos hj, List.getElem?_drop]
end

structure GeX (m : Nat) (H H' : Heap) : Prop where
  next : H.next ≤ H'.next
  get : ∀ n, n < H.next → n ≠ m → H'.get n = H.get n
theorem GeX.refl (m : Nat) (H : Heap) : GeX m H H := ⟨Nat.le_refl _, fun _ _ _ => rfl⟩
theorem GeX.trans {m : Nat} {A B C : Heap} (h : GeX m A B) (k : GeX m B C) : GeX m A C := ⟨Nat.le_trans h.next k.next, fun n hn hm => (k.get n (Nat.lt_of_lt_of_le hn h.next) hm).trans (h.get n hn hm)⟩
theorem GeX.of {m : Nat} {A B : Heap} (h : Ge A B) : GeX m A B := ⟨h.next, fun n hn _ => h.get n hn⟩
theorem GeX.set {m : Nat} {A B : Heap} (h : GeX m A B) (x : AObj) : GeX m A (B.set m x) := ⟨h.next, fun n hn hm => by simp [hm, h.get n hn hm]⟩
theorem GeX.toGe {m : Nat} {H A B : Heap} (g : Ge H A) (h : GeX m A B) (hm : H.next ≤ m) : Ge H B := ⟨Nat.le_trans g.next h.next, fun n hn => (h.get n (Nat.lt_of_lt_of_le hn g.next) (by omega)).trans (g.get n hn)⟩

def RowsOf {α : Type} (R : Heap → Value → α → Prop) (H : Heap) (v : Value) (xs : List α) : Prop := ∃ vs : List Value, SlR H 1 v xs.length vs ∧ xs.length < 2 ^ 63 ∧ ∀ i (h : i < xs.length), ∃ u, vs[i]? = some u ∧ R H u xs[i]
section
variable {α : Type} {R : Heap → Value → α → Prop} {H H' : Heap} {v : Value} {xs : List α}
theorem RowsOf.lt (h : RowsOf R H v xs) : xs.length < 2 ^ 63 := let ⟨_, _, k, _⟩ := h; k
theorem RowsOf.lenV (h : RowsOf R H v xs) : Go.Ab.lenV v = some (.int .i64 xs.length) := let ⟨_, k, _⟩ := h; k.lenV
theorem RowsOf.one (h : RowsOf R H v xs) : Go.Ab.one v = true := let ⟨_, k, _⟩ := h; SlR.one k
theorem RowsOf.geR (hR : ∀ u x, R H u x → R H' u x) (h : RowsOf R H v xs) (g : Ge H H') : RowsOf R H' v xs := by
  obtain ⟨vs, h1, h2, h3⟩ := h
  exact ⟨vs, h1.ge g, h2, fun i hi => let ⟨u, h4, h5⟩ := h3 i hi; ⟨u, h4, hR _ _ h5⟩⟩
theorem RowsOf.at (h : RowsOf R H v xs) {i : Nat} (hi : i < xs.length) : ∃ p u, islV 1 v (.int .i64 i) = some p ∧ ldV H false 1 p = some u ∧ R H u xs[i] := by
  obtain ⟨vs, h1, h2, h3⟩ := h
  obtain ⟨u, h4, h5⟩ := h3 i hi
  obtain ⟨p, h6, h7⟩ := h1.at1 (k := .i64) hi
  exact ⟨p, u, h6, h7.trans h4, h5⟩
theorem RowsOf.atAll (h : RowsOf R H v xs) {i : Nat} (hi : i < xs.length) : ∃ p u, islV 1 v (.int .i64 i) = some p ∧ (∀ A, Ge H A → ldV A false 1 p = some u) ∧ R H u xs[i] := by
  obtain ⟨vs, h1, h2, h3⟩ := h
  obtain ⟨u, h4, h5⟩ := h3 i hi
  obtain ⟨p, h6, h7⟩ := h1.at1 (k := .i64) hi
  refine ⟨p, u, h6, fun A g => ?_, h5⟩
  obtain ⟨q, h8, h9⟩ := (h1.ge g).at1 (k := .i64) hi
  rw [h6] at h8; cases h8
  exact h9.trans h4
end
abbrev RowsAt := RowsOf IntsAt
theorem RowsOf.ge {H H' : Heap} {v : Value} {xs : List (List Int)} (h : RowsAt H v xs) (g : Ge H H') : RowsAt H' v xs := RowsOf.geR (fun _ _ k => IntsAt.ge k g) h g

noncomputable def lk1H (P : Program) (T : TypeId) (z : Value) (H : Heap) (k : Value) : Value → Option Value
  | .map (some n) => match H.get n with
    | .map es _ => lk1V P T z k es
    | _ => none
  | _ => none
section
variable {P : Program} {t : Nat → Value} {dd : List Nat} {H : Heap} {K : St → Prop} {base i : Nat} {ch : Bool} {lo : List Nat} {rest : List DStep} {recs : Recs}
@[simp] theorem aval_lk1 {T : TypeId} {z : Value} {x k : Opd} : aval P t H (.lk1 T z x k) = lk1H P T z H (k.ev t) (x.ev t) := by
  simp only [aval, lk1H]; rfl
@[simp ↓] theorem vopers_lk1 {d : Nat} {T : TypeId} {z : Value} {x k : Opd} {l : List AOper} : vopers P (⟨some d, .lk1 T z x k, none⟩ :: l) ⟨t, dd, H⟩ K = @oval _ (lk1H P T z H (k.ev t) (x.ev t)) ⟨fun v => vopers P l ⟨upd t d v, dd, H⟩ K⟩ := by
  rw [← aval_lk1 (P := P)]; rfl
@[simp ↓] theorem vdraw_lk1 {d : Nat} {T : TypeId} {z : Value} {x k : Opd} : vdraw P base (⟨⟨some d, .lk1 T z x k, none⟩, i, ch, lo⟩ :: rest) recs ⟨t, dd, H⟩ K = @oval _ (lk1H P T z H (k.ev t) (x.ev t)) ⟨fun v => vdraw P base rest ((i, fun H => aval P t H (.lk1 T z x k) = some v) :: recs) ⟨upd t d v, dd, H⟩ K⟩ := by
  rw [← aval_lk1 (P := P)]; rfl
end

def placeI (ks : List Int) (k : Int) : Option Nat := ks.findIdx? fun j => decide (j = k)
theorem find_ints {κ κ' : IntKind} {k : Int} : ∀ (es : List MapEntry) (ks : List Int) (i : Nat), es.map (·.key) = ks.map (Value.int κ) →
    Instr.findNow (.int κ') (.int κ k) es i = some ((placeI ks k).bind fun j => es[j]?.map fun e => (i + j, e.val))
  | [], ks, i, h => by
    have : ks = [] := by simpa using h.symm
    subst this; simp [Instr.findNow, placeI]
  | e :: es, [], i, h => by simp at h
  | e :: es, j :: ks, i, h => by
    simp only [List.map_cons, List.cons.injEq] at h
    have ih := find_ints (κ' := κ') (k := k) es ks (i + 1) h.2
    by_cases hjk : j = k
    · have hs : Instr.sameNow (.int κ') (.int κ k) e.key = some true := by
        rw [h.1, hjk]; simp [Instr.sameNow]
      simp only [Instr.findNow, hs]
      simp [placeI, List.findIdx?_cons, hjk]
    · have hs : Instr.sameNow (.int κ') (.int κ k) e.key = some false := by
        rw [h.1]; simp [Instr.sameNow]; omega
      simp only [Instr.findNow, hs, ih]
      simp only [placeI, List.findIdx?_cons, hjk, decide_false, Bool.false_eq_true, if_false]
      cases List.findIdx? (fun j => decide (j = k)) ks with
      | none => rfl
      | some q => simp [Nat.add_assoc, Nat.add_comm 1 q]
section
variable {P : Program} {T : TypeId} {κ κ' : IntKind} (hT : P.underlying T = some (.int κ'))
include hT
theorem keyV_ints {k : Int} {ks : List Int} : keyV P T (.int κ k) (ks.map (Value.int κ)) = some (placeI ks k) := by
  refine keyV_of (fun w es h => ⟨fun b => ?_, ?_⟩) fun i hi => ?_
  · obtain ⟨n, e⟩ : ∃ n, (10000 : Nat) = n + 1 := ⟨9999, rfl⟩
    rw [e]
    simp [Instr.checkKey, run_underlying hT]
  · have := find_ints (κ' := κ') (k := k) es ks 0 h
    simp only [Nat.zero_add] at this
    simp only [Instr.findKey, Sem.run_bind, run_underlying hT, Result.andThen_ok, this, Sem.run_pure]
  · obtain ⟨h1, _⟩ := List.findIdx?_eq_some_iff_getElem.1 hi
    simpa using h1
end

def MapI (κ : IntKind) (H : Heap) (n : Nat) (f : Int → Option Value) : Prop :=
  ∃ (es : List (Value × Value × Nat)) (clock : Nat) (ks : List Int), H.get n = .map es clock ∧ es.map (·.1) = ks.map (Value.int κ) ∧ ∀ k, f k = (placeI ks k).bind fun i => es[i]?.map fun e => e.2.1
theorem all_flat_ints (κ : IntKind) (ks : List Int) : (ks.map (Value.int κ)).all flat = true := by simp [flat, flat1]
def putI (f : Int → Option Value) (k : Int) (v : Value) (j : Int) : Option Value := if j = k then some v else f j
theorem placeI_append {ks : List Int} {k j : Int} : placeI (ks ++ [k]) j = (placeI ks j).or (if k = j then some ks.length else none) := by
  unfold placeI
  rw [List.findIdx?_append]
  congr 1
  by_cases h : k = j <;> simp [List.findIdx?_cons, h]

section
variable {P : Program} {T : TypeId} {κ κ' : IntKind} {H A B : Heap} {n : Nat} {f : Int → Option Value}
theorem MapI.keep (h : MapI κ A n f) (e : B.get n = A.get n) : MapI κ B n f := by
  obtain ⟨es, c, ks, h1, h2⟩ := h
  exact ⟨es, c, ks, e.trans h1, h2⟩
theorem MapI.ge (h : MapI κ A n f) (g : Ge A B) (hn : n < A.next) : MapI κ B n f := h.keep (g.get n hn)
theorem MapI.empty (h : H.get n = .map [] 0) : MapI κ H n fun _ => none := ⟨[], 0, [], h, rfl, fun _ => rfl⟩
theorem MapI.lkp (hT : P.underlying T = some (.int κ')) (h : MapI κ H n f) {z : Value} (hz : flat z = true) (k : Int) : lkpH P T z H (.int κ k) (.map (some n)) = some (.tuple #[(f k).getD z, .bool (f k).isSome]) := by
  obtain ⟨es, c, ks, h1, h2, h3⟩ := h
  rw [lkpH_at h1]
  unfold lkpV
  rw [if_pos ⟨by simp [flat, flat1], by rw [h2]; exact all_flat_ints κ ks, hz⟩, h2, keyV_ints hT, h3 k]
  have hle : es.length = ks.length := by have := congrArg List.length h2; simpa using this
  cases hp : placeI ks k with
  | none => rfl
  | some i =>
    obtain ⟨hi, _⟩ := List.findIdx?_eq_some_iff_getElem.1 hp
    simp [List.getElem?_eq_getElem (show i < es.length by omega)]
theorem MapI.lk1 (hT : P.underlying T = some (.int κ')) (h : MapI κ H n f) {z : Value} (hz : flat z = true) (k : Int) : lk1H P T z H (.int κ k) (.map (some n)) = some ((f k).getD z) := by
  obtain ⟨es, c, ks, h1, h2, h3⟩ := h
  simp only [lk1H, h1]
  unfold lk1V
  rw [if_pos ⟨by simp [flat, flat1], by rw [h2]; exact all_flat_ints κ ks, hz⟩, h2, keyV_ints hT, h3 k]
  have hle : es.length = ks.length := by have := congrArg List.length h2; simpa using this
  cases hp : placeI ks k with
  | none => rfl
  | some i =>
    obtain ⟨hi, _⟩ := List.findIdx?_eq_some_iff_getElem.1 hp
    simp [List.getElem?_eq_getElem (show i < es.length by omega)]
theorem MapI.put (hT : P.underlying T = some (.int κ')) (h : MapI κ H n f) (k : Int) (v : Value) : ∃ x, mupH P T H (.int κ k) v (.map (some n)) = some (H.set n x) ∧ ∀ A : Heap, A.get n = x → MapI κ A n (putI f k v) := by
  obtain ⟨es, c, ks, h1, h2, h3⟩ := h
  have hle : es.length = ks.length := by have := congrArg List.length h2; simpa using this
  have hf1 : flat (.int κ k) = true ∧ (es.map (·.1)).all flat = true := ⟨by simp [flat, flat1], by rw [h2]; exact all_flat_ints κ ks⟩
  simp only [mupH, h1]
  rw [if_pos hf1, h2, keyV_ints hT]
  cases hp : placeI ks k with
  | none =>
    refine ⟨_, rfl, fun A hA => ⟨_, _, ks ++ [k], hA, by simp [h2], fun j => ?_⟩⟩
    rw [placeI_append]
    unfold putI
    by_cases hj : j = k
    · subst hj
      simp [hp, hle]
    · rw [if_neg hj, h3 j, if_neg (Ne.symm hj)]
      cases hq : placeI ks j with
      | none => rfl
      | some i =>
        obtain ⟨hi, _⟩ := List.findIdx?_eq_some_iff_getElem.1 hq
        simp [List.getElem?_append_left (show i < es.length by omega)]
  | some i =>
    obtain ⟨hi, hik, _⟩ := List.findIdx?_eq_some_iff_getElem.1 hp
    have hie : i < es.length := by omega
    have hik' : ks[i] = k := by simpa using hik
    have hkey : es[i].1 = .int κ k := by
      have : (es.map (·.1))[i]? = (ks.map (Value.int κ))[i]? := by rw [h2]
      simp [hie, hi] at this
      rw [this, hik']
    have hsb : Instr.sameBits 10000 es[i].1 (.int κ k) = true := by rw [hkey]; simp [Instr.sameBits]
    simp only [List.getElem?_eq_getElem hie]
    rw [if_pos hsb]
    refine ⟨_, rfl, fun A hA => ⟨_, _, ks, hA, ?_, fun j => ?_⟩⟩
    · rw [← h2, List.map_set]
      apply List.ext_getElem
      · simp
      · intro q hq1 hq2
        by_cases e : i = q
        · subst e; simp [hkey]
        · simp [e]
    · unfold putI
      by_cases hj : j = k
      · subst hj
        rw [if_pos rfl, hp]
        simp [hie]
      · rw [if_neg hj, h3 j]
        cases hq : placeI ks j with
        | none => rfl
        | some q =>
          obtain ⟨hqi, hqk, _⟩ := List.findIdx?_eq_some_iff_getElem.1 hq
          have hqk' : ks[q] = j := by simpa using hqk
          have hne : i ≠ q := fun e => by subst e; exact hj (hqk'.symm.trans hik')
          simp [List.getElem?_set_ne hne]
end

section
variable {P : Program} {t : Nat → Value} {H : Heap} {N x y : Nat} {d : Option Tmp} {T U ty : TypeId} {pos : String} {af : Array Edge} {g : Option (Nat × Bool)} {a b : Bool}
theorem rem_int {κ : IntKind} {a c : Nat} (hc : 0 < c) : binI BinOp.rem (.int κ (a : Int)) (.int κ (c : Int)) = some (.int κ ((a % c : Nat) : Int)) := by
  have e : binI BinOp.rem (.int κ (a : Int)) (.int κ (c : Int)) = if (c : Int) = 0 then none else some (.int κ ((a : Int).tmod c)) := by simp [binI]
  have e2 : ((a : Int).tmod c) = ((a % c : Nat) : Int) := (Int.ofNat_tmod a c).symm
  rw [e, if_neg (by omega), e2]
end

end Go.Ab

