/-
  Joined texts of a calculus of abstract memory, of the program's code in it, and of contracts.
-/
import Derived.Test.YtfijnkhiojejfaaJ2
namespace Go.Ab

def vleave : List Nat → Heap → (Heap → Prop) → Prop
  | [], H, K => K H
  | n :: d, H, K => H.get n = .dfr ∧ vleave d (H.set n .gone) K

noncomputable def avals (P : Program) (t : Nat → Value) (H : Heap) : List AOp → Option (List Value)
  | [] => some []
  | x :: l => match aval P t H x, avals P t H l with
    | some v, some vs => some (v :: vs)
    | _, _ => none

def tup : List Value → Value
  | [v] => v
  | l => .tuple l.toArray

def cres (P : Program) (N : Nat) : List ResultVar → Option (List AOp)
  | [] => some []
  | .tmp t :: l => match cres P N l with
    | some xs => if t < N then some (.mov (.t t) :: xs) else none
    | none => none
  | .cell x T :: l => match cres P N l, tinfo P T with
    | some xs, some i => if x < N then some (.ld i.agg i.size (.t x) :: xs) else none
    | _, _ => none

def bodyQ (P : Program) (rs : List AOp) (R : Value → Heap → Prop) : APost
  | .normal, s => vleave s.d s.H fun H' => ∃ vs, avals P s.t H' rs = some vs ∧ R (tup vs) H'
  | .ret, s => vleave s.d s.H fun H' => ∃ vs, avals P s.t H' rs = some vs ∧ R (tup vs) H'
  | .exit _, _ => False

section
variable {P : Program} {β₀ β : Places} {N : Nat} {a : Act} {H₀ : Heap} {w₀ w : World} {s : St} {ro : Option Nat} {F : Fence}

theorem cres_run {t : Nat → Value} {tm : Array Value} {H : Heap} (ht : TR β N t tm) (hw : WR β H w.heap) : ∀ {l : List ResultVar} {rs : List AOp} {vs : List Value}, cres P N l = some rs → avals P t H rs = some vs →
    ∃ us, VL β vs us ∧ (l.mapM fun | .tmp t => pure (tm.getD t undef) | .cell a t => do loadVar t (← asAddr (tm.getD a undef)) : Sem (List Value)).run P w = .ok us w
  | [], rs, vs, hc, h => by
    simp only [cres, Option.some.injEq] at hc; subst hc
    simp only [avals, Option.some.injEq] at h; subst h
    exact ⟨[], trivial, by simp⟩
  | .tmp x :: l, rs, vs, hc, h => by
    simp only [cres] at hc
    split at hc
    · rename_i xs h1
      split at hc
      · rename_i hx
        simp only [Option.some.injEq] at hc; subst hc
        simp only [avals] at h
        split at h
        · rename_i v vs' h2 h3
          simp only [Option.some.injEq] at h; subst h
          obtain ⟨us, hu, hr⟩ := cres_run ht hw h1 h3
          simp only [aval, Opd.ev, Option.some.injEq] at h2
          subst h2
          refine ⟨tm.getD x undef :: us, ⟨ht.get x hx, hu⟩, ?_⟩
          rw [List.mapM_cons]
          simp only [Sem.run_bind, Sem.run_pure, Result.andThen_ok, hr]
        · cases h
      · cases hc
    · cases hc
  | .cell x T :: l, rs, vs, hc, h => by
    simp only [cres] at hc
    split at hc
    · rename_i xs i h1 hi
      split at hc
      · rename_i hx
        simp only [Option.some.injEq] at hc; subst hc
        simp only [avals] at h
        split at h
        · rename_i v vs' h2 h3
          simp only [Option.some.injEq] at h; subst h
          obtain ⟨us, hu, hr⟩ := cres_run ht hw h1 h3
          have ht' : TR β N t ({ tmps := tm, defers := [] } : Act).tmps := ht
          obtain ⟨u, hv, hrun⟩ := s_load (P := P) (N := N) (t := t) (a := { tmps := tm, defers := [] }) (w := w) (o := { dst := none, op := .load T (.tmp x), type := 0, pos := "", after := #[], guard := none }) rfl hi (by simp [copd, hx]) ht' hw h2
          refine ⟨u :: us, ⟨hv, hu⟩, ?_⟩
          rw [List.mapM_cons]
          have hl : (do loadVar T (← asAddr (tm.getD x undef)) : Sem Value).run P w = .ok u w := by
            have e : (execOp ({ tmps := tm, defers := [] } : Act).eval { dst := none, op := .load T (.tmp x), type := 0, pos := "", after := #[], guard := none }) = (do pure (.value (← Instr.loadAt T (tm.getD x undef)))) := rfl
            rw [e] at hrun
            simp only [aval, Opd.ev] at h2
            have hp := ht.get x hx
            split at h2
            · rename_i n off he
              rw [he] at hp
              obtain ⟨lc, hl, _, hev⟩ := hp.of_ptr
              rw [hev] at hrun ⊢
              simp only [Instr.loadAt, Instr.sureAddr, asAddr, Sem.run_bind, Sem.run_pure, Result.andThen_ok] at hrun ⊢
              cases hq : (loadVar T ⟨lc.b, lc.o + off, none⟩).run P w with
              | ok v' w' => rw [hq] at hrun; simp only [Result.andThen_ok, Result.ok.injEq, Next.value.injEq] at hrun; rw [hrun.1, hrun.2]
              | halt h' w' => rw [hq] at hrun; simp at hrun
            · cases h2
          simp only [Sem.run_bind, Sem.run_pure] at hl ⊢
          rw [hl, Result.andThen_ok, hr, Result.andThen_ok]
        · cases h
      · cases hc
    · cases hc

theorem tup_VR : ∀ {vs us : List Value}, VL β vs us → VR β (tup vs) (if h : us.toArray.size = 1 then us.toArray[0] else .tuple us.toArray)
  | [], [], h => by simpa [tup] using VR.mk_tuple (β := β) (xs := #[]) (ys := #[]) h
  | [v], [u], h => by simpa [tup] using h.1
  | v :: v' :: vs, u :: u' :: us, h => by
    have := VR.mk_tuple (β := β) (xs := (v :: v' :: vs).toArray) (ys := (u :: u' :: us).toArray) h
    simpa [tup] using this
  | [], _ :: _, h => h.elim
  | _ :: _, [], h => h.elim
  | [_], _ :: _ :: _, h => h.2.elim
  | _ :: _ :: _, [_], h => h.2.elim

theorem results_run {fn : Func} {t : Nat → Value} {tm : Array Value} {H : Heap} {rs : List AOp} {vs : List Value} (hc : cres P N fn.results.toList = some rs) (ht : TR β N t tm) (hw : WR β H w.heap) (h : avals P t H rs = some vs) :
    ∃ u, VR β (tup vs) u ∧ (results fn tm).run P w = .ok u w := by
  obtain ⟨us, hu, hr⟩ := cres_run ht hw hc h
  refine ⟨_, tup_VR hu, ?_⟩
  unfold results
  rw [Array.mapM_eq_mapM_toList]
  simp only [Sem.run_bind, Sem.run_map, Sem.run_pure]
  exact congrArg (fun r : Result (List Value) => (r.andThen fun a w' => Result.ok a.toArray w').andThen fun a w' => Result.ok (if h : a.size = 1 then a[0] else Value.tuple a) w') hr

theorem leave_sound {fn : Func} {R : Value → Heap → Prop} {rs : List AOp} {t : Nat → Value} {tm : Array Value} (hc : cres P N fn.results.toList = some rs) :
    ∀ {d : List Nat} {ds : List Deferred} {β : Places} {H : Heap} {w : World}, WR β H w.heap → TR β N t tm → DR β d ds → FR β₀ H₀ w₀ β H w →
      vleave d H (fun H' => ∃ vs, avals P t H' rs = some vs ∧ R (tup vs) H') → LeavesInM Fence.wide 0 P fn tm (RetE (Ret β₀ H₀ w₀ R)) ds .returning w
  | [], [], β, H, w, hw, ht, _, hf, h => by
    obtain ⟨vs, hv, hR⟩ := h
    obtain ⟨u, hu, hrun⟩ := results_run hc ht hw hv
    exact ⟨u, hrun, tup vs, H, β, hR, hu, hw, hf⟩
  | n :: d, x :: ds, β, H, w, hw, ht, hd, hf, h => by
    obtain ⟨hg, h⟩ := h
    obtain ⟨⟨l, hn, rfl⟩, hd⟩ := hd
    have hor := hw.obj n l hn
    rw [hg] at hor
    have hlt : l.b < w.heap.size := (Array.getElem?_eq_some_iff.1 hor.2).1
    have ho : (H.get n).owns = true := by rw [hg]; rfl
    have hoth : ∀ b, b ≠ l.b → (w.heap.setIfInBounds l.b (.deferred none))[b]? = w.heap[b]? := fun b hb => Array.getElem?_setIfInBounds_ne (Ne.symm hb)
    have hw' : WR β (H.set n .gone) (w.heap.setIfInBounds l.b (.deferred none)) := hw.turn hn ho trivial (fun h => by cases h) hoth
    have hf' : FR β₀ H₀ w₀ β (H.set n .gone) { w with heap := w.heap.setIfInBounds l.b (.deferred none) } := hf.turn (w' := { w with heap := w.heap.setIfInBounds l.b (.deferred none) }) hn ho _ rfl rfl rfl (by simp) hoth
    refine ⟨by simp, .inl ⟨l.b, { w with heap := w.heap.setIfInBounds l.b (.deferred none) }, rfl, ?_, leave_sound hc hw' ht hd hf' h⟩⟩
    simp [Instr.takeDeferred, getObj, setObj, Sem.run, hor.2]
  | [], _ :: _, _, _, _, _, _, h, _, _ => h.elim
  | _ :: _, [], _, _, _, _, _, h, _, _ => h.elim

def tinit (args : List Value) : Nat → Value := fun x => args.getD x undef

theorem tinit_TR {args us : List Value} {n : Nat} (h : VL β args us) (hl : args.length ≤ n) (hg : GOk β) : TR β n (tinit args) (us.toArray ++ Array.replicate (n - us.toArray.size) undef) := by
  have hlen := h.length
  refine ⟨by simp; omega, fun x hx => ?_, hg⟩
  by_cases hlt : x < args.length
  · have h2 : x < us.length := by omega
    have e1 : tinit args x = args[x] := by simp [tinit, List.getD, hlt]
    have e2 : (us.toArray ++ Array.replicate (n - us.toArray.size) undef).getD x undef = us[x] := by
      simp [Array.getD, h2, show x < us.length + (n - us.length) by omega]
    rw [e1, e2]
    exact h.get x hlt h2
  · have h2 : ¬ x < us.length := by omega
    have e1 : tinit args x = undef := by simp [tinit, List.getD, List.getElem?_eq_none (Nat.not_lt.1 hlt)]
    have e2 : (us.toArray ++ Array.replicate (n - us.toArray.size) undef).getD x undef = undef := by
      simp [Array.getD, Array.getElem_append, h2]
    rw [e1, e2]
    exact VR.undef β

theorem AFun.of_vc {D : Nat → List DStep → St → (St → Prop) → Prop} {CD : Array Oper → Option (Nat × List DStep)} {f : FuncId} {fn : Func} {c : Code} {ac : ACode} {rs : List AOp} {args : List Value} {H : Heap} {R : Value → Heap → Prop}
    (hf : P.funcs[f]? = some fn) (hb : fn.body = some c) (hcall : ∀ as w, (callFunc f as).run P w = .ok (.enter f as) w) (hD : DSound P fn.ntmps D CD) (hc : ccode P fn.ntmps CD c = some ac) (hres : cres P fn.ntmps fn.results.toList = some rs)
    (hargs : args.length ≤ fn.ntmps) (h : vc P fn.ntmps none D ac (bodyQ P rs R) ⟨tinit args, [], H⟩) : AFun P f args H R := by
  refine ⟨hcall, fun β w us hw hus => ?_⟩
  have hr : Rel β fn.ntmps ⟨tinit args, [], H⟩ { tmps := us.toArray ++ Array.replicate (fn.ntmps - us.toArray.size) undef, defers := [] } w := ⟨hw, tinit_TR hus hargs hw.glob, trivial⟩
  refine callsIn_of_wp_marks hf hb trivial (wpIn_mono (vc_sound hD c hc hr (FR.refl β H w) (ro := none) (F := Fence.wide) rfl h) fun e a' w' hp => ?_)
  cases e with
  | normal =>
    obtain ⟨s', β', hq, hr', hf', _⟩ := hp
    exact leave_sound hres hr'.heap hr'.tmps hr'.defs hf' hq
  | ret =>
    obtain ⟨s', β', hq, hr', hf', _⟩ := hp
    exact leave_sound hres hr'.heap hr'.tmps hr'.defs hf' hq
  | exit id => obtain ⟨s', β', hq, _⟩ := hp; exact hq.elim
  | goto l => exact hp.elim
  | panic c => exact hp.elim
  | outgrown => exact hp.elim

end

end Go.Ab


namespace Go.Ab

def Opd.tm : Opd → List Nat
  | .t x => [x]
  | .c _ => []

def optm : Option Opd → List Nat
  | some o => o.tm
  | none => []

def opndTm : Operand → List Nat
  | .tmp x => [x]
  | _ => []

def AOp.tm : AOp → List Nat
  | .mov x => x.tm
  | .pick c a b => c.tm ++ (a.tm ++ b.tm)
  | .bin _ x y => x.tm ++ y.tm
  | .not x => x.tm
  | .cvi _ x => x.tm
  | .ld _ _ x => x.tm
  | .fld _ _ _ x => x.tm
  | .idx _ _ _ x i => x.tm ++ i.tm
  | .fa _ x => x.tm
  | .iar _ _ x i => x.tm ++ i.tm
  | .isl _ x i => x.tm ++ i.tm
  | .sl _ x lo hi => x.tm ++ (optm lo ++ optm hi)
  | .sla _ _ x lo hi => x.tm ++ (optm lo ++ optm hi)
  | .len x => x.tm
  | .ext x _ => x.tm
  | .fn _ first captured => first.flatMap (·.tm) ++ captured.flatMap (·.tm)
  | .nilc x => x.tm
  | .isn _ x => x.tm
  | .lkp _ _ x k => x.tm ++ k.tm
  | .lk1 _ _ x k => x.tm ++ k.tm
  | .bld _ parts => parts.flatMap (·.2.2.tm)
  | .gen _ o => o.op.operands.toList.flatMap opndTm
  | .new _ => []
  | .box x => x.tm
  | .bsl _ _ parts => parts.flatMap (·.2.2.tm)
  | .mks _ _ _ l c => l.tm ++ c.tm
  | .mkm => []
  | .st _ x v => x.tm ++ v.tm
  | .app _ _ s x => s.tm ++ x.tm
  | .mup _ x k v => x.tm ++ (k.tm ++ v.tm)
  | .call f args => f.tm ++ args.flatMap (·.tm)

def Agree (t t' : Nat → Value) (l : List Nat) : Prop := ∀ x, x ∈ l → t x = t' x

section
variable {P : Program} {t t' : Nat → Value} {H : Heap}

theorem Agree.left {l k : List Nat} (h : Agree t t' (l ++ k)) : Agree t t' l := fun x hx => h x (List.mem_append_left _ hx)
theorem Agree.right {l k : List Nat} (h : Agree t t' (l ++ k)) : Agree t t' k := fun x hx => h x (List.mem_append_right _ hx)

theorem Agree.ev {o : Opd} (h : Agree t t' o.tm) : o.ev t = o.ev t' := by
  cases o with
  | t x => exact h x (List.mem_singleton.2 rfl)
  | c v => rfl

theorem Agree.evs {l : List Opd} (h : Agree t t' (l.flatMap (·.tm))) : l.map (·.ev t) = l.map (·.ev t') :=
  List.map_congr_left fun o ho => Agree.ev fun x hx => h x (List.mem_flatMap.2 ⟨o, ho, hx⟩)

theorem Agree.parts {l : List (Nat × Nat × Opd)} (h : Agree t t' (l.flatMap (·.2.2.tm))) : (l.map fun (off, sz, x) => (off, sz, x.ev t)) = l.map fun (off, sz, x) => (off, sz, x.ev t') :=
  List.map_congr_left fun o ho => by
    have : o.2.2.ev t = o.2.2.ev t' := Agree.ev fun x hx => h x (List.mem_flatMap.2 ⟨o, ho, hx⟩)
    simp only [this]

theorem Agree.symm {l : List Nat} (h : Agree t t' l) : Agree t' t l := fun x hx => (h x hx).symm

theorem execOp_evO {o : Oper} (hs : ∀ cs b, o.op ≠ .select cs b) (h : Agree t t' (o.op.operands.toList.flatMap opndTm)) : execOp (evO t) o = execOp (evO t') o :=
  execOp_congr o hs fun x hx => by
    cases x with
    | tmp x => exact h x (List.mem_flatMap.2 ⟨.tmp x, by simpa using hx, List.mem_singleton.2 rfl⟩)
    | _ => rfl

def AOp.noSel : AOp → Bool
  | .gen _ o => notSelect o.op
  | _ => true

theorem aval_congr {op : AOp} (hs : op.noSel = true) (h : Agree t t' op.tm) : aval P t H op = aval P t' H op := by
  cases op <;> simp only [AOp.tm] at h
  case mov x => simp only [aval, h.ev]
  case pick c a b => simp only [aval, h.left.ev, h.right.left.ev, h.right.right.ev]
  case bin op x y => simp only [aval, h.left.ev, h.right.ev]
  case not x => simp only [aval, h.ev]
  case cvi k x => simp only [aval, h.ev]
  case ld g s x => simp only [aval, h.ev]
  case fld g o s x => simp only [aval, h.ev]
  case idx g l s x i => simp only [aval, h.left.ev, h.right.ev]
  case fa o x => simp only [aval, h.ev]
  case iar l s x i => simp only [aval, h.left.ev, h.right.ev]
  case isl s x i => simp only [aval, h.left.ev, h.right.ev]
  case sl s x lo hi =>
    have h1 := h.left.ev
    have h2 : ∀ y, lo = some y → y.ev t = y.ev t' := fun y e => by subst e; exact h.right.left.ev
    have h3 : ∀ y, hi = some y → y.ev t = y.ev t' := fun y e => by subst e; exact h.right.right.ev
    cases lo with
    | none => cases hi with
      | none => simp only [aval, h1]
      | some b => simp only [aval, h1, h3 b rfl]
    | some a => cases hi with
      | none => simp only [aval, h1, h2 a rfl]
      | some b => simp only [aval, h1, h2 a rfl, h3 b rfl]
  case sla l s x lo hi =>
    have h1 := h.left.ev
    have h2 : ∀ y, lo = some y → y.ev t = y.ev t' := fun y e => by subst e; exact h.right.left.ev
    have h3 : ∀ y, hi = some y → y.ev t = y.ev t' := fun y e => by subst e; exact h.right.right.ev
    cases lo with
    | none => cases hi with
      | none => simp only [aval, h1]
      | some b => simp only [aval, h1, h3 b rfl]
    | some a => cases hi with
      | none => simp only [aval, h1, h2 a rfl]
      | some b => simp only [aval, h1, h2 a rfl, h3 b rfl]
  case len x => simp only [aval, h.ev]
  case ext x i => simp only [aval, h.ev]
  case fn f a b => simp only [aval, h.left.evs, h.right.evs]
  case nilc x => simp only [aval, h.ev]
  case isn n x => simp only [aval, h.ev]
  case lkp T z x k => simp only [aval, h.left.ev, h.right.ev]
  case lk1 T z x k => simp only [aval, h.left.ev, h.right.ev]
  case bld z ps => simp only [aval, h.parts]
  case gen N o =>
    have h1 : execOp (evO t) o = execOp (evO t') o := execOp_evO (fun cs b e => by simp only [AOp.noSel, e, notSelect] at hs; cases hs) h
    have h2 : o.op.operands.toList.all (flatO N t) = o.op.operands.toList.all (flatO N t') := by
      rw [Bool.eq_iff_iff, List.all_eq_true, List.all_eq_true]
      refine forall₂_congr fun x hx => ?_
      cases x with
      | tmp x => rw [flatO, flatO, h x (List.mem_flatMap.2 ⟨.tmp x, hx, List.mem_singleton.2 rfl⟩)]
      | _ => rfl
    have h3 : genV P (evO t) o = genV P (evO t') o := by unfold genV; rw [h1]
    simp only [aval, h3, h2]
  all_goals rfl

theorem amake_congr {op : AOp} {n : Nat} (h : Agree t t' op.tm) : amake t n op = amake t' n op := by
  cases op <;> simp only [AOp.tm] at h
  case box x => simp only [amake, h.ev]
  case bsl l z ps => simp only [amake, h.parts]
  case mks s b z l c => simp only [amake, h.left.ev, h.right.ev]
  all_goals rfl

theorem astore_congr {op : AOp} (h : Agree t t' op.tm) : astore P t H op = astore P t' H op := by
  cases op <;> simp only [AOp.tm] at h
  case st s x v => simp only [astore, h.left.ev, h.right.ev]
  case mup T x k v => simp only [astore, h.left.ev, h.right.left.ev, h.right.right.ev]
  all_goals rfl

theorem aapp_congr {op : AOp} {n k : Nat} {K : Value → Heap → Prop} (h : Agree t t' op.tm) : aapp t H n k K op = aapp t' H n k K op := by
  cases op <;> simp only [AOp.tm] at h
  case app s b x y => simp only [aapp, h.left.ev, h.right.ev]
  all_goals rfl

end

end Go.Ab


namespace Go.Ab

def AOp.isChain : AOp → Bool
  | .st .. | .app .. | .mup .. | .call .. => true
  | _ => false

def AOp.heapy : AOp → Bool
  | .ld .. | .lkp .. | .lk1 .. => true
  | _ => false

theorem aval_pure {P : Program} {t : Nat → Value} {H H' : Heap} {op : AOp} (h : op.heapy = false) : aval P t H op = aval P t H' op := by
  cases op <;> first | rfl | cases h

abbrev Recs := List (Nat × (Heap → Prop))

def stabs : Recs → List Nat → Heap → Prop
  | [], _, _ => True
  | (i, p) :: rs, loose, H => (if loose.contains i then p H else True) ∧ stabs rs loose H

theorem stabs_mem {loose : List Nat} {H : Heap} : ∀ {rs : Recs} {i : Nat} {p : Heap → Prop}, stabs rs loose H → (i, p) ∈ rs → loose.contains i = true → p H
  | (j, q) :: rs, i, p, h, hm, hl => by
    rcases List.mem_cons.1 hm with e | hm
    · cases e
      have := h.1
      rw [if_pos hl] at this
      exact this
    · exact stabs_mem h.2 hm hl

def vstep (P : Program) (base : Nat) (st : DStep) (recs : Recs) (s : St) (K : Recs → St → Prop) : Prop :=
  match st.op.op with
  | .new z => ∃ x v, amake s.t (base + st.i) (.new z) = some (x, v) ∧ K recs (({ s with H := s.H.set (base + st.i) x } : St).put st.op.dst v)
  | .box y => ∃ x v, amake s.t (base + st.i) (.box y) = some (x, v) ∧ K recs (({ s with H := s.H.set (base + st.i) x } : St).put st.op.dst v)
  | .bsl n z ps => ∃ x v, amake s.t (base + st.i) (.bsl n z ps) = some (x, v) ∧ K recs (({ s with H := s.H.set (base + st.i) x } : St).put st.op.dst v)
  | .mks sz b z l c => ∃ x v, amake s.t (base + st.i) (.mks sz b z l c) = some (x, v) ∧ K recs (({ s with H := s.H.set (base + st.i) x } : St).put st.op.dst v)
  | .mkm => ∃ x v, amake s.t (base + st.i) .mkm = some (x, v) ∧ K recs (({ s with H := s.H.set (base + st.i) x } : St).put st.op.dst v)
  | .st sz x v => ∃ H', astore P s.t s.H (.st sz x v) = some H' ∧ stabs recs st.loose H' ∧ K recs (({ s with H := H' } : St).put st.op.dst undef)
  | .app sz b y x => aapp s.t s.H (base + st.i) s.H.next (fun v H' => stabs recs st.loose H' ∧ K recs (({ s with H := H' } : St).put st.op.dst v)) (.app sz b y x)
  | .mup T x k v => ∃ H', astore P s.t s.H (.mup T x k v) = some H' ∧ stabs recs st.loose H' ∧ K recs (({ s with H := H' } : St).put st.op.dst undef)
  | .call f args => ACall P (f.ev s.t) (args.map (·.ev s.t)) s.H fun v H' => stabs recs st.loose H' ∧ K recs (({ s with H := H' } : St).put st.op.dst v)
  | op => ∃ v, aval P s.t s.H op = some v ∧ K ((st.i, fun H => aval P s.t H op = some v) :: recs) (s.put st.op.dst v)

def vdraw (P : Program) (base : Nat) : List DStep → Recs → St → (St → Prop) → Prop
  | [], _, s, K => K s
  | st :: rest, recs, s, K =>
    match st.op.guard with
    | none => vstep P base st recs s fun recs' s' => vdraw P base rest recs' s' K
    | some (d, want) => acond (gval (s.t d) want) (vstep P base st recs s fun recs' s' => vdraw P base rest recs' s' K) (vdraw P base rest recs (s.put st.op.dst undef) K)

def vdrawD (P : Program) (n : Nat) (steps : List DStep) (s : St) (K : St → Prop) : Prop :=
  vdraw P s.H.next steps [] { s with H := { s.H with next := s.H.next + n } } K

def edgesOf (o : Oper) : List Nat := (o.after.toList.filter fun e => Region.binds .any e).map (·.on)

def bmask : List Oper → List Nat → List Nat
  | [], acc => acc
  | o :: l, acc => bmask l (acc ++ [(edgesOf o).foldl (fun s e => s ||| 2 ^ e ||| acc.getD e 0) 0])

def AOper.reads (x : AOper) : List Nat := x.op.tm ++ (match x.guard with | none => [] | some (d, _) => [d])

structure DCtx where
  n : Nat
  E : Nat → List Nat
  B : Nat → Nat
  al : Nat → AOper

def DCtx.ch (c : DCtx) (i : Nat) : Bool := (c.al i).op.isChain
def DCtx.hp (c : DCtx) (i : Nat) : Bool := (c.al i).op.heapy

def DCtx.schk (c : DCtx) : List Nat → List DStep → Bool
  | done, [] => (List.range c.n).all done.contains
  | done, st :: l => decide (st.i < c.n) && !done.contains st.i && (c.E st.i).all done.contains &&
      (!c.ch st.i || ((l.all fun s2 => if c.ch s2.i then (c.B s2.i).testBit st.i else (c.E s2.i).any fun e => !done.contains e) &&
        done.all fun k => c.ch k || !c.hp k || (c.B st.i).testBit k || st.loose.contains k)) && c.schk (st.i :: done) l

def DCtx.chk (c : DCtx) : Bool :=
  ((List.range c.n).all fun j => (c.E j).all (decide <| · < j)) &&
  ((List.range c.n).all fun j => (List.range c.n).all fun i => !(c.B j).testBit i || (c.E j).any fun e => i == e || (c.B e).testBit i) &&
  ((List.range c.n).all fun i => (List.range c.n).all fun j => i == j || ((c.al i).dst.isNone || (c.al i).dst != (c.al j).dst)) &&
  ((List.range c.n).all fun i => (List.range c.n).all fun j => i == j || match (c.al i).dst with
    | none => true
    | some x => !(c.al j).reads.contains x || (c.B j).testBit i || (c.B i).testBit j) &&
  ((List.range c.n).all fun i => (c.al i).op.noSel)

def hoist (E : Nat → List Nat) (ch : Nat → Bool) : Nat → List Nat → List Nat → List Nat
  | 0, _, _ => []
  | f + 1, todo, done =>
    match todo.find? fun i => !ch i && (E i).all done.contains with
    | some i => i :: hoist E ch f (todo.filter (· != i)) (i :: done)
    | none => match todo.find? fun i => (E i).all done.contains with
      | some i => i :: hoist E ch f (todo.filter (· != i)) (i :: done)
      | none => []

def DCtx.steps (c : DCtx) : List Nat → List Nat → List DStep
  | _, [] => []
  | done, i :: l => { op := c.al i, i, chain := c.ch i, loose := if c.ch i then done.filter fun k => !c.ch k && c.hp k && !(c.B i).testBit k else [] } :: c.steps (i :: done) l

def noOper : AOper := { dst := none, op := .mov (.c undef), guard := none }

def dctx (ops : Array Oper) (al : List AOper) : DCtx :=
  let l := ops.toList
  let b := bmask l []
  { n := ops.size, E := fun i => ((l[i]?).map edgesOf).getD [], B := fun i => b.getD i 0, al := fun i => al.getD i noOper }

def cdraw (P : Program) (N : Nat) (ops : Array Oper) : Option (Nat × List DStep) :=
  match copers P N ops ops.toList with
  | some al =>
    let c := dctx ops al
    let st := c.steps [] (hoist c.E c.ch c.n (List.range c.n) [])
    if c.chk && c.schk [] st then some (c.n, st) else none
  | none => none

section
variable {c : DCtx}

def Closed (E : Nat → List Nat) (D : Nat → Bool) : Prop := ∀ j, D j = true → ∀ e, e ∈ E j → D e = true

theorem chk_inv (h : c.chk = true) :
    (∀ j, j < c.n → ∀ e, e ∈ c.E j → e < j) ∧
    (∀ j, j < c.n → ∀ i, i < c.n → (c.B j).testBit i = true → ∃ e, e ∈ c.E j ∧ (i = e ∨ (c.B e).testBit i = true)) ∧
    (∀ i j, i < c.n → j < c.n → ∀ x, (c.al i).dst = some x → (c.al j).dst = some x → i = j) ∧
    (∀ i j, i < c.n → j < c.n → i ≠ j → ∀ x, (c.al i).dst = some x → x ∈ (c.al j).reads → (c.B j).testBit i = true ∨ (c.B i).testBit j = true) ∧
    (∀ i, i < c.n → (c.al i).op.noSel = true) := by
  simp only [DCtx.chk, Bool.and_eq_true, List.all_eq_true, List.mem_range] at h
  obtain ⟨⟨⟨⟨h1, h2⟩, h3⟩, h4⟩, h5⟩ := h
  refine ⟨fun j hj e he => by simpa using h1 j hj e he, fun j hj i hi hb => ?_, fun i j hi hj x hx hy => ?_, fun i j hi hj hne x hx hr => ?_, h5⟩
  · have := h2 j hj i hi
    simp only [hb, Bool.not_true, Bool.false_or, List.any_eq_true, Bool.or_eq_true, beq_iff_eq] at this
    exact this
  · have := h3 i hi j hj
    by_cases e : i = j
    · exact e
    · simp [e, hx, hy] at this
  · have := h4 i hi j hj
    have e1 : (i == j) = false := by simpa using hne
    have e2 : (c.al j).reads.contains x = true := by simpa using hr
    simp only [e1, hx, e2, Bool.not_true, Bool.false_or, Bool.or_eq_true] at this
    exact this

theorem B_closed (h : c.chk = true) {D : Nat → Bool} (hD : Closed c.E D) : ∀ (j : Nat), j < c.n → (∀ e, e ∈ c.E j → D e = true) → ∀ i, i < c.n → (c.B j).testBit i = true → D i = true := by
  intro j
  induction j using Nat.strongRecOn with
  | _ j ih =>
    intro hj hE i hi hb
    obtain ⟨h1, h2, _⟩ := chk_inv h
    obtain ⟨e, he, hor⟩ := h2 j hj i hi hb
    rcases hor with rfl | hb'
    · exact hE _ he
    · have hlt := h1 j hj e he
      exact ih e hlt (Nat.lt_trans hlt hj) (hD e (hE e he)) i hi hb'

def tS (c : DCtx) (t0 : Nat → Value) (V : Nat → Value) (S : Nat → Bool) (x : Nat) : Value :=
  match (List.range c.n).find? fun i => (c.al i).dst == some x with
  | some i => if S i then V i else t0 x
  | none => t0 x

def setB (S : Nat → Bool) (i : Nat) : Nat → Bool := fun k => k == i || S k
def setV (V : Nat → Value) (i : Nat) (v : Value) : Nat → Value := fun k => if k = i then v else V k

theorem find_spec {x i : Nat} (h : ((List.range c.n).find? fun i => (c.al i).dst == some x) = some i) : i < c.n ∧ (c.al i).dst = some x := by
  have h1 := List.find?_some h
  have h2 := List.mem_of_find?_eq_some h
  exact ⟨List.mem_range.1 h2, by simpa using h1⟩

theorem tS_put (h : c.chk = true) {t0 V : Nat → Value} {S : Nat → Bool} {i : Nat} (hi : i < c.n) (v : Value) :
    (match (c.al i).dst with | some d => upd (tS c t0 V S) d v | none => tS c t0 V S) = tS c t0 (setV V i v) (setB S i) := by
  obtain ⟨_, _, hu, _⟩ := chk_inv h
  funext x
  cases hd : (c.al i).dst with
  | none =>
    simp only [tS]
    split
    · rename_i k hk
      obtain ⟨h1, h2⟩ := find_spec hk
      have hne : k ≠ i := fun e => by subst e; rw [hd] at h2; cases h2
      simp [setB, setV, hne]
    · rfl
  | some d =>
    simp only [upd_at]
    by_cases e : x = d
    · subst e
      rw [if_pos rfl]
      simp only [tS]
      cases hf : (List.range c.n).find? fun i => (c.al i).dst == some x with
      | none =>
        have := List.find?_eq_none.1 hf i (List.mem_range.2 hi)
        simp [hd] at this
      | some k =>
        obtain ⟨h1, h2⟩ := find_spec hf
        have := hu k i h1 hi x h2 hd
        subst this
        simp [setB, setV]
    · rw [if_neg e]
      simp only [tS]
      split
      · rename_i k hk
        obtain ⟨h1, h2⟩ := find_spec hk
        have hne : k ≠ i := fun e' => by subst e'; rw [hd] at h2; cases h2; exact e rfl
        simp [setB, setV, hne]
      · rfl

theorem tS_agree (h : c.chk = true) {t0 V V' : Nat → Value} {S L : Nat → Bool} {i : Nat} (hi : i < c.n) (hS : Closed c.E S) (hL : Closed c.E L) (hSi : S i = false) (hLi : L i = false)
    (hSp : ∀ e, e ∈ c.E i → S e = true) (hLp : ∀ e, e ∈ c.E i → L e = true) (hV : ∀ k, L k = true → V k = V' k) : Agree (tS c t0 V S) (tS c t0 V' L) (c.al i).reads := by
  intro x hx
  obtain ⟨_, _, _, hp, _⟩ := chk_inv h
  simp only [tS]
  cases hf : (List.range c.n).find? fun i => (c.al i).dst == some x with
  | none => rfl
  | some k =>
    obtain ⟨h1, h2⟩ := find_spec hf
    by_cases e : k = i
    · subst e; simp [hSi, hLi]
    · rcases hp k i h1 hi e x h2 hx with hb | hb
      · have e1 := B_closed h hS i hi hSp k h1 hb
        have e2 := B_closed h hL i hi hLp k h1 hb
        simp [e1, e2, hV k e2]
      · have e1 : S k = false := by
          cases hk : S k with
          | false => rfl
          | true =>
            have := B_closed h hS k h1 (hS k hk) i hi hb
            rw [hSi] at this; cases this
        have e2 : L k = false := by
          cases hk : L k with
          | false => rfl
          | true =>
            have := B_closed h hL k h1 (hL k hk) i hi hb
            rw [hLi] at this; cases this
        simp [e1, e2]

end

end Go.Ab


namespace Go.Ab

section
variable {P : Program} {c : DCtx} {N base : Nat} {t0 : Nat → Value} {βs β₀ : Places} {H₀ : Heap} {w₀ : World}

def Out1 (P : Program) (base i : Nat) (op : AOp) (t : Nat → Value) (H : Heap) (v : Value) : Prop :=
  (op.isVal = true ∧ aval P t H op = some v) ∨ (op.isMake = true ∧ ∃ x, amake t (base + i) op = some (x, v) ∧ H.get (base + i) = x)

def Out (P : Program) (base : Nat) (x : AOper) (i : Nat) (t : Nat → Value) (H : Heap) (v : Value) : Prop :=
  match x.guard with
  | none => Out1 P base i x.op t H v
  | some (d, want) => if gval (t d) want = true then Out1 P base i x.op t H v else v = undef

theorem Out1_congr {i : Nat} {op : AOp} {t t' : Nat → Value} {H : Heap} {v : Value} (hs : op.noSel = true) (h : Agree t t' op.tm) (ho : Out1 P base i op t H v) : Out1 P base i op t' H v := by
  rcases ho with ⟨h1, h2⟩ | ⟨h1, x, h2, h3⟩
  · exact .inl ⟨h1, by rw [← aval_congr hs h]; exact h2⟩
  · exact .inr ⟨h1, x, by rw [← amake_congr h]; exact h2, h3⟩

theorem Out_congr {i : Nat} {x : AOper} {t t' : Nat → Value} {H : Heap} {v : Value} (hs : x.op.noSel = true) (h : Agree t t' x.reads) (ho : Out P base x i t H v) : Out P base x i t' H v := by
  unfold Out at *
  cases hg : x.guard with
  | none =>
    rw [hg] at ho
    simp only [AOper.reads, hg] at h
    exact Out1_congr hs h.left ho
  | some p =>
    obtain ⟨d, want⟩ := p
    rw [hg] at ho
    simp only [AOper.reads, hg] at h
    have hd : t d = t' d := h.right d (List.mem_singleton.2 rfl)
    simp only at ho ⊢
    rw [← hd]
    split
    · rename_i hb; rw [if_pos hb] at ho; exact Out1_congr hs h.left ho
    · rename_i hb; rw [if_neg hb] at ho; exact ho

theorem Out_heap {i : Nat} {x : AOper} {t : Nat → Value} {H H' : Heap} {v : Value} (h1 : x.op.isVal = true → aval P t H x.op = some v → aval P t H' x.op = some v) (h2 : H'.get (base + i) = H.get (base + i)) (ho : Out P base x i t H v) : Out P base x i t H' v := by
  have key : Out1 P base i x.op t H v → Out1 P base i x.op t H' v := by
    rintro (⟨a, b⟩ | ⟨a, y, b, d⟩)
    · exact .inl ⟨a, h1 a b⟩
    · exact .inr ⟨a, y, b, h2.trans d⟩
  unfold Out at *
  cases hg : x.guard with
  | none => rw [hg] at ho; exact key ho
  | some p =>
    obtain ⟨d, want⟩ := p
    rw [hg] at ho
    simp only at ho ⊢
    split
    · rename_i hb; rw [if_pos hb] at ho; exact key ho
    · rename_i hb; rw [if_neg hb] at ho; exact ho

theorem aval_gone {t : Nat → Value} {H : Heap} {m : Nat} {x : AObj} {op : AOp} {v : Value} (hg : H.get m = .gone) (h : aval P t H op = some v) : aval P t (H.set m x) op = some v := by
  cases hh : op.heapy with
  | false => rw [aval_pure (H' := H) hh]; exact h
  | true =>
    cases op <;> first | (cases hh; done) | skip
    case ld g sz y =>
      simp only [aval] at h ⊢
      split at h
      · rename_i n off he
        by_cases e : n = m
        · subst e; rw [hg] at h; cases h
        · simp only [Heap.set_get, if_neg e]; exact h
      · cases h
    case lkp T z y k =>
      simp only [aval] at h ⊢
      split at h
      · rename_i n he
        by_cases e : n = m
        · subst e; rw [hg] at h; cases h
        · simp only [Heap.set_get, if_neg e]; exact h
      · cases h
    case lk1 T z y k =>
      simp only [aval] at h ⊢
      split at h
      · rename_i n he
        by_cases e : n = m
        · subst e; rw [hg] at h; cases h
        · simp only [Heap.set_get, if_neg e]; exact h
      · cases h

structure J (P : Program) (c : DCtx) (N base : Nat) (t0 : Nat → Value) (βs β₀ : Places) (H₀ : Heap) (w₀ : World) (L S : Nat → Bool) (V : Nat → Value) (s : St) (recs : Recs) (β : Places) (a : Act) (w : World) : Prop where
  t : s.t = tS c t0 V L
  tr : TR β N (tS c t0 V S) a.tmps
  wr : WR β s.H w.heap
  dr : DR β s.d a.defers
  fr : FR β₀ H₀ w₀ β s.H w
  ext : Ext βs β
  sub : ∀ i, S i = true → L i = true
  cS : Closed c.E S
  cL : Closed c.E L
  lt : ∀ i, L i = true → i < c.n
  chain : ∀ i, L i = true → c.ch i = true → S i = true
  no : ∀ i, i < c.n → S i = false → β (base + i) = none
  gone : ∀ i, i < c.n → L i = false → s.H.get (base + i) = .gone
  nx : base + c.n ≤ s.H.next
  bs : H₀.next ≤ base
  pend : ∀ i, L i = true → S i = false → ∃ Li : Nat → Bool, Closed c.E Li ∧ (∀ e, e ∈ c.E i → Li e = true) ∧ Li i = false ∧ (∀ k, Li k = true → L k = true) ∧
    Out P base (c.al i) i (tS c t0 V Li) s.H (V i) ∧ (c.hp i = false ∨ ∀ H', (∀ p, (i, p) ∈ recs → p H') → H'.get (base + i) = s.H.get (base + i) → Out P base (c.al i) i (tS c t0 V Li) H' (V i))

theorem tS_irrel {V V' : Nat → Value} {S : Nat → Bool} (h : ∀ k, S k = true → V k = V' k) : tS c t0 V S = tS c t0 V' S := by
  funext x
  simp only [tS]
  split
  · rename_i k _
    cases hk : S k with
    | true => simp [h k hk]
    | false => simp
  · rfl

theorem setB_closed {E : Nat → List Nat} {D : Nat → Bool} {i : Nat} (h : Closed E D) (hp : ∀ e, e ∈ E i → D e = true) : Closed E (setB D i) := by
  intro j hj e he
  simp only [setB, Bool.or_eq_true, beq_iff_eq] at hj ⊢
  rcases hj with rfl | hj
  · exact .inr (hp e he)
  · exact .inr (h j hj e he)

theorem setB_self (D : Nat → Bool) (i : Nat) : setB D i i = true := by simp [setB]
theorem setB_of {D : Nat → Bool} {i k : Nat} (h : D k = true) : setB D i k = true := by simp [setB, h]
theorem setB_false {D : Nat → Bool} {i k : Nat} (h : setB D i k = false) : k ≠ i ∧ D k = false := by
  simp only [setB, Bool.or_eq_false_iff, beq_eq_false_iff_ne] at h; exact h
theorem setB_true {D : Nat → Bool} {i k : Nat} (h : setB D i k = true) : k = i ∨ D k = true := by
  simpa only [setB, Bool.or_eq_true, beq_iff_eq] using h
theorem setV_self (V : Nat → Value) (i : Nat) : setV V i (V i) = V := by
  funext k; simp only [setV]; split <;> simp_all
theorem setV_ne {V : Nat → Value} {i k : Nat} {v : Value} (h : k ≠ i) : setV V i v k = V k := by simp [setV, h]
theorem setV_at (V : Nat → Value) (i : Nat) (v : Value) : setV V i v i = v := by simp [setV]

theorem WR.phantom {β : Places} {H : Heap} {hp : Array Obj} (h : WR β H hp) {n : Nat} (hn : β n = none) (hlt : n < H.next) (x : AObj) : WR β (H.set n x) hp where
  obj m l hm := by
    have : m ≠ n := fun e => by subst e; rw [hn] at hm; cases hm
    rw [Heap.set_get, if_neg this]; exact h.obj m l hm
  apart a b ka kb ha hb oa ob hne := by
    have e1 : a ≠ n := fun e => by subst e; rw [hn] at ha; cases ha
    have e2 : b ≠ n := fun e => by subst e; rw [hn] at hb; cases hb
    rw [Heap.set_get, if_neg e1] at oa
    rw [Heap.set_get, if_neg e2] at ob
    exact h.apart a b ka kb ha hb oa ob hne
  fresh := h.fresh
  clean m hm := by
    have : m ≠ n := fun e => by subst e; exact absurd hlt (Nat.not_lt.2 hm)
    rw [Heap.set_get, if_neg this]; exact h.clean m hm
  glob := h.glob

theorem FR.phantom {β : Places} {H : Heap} {w : World} (h : FR β₀ H₀ w₀ β H w) {n : Nat} (hn : β n = none) (hn0 : H₀.next ≤ n) (x : AObj) : FR β₀ H₀ w₀ β (H.set n x) w where
  os := h.os
  tape := h.tape
  output := h.output
  size := h.size
  names := h.names
  next := h.next
  keep := h.keep
  own m l hm hl hb := by
    have : m ≠ n := fun e => by subst e; rw [hn] at hm; cases hm
    rw [Heap.set_get, if_neg this] at hl; exact h.own m l hm hl hb
  phant m hm h0 := by
    have : m ≠ n := by omega
    rw [Heap.set_get, if_neg this]; exact h.phant m hm h0

theorem J.adv {L S : Nat → Bool} {V : Nat → Value} {s : St} {recs : Recs} {β : Places} {a : Act} {w : World} {st : DStep} {rest : List DStep} {K : St → Prop} (hk : c.chk = true) (j : J P c N base t0 βs β₀ H₀ w₀ L S V s recs β a w)
    (hop : st.op = c.al st.i) (hi : st.i < c.n) (hLi : L st.i = false) (hp : ∀ e, e ∈ c.E st.i → L e = true) (hch : c.ch st.i = false) (h : vdraw P base (st :: rest) recs s K) :
    ∃ V' s' recs', J P c N base t0 βs β₀ H₀ w₀ (setB L st.i) S V' s' recs' β a w ∧ vdraw P base rest recs' s' K := by
  have hSi : S st.i = false := by
    cases hS : S st.i with
    | false => rfl
    | true => have := j.sub _ hS; rw [hLi] at this; cases this
  -- whatever it comes to
  have fin : ∀ (v : Value) (H' : Heap) (recs' : Recs), (∀ m, m ≠ base + st.i → H'.get m = s.H.get m) → H'.next = s.H.next → WR β H' w.heap → FR β₀ H₀ w₀ β H' w → (∀ p, p ∈ recs → p ∈ recs') →
      Out P base (c.al st.i) st.i s.t H' v → (c.hp st.i = false ∨ ∀ H2, (∀ p, (st.i, p) ∈ recs' → p H2) → H2.get (base + st.i) = H'.get (base + st.i) → Out P base (c.al st.i) st.i s.t H2 v) →
      J P c N base t0 βs β₀ H₀ w₀ (setB L st.i) S (setV V st.i v) (({ s with H := H' } : St).put (c.al st.i).dst v) recs' β a w := by
    intro v H' recs' hg hn hw hf hr ho hst
    have hval : ∀ Li : Nat → Bool, (∀ k, Li k = true → L k = true) → tS c t0 (setV V st.i v) Li = tS c t0 V Li := fun Li hsub =>
      tS_irrel fun k hk' => setV_ne fun e => by subst e; have := hsub _ hk'; rw [hLi] at this; cases this
    refine ⟨?_, ?_, by rw [St.put_H]; exact hw, by rw [St.put_d]; exact j.dr, by rw [St.put_H]; exact hf, j.ext, fun i hi' => setB_of (j.sub i hi'), j.cS, setB_closed j.cL hp, ?_, ?_, j.no, ?_, by rw [St.put_H, hn]; exact j.nx, j.bs, ?_⟩
    · have := tS_put hk (t0 := t0) (V := V) (S := L) hi v
      rw [← this, ← j.t]
      cases (c.al st.i).dst <;> rfl
    · rw [tS_irrel (V' := V) fun k hk' => setV_ne fun e => by subst e; rw [hSi] at hk'; cases hk']
      exact j.tr
    · intro i hL
      rcases setB_true hL with rfl | hL
      · exact hi
      · exact j.lt i hL
    · intro i hL hc
      rcases setB_true hL with rfl | hL
      · rw [hch] at hc; cases hc
      · exact j.chain i hL hc
    · intro i hi' hL
      obtain ⟨e1, e2⟩ := setB_false hL
      rw [St.put_H, hg _ (by omega)]
      exact j.gone i hi' e2
    · intro i hL hS
      rw [St.put_H]
      by_cases e : i = st.i
      · subst e
        refine ⟨L, j.cL, hp, hLi, fun k hk' => setB_of hk', ?_, ?_⟩
        · rw [hval L (fun _ h => h), ← j.t, setV_at]; exact ho
        · rw [hval L (fun _ h => h), ← j.t, setV_at]; exact hst
      · rcases setB_true hL with e' | hL'
        · exact absurd e' e
        · obtain ⟨Li, h1, h2, h3, h4, h5, h6⟩ := j.pend i hL' hS
          have hgi : H'.get (base + i) = s.H.get (base + i) := hg _ (by omega)
          refine ⟨Li, h1, h2, h3, fun k hk' => setB_of (h4 k hk'), ?_, ?_⟩
          · rw [hval Li h4, setV_ne e]
            refine Out_heap (fun hv hav => ?_) hgi h5
            have e1 : H' = s.H.set (base + st.i) (H'.get (base + st.i)) := by
              have : H'.get = (s.H.set (base + st.i) (H'.get (base + st.i))).get := by
                funext m; rw [Heap.set_get]; split
                · rename_i e; rw [e]
                · rename_i e; exact hg m e
              cases H'; simp only [Heap.set] at this ⊢; simp only at hn; subst hn; congr
            rw [e1]
            exact aval_gone (j.gone st.i hi hLi) hav
          · rw [hval Li h4, setV_ne e]
            rcases h6 with h6 | h6
            · exact .inl h6
            · exact .inr fun H2 hp2 hg2 => h6 H2 (fun p hpm => hp2 p (hr _ hpm)) (hg2.trans hgi)
  -- the step
  have step : ∀ {K' : Recs → St → Prop}, vstep P base st recs s K' → (∀ d want, (c.al st.i).guard = some (d, want) → gval (s.t d) want = true) →
      ∃ V' s' recs', J P c N base t0 βs β₀ H₀ w₀ (setB L st.i) S V' s' recs' β a w ∧ K' recs' s' := by
    intro K' hv hgw
    have hout : ∀ H v, Out1 P base st.i (c.al st.i).op s.t H v → Out P base (c.al st.i) st.i s.t H v := fun H v h1 => by
      unfold Out
      cases hg : (c.al st.i).guard with
      | none => exact h1
      | some p => obtain ⟨d, want⟩ := p; simp only; rw [if_pos (hgw d want hg)]; exact h1
    have valc : ∀ {v : Value}, (c.al st.i).op.isVal = true → aval P s.t s.H (c.al st.i).op = some v →
        J P c N base t0 βs β₀ H₀ w₀ (setB L st.i) S (setV V st.i v) (s.put (c.al st.i).dst v) ((st.i, fun H => aval P s.t H (c.al st.i).op = some v) :: recs) β a w := fun {v} hv1 hav =>
      fin v s.H _ (fun _ _ => rfl) rfl j.wr j.fr (fun p hp => List.mem_cons_of_mem _ hp) (hout _ _ (.inl ⟨hv1, hav⟩))
        (.inr fun H2 hp2 _ => hout _ _ (.inl ⟨hv1, hp2 _ (List.mem_cons_self ..)⟩))
    have makec : ∀ {x : AObj} {v : Value}, (c.al st.i).op.isMake = true → amake s.t (base + st.i) (c.al st.i).op = some (x, v) →
        J P c N base t0 βs β₀ H₀ w₀ (setB L st.i) S (setV V st.i v) (({ s with H := s.H.set (base + st.i) x } : St).put (c.al st.i).dst v) recs β a w := fun {x v} hm ham => by
      have hno := j.no st.i hi hSi
      refine fin v (s.H.set (base + st.i) x) recs (fun m hm => by rw [Heap.set_get, if_neg hm]) rfl (j.wr.phantom hno (by have := j.nx; omega) x) (j.fr.phantom hno (by have := j.bs; omega) x) (fun p hp => hp)
        (hout _ _ (.inr ⟨hm, x, ham, by simp⟩)) (.inl ?_)
      simp only [DCtx.hp]
      cases hq : (c.al st.i).op <;> first | rfl | (rw [hq] at hm; cases hm)
    have hco : (c.al st.i).op.isChain = false := hch
    unfold vstep at hv
    rw [hop] at hv
    cases hq : (c.al st.i).op
    case new z => rw [hq] at hv; obtain ⟨x, v, h1, h2⟩ := hv; exact ⟨_, _, _, makec (by rw [hq]; rfl) (by rw [hq]; exact h1), h2⟩
    case box z => rw [hq] at hv; obtain ⟨x, v, h1, h2⟩ := hv; exact ⟨_, _, _, makec (by rw [hq]; rfl) (by rw [hq]; exact h1), h2⟩
    case bsl n z ps => rw [hq] at hv; obtain ⟨x, v, h1, h2⟩ := hv; exact ⟨_, _, _, makec (by rw [hq]; rfl) (by rw [hq]; exact h1), h2⟩
    case mks sz b z l cp => rw [hq] at hv; obtain ⟨x, v, h1, h2⟩ := hv; exact ⟨_, _, _, makec (by rw [hq]; rfl) (by rw [hq]; exact h1), h2⟩
    case mkm => rw [hq] at hv; obtain ⟨x, v, h1, h2⟩ := hv; exact ⟨_, _, _, makec (by rw [hq]; rfl) (by rw [hq]; exact h1), h2⟩
    case st sz x v => rw [hq] at hco; cases hco
    case app sz b x y => rw [hq] at hco; cases hco
    case mup T x y z => rw [hq] at hco; cases hco
    case call f args => rw [hq] at hco; cases hco
    all_goals
      rw [hq] at hv
      obtain ⟨v, h1, h2⟩ := hv
      have := valc (v := v) (by rw [hq]; rfl) (by rw [hq]; exact h1)
      rw [hq] at this
      exact ⟨_, _, _, this, h2⟩
  simp only [vdraw, hop] at h
  cases hg : (c.al st.i).guard with
  | none =>
    rw [hg] at h
    exact step h (fun d want e => by rw [hg] at e; cases e)
  | some p =>
    obtain ⟨d, want⟩ := p
    rw [hg] at h
    simp only at h
    have := acond_if h
    split at this
    · rename_i hb
      exact step this (fun d' want' e => by rw [hg] at e; cases e; exact hb)
    · rename_i hb
      have ho : ∀ H, Out P base (c.al st.i) st.i s.t H undef := fun H => by
        unfold Out; rw [hg]; simp only; rw [if_neg hb]; trivial
      exact ⟨_, _, _, fin undef s.H recs (fun _ _ => rfl) rfl j.wr j.fr (fun p hp => hp) (ho _) (.inr fun H2 _ _ => ho H2), this⟩

end

end Go.Ab


namespace Go.Ab

section
variable {P : Program} {c : DCtx} {N base : Nat} {t0 : Nat → Value} {βs β₀ : Places} {H₀ : Heap} {w₀ : World} {ops : Array Oper} {Q : Exit → Act → World → Prop} {ro : Option Nat} {F : Fence}

theorem kinds_vm {op : AOp} (a : op.isVal = true) (b : op.isMake = true) : False := by cases op <;> simp [AOp.isVal, AOp.isMake] at a b
theorem kinds_vs {op : AOp} (a : op.isVal = true) (b : op.isStore = true) : False := by cases op <;> simp [AOp.isVal, AOp.isStore] at a b
theorem kinds_va {op : AOp} (a : op.isVal = true) (b : op.isApp = true) : False := by cases op <;> simp [AOp.isVal, AOp.isApp] at a b
theorem kinds_ms {op : AOp} (a : op.isMake = true) (b : op.isStore = true) : False := by cases op <;> simp [AOp.isMake, AOp.isStore] at a b
theorem kinds_ma {op : AOp} (a : op.isMake = true) (b : op.isApp = true) : False := by cases op <;> simp [AOp.isMake, AOp.isApp] at a b

theorem copers_get : ∀ {l : List Oper} {al : List AOper}, copers P N ops l = some al → ∀ i (o : Oper), l[i]? = some o → coper P N ops o = some (al.getD i noOper)
  | [], al, h, i, o, hi => by simp at hi
  | x :: l, al, h, i, o, hi => by
    simp only [copers] at h
    split at h
    · rename_i y ys h1 h2
      simp only [Option.some.injEq] at h; subst h
      cases i with
      | zero => simp only [List.getElem?_cons_zero, Option.some.injEq] at hi; subst hi; simpa using h1
      | succ i => simpa using copers_get h2 i o (by simpa using hi)
    · cases h

theorem opIn_of {i : Nat} {o : Oper} {x : AOper} {t : Nat → Value} {K : Act → World → Prop} {a : Act} {w : World} {β : Places} (ho : ops[i]? = some o) (hc : coper P N ops o = some x) (ht : TR β N t a.tmps) (hro : RoR β ro F)
    (h : match x.guard with
      | none => o.wpIn F 0 P a w K Q
      | some (d, want) => if gval (t d) want = true then o.wpIn F 0 P a w K Q else K (a.put o.dst undef) w) : wpOpIn F 0 P ops Q i K a w := by
  obtain ⟨hop, hnd, hdst, hd, hg⟩ := coper_inv hc
  simp only [wpOpIn, ho]
  rcases hg with ⟨hg, hxg⟩ | ⟨j, want, d, hg, hj, hlt, hxg⟩
  · rw [hxg] at h
    simp only [Region.wanted, hg, if_true]
    exact h
  · rw [hxg] at h
    simp only at h
    rw [gval_wanted (s := ⟨t, [], ⟨fun _ => .gone, 0⟩⟩) hj hlt ht hg]
    split
    · rename_i hb; rw [if_pos hb] at h; exact h
    · rename_i hb; rw [if_neg hb] at h; exact ⟨fun f _ => hro.fn f, h⟩

theorem TR.tS_put {β : Places} {V : Nat → Value} {S : Nat → Bool} {i : Nat} {a : Act} {v u : Value} (hk : c.chk = true) (hi : i < c.n) (ht : TR β N (tS c t0 V S) a.tmps) {dst : Option Nat} (hdst : (c.al i).dst = dst) (hd : dstOk N dst = true) (hv : VR β v u) :
    TR β N (tS c t0 (setV V i v) (setB S i)) (a.put dst u).tmps := by
  have := Ab.tS_put hk (t0 := t0) (V := V) (S := S) hi v
  rw [← this, hdst]
  cases dst with
  | none => exact ht
  | some d =>
    simp only [dstOk, decide_eq_true_eq] at hd
    exact ht.put hd hv

theorem Act.put_defers' (a : Act) (dst : Option Nat) (u : Value) : (a.put dst u).defers = a.defers := by cases dst <;> rfl

theorem J.late {L S : Nat → Bool} {V : Nat → Value} {s : St} {recs : Recs} {β : Places} {a : Act} {w : World} {i : Nat} {o : Oper} {K : Act → World → Prop} (hk : c.chk = true) (j : J P c N base t0 βs β₀ H₀ w₀ L S V s recs β a w)
    (ho : ops[i]? = some o) (hc : coper P N ops o = some (c.al i)) (hL : L i = true) (hS : S i = false) (hp : ∀ e, e ∈ c.E i → S e = true) (hro : RoR β ro F)
    (hK : ∀ a' w' β', J P c N base t0 βs β₀ H₀ w₀ L (setB S i) V s recs β' a' w' → Ext β β' → K a' w') : wpOpIn F 0 P ops Q i K a w := by
  have hi := j.lt i hL
  obtain ⟨hop, hnd, hdst, hd, hg⟩ := coper_inv hc
  obtain ⟨Li, h1, h2, h3, h4, h5, h6⟩ := j.pend i hL hS
  obtain ⟨_, _, _, _, hns⟩ := chk_inv hk
  have hout : Out P base (c.al i) i (tS c t0 V S) s.H (V i) := Out_congr (hns i hi) (tS_agree hk hi h1 j.cS h3 hS h2 hp (fun _ _ => rfl)) h5
  -- what is left
  have fin : ∀ (u : Value) (w' : World) (β' : Places), Ext β β' → WR β' s.H w'.heap → FR β₀ H₀ w₀ β' s.H w' → (∀ m, m ≠ base + i → β' m = β m) → VR β' (V i) u → K (a.put o.dst u) w' := by
    intro u w' β' he hw hf hno hv
    refine hK _ _ β' ⟨j.t, ?_, hw, by rw [Act.put_defers']; exact j.dr.ext he, hf, j.ext.trans he, ?_, setB_closed j.cS hp, j.cL, j.lt, ?_, ?_, j.gone, j.nx, j.bs, ?_⟩ he
    · have := TR.tS_put hk hi (j.tr.ext he) (hdst) hd hv
      rwa [setV_self] at this
    · intro k hk'
      rcases setB_true hk' with rfl | hk'
      · exact hL
      · exact j.sub k hk'
    · intro k hk1 hk2
      exact setB_of (j.chain k hk1 hk2)
    · intro k hk1 hk2
      obtain ⟨e1, e2⟩ := setB_false hk2
      rw [hno _ (by omega)]
      exact j.no k hk1 e2
    · intro k hk1 hk2
      obtain ⟨e1, e2⟩ := setB_false hk2
      exact j.pend k hk1 e2
  have run : Out1 P base i (c.al i).op (tS c t0 V S) s.H (V i) → o.wpIn F 0 P a w K Q := by
    intro h
    refine ⟨fun f _ => hro.fn f, ?_⟩
    rw [Oper.semAt_eq F.round a.eval o (by intro c e; rw [e] at hnd; cases hnd)]
    rcases h with ⟨hv, hav⟩ | ⟨hm, x, ham, hgx⟩
    · rcases cop_inv hop with hc' | ⟨hc', _⟩ | ⟨hc', hk'⟩ | ⟨hc', hk'⟩ | ⟨hc', hk'⟩
      · obtain ⟨cc, f, f', args', _, _, _, _, e⟩ := ccall_inv hc'
        rw [e] at hv; cases hv
      · obtain ⟨u, hu, hrun⟩ := cval_sound (w := w) hc' j.tr j.wr hav
        rw [hrun]
        exact fin u w β (Ext.refl β) j.wr j.fr (fun _ _ => rfl) hu
      · exact (kinds_vm hv hk').elim
      · exact (kinds_vs hv hk').elim
      · exact (kinds_va hv hk').elim
    · rcases cop_inv hop with hc' | ⟨hc', hk'⟩ | ⟨hc', _⟩ | ⟨hc', hk'⟩ | ⟨hc', hk'⟩
      · obtain ⟨cc, f, f', args', _, _, _, _, e⟩ := ccall_inv hc'
        rw [e] at hm; cases hm
      · exact (kinds_vm hk' hm).elim
      · have hno := j.no i hi hS
        obtain ⟨u, ob, hrun, hor, hu⟩ := cmake_sound (w := w) (β' := β.at_ (base + i) ⟨w.heap.size, 0, 0, 0, 0⟩) hc' j.tr (Places.ext_at hno _) (Places.at_self _ _ _) ham
        rw [hrun]
        have hlt : base + i < s.H.next := by have := j.nx; omega
        have e : ({ get := fun m => if m = base + i then x else s.H.get m, next := s.H.next } : Heap) = s.H := by
          have : (fun m => if m = base + i then x else s.H.get m) = s.H.get := by
            funext m; split
            · rename_i e; rw [e, hgx]
            · rfl
          rw [this]
        have hw' := j.wr.make hno (Nat.le_refl _) hlt hor
        have hf' := j.fr.make0 (n := base + i) (x := x) (o := ob) (by have := j.bs; omega) (Nat.le_refl _)
        rw [e] at hw' hf'
        exact fin u { w with heap := w.heap.push ob } _ (Places.ext_at hno _) hw' hf' (fun m hm => Places.at_ne _ _ hm) hu
      · exact (kinds_ms hm hk').elim
      · exact (kinds_ma hm hk').elim
  refine opIn_of ho hc j.tr hro ?_
  unfold Out at hout
  cases hgd : (c.al i).guard with
  | none => rw [hgd] at hout; exact run hout
  | some p =>
    obtain ⟨d, want⟩ := p
    rw [hgd] at hout
    simp only at hout ⊢
    split
    · rename_i hb; rw [if_pos hb] at hout; exact run hout
    · rename_i hb
      rw [if_neg hb] at hout
      exact fin undef w β (Ext.refl β) j.wr j.fr (fun _ _ => rfl) (by rw [hout]; exact VR.undef β)

theorem J.chainStep {L S : Nat → Bool} {V : Nat → Value} {s : St} {recs : Recs} {β : Places} {a : Act} {w : World} {st : DStep} {rest : List DStep} {o : Oper} {K : Act → World → Prop} {KS : St → Prop} (hk : c.chk = true)
    (j : J P c N base t0 βs β₀ H₀ w₀ L S V s recs β a w) (hop : st.op = c.al st.i) (ho : ops[st.i]? = some o) (hc : coper P N ops o = some (c.al st.i)) (hi : st.i < c.n) (hLi : L st.i = false) (hp : ∀ e, e ∈ c.E st.i → S e = true) (hch : c.ch st.i = true)
    (hloose : ∀ k, L k = true → c.ch k = false → c.hp k = true → (c.B st.i).testBit k = false → st.loose.contains k = true) (hro : RoR β ro F) (h : vdraw P base (st :: rest) recs s KS)
    (hK : ∀ a' w' β' V' s', J P c N base t0 βs β₀ H₀ w₀ (setB L st.i) (setB S st.i) V' s' recs β' a' w' → Ext β β' → vdraw P base rest recs s' KS → K a' w') : wpOpIn F 0 P ops Q st.i K a w := by
  have hSi : S st.i = false := by
    cases hS : S st.i with
    | false => rfl
    | true => have := j.sub _ hS; rw [hLi] at this; cases this
  obtain ⟨hcop, hnd, hdst, hd, hg⟩ := coper_inv hc
  obtain ⟨_, _, _, _, hns⟩ := chk_inv hk
  have hpL : ∀ e, e ∈ c.E st.i → L e = true := fun e he => j.sub e (hp e he)
  -- the operation reads the same here and there
  have hag : Agree s.t (tS c t0 V S) (c.al st.i).reads := by
    rw [j.t]
    exact tS_agree hk hi j.cL j.cS hLi hSi hpL hp (fun _ _ => rfl)
  have fin : ∀ (v u : Value) (H' : Heap) (w' : World) (β' : Places), Ext β β' → WR β' H' w'.heap → FR β₀ H₀ w₀ β' H' w' → (∀ m, m < s.H.next → m ≠ base + st.i → β' m = β m) → (∀ m, m < s.H.next → m ≠ base + st.i → β m = none → H'.get m = s.H.get m) →
      s.H.next ≤ H'.next → VR β' v u → (H' = s.H ∨ stabs recs st.loose H') → vdraw P base rest recs (({ s with H := H' } : St).put (c.al st.i).dst v) KS → K (a.put o.dst u) w' := by
    intro v u H' w' β' he hw hf hno hph hnx hv hst hvd
    have hlt : ∀ m, m < c.n → base + m < s.H.next := fun m hm => by have := j.nx; omega
    have hval : ∀ Li : Nat → Bool, (∀ k, Li k = true → L k = true) → tS c t0 (setV V st.i v) Li = tS c t0 V Li := fun Li hsub =>
      tS_irrel fun k hk' => setV_ne fun e => by subst e; have := hsub _ hk'; rw [hLi] at this; cases this
    refine hK _ _ β' (setV V st.i v) (({ s with H := H' } : St).put (c.al st.i).dst v) ⟨?_, TR.tS_put hk hi (j.tr.ext he) hdst hd hv, by rw [St.put_H]; exact hw, by rw [St.put_d, Act.put_defers']; exact j.dr.ext he,
      by rw [St.put_H]; exact hf, j.ext.trans he, ?_, setB_closed j.cS hp, setB_closed j.cL hpL, ?_, ?_, ?_, ?_, by rw [St.put_H]; exact Nat.le_trans j.nx hnx, j.bs, ?_⟩ he hvd
    · have := tS_put hk (t0 := t0) (V := V) (S := L) hi v
      rw [← this, ← j.t]
      cases (c.al st.i).dst <;> rfl
    · intro k hk'
      rcases setB_true hk' with rfl | hk'
      · exact setB_self _ _
      · exact setB_of (j.sub k hk')
    · intro k hk'
      rcases setB_true hk' with rfl | hk'
      · exact hi
      · exact j.lt k hk'
    · intro k hk1 hk2
      rcases setB_true hk1 with rfl | hk1
      · exact setB_self _ _
      · exact setB_of (j.chain k hk1 hk2)
    · intro k hk1 hk2
      obtain ⟨e1, e2⟩ := setB_false hk2
      rw [hno _ (hlt k hk1) (by omega)]
      exact j.no k hk1 e2
    · intro k hk1 hk2
      obtain ⟨e1, e2⟩ := setB_false hk2
      have hSk : S k = false := by
        cases hq : S k with
        | false => rfl
        | true => have := j.sub _ hq; rw [e2] at this; cases this
      rw [St.put_H, hph _ (hlt k hk1) (by omega) (j.no k hk1 hSk)]
      exact j.gone k hk1 e2
    · intro k hk1 hk2
      obtain ⟨e1, e2⟩ := setB_false hk2
      rcases setB_true hk1 with e | hk1'
      · exact absurd e e1
      · obtain ⟨Li, h1, h2, h3, h4, h5, h6⟩ := j.pend k hk1' e2
        have hkn := j.lt k hk1'
        have hgk : H'.get (base + k) = s.H.get (base + k) := hph _ (hlt k hkn) (by omega) (j.no k hkn e2)
        rw [St.put_H]
        refine ⟨Li, h1, h2, h3, fun m hm => setB_of (h4 m hm), ?_, ?_⟩
        · rw [hval Li h4, setV_ne e1]
          rcases hst with hst | hst
          · rw [hst]; exact h5
          · rcases h6 with h6 | h6
            · exact Out_heap (fun _ hav => by rw [← aval_pure (H := s.H) h6]; exact hav) hgk h5
            · cases hpk : c.hp k with
              | false => exact Out_heap (fun _ hav => by rw [← aval_pure (H := s.H) hpk]; exact hav) hgk h5
              | true =>
                have hchk : c.ch k = false := by
                  cases hq : c.ch k with
                  | false => rfl
                  | true => have := j.chain k hk1' hq; rw [e2] at this; cases this
                have hB : (c.B st.i).testBit k = false := by
                  cases hq : (c.B st.i).testBit k with
                  | false => rfl
                  | true => have := B_closed hk j.cS st.i hi hp k hkn hq; rw [e2] at this; cases this
                exact h6 H' (fun p hpm => stabs_mem hst hpm (hloose k hk1' hchk hpk hB)) hgk
        · rw [hval Li h4, setV_ne e1]
          rcases h6 with h6 | h6
          · exact .inl h6
          · exact .inr fun H2 hp2 hg2 => h6 H2 hp2 (hg2.trans hgk)
  have run : vstep P base st recs s (fun recs' s' => vdraw P base rest recs' s' KS) → o.wpIn F 0 P a w K Q := by
    intro hv
    refine ⟨fun f _ => hro.fn f, ?_⟩
    rw [Oper.semAt_eq F.round a.eval o (by intro c e; rw [e] at hnd; cases hnd)]
    unfold vstep at hv
    rw [hop] at hv
    have hcr : (c.al st.i).op.isChain = true := hch
    have hagl : Agree s.t (tS c t0 V S) (c.al st.i).op.tm := hag.left
    cases hq : (c.al st.i).op
    case st sz x v =>
      rw [hq] at hv hcop hagl
      obtain ⟨H', h1, h2, h3⟩ := hv
      rcases cop_inv hcop with hc' | ⟨hc', hk'⟩ | ⟨hc', hk'⟩ | ⟨hc', hk'⟩ | ⟨hc', hk'⟩
      · obtain ⟨cc, f, f', args', _, _, _, _, e⟩ := ccall_inv hc'; cases e
      · cases hk'
      · cases hk'
      · rw [astore_congr hagl] at h1
        obtain ⟨w', hrun, hw', hf'⟩ := cstore_sound hc' j.tr j.wr (FR.refl β s.H w) h1
        rw [hrun]
        exact fin undef undef H' w' β (Ext.refl β) hw' (j.fr.trans hf') (fun _ _ _ => rfl) (fun m hm _ h0 => hf'.phant m hm h0) hf'.next (VR.undef β) (.inr h2) h3
      · cases hk'
    case app sz b x y =>
      rw [hq] at hv hcop hagl
      rcases cop_inv hcop with hc' | ⟨hc', hk'⟩ | ⟨hc', hk'⟩ | ⟨hc', hk'⟩ | ⟨hc', hk'⟩
      · obtain ⟨cc, f, f', args', _, _, _, _, e⟩ := ccall_inv hc'; cases e
      · cases hk'
      · cases hk'
      · cases hk'
      · simp only at hv
        rw [aapp_congr hagl] at hv
        have hno := j.no st.i hi hSi
        obtain ⟨u, w', v, H', β', hrun, hu, ⟨h2, h3⟩, hw', hf', he, k1, k2, k3⟩ := capp_sound hc' j.tr j.wr j.fr hno (by have := j.bs; omega) (Nat.le_refl _) (by have := j.nx; omega) hv
        rw [hrun]
        exact fin v u H' w' β' he hw' hf' (fun m _ hm => k1 m hm) (fun m _ hm h0 => k2 m hm h0) (by rw [k3]; exact Nat.le_refl _) hu (.inr h2) h3
    case mup T x y z =>
      rw [hq] at hv hcop hagl
      obtain ⟨H', h1, h2, h3⟩ := hv
      rcases cop_inv hcop with hc' | ⟨hc', hk'⟩ | ⟨hc', hk'⟩ | ⟨hc', hk'⟩ | ⟨hc', hk'⟩
      · obtain ⟨cc, f, f', args', _, _, _, _, e⟩ := ccall_inv hc'; cases e
      · cases hk'
      · cases hk'
      · rw [astore_congr hagl] at h1
        obtain ⟨w', hrun, hw', hf'⟩ := cstore_sound hc' j.tr j.wr (FR.refl β s.H w) h1
        rw [hrun]
        exact fin undef undef H' w' β (Ext.refl β) hw' (j.fr.trans hf') (fun _ _ _ => rfl) (fun m hm _ h0 => hf'.phant m hm h0) hf'.next (VR.undef β) (.inr h2) h3
      · cases hk'
    case call f args =>
      rw [hq] at hv hcop hagl
      rcases cop_inv hcop with hc' | ⟨hc', hk'⟩ | ⟨hc', hk'⟩ | ⟨hc', hk'⟩ | ⟨hc', hk'⟩
      · obtain ⟨cc, f0, f', args', hoc, hcal, h1, h2, e⟩ := ccall_inv hc'
        cases e
        simp only [AOp.tm] at hagl
        have e1 : f.ev s.t = f.ev (tS c t0 V S) := hagl.left.ev
        have e2 : args.map (·.ev s.t) = args.map (·.ev (tS c t0 V S)) := hagl.right.evs
        simp only [e1, e2] at hv
        obtain ⟨nx, hrun, hnx⟩ := hv β w (a.eval f0) (cc.args.toList.map a.eval) j.wr (copd_VR h1 j.tr) (copds_VL j.tr h2)
        have hrun' : (execOp a.eval o).run P w = .ok nx w := by
          have e : (cc.args.map a.eval) = (cc.args.toList.map a.eval).toArray := Array.toList_inj.1 (by simp)
          simp only [execOp, hoc, resolve, hcal, e]
          exact hrun
        rw [hrun']
        have ret : ∀ e w', RetE (Ret β s.H w fun v H' => stabs recs st.loose H' ∧ vdraw P base rest recs (({ s with H := H' } : St).put (c.al st.i).dst v) KS) e w' →
            (match e, w' with
              | .returned v, w'' => K (a.put o.dst v) w''
              | .panicked chain, w'' => Q (.panic chain) a w''
              | .outgrown, _ => LetsOut Q) := by
          intro e w' he
          cases e with
          | returned u =>
            obtain ⟨v, H', β', ⟨h2, h3⟩, hv', hw', hF⟩ := he
            exact fin v u H' w' β' (hF.ext j.wr) hw' (j.fr.trans hF) (fun m hm _ => hF.names m hm) (fun m hm _ h0 => hF.phant m hm h0) hF.next hv' (.inr h2) h3
          | panicked c => exact he.elim
          | outgrown => exact he.elim
        cases nx with
        | enter f as => exact ⟨fun hs => (by rw [hro.depth] at hs; cases hs), (hro.calls hnx).mono ret⟩
        | round l f tmps assign body => exact ⟨fun hs => (by rw [hro.depth] at hs; cases hs), (hro.rounds hnx).mono ret⟩
        | _ => exact hnx.elim
      · cases hk'
      · cases hk'
      · cases hk'
      · cases hk'
    all_goals (rw [hq] at hcr; cases hcr)
  refine opIn_of ho hc j.tr hro ?_
  simp only [vdraw, hop] at h
  cases hgd : (c.al st.i).guard with
  | none => rw [hgd] at h; exact run h
  | some p =>
    obtain ⟨d, want⟩ := p
    rw [hgd] at h
    simp only at h ⊢
    have := acond_if h
    have hd' : s.t d = tS c t0 V S d := by
      refine hag d ?_
      simp [AOper.reads, hgd]
    rw [← hd']
    split
    · rename_i hb; rw [if_pos hb] at this; exact run this
    · rename_i hb
      rw [if_neg hb] at this
      exact fin undef undef s.H w β (Ext.refl β) j.wr j.fr (fun _ _ _ => rfl) (fun _ _ _ _ => rfl) (Nat.le_refl _) (VR.undef β) (.inl rfl) this

end

end Go.Ab


namespace Go.Ab

section
variable {P : Program} {c : DCtx} {N base : Nat} {t0 : Nat → Value} {βs β₀ : Places} {H₀ : Heap} {w₀ : World} {ops : Array Oper} {al : List AOper} {Q : Exit → Act → World → Prop} {ro : Option Nat} {F : Fence}

theorem countP_set {S : Nat → Bool} {i : Nat} (hS : S i = false) : ∀ {l : List Nat}, l.Nodup → i ∈ l → (l.countP fun k => !setB S i k) + 1 = l.countP fun k => !S k
  | x :: l, hn, hm => by
    have hn' := List.nodup_cons.1 hn
    by_cases e : x = i
    · subst e
      have : ∀ k, k ∈ l → (!setB S x k) = !S k := fun k hk => by
        have hne : k ≠ x := fun e => by subst e; exact hn'.1 hk
        have e1 : (k == x) = false := by simpa using hne
        simp [setB, e1]
      rw [List.countP_cons_of_neg (by simp [setB]), List.countP_cons_of_pos (by simp [hS]), List.countP_congr fun k hk => by rw [this k hk]]
    · have hm' : i ∈ l := by
        rcases List.mem_cons.1 hm with e' | h
        · exact absurd e'.symm e
        · exact h
      have ih := countP_set hS hn'.2 hm'
      have e1 : (!setB S i x) = !S x := by
        have e1 : (x == i) = false := by simpa using e
        simp [setB, e1]
      simp only [List.countP_cons, e1]
      omega

theorem schk_all : ∀ {l : List DStep} {done : List Nat}, c.schk done l = true → ∀ i, i < c.n → done.contains i = true ∨ ∃ st, st ∈ l ∧ st.i = i
  | [], done, h, i, hi => by
    simp only [DCtx.schk, List.all_eq_true, List.mem_range] at h
    exact .inl (h i hi)
  | st :: l, done, h, i, hi => by
    simp only [DCtx.schk, Bool.and_eq_true] at h
    rcases schk_all h.2 i hi with h1 | ⟨s2, h2, h3⟩
    · simp only [List.contains_cons, Bool.or_eq_true, beq_iff_eq] at h1
      rcases h1 with e | h1
      · exact .inr ⟨st, List.mem_cons_self .., e.symm⟩
      · exact .inl h1
    · exact .inr ⟨s2, List.mem_cons_of_mem _ h2, h3⟩

structure Listed (c : DCtx) (S : Nat → Bool) (listed : Array Bool) : Prop where
  size : listed.size = c.n
  get : ∀ i, i < c.n → listed.getD i false = S i

theorem Listed.getD {S : Nat → Bool} {listed : Array Bool} (h : Listed c S listed) {i : Nat} (hi : i < c.n) (d : Bool) : listed.getD i d = S i := by
  have := h.get i hi
  have hs : i < listed.size := by rw [h.size]; exact hi
  simp only [Array.getD, hs, dite_true] at this ⊢
  exact this

theorem Listed.set {S : Nat → Bool} {listed : Array Bool} (h : Listed c S listed) (i : Nat) : Listed c (setB S i) (listed.setIfInBounds i true) := by
  refine ⟨by simpa using h.size, fun k hk => ?_⟩
  have h1 := h.get k hk
  have hs : k < listed.size := by rw [h.size]; exact hk
  simp only [Array.getD, hs, dite_true, Array.size_setIfInBounds] at h1 ⊢
  by_cases e : k = i
  · subst e; simp [setB]
  · have e1 : (k == i) = false := by simpa using e
    simp only [setB, e1, Bool.false_or]
    simp only [Array.getInternal_eq_getElem] at h1 ⊢
    rw [Array.getElem_setIfInBounds_ne hs (Ne.symm e)]
    exact h1

theorem ready_iff (hctx : c = dctx ops al) (hE : ∀ j, j < c.n → ∀ e, e ∈ c.E j → e < j) {S : Nat → Bool} {listed : Array Bool} (h : Listed c S listed) (i : Nat) :
    i ∈ Region.ready .any ops listed ↔ i < c.n ∧ S i = false ∧ ∀ e, e ∈ c.E i → S e = true := by
  have hn : c.n = ops.size := by rw [hctx]; rfl
  simp only [Region.ready, List.mem_filter, List.mem_range, Bool.and_eq_true]
  constructor
  · rintro ⟨h1, h2, h3⟩
    have hi : i < c.n := by rw [hn]; exact h1
    have ho : ops[i]? = some ops[i] := by simp [h1]
    rw [ho] at h3
    simp only [Option.map_some, Option.getD_some] at h3
    refine ⟨hi, by rw [← h.getD hi true]; simpa using h2, fun e he => ?_⟩
    have hei := hE i hi e he
    have he' : e ∈ edgesOf ops[i] := by
      rw [hctx] at he
      simpa [dctx, h1] using he
    simp only [edgesOf, List.mem_map, List.mem_filter] at he'
    obtain ⟨x, ⟨hx, hb⟩, rfl⟩ := he'
    have := Array.all_eq_true_iff_forall_mem.1 h3 x (by simpa using hx)
    rw [hb] at this
    simp only [Bool.not_true, Bool.false_or] at this
    rw [← h.getD (Nat.lt_trans hei hi) false]; exact this
  · rintro ⟨hi, h2, h3⟩
    have h1 : i < ops.size := by rw [← hn]; exact hi
    have ho : ops[i]? = some ops[i] := by simp [h1]
    refine ⟨h1, by rw [h.getD hi true, h2]; rfl, ?_⟩
    rw [ho]
    simp only [Option.map_some, Option.getD_some]
    refine Array.all_eq_true_iff_forall_mem.2 fun x hx => ?_
    cases hb : Region.binds .any x with
    | false => simp
    | true =>
      simp only [Bool.not_true, Bool.false_or]
      have he : x.on ∈ c.E i := by
        rw [hctx]
        simp only [dctx, Array.getElem?_toList, ho, Option.map_some, Option.getD_some, edgesOf, List.mem_map, List.mem_filter]
        exact ⟨x, ⟨by simpa using hx, hb⟩, rfl⟩
      rw [h.getD (Nat.lt_trans (hE i hi _ he) hi) false]
      exact h3 _ he

theorem draw_main (hctx : c = dctx ops al) (hal : copers P N ops ops.toList = some al) (hk : c.chk = true) {KS : St → Prop}
    (hQ : ∀ s' a' w' β', KS s' → Rel β' N s' a' w' → FR β₀ H₀ w₀ β' s'.H w' → Ext βs β' → Q .normal a' w') :
    ∀ (m : Nat) (rest : List DStep) (done : List Nat) (S : Nat → Bool) (V : Nat → Value) (s : St) (recs : Recs) (β : Places) (a : Act) (w : World) (listed : Array Bool),
      J P c N base t0 βs β₀ H₀ w₀ done.contains S V s recs β a w → c.schk done rest = true → (∀ st, st ∈ rest → st.op = c.al st.i) → Listed c S listed → ((List.range c.n).countP fun k => !S k) = m → RoR β ro F →
      vdraw P base rest recs s KS → wpAnyIn F 0 P .any ops Q m listed a w := by
  have hn : c.n = ops.size := by rw [hctx]; rfl
  obtain ⟨hE, _⟩ := chk_inv hk
  have hget : ∀ i, i < c.n → ∃ o, ops[i]? = some o ∧ coper P N ops o = some (c.al i) := fun i hi => by
    have h1 : i < ops.size := by rw [← hn]; exact hi
    refine ⟨ops[i], by simp [h1], ?_⟩
    have := copers_get hal i ops[i] (by simp [h1])
    rw [hctx]; exact this
  intro m
  induction m with
  | zero =>
    intro rest done S V s recs β a w listed j hs _ hl hcnt _ hv
    have hall : ∀ i, i < c.n → S i = true := fun i hi => by
      have := List.countP_eq_zero.1 hcnt i (List.mem_range.2 hi)
      simpa using this
    have hrest : rest = [] := by
      cases rest with
      | nil => rfl
      | cons st l =>
        simp only [DCtx.schk, Bool.and_eq_true, decide_eq_true_eq] at hs
        have := j.sub _ (hall _ hs.1.1.1.1)
        rw [this] at hs
        simp at hs
    subst hrest
    refine ⟨?_, hQ s a w β hv ⟨j.wr, ?_, j.dr⟩ j.fr j.ext⟩
    · cases hr : Region.ready .any ops listed with
      | nil => rfl
      | cons i l =>
        have := (ready_iff hctx hE hl i).1 (by rw [hr]; exact List.mem_cons_self ..)
        rw [hall i this.1] at this
        simp at this
    · rw [j.t]
      have e : tS c t0 V done.contains = tS c t0 V S := by
        funext x
        simp only [tS]
        split
        · rename_i k hk'
          obtain ⟨h1, _⟩ := find_spec hk'
          rw [hall k h1, j.sub k (hall k h1)]
        · rfl
      rw [e]; exact j.tr
  | succ m ih =>
    intro rest
    induction rest with
    | nil =>
      intro done S V s recs β a w listed j hs hst hl hcnt hro hv
      simp only [DCtx.schk, List.all_eq_true, List.mem_range] at hs
      refine ⟨fun hr => ?_, fun i hi => ?_⟩
      · exfalso
        have hall : ∀ i, i < c.n → S i = true := by
          intro i
          induction i using Nat.strongRecOn with
          | _ i ihi =>
            intro hi
            cases hS : S i with
            | true => rfl
            | false =>
              have := (ready_iff hctx hE hl i).2 ⟨hi, hS, fun e he => ihi e (hE i hi e he) (Nat.lt_trans (hE i hi e he) hi)⟩
              rw [hr] at this; cases this
        have : ((List.range c.n).countP fun k => !S k) = 0 := List.countP_eq_zero.2 fun i hi => by simp [hall i (List.mem_range.1 hi)]
        omega
      · obtain ⟨h1, h2, h3⟩ := (ready_iff hctx hE hl i).1 hi
        obtain ⟨o, ho, hc⟩ := hget i h1
        refine j.late hk ho hc (hs i h1) h2 h3 hro fun a' w' β' j' he => ?_
        exact ih [] done _ V s recs β' a' w' _ j' (by simp only [DCtx.schk, List.all_eq_true, List.mem_range]; exact hs) hst (hl.set i) (by have := countP_set h2 List.nodup_range (List.mem_range.2 h1); omega) (hro.ext he) hv
    | cons st rest ihl =>
      intro done S V s recs β a w listed j hs hst hl hcnt hro hv
      have hs0 := hs
      simp only [DCtx.schk, Bool.and_eq_true, decide_eq_true_eq, Bool.not_eq_true'] at hs
      obtain ⟨⟨⟨⟨hi, hni⟩, hpre⟩, hchain⟩, hrest⟩ := hs
      have hp : ∀ e, e ∈ c.E st.i → done.contains e = true := fun e he => List.all_eq_true.1 hpre e he
      have hset : ∀ i, setB done.contains st.i i = (st.i :: done).contains i := fun i => by
        simp only [setB, List.contains_cons]
      cases hch : c.ch st.i with
      | false =>
        obtain ⟨V', s', recs', j', hv'⟩ := j.adv hk (hst st (List.mem_cons_self ..)) hi hni hp hch hv
        have e : setB done.contains st.i = (st.i :: done).contains := funext hset
        rw [e] at j'
        exact ihl (st.i :: done) S V' s' recs' β a w listed j' hrest (fun x hx => hst x (List.mem_cons_of_mem _ hx)) hl hcnt hro hv'
      | true =>
        rw [hch] at hchain
        simp only [Bool.not_true, Bool.false_or, Bool.and_eq_true, List.all_eq_true] at hchain
        obtain ⟨hc1, hc2⟩ := hchain
        refine ⟨fun hr => ?_, fun i hir => ?_⟩
        · exfalso
          have hall : ∀ i, i < c.n → S i = true := by
            intro i
            induction i using Nat.strongRecOn with
            | _ i ihi =>
              intro hi
              cases hS : S i with
              | true => rfl
              | false =>
                have := (ready_iff hctx hE hl i).2 ⟨hi, hS, fun e he => ihi e (hE i hi e he) (Nat.lt_trans (hE i hi e he) hi)⟩
                rw [hr] at this; cases this
          have := j.sub _ (hall _ hi)
          rw [hni] at this; cases this
        · obtain ⟨h1, h2, h3⟩ := (ready_iff hctx hE hl i).1 hir
          obtain ⟨o, ho, hc⟩ := hget i h1
          have hcnt' : ((List.range c.n).countP fun k => !setB S i k) = m := by have := countP_set h2 List.nodup_range (List.mem_range.2 h1); omega
          cases hL : done.contains i with
          | true =>
            refine j.late hk ho hc hL h2 h3 hro fun a' w' β' j' he => ?_
            exact ih (st :: rest) done _ V s recs β' a' w' _ j' hs0 hst (hl.set i) hcnt' (hro.ext he) hv
          | false =>
            have hii : i = st.i := by
              rcases schk_all hs0 i h1 with h4 | ⟨s2, h4, h5⟩
              · rw [hL] at h4; cases h4
              · rcases List.mem_cons.1 h4 with e | h4
                · rw [← h5, e]
                · exfalso
                  have := hc1 s2 h4
                  rw [h5] at this
                  split at this
                  · have := B_closed hk j.cS i h1 h3 st.i hi this
                    have := j.sub _ this
                    rw [hni] at this; cases this
                  · obtain ⟨e, he1, he2⟩ := List.any_eq_true.1 this
                    have := j.sub _ (h3 e he1)
                    rw [this] at he2; cases he2
            subst hii
            refine j.chainStep hk (hst st (List.mem_cons_self ..)) ho hc hi hni h3 hch (fun k hk1 hk2 hk3 hk4 => ?_) hro hv fun a' w' β' V' s' j' he hv' => ?_
            · have := hc2 k (by simpa using hk1)
              rw [hk2, hk3, hk4] at this
              simpa using this
            · have e : setB done.contains st.i = (st.i :: done).contains := funext hset
              rw [e] at j'
              exact ih rest (st.i :: done) _ V' s' recs β' a' w' _ j' hrest (fun x hx => hst x (List.mem_cons_of_mem _ hx)) (hl.set _) hcnt' (hro.ext he) hv'

theorem steps_op : ∀ (l done : List Nat) (st : DStep), st ∈ c.steps done l → st.op = c.al st.i := by
  intro l
  induction l with
  | nil => intro done st h; cases h
  | cons i l ih =>
    intro done st h
    rcases List.mem_cons.1 h with e | h
    · rw [e]
    · exact ih _ _ h

theorem draw_sound (hm : P.follows .mixedOrders = true) : DSound P N (vdrawD P) (cdraw P N) := by
  intro id ops n l β₀ β H₀ w₀ w s a ro F Q hc hr hf hro hv
  unfold cdraw at hc
  split at hc
  · rename_i al hal
    dsimp only at hc
    split at hc
    · rename_i hchk
      simp only [Bool.and_eq_true] at hchk
      simp only [Option.some.injEq, Prod.mk.injEq] at hc
      obtain ⟨rfl, rfl⟩ := hc
      refine wpIn_region_any hm ?_
      have hr' : Rel β N s a { w with drawn := w.drawn + 1 } := ⟨hr.heap, hr.tmps, hr.defs⟩
      have hf' : FR β₀ H₀ w₀ β { s.H with next := s.H.next + (dctx ops al).n } { w with drawn := w.drawn + 1 } := (hf.trans (FR.drew (w.drawn + 1))).trans (FR.more _)
      refine draw_main (c := dctx ops al) (t0 := s.t) (βs := β) rfl hal hchk.1 (KS := Q .normal) (fun s' a' w' β' k1 k2 k3 k4 => ⟨s', β', k1, k2, k3, k4⟩) (base := s.H.next) (ro := ro)
        ops.size _ [] (fun _ => false) (fun _ => undef) { s with H := { s.H with next := s.H.next + (dctx ops al).n } } [] β a _ (Array.replicate ops.size false) ?_ hchk.2 (fun st hst => steps_op _ _ st hst) ?_ ?_ hro hv
      · have hff : ∀ i, (fun _ : Nat => false) i = true → False := fun i h => Bool.noConfusion h
        have hfe : ∀ i, ([] : List Nat).contains i = true → False := fun i h => by simp at h
        refine ⟨?_, ?_, hr'.heap.more _, hr'.defs, hf', Ext.refl β, fun i h => (hff i h).elim, fun i h => (hff i h).elim, fun i h => (hfe i h).elim, fun i h => (hfe i h).elim, fun i h => (hfe i h).elim, fun i _ _ => hr.heap.fresh _ (Nat.le_add_right _ _),
          fun i _ _ => hr.heap.clean _ (Nat.le_add_right _ _), Nat.le_refl _, hf.next, fun i h => (hfe i h).elim⟩
        · funext x
          simp only [tS]
          split <;> simp
        · have e : tS (dctx ops al) s.t (fun _ => undef) (fun _ => false) = s.t := by
            funext x
            simp only [tS]
            split <;> simp
          rw [e]; exact hr.tmps
      · refine ⟨by simp [dctx], fun i hi => ?_⟩
        simp [Array.getD]
      · show ((List.range ops.size).countP fun k => !false) = ops.size
        simp
    · cases hc
  · cases hc

end

end Go.Ab


namespace Go.Ab

def tround : List Nat → List Value → (Nat → Value) → Nat → Value
  | p :: ps, v :: vs, t => tround ps vs (upd t p v)
  | _, _, t => t

def roundQ (n : Nat) (R : Value → Heap → Prop) : APost
  | .normal, s => ∃ r, s.H.get n = .loop r ∧ R (.bool true) (s.H.set n (.loop { r with state := .ready, pending := none }))
  | .ret, s => ∃ r, s.H.get n = .loop r ∧ R (.bool false) (s.H.set n (.loop { r with state := .done, pending := some .ret }))
  | .exit id, s => ∃ r, s.H.get n = .loop r ∧ R (.bool false) (s.H.set n (.loop { r with state := .done, pending := some (.exit id) }))

section
variable {P : Program} {β₀ β : Places} {N : Nat} {a : Act} {H₀ H : Heap} {w₀ w : World} {s : St} {D : Nat → List DStep → St → (St → Prop) → Prop} {CD : Array Oper → Option (Nat × List DStep)}

theorem tround_TR : ∀ {ps : List Nat} {vs us : List Value} {t : Nat → Value} {tm : Array Value}, TR β N t tm → VL β vs us → (∀ p, p ∈ ps → p < N) → ps.length = vs.length →
    TR β N (tround ps vs t) ((ps.zip us).foldl (fun tmps (x : Nat × Value) => tmps.setIfInBounds x.1 x.2) tm)
  | [], [], [], t, tm, ht, _, _, _ => ht
  | p :: ps, v :: vs, u :: us, t, tm, ht, hv, hp, hl => by
    simp only [tround, List.zip_cons_cons, List.foldl_cons]
    exact tround_TR (ht.put (hp p (List.mem_cons_self ..)) hv.1) hv.2 (fun q hq => hp q (List.mem_cons_of_mem _ hq)) (by simpa using hl)
  | [], _ :: _, _, _, _, _, _, _, hl => by simp at hl
  | _ :: _, [], _, _, _, _, _, _, hl => by simp at hl
  | [], [], _ :: _, _, _, _, hv, _, _ => hv.elim
  | _ :: _, _ :: _, [], _, _, _, hv, _, _ => hv.elim

theorem getLoop_run {l : Loc} {r : ALoop} {tm : Array Value} {d : Loc} (hh : w.heap[l.b]? = some (.loop { state := r.state, pending := r.pending, fn := r.fn, tmps := tm, params := r.params, assign := r.assign, body := r.body, defers := d.b })) :
    (Instr.getLoop l.b).run P w = .ok { state := r.state, pending := r.pending, fn := r.fn, tmps := tm, params := r.params, assign := r.assign, body := r.body, defers := d.b } w := by
  simp [Instr.getLoop, getObj, Sem.run, hh]

theorem beginRound_run {l : Loc} {r : ALoop} (hor : OR β l w.heap (.loop r)) (hs : r.state = .ready) :
    ∃ o, (Instr.beginRound l.b).run P w = .ok () { w with heap := w.heap.setIfInBounds l.b o } ∧ OR β l (w.heap.setIfInBounds l.b o) (.loop { r with state := .busy }) := by
  obtain ⟨h0, tm, d, hh, htr, hd⟩ := hor
  have hlt : l.b < w.heap.size := (Array.getElem?_eq_some_iff.1 hh).1
  refine ⟨.loop { state := .busy, pending := r.pending, fn := r.fn, tmps := tm, params := r.params, assign := r.assign, body := r.body, defers := d.b }, ?_, h0, tm, d, ?_, htr, hd⟩
  · simp [Instr.beginRound, Instr.getLoop, getObj, setObj, Sem.run, hh, hs]
  · simp [hlt]

theorem endRound_run {l : Loc} {r : ALoop} (j : Option Code) (hor : OR β l w.heap (.loop r)) :
    ∃ o, (Instr.endRound l.b j).run P w = .ok (.bool j.isNone) { w with heap := w.heap.setIfInBounds l.b o } ∧ OR β l (w.heap.setIfInBounds l.b o) (.loop { r with state := if j.isNone then .ready else .done, pending := j }) := by
  obtain ⟨h0, tm, d, hh, htr, hd⟩ := hor
  have hlt : l.b < w.heap.size := (Array.getElem?_eq_some_iff.1 hh).1
  refine ⟨.loop { state := if j.isNone then .ready else .done, pending := j, fn := r.fn, tmps := tm, params := r.params, assign := r.assign, body := r.body, defers := d.b }, ?_, h0, tm, d, ?_, htr, hd⟩
  · simp [Instr.endRound, Instr.getLoop, getObj, setObj, Sem.run, hh]
  · simp [hlt]

theorem ACall.of_yield {n : Nat} {args : List Value} {R : Value → Heap → Prop} {r : ALoop} {ac1 ac2 : ACode} (hg : H.get n = .loop r) (hsz : args.length = r.params.size) (hps : ∀ p, p ∈ r.params.toList → p < r.N)
    (hc1 : ccode P r.N CD r.assign = some ac1) (hc2 : ccode P r.N CD r.body = some ac2) (hD : DSound P r.N D CD)
    (h : vc P r.N (some n) D ac1 (fun e s1 => e = .normal ∧ ∃ r1, s1.H.get n = .loop r1 ∧ r1.state = .ready ∧ vc P r.N (some n) D ac2 (roundQ n R) { s1 with H := s1.H.set n (.loop { r1 with state := .busy }) })
      ⟨tround r.params.toList args r.t, [], H⟩) : ACall P (.func (.yield n) #[] #[]) args H R := by
  intro β w u us hw hu hus
  cases hu with
  | func hfn => exact absurd rfl (hfn n)
  | @yield _ l hn =>
    have hor := hw.obj n l hn
    rw [hg] at hor
    obtain ⟨h0, tm, d, hh, htr, hd⟩ := hor
    have hlen := hus.length
    let tmps := (r.params.zip us.toArray).foldl (fun tmps (t, a) => tmps.setIfInBounds t a) tm
    refine ⟨.round l.b r.fn tmps r.assign r.body, ?_, ?_⟩
    · have hsz' : us.toArray.size = r.params.size := by simp; omega
      simp only [Deferred.ofValue, invoke, Sem.run_bind, Sem.run_pure, Result.andThen_ok, Array.empty_append, Instr.yield, getLoop_run hh]
      rw [if_neg (by simpa using hsz')]
      rfl
    · have htm : tmps = (r.params.toList.zip us).foldl (fun tmps (x : Nat × Value) => tmps.setIfInBounds x.1 x.2) tm := by
        simp only [tmps]
        rw [← Array.foldl_toList]
        simp
      have ht' : TR β r.N (tround r.params.toList args r.t) tmps := by
        rw [htm]
        exact tround_TR htr hus hps (by simpa using hsz.symm)
      have hr0 : Rel β r.N ⟨tround r.params.toList args r.t, [], H⟩ { tmps := tmps, defers := [] } w := ⟨hw, ht', trivial⟩
      have hro : RoR β (some n) (Fence.wide.inRound l.b) := ⟨l, hn, rfl⟩
      refine roundIn_of_wpIn trivial (wpIn_mono (vc_sound hD r.assign hc1 hr0 (FR.refl β H w) hro h) fun e a1 w1 hp => ?_)
      have hother : e ≠ .normal → False := by
        intro hne
        cases e with
        | normal => exact hne rfl
        | exit id => obtain ⟨s1, β1, ⟨e, _⟩, _⟩ := hp; cases e
        | ret => obtain ⟨s1, β1, ⟨e, _⟩, _⟩ := hp; cases e
        | goto l => exact hp
        | panic c => exact hp
        | outgrown => exact hp
      cases e with
      | normal =>
        obtain ⟨s1, β1, ⟨_, r1, hg1, hst1, hv1⟩, hr1, hf1, he1⟩ := hp
        have hn1 := he1 _ _ hn
        have hor1 := hr1.heap.obj n l hn1
        rw [hg1] at hor1
        obtain ⟨o1, hrun1, hor1'⟩ := beginRound_run (P := P) hor1 hst1
        obtain ⟨k1, k2⟩ := loop_turn hr1.heap hn1 hg1 hor1' hf1
        refine ⟨_, hrun1, wpIn_mono (vc_sound hD r.body hc2 (a := a1) (s := { s1 with H := s1.H.set n (.loop { r1 with state := .busy }) }) ⟨k1, hr1.tmps, hr1.defs⟩ k2 (hro.ext he1) hv1) fun e2 a2 w2 hp2 => ?_⟩
        have fin : ∀ (j : Option Code) (s2 : St) (β2 : Places) (r2 : ALoop), s2.H.get n = .loop r2 → R (.bool j.isNone) (s2.H.set n (.loop { r2 with state := if j.isNone then .ready else .done, pending := j })) → Rel β2 r.N s2 a2 w2 → FR β H w β2 s2.H w2 → Ext β1 β2 →
            ∃ v w', (Instr.endRound l.b j).run P w2 = .ok v w' ∧ RetE (Ret β H w R) (.returned v) w' := by
          intro j s2 β2 r2 hg2 hR hr2 hf2 he2
          have hn2 := he2 _ _ hn1
          have hor2 := hr2.heap.obj n l hn2
          rw [hg2] at hor2
          obtain ⟨o2, hrun2, hor2'⟩ := endRound_run (P := P) j hor2
          obtain ⟨k3, k4⟩ := loop_turn hr2.heap hn2 hg2 hor2' hf2
          exact ⟨_, _, hrun2, _, _, β2, hR, .bool _, k3, k4⟩
        cases e2 with
        | normal => obtain ⟨s2, β2, ⟨r2, hg2, hR⟩, hr2, hf2, he2⟩ := hp2; exact fin none s2 β2 r2 hg2 hR hr2 hf2 he2
        | ret => obtain ⟨s2, β2, ⟨r2, hg2, hR⟩, hr2, hf2, he2⟩ := hp2; exact fin (some .ret) s2 β2 r2 hg2 hR hr2 hf2 he2
        | exit id => obtain ⟨s2, β2, ⟨r2, hg2, hR⟩, hr2, hf2, he2⟩ := hp2; exact fin (some (.exit id)) s2 β2 r2 hg2 hR hr2 hf2 he2
        | goto l => exact hp2.elim
        | panic c => exact hp2.elim
        | outgrown => exact hp2.elim
      | exit id => exact (hother (by simp)).elim
      | ret => exact (hother (by simp)).elim
      | goto l => exact (hother (by simp)).elim
      | panic c => exact (hother (by simp)).elim
      | outgrown => exact (hother (by simp)).elim

theorem ACall.of_via {T : TypeId} {f : FuncId} {xs us : Array Value} {args : List Value} {R : Value → Heap → Prop} {x : Value} {rest : List Value} {d : TypeDesc} (hT : P.underlying T = some d) (hd : ∀ e, d ≠ .pointer e) (hxs : xs.toList ++ args = x :: rest)
    (h : AFun P f (x :: rest) H R) : ACall P (.func (.via T #[] f false) xs us) args H R := by
  intro β w u as hw hu has
  cases hu with
  | @func _ _ ys _ vs hfn hs hx ht hy =>
    have hx' := VL.of_arr hs hx
    have hall : VL β (x :: rest) (ys.toList ++ as) := by rw [← hxs]; exact hx'.append has
    cases hys : ys.toList ++ as with
    | nil => rw [hys] at hall; exact hall.elim
    | cons y rest' =>
      rw [hys] at hall
      have e : ys ++ as.toArray = (y :: rest').toArray := Array.toList_inj.1 (by simpa using hys)
      refine ⟨.enter f (y :: rest').toArray, ?_, h.2 β w (y :: rest') hw hall⟩
      have hrecv : ∀ w : World, (receiverVia T y #[] false).run P w = .ok y w := by
        intro w
        simp only [receiverVia, follow, Sem.run_bind, Sem.run_pure, Result.andThen_ok, receiverAt, run_underlying hT]
        cases d <;> first | exact absurd rfl (hd _) | simp [Place.get]
      simp only [Deferred.ofValue, invoke, Sem.run_bind, Sem.run_pure, Result.andThen_ok, e]
      simp only [List.getElem?_toArray, List.getElem?_cons_zero, Sem.run_bind, hrecv, Result.andThen_ok]
      have e2 : #[y] ++ (y :: rest').toArray.extract 1 (y :: rest').toArray.size = (y :: rest').toArray := Array.toList_inj.1 (by simp)
      rw [e2, h.1]

end

end Go.Ab


namespace Go.Ab

def FnOk (P : Program) (f N : Nat) (ac : ACode) (rs : List AOp) : Prop :=
  ∃ fn, P.funcs[f]? = some fn ∧ fn.ntmps = N ∧ fn.body.bind (ccode P N (cdraw P N)) = some ac ∧ cres P N fn.results.toList = some rs ∧ ∀ as w, (callFunc f as).run P w = .ok (.enter f as) w

theorem AFun.mk {P : Program} {f N : Nat} {ac : ACode} {rs : List AOp} {args : List Value} {H : Heap} {R : Value → Heap → Prop} (h : FnOk P f N ac rs) (hm : P.follows .mixedOrders = true) (hl : args.length ≤ N)
    (hv : vc P N none (vdrawD P) ac (bodyQ P rs R) ⟨tinit args, [], H⟩) : AFun P f args H R := by
  obtain ⟨fn, h1, rfl, h3, h4, h5⟩ := h
  cases hb : fn.body with
  | none => rw [hb] at h3; cases h3
  | some c =>
    rw [hb] at h3
    exact AFun.of_vc h1 hb h5 (draw_sound hm) h3 h4 hl hv

structure Ge (H H' : Heap) : Prop where
  next : H.next ≤ H'.next
  get : ∀ n, n < H.next → H'.get n = H.get n

theorem Ge.refl (H : Heap) : Ge H H := ⟨Nat.le_refl _, fun _ _ => rfl⟩
theorem Ge.trans {A B C : Heap} (h : Ge A B) (k : Ge B C) : Ge A C := ⟨Nat.le_trans h.next k.next, fun n hn => (k.get n (Nat.lt_of_lt_of_le hn h.next)).trans (h.get n hn)⟩
theorem Ge.new (H : Heap) (x : AObj) : Ge H (H.new x) := ⟨Nat.le_succ _, fun n hn => by rw [Heap.new_get, if_neg (Nat.ne_of_lt hn)]⟩
theorem Ge.more (H : Heap) (k : Nat) : Ge H { H with next := H.next + k } := ⟨Nat.le_add_right _ _, fun _ _ => rfl⟩
theorem Ge.setNew {H H' : Heap} (h : Ge H H') {n : Nat} (hn : H.next ≤ n) (x : AObj) : Ge H (H'.set n x) :=
  ⟨h.next, fun m hm => by rw [Heap.set_get, if_neg (by omega)]; exact h.get m hm⟩
theorem Ge.newOf {H H' : Heap} (h : Ge H H') (x : AObj) : Ge H (H'.new x) := h.trans (Ge.new H' x)
theorem Ge.app {H H' : Heap} (h : Ge H H') {n k : Nat} {old : Option Nat} {cs : List Value} {c : Nat} (hn : H.next ≤ n) (ho : ∀ m, old = some m → H.next ≤ m) (hk : H'.next ≤ k) : Ge H (appHeap H' n k old cs c) :=
  ⟨Nat.le_trans h.next hk, fun m hm => by
    have e1 : m ≠ n := by omega
    have e2 : some m ≠ old := fun e => by have := ho m e.symm; omega
    simp [appHeap, e1, e2, h.get m hm]⟩

end Go.Ab

