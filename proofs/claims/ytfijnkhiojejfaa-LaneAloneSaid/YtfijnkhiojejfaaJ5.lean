/-
  Joined texts of a calculus of abstract memory, of the program's code in it, and of contracts.
-/
import Derived.Test.YtfijnkhiojejfaaJ4
namespace Go.Ab

def avalC (t : Nat → Value) : AOp → Option Value
  | .mov x => some (x.ev t)
  | .pick c a b => match c.ev t with
    | .bool true => some (a.ev t)
    | .bool false => some (b.ev t)
    | _ => none
  | .bin op x y => binI op (x.ev t) (y.ev t)
  | .not x => match x.ev t with
    | .bool b => some (.bool (!b))
    | _ => none
  | .cvi k x => match x.ev t with
    | .int _ n => some (.int k (k.wrap n))
    | _ => none
  | .fld agg off sz x => match x.ev t with
    | .agg xs => if agg then some (.agg (xs.extract off (off + sz))) else xs[off]?
    | _ => none
  | .idx agg len sz x i => match x.ev t, i.ev t with
    | .agg xs, .int _ n => if 0 ≤ n ∧ n < len then (if agg then some (.agg (xs.extract (n.toNat * sz) (n.toNat * sz + sz))) else xs[n.toNat * sz]?) else none
    | _, _ => none
  | .fa off x => match x.ev t with
    | .pointer (some ⟨n, o, none⟩) => some (.pointer (some ⟨n, o + off, none⟩))
    | _ => none
  | .iar len sz x i => match x.ev t, i.ev t with
    | .pointer (some ⟨n, o, none⟩), .int _ k => if 0 ≤ k ∧ k < len then some (.pointer (some ⟨n, o + k.toNat * sz, none⟩)) else none
    | _, _ => none
  | .isl sz x i => match x.ev t, i.ev t with
    | .slice (some ⟨n, o, none⟩) len _, .int _ k => if 0 ≤ k ∧ k < len then some (.pointer (some ⟨n, o + k.toNat * sz, none⟩)) else none
    | _, _ => none
  | .sl sz x lo hi => match x.ev t, (match hi with | none => some none | some y => match y.ev t with | .int _ k => some (some k) | _ => none), (match lo with | none => some none | some y => match y.ev t with | .int _ k => some (some k) | _ => none) with
    | .slice a len cap, some h, some l =>
      let hh : Int := h.getD len
      let ll : Int := l.getD 0
      if 0 ≤ hh ∧ (hh ≤ cap ∨ hh ≤ len) ∧ 0 ≤ ll ∧ ll ≤ hh then
        match a with
        | none => if hh = 0 then some (.slice none 0 0) else none
        | some ⟨n, o, none⟩ => if ll = 0 ∧ (0 < cap ∨ 0 < hh) then some (.slice (some ⟨n, o, none⟩) hh.toNat cap) else if ll < hh then some (.slice (some ⟨n, o + ll.toNat * sz, none⟩) (hh.toNat - ll.toNat) 0) else some (.slice (some ⟨0, 0, some 0⟩) 0 0)
        | _ => none
      else none
    | _, _, _ => none
  | .sla len sz x lo hi => match x.ev t, (match hi with | none => some none | some y => match y.ev t with | .int _ k => some (some k) | _ => none), (match lo with | none => some none | some y => match y.ev t with | .int _ k => some (some k) | _ => none) with
    | .pointer (some ⟨n, o, none⟩), some h, some l =>
      let hh : Int := h.getD len
      let ll : Int := l.getD 0
      if 0 ≤ hh ∧ hh ≤ len ∧ 0 ≤ ll ∧ ll ≤ hh then
        if ll < hh then some (.slice (some ⟨n, o + ll.toNat * sz, none⟩) (hh.toNat - ll.toNat) 0) else some (.slice (some ⟨0, 0, some 0⟩) 0 0)
      else none
    | _, _, _ => none
  | .len x => match x.ev t with
    | .slice _ n _ => some (.int .i64 n)
    | _ => none
  | .ext x i => match x.ev t with
    | .tuple vs => vs[i]?
    | _ => none
  | .fn f first captured => some (.func f (first.map (·.ev t)).toArray (captured.map (·.ev t)).toArray)
  | .nilc x => match x.ev t with
    | .pointer (some a) => some (.pointer (some a))
    | .func (.func f) first captured => some (.func (.func f) first captured)
    | _ => none
  | .isn neg x => match x.ev t with
    | .slice a _ _ => some (.bool (if neg then a.isSome else a.isNone))
    | _ => none
  | .bld zero parts => (fillA zero (parts.map fun (off, sz, x) => (off, sz, x.ev t))).map fun l => .agg l.toArray
  | _ => none

theorem avalC_ok {P : Program} {t : Nat → Value} {H : Heap} {op : AOp} {v : Value} (h : avalC t op = some v) : aval P t H op = some v := by
  cases op <;> first | exact h | (simp [avalC] at h)

noncomputable def evK (t : Tri Value) (o : Opd) (κ : Value → Bool) : Bool :=
  Opd.rec (motive := fun _ => Bool) (fun x => Option.rec (motive := fun _ => Bool) (κ undef) (fun v => κ v) (t.get x)) (fun v => κ v) o
theorem evK_eq (t : Tri Value) (o : Opd) (κ : Value → Bool) : evK t o κ = κ (o.ev (toT t)) := by
  cases o with
  | t x =>
    show Option.rec (motive := fun _ => Bool) (κ undef) (fun v => κ v) (t.get x) = κ ((t.get x).getD undef)
    cases t.get x <;> rfl
  | c v => rfl
noncomputable def evsK (t : Tri Value) : List Opd → (List Value → Bool) → Bool
  | [], κ => κ []
  | o :: l, κ => evK t o fun v => evsK t l fun vs => κ (v :: vs)
theorem evsK_eq (t : Tri Value) : ∀ (l : List Opd) (κ : List Value → Bool), evsK t l κ = κ (l.map (·.ev (toT t)))
  | [], _ => rfl
  | o :: l, κ => by simp only [evsK, evK_eq, evsK_eq t l, List.map_cons]

noncomputable def putK (t : Tri Value) (dst : Option Nat) (v : Value) (κ : Tri Value → Bool) : Bool :=
  Option.rec (motive := fun _ => Bool) (κ t) (fun d => Tri.setK v t d κ) dst

noncomputable def vK (r : Option Value) (t : Tri Value) (dst : Option Nat) (κ : Value → Tri Value → Bool) : Bool :=
  Option.rec (motive := fun _ => Bool) false (fun v => valC v fun v => putK t dst v fun t => κ v t) r

noncomputable def objK (o : EObj) (κ : EObj → Bool) : Bool := match o with
  | .cells rw cs c => boolK rw fun rw => listK valB cs fun cs => natK c fun c => κ (.cells rw cs c)
  | o => κ o
noncomputable def entK (e : Value × Value × Nat) (κ : Value × Value × Nat → Bool) : Bool := valC e.1 fun k => valC e.2.1 fun v => natK e.2.2 fun n => κ (k, v, n)

noncomputable def dBool (v : Value) : Option Bool := Value.rec (motive_1 := fun _ => Option Bool) (motive_2 := fun _ => Unit) (motive_3 := fun _ => Unit) (fun b => some b) (fun _ _ => none) (fun _ _ => none) (fun _ _ _ => none) (fun _ => none) (fun _ => none) (fun _ _ _ => none) (fun _ => none) (fun _ => none) (fun _ _ _ _ _ => none) (none) (fun _ _ _ => none) (none) (fun _ _ => none) (fun _ _ => none) (fun _ _ => ()) () (fun _ _ _ _ => ()) v
noncomputable def dInt (v : Value) : Option (IntKind × Int) := Value.rec (motive_1 := fun _ => Option (IntKind × Int)) (motive_2 := fun _ => Unit) (motive_3 := fun _ => Unit) (fun _ => none) (fun k n => some (k, n)) (fun _ _ => none) (fun _ _ _ => none) (fun _ => none) (fun _ => none) (fun _ _ _ => none) (fun _ => none) (fun _ => none) (fun _ _ _ _ _ => none) (none) (fun _ _ _ => none) (none) (fun _ _ => none) (fun _ _ => none) (fun _ _ => ()) () (fun _ _ _ _ => ()) v
noncomputable def dPtr (v : Value) : Option (Nat × Nat) := Value.rec (motive_1 := fun _ => Option (Nat × Nat)) (motive_2 := fun _ => Unit) (motive_3 := fun _ => Unit) (fun _ => none) (fun _ _ => none) (fun _ _ => none) (fun _ _ _ => none) (fun _ => none) (fun a => Option.rec (motive := fun _ => Option (Nat × Nat)) none (fun a => Addr.rec (motive := fun _ => Option (Nat × Nat)) (fun b o s => Option.rec (motive := fun _ => Option (Nat × Nat)) (some (b, o)) (fun _ => none) s) a) a) (fun _ _ _ => none) (fun _ => none) (fun _ => none) (fun _ _ _ _ _ => none) (none) (fun _ _ _ => none) (none) (fun _ _ => none) (fun _ _ => none) (fun _ _ => ()) () (fun _ _ _ _ => ()) v
noncomputable def dSl (v : Value) : Option (Nat × Nat × Nat) := Value.rec (motive_1 := fun _ => Option (Nat × Nat × Nat)) (motive_2 := fun _ => Unit) (motive_3 := fun _ => Unit) (fun _ => none) (fun _ _ => none) (fun _ _ => none) (fun _ _ _ => none) (fun _ => none) (fun _ => none) (fun a l _ => Option.rec (motive := fun _ => Option (Nat × Nat × Nat)) none (fun a => Addr.rec (motive := fun _ => Option (Nat × Nat × Nat)) (fun b o s => Option.rec (motive := fun _ => Option (Nat × Nat × Nat)) (some (b, o, l)) (fun _ => none) s) a) a) (fun _ => none) (fun _ => none) (fun _ _ _ _ _ => none) (none) (fun _ _ _ => none) (none) (fun _ _ => none) (fun _ _ => none) (fun _ _ => ()) () (fun _ _ _ _ => ()) v
noncomputable def dAgg (v : Value) : Option (List Value) := Value.rec (motive_1 := fun _ => Option (List Value)) (motive_2 := fun _ => Unit) (motive_3 := fun _ => Unit) (fun _ => none) (fun _ _ => none) (fun _ _ => none) (fun _ _ _ => none) (fun _ => none) (fun _ => none) (fun _ _ _ => none) (fun _ => none) (fun _ => none) (fun _ _ _ _ _ => none) (none) (fun _ _ _ => none) (none) (fun a _ => Array.rec (motive := fun _ => Option (List Value)) (fun l => some l) a) (fun _ _ => none) (fun _ _ => ()) () (fun _ _ _ _ => ()) v
noncomputable def dCells (o : EObj) : Option (Bool × List Value × Nat) := EObj.rec (motive := fun _ => Option (Bool × List Value × Nat)) none (fun rw cs c => some (rw, cs, c)) (fun _ _ => none) (fun _ => none) none o

theorem dBool_ok {v : Value} {b : Bool} (h : dBool v = some b) : v = .bool b := by cases v <;> first | (cases h; done) | (have h' := h; cases h'; rfl)
theorem dInt_ok {v : Value} {k : IntKind} {n : Int} (h : dInt v = some (k, n)) : v = .int k n := by cases v <;> first | (cases h; done) | (have h' := h; cases h'; rfl)
theorem dPtr_ok {v : Value} {n o : Nat} (h : dPtr v = some (n, o)) : v = .pointer (some ⟨n, o, none⟩) := by
  cases v with
  | pointer a => cases a with
    | none => cases h
    | some a => obtain ⟨b, o, s⟩ := a; cases s <;> cases h; rfl
  | _ => cases h
theorem dSl_ok {v : Value} {n o l : Nat} (h : dSl v = some (n, o, l)) : ∃ cap, v = .slice (some ⟨n, o, none⟩) l cap := by
  cases v with
  | slice a l c => cases a with
    | none => cases h
    | some a => obtain ⟨b, o, s⟩ := a; cases s <;> cases h; exact ⟨_, rfl⟩
  | _ => cases h
theorem dAgg_ok {v : Value} {l : List Value} (h : dAgg v = some l) : v.cells.toList = l := by
  cases v with
  | agg a => cases a; cases h; rfl
  | _ => cases h
theorem dAgg_none {v : Value} (h : dAgg v = none) : v.cells.toList = [v] := by
  cases v with
  | agg a => cases a; cases h
  | _ => rfl
theorem dCells_ok {o : EObj} {rw : Bool} {cs : List Value} {c : Nat} (h : dCells o = some (rw, cs, c)) : o = .cells rw cs c := by cases o <;> cases h; rfl

noncomputable def dLen (v : Value) : Option Nat := Value.rec (motive_1 := fun _ => Option Nat) (motive_2 := fun _ => Unit) (motive_3 := fun _ => Unit) (fun _ => none) (fun _ _ => none) (fun _ _ => none) (fun _ _ _ => none) (fun _ => none) (fun _ => none) (fun _ l _ => some l) (fun _ => none) (fun _ => none) (fun _ _ _ _ _ => none) (none) (fun _ _ _ => none) (none) (fun _ _ => none) (fun _ _ => none) (fun _ _ => ()) () (fun _ _ _ _ => ()) v
noncomputable def dTup (v : Value) : Option (List Value) := Value.rec (motive_1 := fun _ => Option (List Value)) (motive_2 := fun _ => Unit) (motive_3 := fun _ => Unit) (fun _ => none) (fun _ _ => none) (fun _ _ => none) (fun _ _ _ => none) (fun _ => none) (fun _ => none) (fun _ _ _ => none) (fun _ => none) (fun _ => none) (fun _ _ _ _ _ => none) (none) (fun _ _ _ => none) (none) (fun _ _ => none) (fun a _ => Array.rec (motive := fun _ => Option (List Value)) (fun l => some l) a) (fun _ _ => ()) () (fun _ _ _ _ => ()) v
noncomputable def dSlc (v : Value) : Option (Nat × Nat × Nat × Nat) := Value.rec (motive_1 := fun _ => Option (Nat × Nat × Nat × Nat)) (motive_2 := fun _ => Unit) (motive_3 := fun _ => Unit) (fun _ => none) (fun _ _ => none) (fun _ _ => none) (fun _ _ _ => none) (fun _ => none) (fun _ => none) (fun a l c => Option.rec (motive := fun _ => Option (Nat × Nat × Nat × Nat)) none (fun a => Addr.rec (motive := fun _ => Option (Nat × Nat × Nat × Nat)) (fun b o s => Option.rec (motive := fun _ => Option (Nat × Nat × Nat × Nat)) (some (b, o, l, c)) (fun _ => none) s) a) a) (fun _ => none) (fun _ => none) (fun _ _ _ _ _ => none) (none) (fun _ _ _ => none) (none) (fun _ _ => none) (fun _ _ => none) (fun _ _ => ()) () (fun _ _ _ _ => ()) v
noncomputable def dNilS (v : Value) : Bool := Value.rec (motive_1 := fun _ => Bool) (motive_2 := fun _ => Unit) (motive_3 := fun _ => Unit) (fun _ => false) (fun _ _ => false) (fun _ _ => false) (fun _ _ _ => false) (fun _ => false) (fun _ => false) (fun a l c => Option.rec (motive := fun _ => Bool) (Nat.beq l 0 && Nat.beq c 0) (fun _ => false) a) (fun _ => false) (fun _ => false) (fun _ _ _ _ _ => false) (false) (fun _ _ _ => false) (false) (fun _ _ => false) (fun _ _ => false) (fun _ _ => ()) () (fun _ _ _ _ => ()) v
noncomputable def dMov (op : AOp) : Option Opd := AOp.rec (motive := fun _ => Option Opd) (fun x => some x) (fun _ _ _ => none) (fun _ _ _ => none) (fun _ => none) (fun _ _ => none) (fun _ _ _ => none) (fun _ _ _ _ => none) (fun _ _ _ _ _ => none) (fun _ _ => none) (fun _ _ _ _ => none) (fun _ _ _ => none) (fun _ _ _ _ => none) (fun _ _ _ _ _ => none) (fun _ => none) (fun _ _ => none) (fun _ _ _ => none) (fun _ => none) (fun _ _ => none) (fun _ _ _ _ => none) (fun _ _ _ _ => none) (fun _ _ => none) (fun _ _ => none) (fun _ => none) (fun _ => none) (fun _ _ _ => none) (fun _ _ _ _ _ => none) (none) (fun _ _ _ => none) (fun _ _ _ _ => none) (fun _ _ _ _ => none) (fun _ _ => none) op
theorem dLen_ok {v : Value} {l : Nat} (h : dLen v = some l) : ∃ a c, v = .slice a l c := by cases v <;> first | (cases h; done) | (cases h; exact ⟨_, _, rfl⟩)
theorem dTup_ok {v : Value} {l : List Value} (h : dTup v = some l) : v = .tuple ⟨l⟩ := by
  cases v with
  | tuple a => cases a; cases h; rfl
  | _ => cases h
theorem dAgg_ok' {v : Value} {l : List Value} (h : dAgg v = some l) : v = .agg ⟨l⟩ := by
  cases v with
  | agg a => cases a; cases h; rfl
  | _ => cases h
theorem dSlc_ok {v : Value} {n o l c : Nat} (h : dSlc v = some (n, o, l, c)) : v = .slice (some ⟨n, o, none⟩) l c := by
  cases v with
  | slice a l c => cases a with
    | none => cases h
    | some a => obtain ⟨b, o, s⟩ := a; cases s <;> cases h; rfl
  | _ => cases h
theorem dNilS_ok {v : Value} (h : dNilS v = true) : v = .slice none 0 0 := by
  cases v with
  | slice a l c => cases a with
    | none =>
      have h' : (Nat.beq l 0 && Nat.beq c 0) = true := h
      rw [Bool.and_eq_true] at h'
      rw [Nat.eq_of_beq_eq_true h'.1, Nat.eq_of_beq_eq_true h'.2]
    | some a => cases h
  | _ => cases h
theorem dMov_ok {op : AOp} {x : Opd} (h : dMov op = some x) : op = .mov x := by cases op <;> first | (cases h; done) | (cases h; rfl)

noncomputable def opn {α : Type} (o : Option α) (κ : α → Bool) : Bool := Option.rec (motive := fun _ => Bool) false (fun x => κ x) o
theorem opn_ok {α : Type} {o : Option α} {κ : α → Bool} (h : opn o κ = true) : ∃ x, o = some x ∧ κ x = true := by
  cases o with
  | none => cases h
  | some x => exact ⟨x, rfl, h⟩
noncomputable def lnth (l : List Value) : Nat → Option Value :=
  List.rec (motive := fun _ => Nat → Option Value) (fun _ => none) (fun x _ ih k => Nat.rec (motive := fun _ => Option Value) (some x) (fun k _ => ih k) k) l
theorem lnth_eq : ∀ (l : List Value) (k : Nat), lnth l k = l[k]?
  | [], _ => rfl
  | x :: l, 0 => rfl
  | x :: l, k + 1 => by
    have := lnth_eq l k
    rw [List.getElem?_cons_succ, ← this]; rfl
noncomputable def ldrop (n : Nat) : List Value → List Value :=
  Nat.rec (motive := fun _ => List Value → List Value) (fun l => l) (fun _ ih l => List.rec (motive := fun _ => List Value) [] (fun _ l _ => ih l) l) n
theorem ldrop_eq : ∀ (n : Nat) (l : List Value), ldrop n l = l.drop n
  | 0, _ => rfl
  | n + 1, [] => rfl
  | n + 1, _ :: l => ldrop_eq n l
noncomputable def ltakeK (n : Nat) : List Value → (List Value → Bool) → Bool :=
  Nat.rec (motive := fun _ => List Value → (List Value → Bool) → Bool) (fun _ κ => κ []) (fun _ ih l κ => List.rec (motive := fun _ => Bool) false (fun x l _ => ih l fun r => κ (x :: r)) l) n
theorem ltakeK_ok : ∀ {n : Nat} {l : List Value} {κ : List Value → Bool}, ltakeK n l κ = true → κ (l.take n) = true ∧ n ≤ l.length
  | 0, _, _, h => ⟨h, Nat.zero_le _⟩
  | n + 1, [], _, h => by cases h
  | n + 1, x :: l, κ, h => by
    have := ltakeK_ok (n := n) (l := l) (κ := fun r => κ (x :: r)) h
    exact ⟨this.1, Nat.succ_le_succ this.2⟩

noncomputable def kIx (k : IntKind) : Nat := IntKind.rec (motive := fun _ => Nat) 0 1 2 3 4 5 6 7 k
theorem kIx_ok {k j : IntKind} (h : Nat.beq (kIx k) (kIx j) = true) : k = j := by cases k <;> cases j <;> first | rfl | cases h
noncomputable def wrapF (k : IntKind) (n : Int) : Int :=
  IntKind.rec (motive := fun _ => Int → Int) (fun n => IntKind.wrap .i8 n) (fun n => IntKind.wrap .i16 n) (fun n => IntKind.wrap .i32 n)
    (fun n => Int.rec (motive := fun _ => Int) (fun m => Bool.rec (motive := fun _ => Int) (IntKind.wrap .i64 (.ofNat m)) (.ofNat m) (Nat.ble m 9223372036854775807)) (fun m => Bool.rec (motive := fun _ => Int) (IntKind.wrap .i64 (.negSucc m)) (.negSucc m) (Nat.ble m 9223372036854775807)) n)
    (fun n => IntKind.wrap .u8 n) (fun n => IntKind.wrap .u16 n) (fun n => IntKind.wrap .u32 n)
    (fun n => Int.rec (motive := fun _ => Int) (fun m => Bool.rec (motive := fun _ => Int) (IntKind.wrap .u64 (.ofNat m)) (.ofNat m) (Nat.ble m 18446744073709551615)) (fun m => IntKind.wrap .u64 (.negSucc m)) n) k n
theorem wrap_u64 {n : Int} (h0 : 0 ≤ n) (h1 : n < 2 ^ 64) : IntKind.u64.wrap n = n := by
  have e1 : (2 ^ IntKind.u64.bits : Int) = 18446744073709551616 := rfl
  have e3 : IntKind.u64.signed = false := rfl
  simp only [IntKind.wrap, e1, e3, Bool.false_and, Bool.false_eq_true, if_false]
  omega
theorem wrapF_eq (k : IntKind) (n : Int) : wrapF k n = k.wrap n := by
  cases k with
  | i64 => cases n with
    | ofNat m =>
      show Bool.rec (motive := fun _ => Int) (IntKind.wrap .i64 (.ofNat m)) (.ofNat m) (Nat.ble m 9223372036854775807) = _
      cases hb : Nat.ble m 9223372036854775807
      · rfl
      · have := Nat.le_of_ble_eq_true hb
        exact (wrap_i64 (by show -(2 ^ 63) ≤ (m : Int); omega) (by show (m : Int) < 2 ^ 63; omega)).symm
    | negSucc m =>
      show Bool.rec (motive := fun _ => Int) (IntKind.wrap .i64 (.negSucc m)) (.negSucc m) (Nat.ble m 9223372036854775807) = _
      cases hb : Nat.ble m 9223372036854775807
      · rfl
      · have := Nat.le_of_ble_eq_true hb
        show Int.negSucc m = _
        exact (wrap_i64 (by omega) (by omega)).symm
  | u64 => cases n with
    | ofNat m =>
      show Bool.rec (motive := fun _ => Int) (IntKind.wrap .u64 (.ofNat m)) (.ofNat m) (Nat.ble m 18446744073709551615) = _
      cases hb : Nat.ble m 18446744073709551615
      · rfl
      · have := Nat.le_of_ble_eq_true hb
        exact (wrap_u64 (by show 0 ≤ (m : Int); omega) (by show (m : Int) < 2 ^ 64; omega)).symm
    | negSucc m => rfl
  | _ => rfl
noncomputable def ltZ (x y : Int) : Bool :=
  Int.rec (motive := fun _ => Int → Bool) (fun a y => Int.rec (motive := fun _ => Bool) (fun b => Nat.ble (Nat.add a 1) b) (fun _ => false) y) (fun a y => Int.rec (motive := fun _ => Bool) (fun _ => true) (fun b => Nat.ble (Nat.add b 1) a) y) x y
theorem ltZ_eq (x y : Int) : ltZ x y = decide (x < y) := by
  have key : ∀ a b : Nat, Nat.ble (Nat.add a 1) b = decide (a < b) := fun a b => by
    rw [Bool.eq_iff_iff, decide_eq_true_eq]
    exact ⟨fun h => Nat.le_of_ble_eq_true h, fun h => Nat.ble_eq_true_of_le h⟩
  cases x with
  | ofNat a => cases y with
    | ofNat b => show Nat.ble (Nat.add a 1) b = _; rw [key]; simp
    | negSucc b => show false = _; symm; rw [decide_eq_false_iff_not]; show ¬ ((a : Int) < _); omega
  | negSucc a => cases y with
    | ofNat b => show true = _; symm; rw [decide_eq_true_eq]; show _ < (b : Int); omega
    | negSucc b => show Nat.ble (Nat.add b 1) a = _; rw [key, Bool.eq_iff_iff, decide_eq_true_eq, decide_eq_true_eq]; omega
noncomputable def eqZ (x y : Int) : Bool :=
  Int.rec (motive := fun _ => Int → Bool) (fun a y => Int.rec (motive := fun _ => Bool) (fun b => Nat.beq a b) (fun _ => false) y) (fun a y => Int.rec (motive := fun _ => Bool) (fun _ => false) (fun b => Nat.beq a b) y) x y
theorem eqZ_eq (x y : Int) : eqZ x y = decide (x = y) := by
  have key : ∀ a b : Nat, Nat.beq a b = decide (a = b) := fun a b => by
    rw [Bool.eq_iff_iff, decide_eq_true_eq]
    exact ⟨fun h => Nat.eq_of_beq_eq_true h, fun h => by subst h; exact Nat.beq_refl a⟩
  cases x with
  | ofNat a => cases y with
    | ofNat b => show Nat.beq a b = _; rw [key, Bool.eq_iff_iff, decide_eq_true_eq, decide_eq_true_eq]; exact ⟨fun h => by rw [h], fun h => by cases h; rfl⟩
    | negSucc b => show false = _; simp
  | negSucc a => cases y with
    | ofNat b => show false = _; simp
    | negSucc b => show Nat.beq a b = _; rw [key]; simp
noncomputable def bNot (b : Bool) : Bool := Bool.rec (motive := fun _ => Bool) true false b
noncomputable def outI (k : IntKind) (n : Int) (κ : Value → Bool) : Bool := intK (wrapF k n) fun n => κ (.int k n)
noncomputable def outB (b : Bool) (κ : Value → Bool) : Bool := Bool.rec (motive := fun _ => Bool) (κ (.bool false)) (κ (.bool true)) b
theorem outB_eq (b : Bool) (κ : Value → Bool) : outB b κ = κ (.bool b) := by cases b <;> rfl
noncomputable def outG (op : BinOp) (k : IntKind) (x y : Int) (κ : Value → Bool) : Bool := opn (binI op (.int k x) (.int k y)) fun v => valA v κ
noncomputable def binZ (op : BinOp) : IntKind → Int → Int → (Value → Bool) → Bool :=
  BinOp.rec (motive := fun _ => IntKind → Int → Int → (Value → Bool) → Bool) (fun k x y κ => outI k (x + y) κ) (fun k x y κ => outI k (x - y) κ) (fun k x y κ => outI k (x * y) κ) (outG .quo) (outG .rem) (outG .and) (outG .or) (outG .xor) (outG .shl) (outG .shr) (outG .andNot)
    (fun _ x y κ => outB (eqZ x y) κ) (fun _ x y κ => outB (bNot (eqZ x y)) κ) (fun _ x y κ => outB (ltZ x y) κ) (fun _ x y κ => outB (bNot (ltZ y x)) κ) (fun _ x y κ => outB (ltZ y x) κ) (fun _ x y κ => outB (bNot (ltZ x y)) κ) op
theorem outG_ok {op : BinOp} {k : IntKind} {x y : Int} {κ : Value → Bool} (h : outG op k x y κ = true) : ∃ r, binI op (.int k x) (.int k y) = some r ∧ κ r = true := by
  obtain ⟨v, h1, h2⟩ := opn_ok h
  rw [valA_eq] at h2
  exact ⟨v, h1, h2⟩
theorem bNot_lt (x y : Int) : bNot (ltZ x y) = decide (y ≤ x) := by
  rw [ltZ_eq]
  by_cases h : x < y
  · rw [decide_eq_true h]; show false = _; symm; rw [decide_eq_false_iff_not]; omega
  · rw [decide_eq_false h]; show true = _; symm; rw [decide_eq_true_eq]; omega
theorem binZ_ok {op : BinOp} {k : IntKind} {x y : Int} {κ : Value → Bool} (h : binZ op k x y κ = true) : ∃ r, binI op (.int k x) (.int k y) = some r ∧ κ r = true := by
  cases op with
  | add => exact ⟨_, binI_add, by have : outI k (x + y) κ = true := h; unfold outI at this; rwa [intK_eq, wrapF_eq] at this⟩
  | sub => exact ⟨_, binI_sub, by have : outI k (x - y) κ = true := h; unfold outI at this; rwa [intK_eq, wrapF_eq] at this⟩
  | mul => exact ⟨_, binI_mul, by have : outI k (x * y) κ = true := h; unfold outI at this; rwa [intK_eq, wrapF_eq] at this⟩
  | quo => exact outG_ok h
  | rem => exact outG_ok h
  | and => exact outG_ok h
  | or => exact outG_ok h
  | xor => exact outG_ok h
  | shl => exact outG_ok h
  | shr => exact outG_ok h
  | andNot => exact outG_ok h
  | eql => exact ⟨_, binI_eql, by have : outB (eqZ x y) κ = true := h; rwa [outB_eq, eqZ_eq] at this⟩
  | neq =>
    refine ⟨_, binI_neq, ?_⟩
    have h' : outB (bNot (eqZ x y)) κ = true := h
    rw [outB_eq, eqZ_eq] at h'
    have e : bNot (decide (x = y)) = !decide (x = y) := by cases decide (x = y) <;> rfl
    rwa [e] at h'
  | lss => exact ⟨_, binI_lss, by have : outB (ltZ x y) κ = true := h; rwa [outB_eq, ltZ_eq] at this⟩
  | leq => exact ⟨_, binI_leq, by have : outB (bNot (ltZ y x)) κ = true := h; rwa [outB_eq, bNot_lt] at this⟩
  | gtr => exact ⟨_, binI_gtr, by have : outB (ltZ y x) κ = true := h; rwa [outB_eq, ltZ_eq] at this⟩
  | geq => exact ⟨_, binI_geq, by have : outB (bNot (ltZ x y)) κ = true := h; rwa [outB_eq, bNot_lt] at this⟩

noncomputable def findI (k : IntKind) (a : Int) : List Value → Nat → Option (Option Nat)
  | [], _ => some none
  | x :: l, i => Option.rec (motive := fun _ => Option (Option Nat)) none (fun p => Bool.rec (motive := fun _ => Option (Option Nat)) none (Bool.rec (motive := fun _ => Option (Option Nat)) (findI k a l (Nat.add i 1)) (some (some i)) (eqZ a p.2)) (Nat.beq (kIx k) (kIx p.1))) (dInt x)

theorem findI_ok {k k0 : IntKind} {a : Int} : ∀ {es : List MapEntry} {i : Nat} {q : Option Nat}, findI k a (es.map (·.key)) i = some q → Instr.findNow (.int k0) (.int k a) es i = some (q.bind fun j => (es[j - i]?).map fun e => (j, e.val)) ∧ ∀ j, q = some j → i ≤ j ∧ j < i + es.length
  | [], i, q, h => by
    simp only [List.map_nil, findI, Option.some.injEq] at h; subst h
    exact ⟨rfl, fun j h => by cases h⟩
  | e :: es, i, q, h => by
    simp only [List.map_cons, findI] at h
    cases hd : dInt e.key with
    | none => rw [hd] at h; cases h
    | some p =>
      obtain ⟨k', b⟩ := p
      rw [hd] at h
      simp only at h
      have hk := dInt_ok hd
      cases hb : Nat.beq (kIx k) (kIx k')
      · rw [hb] at h; cases h
      rw [hb] at h
      simp only at h
      have := kIx_ok hb
      subst this
      cases hz : eqZ a b
      · rw [hz] at h
        simp only at h
        obtain ⟨h1, h2⟩ := findI_ok (k0 := k0) h
        rw [eqZ_eq, decide_eq_false_iff_not] at hz
        refine ⟨?_, fun j hj => ?_⟩
        · have hs : Instr.sameNow (.int k0) (.int k a) e.key = some false := by
            rw [hk]; simp [Instr.sameNow, hz]
          simp only [Instr.findNow, hs, h1]
          cases q with
          | none => rfl
          | some j =>
            have hij := (h2 j rfl).1
            have e1 : j - i = (j - (i.add 1)) + 1 := by have : i.add 1 = i + 1 := rfl; omega
            simp only [Option.bind_some, e1, List.getElem?_cons_succ]
        · have := h2 j hj
          have e2 : i.add 1 = i + 1 := rfl
          simp only [List.length_cons]; omega
      · rw [hz] at h
        simp only [Option.some.injEq] at h; subst h
        rw [eqZ_eq, decide_eq_true_eq] at hz
        subst hz
        refine ⟨?_, fun j hj => ?_⟩
        · have hs : Instr.sameNow (.int k0) (.int k a) e.key = some true := by
            rw [hk]; simp [Instr.sameNow]
          simp only [Instr.findNow, hs]
          simp
        · cases hj; simp

noncomputable def keyF (P : Program) (T : TypeId) (k : Value) (keys : List Value) : Option (Option Nat) :=
  match dInt k, P.underlying T with
  | some p, some (.int _) => findI p.1 p.2 keys 0
  | _, _ => keyX P T k keys
theorem keyF_ok {P : Program} {T : TypeId} {d : TypeDesc} {k : Value} {keys : List Value} {r : Option Nat} (hd : P.underlying T = some d) (h : keyF P T k keys = some r) : keyV P T k keys = some r := by
  unfold keyF at h
  split at h
  · rename_i p k0 hp hT
    obtain ⟨kk, a⟩ := p
    have hk := dInt_ok hp
    subst hk
    refine keyV_of ?_ fun i hi => ?_
    · intro w es hes
      subst hes
      obtain ⟨h1, h2⟩ := findI_ok (k0 := k0) h
      refine ⟨fun b => by
        obtain ⟨n, e⟩ : ∃ n, (10000 : Nat) = n + 1 := ⟨9999, rfl⟩
        rw [e]
        simp [Instr.checkKey, run_underlying hT], ?_⟩
      simp only [Instr.findKey, Sem.run_bind, run_underlying hT, Result.andThen_ok, h1, Sem.run_pure, Nat.sub_zero]
    · have e : keys = (keys.map fun k => ({ key := k, val := .bool true, born := 0 } : MapEntry)).map (·.key) := by simp [Function.comp_def]
      rw [e] at h
      have := (findI_ok (k0 := k0) h).2 i hi
      simpa using this.2
  · exact keyX_ok hd h

noncomputable def lkpX (P : Program) (T : TypeId) (z k : Value) (es : List (Value × Value × Nat)) : Option Value :=
  if flat k && (es.map (·.1)).all flat && flat z then match P.underlying T, keyF P T k (es.map (·.1)) with
    | some _, some (some i) => es[i]?.map fun e => .tuple #[e.2.1, .bool true]
    | some _, some none => some (.tuple #[z, .bool false])
    | _, _ => none
  else none
noncomputable def lk1X (P : Program) (T : TypeId) (z k : Value) (es : List (Value × Value × Nat)) : Option Value :=
  if flat k && (es.map (·.1)).all flat && flat z then match P.underlying T, keyF P T k (es.map (·.1)) with
    | some _, some (some i) => es[i]?.map fun e => e.2.1
    | some _, some none => some z
    | _, _ => none
  else none

noncomputable def valX (P : Program) (t : Nat → Value) (h : Tri EObj) : AOp → Option Value
  | .ld agg sz x => match x.ev t with
    | .pointer (some ⟨n, off, none⟩) => match h.get n with
      | some (.cells _ cs _) => if agg then (rdL cs off sz).map (fun l => .agg l.toArray) else cs[off]?
      | _ => none
    | _ => none
  | .lkp T z x k => match x.ev t with
    | .map (some n) => match h.get n with
      | some (.map es _) => lkpX P T z (k.ev t) es
      | _ => none
    | _ => none
  | .lk1 T z x k => match x.ev t with
    | .map (some n) => match h.get n with
      | some (.map es _) => lk1X P T z (k.ev t) es
      | _ => none
    | _ => none
  | .gen N o => if o.op.operands.toList.all (flatO N t) then genX P (evO t) o else none
  | op => avalC t op

def emake (t : Nat → Value) (n : Nat) : AOp → Option (EObj × Value)
  | .new z => some (.cells true z z.length, .pointer (some ⟨n, 0, none⟩))
  | .box x => some (.cells true (x.ev t).cells.toList (x.ev t).cells.size, .pointer (some ⟨n, 0, none⟩))
  | .bsl len zero parts => (fillA zero (parts.map fun (off, sz, x) => (off, sz, x.ev t))).map fun l => (.cells true l l.length, .slice (some ⟨n, 0, none⟩) len len)
  | .mks sz bytes zero len cap => match len.ev t, cap.ev t with
    | .int _ l, .int _ c => if 0 ≤ l ∧ l ≤ c ∧ (bytes : Int) * c ≤ 2 ^ 48 ∧ c < 2 ^ 62 then
        some (.cells true (zrep c.toNat zero) (c.toNat * sz), .slice (some ⟨n, 0, none⟩) l.toNat c.toNat) else none
    | _, _ => none
  | .mkm => some (.map [] 0, .map (some n))
  | _ => none

noncomputable def slE (h : Tri EObj) (sz : Nat) : Value → Option (Nat × List Value)
  | .slice none 0 0 => some (0, [])
  | .slice (some ⟨m, o, none⟩) k _ => match h.get m with
    | some (.cells _ cs _) => (rdL cs o (k * sz)).map fun l => (k, l)
    | _ => none
  | .slice (some ⟨0, 0, some 0⟩) 0 0 => some (0, [])
  | _ => none

def sameL (g : Value → Value → Bool) : List Value → List Value → Bool
  | [], [] => true
  | x :: xs, y :: ys => g x y && sameL g xs ys
  | _, _ => false
def same : Nat → Value → Value → Bool
  | 0, _, _ => false
  | f + 1, u, v => match u, v with
    | .bool a, .bool b => a == b
    | .int k a, .int j b => decide (k = j) && decide (a = b)
    | .string a, .string b => decide (a = b)
    | .pointer a, .pointer b => decide (a = b)
    | .slice a l c, .slice b m d => decide (a = b) && decide (l = m) && decide (c = d)
    | .map a, .map b => decide (a = b)
    | .nilFunc, .nilFunc => true
    | .nilIface, .nilIface => true
    | .func fn ⟨xs⟩ ⟨us⟩, .func gn ⟨ys⟩ ⟨vs⟩ => decide (fn = gn) && sameL (same f) xs ys && sameL (same f) us vs
    | .agg ⟨xs⟩, .agg ⟨ys⟩ => sameL (same f) xs ys
    | .tuple ⟨xs⟩, .tuple ⟨ys⟩ => sameL (same f) xs ys
    | _, _ => false

abbrev RecX := Nat × AOp × Tri Value × Value
noncomputable def stabsX (P : Program) : List RecX → List Nat → Tri EObj → Bool
  | [], _, _ => true
  | (i, op, t, v) :: rs, loose, h => (if loose.contains i then match valX P (toT t) h op with | some u => same 6 u v | none => false else true) && stabsX P rs loose h

noncomputable def dBin (o : Op) : Option (BinOp × TypeId × Operand × Operand) := Op.rec (motive := fun _ => Option (BinOp × TypeId × Operand × Operand)) (fun _ => none) (fun _ => none) (fun _ _ _ => none) (fun _ => none) (fun _ _ => none) (fun _ _ => none) (fun _ _ _ => none) (fun _ _ _ _ => none) (fun _ _ => none) (fun _ _ _ => none) (fun _ => none) (fun _ => none) (fun _ => none) (fun o T x y _ => some (o, T, x, y)) (fun _ _ _ => none) (fun _ _ _ => none) (fun _ _ => none) (fun _ _ => none) (fun _ _ _ => none) (fun _ _ => none) (fun _ _ => none) (fun _ _ _ => none) (fun _ _ _ _ _ => none) (fun _ _ _ => none) (fun _ _ _ => none) (fun _ _ _ => none) (fun _ _ _ => none) (fun _ _ _ _ => none) (fun _ _ _ _ => none) (fun _ _ _ => none) (fun _ _ _ _ => none) (fun _ _ => none) (fun _ _ => none) (fun _ => none) (fun _ _ _ _ => none) (fun _ _ => none) (fun _ => none) (fun _ => none) (fun _ => none) (fun _ => none) (fun _ _ => none) (fun _ _ _ => none) (fun _ _ => none) o
theorem dBin_ok {o : Op} {op : BinOp} {T : TypeId} {x y : Operand} (h : dBin o = some (op, T, x, y)) : ∃ U, o = .binOp op T x y U := by
  cases o <;> first | (cases h; done) | (cases h; exact ⟨_, rfl⟩)

abbrev EqO := TypeId → List Value → List Value → Option Bool
def EqOk (P : Program) (eo : EqO) : Prop := ∀ T xs ys b, eo T xs ys = some b → P.eqGuardType P.depth T = false ∧ ∀ w, (Op.equalIn 10000 T (.agg ⟨xs⟩) (.agg ⟨ys⟩)).run P w = .ok b w

noncomputable def opOk (N : Nat) (x : Operand) : Bool := Operand.rec (motive := fun _ => Bool) (fun x => Nat.ble (Nat.add x 1) N) (fun _ => true) (fun _ => false) (fun _ => true) x
noncomputable def bitZ (op : BinOp) : IntKind → Int → Int → (Value → Bool) → Option Bool :=
  BinOp.rec (motive := fun _ => IntKind → Int → Int → (Value → Bool) → Option Bool) (fun _ _ _ _ => none) (fun _ _ _ _ => none) (fun _ _ _ _ => none) (fun _ _ _ _ => none) (fun _ _ _ _ => none)
    (fun k x y κ => some (outI k (BitVec.ofInt k.bits x &&& BitVec.ofInt k.bits y).toNat κ)) (fun k x y κ => some (outI k (BitVec.ofInt k.bits x ||| BitVec.ofInt k.bits y).toNat κ)) (fun _ _ _ _ => none)
    (fun _ _ _ _ => none) (fun _ _ _ _ => none) (fun k x y κ => some (outI k (BitVec.ofInt k.bits x &&& ~~~BitVec.ofInt k.bits y).toNat κ))
    (fun _ _ _ _ => none) (fun _ _ _ _ => none) (fun _ _ _ _ => none) (fun _ _ _ _ => none) (fun _ _ _ _ => none) (fun _ _ _ _ => none) op
noncomputable def shZ (op : BinOp) : IntKind → Int → Int → (Value → Bool) → Option Bool :=
  BinOp.rec (motive := fun _ => IntKind → Int → Int → (Value → Bool) → Option Bool) (fun _ _ _ _ => none) (fun _ _ _ _ => none) (fun _ _ _ _ => none) (fun _ _ _ _ => none) (fun _ _ _ _ => none) (fun _ _ _ _ => none) (fun _ _ _ _ => none) (fun _ _ _ _ => none)
    (fun k x y κ => Bool.rec (motive := fun _ => Option Bool) (some (outI k (x * 2 ^ (min y.toNat k.bits)) κ)) none (ltZ y 0)) (fun k x y κ => Bool.rec (motive := fun _ => Option Bool) (some (intK (x.fdiv (2 ^ (min y.toNat k.bits))) fun n => κ (.int k n))) none (ltZ y 0)) (fun _ _ _ _ => none)
    (fun _ _ _ _ => none) (fun _ _ _ _ => none) (fun _ _ _ _ => none) (fun _ _ _ _ => none) (fun _ _ _ _ => none) (fun _ _ _ _ => none) op
noncomputable def eqnZ (op : BinOp) : Bool → (Value → Bool) → Option Bool :=
  BinOp.rec (motive := fun _ => Bool → (Value → Bool) → Option Bool) (fun _ _ => none) (fun _ _ => none) (fun _ _ => none) (fun _ _ => none) (fun _ _ => none) (fun _ _ => none) (fun _ _ => none) (fun _ _ => none) (fun _ _ => none) (fun _ _ => none) (fun _ _ => none)
    (fun b κ => some (outB b κ)) (fun b κ => some (outB (bNot b) κ)) (fun _ _ => none) (fun _ _ => none) (fun _ _ => none) (fun _ _ => none) op
noncomputable def genQ (eo : EqO) (N : Nat) (op : BinOp) (T : TypeId) (x y : Operand) (u w : Value) (κ : Value → Bool) : Option Bool :=
  Bool.rec (motive := fun _ => Option Bool) none
    (Option.rec (motive := fun _ => Option Bool) (Option.rec (motive := fun _ => Option Bool) none (fun xs => Option.rec (motive := fun _ => Option Bool) none (fun ys => Bool.rec (motive := fun _ => Option Bool) none (Option.rec (motive := fun _ => Option Bool) none (fun b => eqnZ op b κ) (eo T xs ys)) (xs.all flat1 && ys.all flat1)) (dAgg w)) (dAgg u))
      (fun p => Option.rec (motive := fun _ => Option Bool) none (fun q => Option.rec (motive := fun _ => Option Bool) (shZ op p.1 p.2 q.2 κ) (fun r => Bool.rec (motive := fun _ => Option Bool) none (some r) (Nat.beq (kIx p.1) (kIx q.1))) (bitZ op p.1 p.2 q.2 κ)) (dInt w)) (dInt u))
    (opOk N x && opOk N y)

theorem genQ_ok {P : Program} {eo : EqO} (he : EqOk P eo) {N : Nat} {o : Oper} {op : BinOp} {T U : TypeId} {x y : Operand} {t : Nat → Value} {H : Heap} {κ : Value → Bool} {r : Bool} (ho : o.op = .binOp op T x y U) (h : genQ eo N op T x y (evO t x) (evO t y) κ = some r) (hr : r = true) :
    ∃ v, aval P t H (.gen N o) = some v ∧ κ v = true := by
  subst hr
  unfold genQ at h
  cases hb : opOk N x && opOk N y
  · rw [hb] at h; cases h
  rw [hb] at h
  rw [Bool.and_eq_true] at hb
  obtain ⟨hx, hy⟩ := hb
  have hop : ∀ z : Operand, opOk N z = true → flat (evO t z) = true → flatO N t z = true := by
    intro z hz hf
    cases z with
    | tmp z =>
      have : Nat.ble (Nat.add z 1) N = true := hz
      have := Nat.le_of_ble_eq_true this
      simp only [flatO, Bool.and_eq_true, decide_eq_true_eq]
      exact ⟨this, hf⟩
    | const v => rfl
    | func f => rfl
    | global g => cases hz
  have fin : ∀ v, flat v = true → flat (evO t x) = true → flat (evO t y) = true → (∀ w : World, (do eqGuard op T x y (evO t x) (evO t y); binOp op T (evO t x) (evO t y) : Sem Value).run P w = .ok v w) → aval P t H (.gen N o) = some v := by
    intro v hv h1 h2 hrun
    refine aval_gen ?_ hv fun w => ?_
    · rw [ho]; simp [Op.operands, hop x hx h1, hop y hy h2]
    · have := hrun w
      simp only [execOp, ho]
      rw [Sem.run_bind, this]; rfl
  simp only at h
  cases hu : dInt (evO t x) with
  | some p =>
    obtain ⟨k, a⟩ := p
    have hu' := dInt_ok hu
    rw [hu] at h
    simp only at h
    cases hw : dInt (evO t y) with
    | none => rw [hw] at h; cases h
    | some q =>
      obtain ⟨k', b⟩ := q
      have hw' := dInt_ok hw
      rw [hw] at h
      simp only at h
      have hfx : flat (evO t x) = true := by rw [hu']; rfl
      have hfy : flat (evO t y) = true := by rw [hw']; rfl
      cases hz : bitZ op k a b κ with
      | some z =>
        rw [hz] at h
        simp only at h
        cases hk : Nat.beq (kIx k) (kIx k')
        · rw [hk] at h; cases h
        · rw [hk] at h
          have hkk := kIx_ok hk
          subst hkk
          simp only [Option.some.injEq] at h
          subst h
          cases op <;> first | (cases hz; done) | skip
          all_goals
            have hz' := Option.some.inj hz
            unfold outI at hz'
            rw [intK_eq, wrapF_eq] at hz'
            refine ⟨_, fin _ rfl hfx hfy fun w => ?_, hz'⟩
            rw [hu', hw']
            simp [eqGuard, binOp, Op.intBits]
      | none =>
        rw [hz] at h
        simp only at h
        cases op <;> first | (cases h; done) | skip
        · have h0 : Bool.rec (motive := fun _ => Option Bool) (some (outI k (a * 2 ^ (min b.toNat k.bits)) κ)) none (ltZ b 0) = some true := h
          cases hlt : ltZ b 0
          · rw [hlt] at h0
            have hz' := Option.some.inj h0
            rw [ltZ_eq, decide_eq_false_iff_not] at hlt
            unfold outI at hz'
            rw [intK_eq, wrapF_eq] at hz'
            refine ⟨_, fin _ rfl hfx hfy fun w => ?_, hz'⟩
            rw [hu', hw']
            simp [eqGuard, binOp, Op.shift, hlt]
          · rw [hlt] at h0; cases h0
        · have h0 : Bool.rec (motive := fun _ => Option Bool) (some (intK (a.fdiv (2 ^ (min b.toNat k.bits))) fun n => κ (.int k n))) none (ltZ b 0) = some true := h
          cases hlt : ltZ b 0
          · rw [hlt] at h0
            have hz' := Option.some.inj h0
            rw [ltZ_eq, decide_eq_false_iff_not] at hlt
            rw [intK_eq] at hz'
            refine ⟨_, fin _ rfl hfx hfy fun w => ?_, hz'⟩
            rw [hu', hw']
            simp [eqGuard, binOp, Op.shift, hlt]
          · rw [hlt] at h0; cases h0
  | none =>
    rw [hu] at h
    simp only at h
    cases hu2 : dAgg (evO t x) with
    | none => rw [hu2] at h; cases h
    | some xs =>
      rw [hu2] at h
      simp only at h
      cases hw2 : dAgg (evO t y) with
      | none => rw [hw2] at h; cases h
      | some ys =>
        rw [hw2] at h
        simp only at h
        have ex : evO t x = .agg ⟨xs⟩ := by
          cases hv : evO t x <;> rw [hv] at hu2 <;> first | (cases hu2; done) | skip
          rename_i c; cases c; cases hu2; rfl
        have ey : evO t y = .agg ⟨ys⟩ := by
          cases hv : evO t y <;> rw [hv] at hw2 <;> first | (cases hw2; done) | skip
          rename_i c; cases c; cases hw2; rfl
        cases hfl : xs.all flat1 && ys.all flat1
        · rw [hfl] at h; cases h
        rw [hfl] at h
        rw [Bool.and_eq_true] at hfl
        simp only at h
        cases hq : eo T xs ys with
        | none => rw [hq] at h; cases h
        | some b =>
          rw [hq] at h
          simp only at h
          obtain ⟨hg, hrun⟩ := he _ _ _ _ hq
          have hfx : flat (evO t x) = true := by rw [ex]; exact hfl.1
          have hfy : flat (evO t y) = true := by rw [ey]; exact hfl.2
          cases op <;> first | (cases h; done) | skip
          · have h' := Option.some.inj (show some (outB b κ) = some true from h)
            rw [outB_eq] at h'
            refine ⟨_, fin _ rfl hfx hfy fun w => ?_, h'⟩
            rw [ex, ey]
            simp only [Sem.run_bind, run_eqGuard_agg w .eql T x y _ _ hg, Result.andThen_ok, run_eql_struct, hrun]
          · have h' := Option.some.inj (show some (outB (bNot b) κ) = some true from h)
            rw [outB_eq] at h'
            have e : bNot b = !b := by cases b <;> rfl
            rw [e] at h'
            refine ⟨_, fin _ rfl hfx hfy fun w => ?_, h'⟩
            rw [ex, ey]
            simp only [Sem.run_bind, run_eqGuard_agg w .neq T x y _ _ hg, Result.andThen_ok, run_neq_struct, hrun]

abbrev CallK := Value → List Value → Tri EObj → Nat → (Value → Tri EObj → Nat → Bool) → Bool
abbrev StK := Tri Value → List Nat → Tri EObj → Nat → Bool

def thenB (b : Bool) (k : Bool) : Bool := match b with
  | true => k
  | false => false

noncomputable def mupK (P : Program) (chk : Tri EObj → Bool) (T : TypeId) (m k v : Value) (dst : Option Nat) (t : Tri Value) (h : Tri EObj) (κ : Value → Tri Value → Tri EObj → Bool) : Bool := match m with
  | .map (some n) => match h.get n with
    | some (.map es clock) => match flat k && (es.map (·.1)).all flat with
      | true => match P.underlying T, keyF P T k (es.map (·.1)) with
        | some _, some none => listK entK (es ++ [(k, v, clock)]) fun es => natK (clock + 1) fun clock => Tri.setK (.map es clock) h n fun h => thenB (chk h) (putK t dst undef fun t => κ undef t h)
        | some _, some (some i) => match es[i]? with
          | some e => match Instr.sameBits 10000 e.1 k with
            | true => listK entK (es.set i (k, v, e.2.2)) fun es => Tri.setK (.map es clock) h n fun h => thenB (chk h) (putK t dst undef fun t => κ undef t h)
            | false => false
          | none => false
        | _, _ => false
      | false => false
    | _ => false
  | _ => false

noncomputable def slK (h : Tri EObj) (sz : Nat) (v : Value) (κ : Nat → List Value → Bool) : Bool :=
  Option.rec (motive := fun _ => Bool) (Bool.rec (motive := fun _ => Bool) (opn (slE h sz v) fun r => listK (fun v κ => κ v) r.2 fun l => κ r.1 l) (κ 0 []) (dNilS v)) (fun p => opn (h.get p.1) fun o => opn (dCells o) fun c => Bool.rec (motive := fun _ => Bool) false (ltakeK (Nat.mul p.2.2.1 sz) (ldrop p.2.1 c.2.1) fun l => κ p.2.2.1 l) (Nat.ble p.2.1 c.2.1.length)) (dSlc v)
noncomputable def baseK (h : Tri EObj) (sz : Nat) (v : Value) (κ : Nat → List Value → Option Nat → Nat → Bool) : Bool :=
  Option.rec (motive := fun _ => Bool) (Bool.rec (motive := fun _ => Bool) false (κ 0 [] none 0) (dNilS v))
    (fun p => opn (h.get p.1) fun o => opn (dCells o) fun c => Bool.rec (motive := fun _ => Bool) false (κ p.2.2.1 (ldrop p.2.1 c.2.1) (some p.1) p.2.2.2)
      (c.1 && (Nat.beq (Nat.add p.2.1 (Nat.mul p.2.2.1 sz)) c.2.1.length && (Nat.ble (Nat.add p.2.1 (Nat.mul p.2.2.2 sz)) c.2.2 && Nat.ble p.2.2.1 p.2.2.2)))) (dSlc v)
noncomputable def appK (chk : Tri EObj → Bool) (sz bytes mk : Nat) (y x : Value) (dst : Option Nat) (t : Tri Value) (h : Tri EObj) (κ : Value → Tri Value → Tri EObj → Bool) : Bool :=
  baseK h sz y fun len cs old cap => slK h sz x fun m new =>
    Bool.rec (motive := fun _ => Bool) false
      (Bool.rec (motive := fun _ => Bool)
        (natK (Nat.add len m) fun lm => natK (capN cap len m) fun cp => natK (Nat.mul cp sz) fun cc => listK (fun v κ => κ v) (cs ++ new) fun cs =>
          (Option.rec (motive := fun _ => (Tri EObj → Bool) → Bool) (fun κ => κ h) (fun q κ => Tri.setK .gone h q κ) old) fun h => Tri.setK (.cells true cs cc) h mk fun h =>
            thenB (chk h) (natK mk fun mk => putK t dst (.slice (some ⟨mk, 0, none⟩) lm cp) fun t => κ (.slice (some ⟨mk, 0, none⟩) lm cp) t h))
        (thenB (chk h) (putK t dst (.slice none 0 0) fun t => κ (.slice none 0 0) t h))
        (old.isNone && Nat.beq m 0))
      (new.all one && Nat.ble (Nat.mul (Nat.add (Nat.mul 4 (Nat.add len m)) 4096) bytes) 281474976710656)

noncomputable def mkK (r : Option (EObj × Value)) (mk : Nat) (dst : Option Nat) (t : Tri Value) (h : Tri EObj) (κ : Value → Tri Value → Tri EObj → Bool) : Bool := match r with
  | some (x, v) => valA v fun v => objK x fun x => Tri.setK x h mk fun h => putK t dst v fun t => κ v t h
  | none => false

structure OpA where
  P : Program
  eo : EqO
  call : CallK
  chk : Tri EObj → Bool
  at_ : Nat
  nx' : Nat
  dst : Option Nat

abbrev OpF := OpA → Tri Value → List Nat → Tri EObj → Nat → (Value → StK) → Bool

noncomputable def outK (v : Value) (dst : Option Nat) (t : Tri Value) (d : List Nat) (h : Tri EObj) (nx : Nat) (κ : Value → StK) : Bool := putK t dst v fun t => κ v t d h nx
noncomputable def cellsL (v : Value) (κ : List Value → Bool) : Bool := Option.rec (motive := fun _ => Bool) (κ [v]) (fun l => κ l) (dAgg v)
theorem cellsL_eq (v : Value) (κ : List Value → Bool) : cellsL v κ = κ v.cells.toList := by
  unfold cellsL
  cases h : dAgg v with
  | none => rw [dAgg_none h]
  | some l => rw [dAgg_ok h]

noncomputable def movF (x : Opd) : OpF := fun a t d h nx κ => evK t x fun v => outK v a.dst t d h nx κ
noncomputable def binF (o : BinOp) (x y : Opd) : OpF := fun a t d h nx κ => evK t x fun u => evK t y fun w => opn (dInt u) fun p => opn (dInt w) fun q =>
  Bool.rec (motive := fun _ => Bool) false (binZ o p.1 p.2 q.2 fun v => outK v a.dst t d h nx κ) (Nat.beq (kIx p.1) (kIx q.1))
noncomputable def notF (x : Opd) : OpF := fun a t d h nx κ => evK t x fun u => opn (dBool u) fun b => outB (bNot b) fun v => outK v a.dst t d h nx κ
noncomputable def ldF (agg : Bool) (sz : Nat) (x : Opd) : OpF := fun a t d h nx κ => evK t x fun u => opn (dPtr u) fun p => opn (h.get p.1) fun o => opn (dCells o) fun c =>
  Bool.rec (motive := fun _ => Bool) (opn (lnth c.2.1 p.2) fun v => outK v a.dst t d h nx κ) (Bool.rec (motive := fun _ => Bool) false (ltakeK sz (ldrop p.2 c.2.1) fun l => outK (.agg ⟨l⟩) a.dst t d h nx κ) (Nat.ble 1 sz)) agg
noncomputable def faF (off : Nat) (x : Opd) : OpF := fun a t d h nx κ => evK t x fun u => opn (dPtr u) fun p => natK (Nat.add p.2 off) fun o => natK p.1 fun n => outK (.pointer (some ⟨n, o, none⟩)) a.dst t d h nx κ
noncomputable def islF (sz : Nat) (x i : Opd) : OpF := fun a t d h nx κ => evK t x fun u => evK t i fun w => opn (dSl u) fun p => opn (dInt w) fun q =>
  Int.rec (motive := fun _ => Bool) (fun m => Bool.rec (motive := fun _ => Bool) false (natK (Nat.add p.2.1 (Nat.mul m sz)) fun o => natK p.1 fun n => outK (.pointer (some ⟨n, o, none⟩)) a.dst t d h nx κ) (Nat.ble (Nat.add m 1) p.2.2)) (fun _ => false) q.2
noncomputable def makeE (x : EObj) (v : Nat → Value) : OpF := fun a t d h _ κ => Tri.setK x h a.at_ fun h => natK a.at_ fun mk => outK (v mk) a.dst t d h a.nx' κ
noncomputable def newF (z : List Value) : OpF := fun a t d h nx κ => natK z.length fun c => makeE (.cells true z c) (fun n => .pointer (some ⟨n, 0, none⟩)) a t d h nx κ
noncomputable def boxF (x : Opd) : OpF := fun a t d h nx κ => evK t x fun v => cellsL v fun l => natK l.length fun c => makeE (.cells true l c) (fun n => .pointer (some ⟨n, 0, none⟩)) a t d h nx κ
noncomputable def stF (sz : Nat) (x v : Opd) : OpF := fun a t d h nx κ => evK t x fun p => evK t v fun v => opn (dPtr p) fun p => opn (h.get p.1) fun o => opn (dCells o) fun c => cellsL v fun vs =>
  Bool.rec (motive := fun _ => Bool) false (listK (fun v κ => κ v) (wrL c.2.1 p.2 vs) fun cs => Tri.setK (.cells true cs c.2.2) h p.1 fun h => thenB (a.chk h) (putK t a.dst undef fun t => κ undef t d h nx))
    (c.1 && (Nat.beq vs.length sz && (Nat.ble (Nat.add p.2 sz) c.2.1.length && vs.all one)))
noncomputable def mupF (T : TypeId) (x k v : Opd) : OpF := fun a t d h nx κ => evK t x fun m => evK t k fun k => evK t v fun v => mupK a.P a.chk T m k v a.dst t h fun v t h => κ v t d h nx
noncomputable def appF (sz bytes : Nat) (y x : Opd) : OpF := fun a t d h _ κ => evK t y fun y => evK t x fun x => appK a.chk sz bytes a.at_ y x a.dst t h fun v t h => κ v t d h a.nx'
noncomputable def callF (f : Opd) (args : List Opd) : OpF := fun a t d h nx κ => evK t f fun f => evsK t args fun args => a.call f args h nx fun v h nx => thenB (a.chk h) (outK v a.dst t d h nx κ)
noncomputable def mkF (op : AOp) : OpF := fun a t d h _ κ => mkK (emake (toT t) a.at_ op) a.at_ a.dst t h fun v t h => κ v t d h a.nx'
noncomputable def lenF (x : Opd) : OpF := fun a t d h nx κ => evK t x fun u => opn (dLen u) fun n => natK n fun n => outK (.int .i64 (.ofNat n)) a.dst t d h nx κ
noncomputable def fldF (agg : Bool) (off sz : Nat) (x : Opd) : OpF := fun a t d h nx κ => evK t x fun u => opn (dAgg u) fun c =>
  Bool.rec (motive := fun _ => Bool) (opn (lnth c off) fun v => outK v a.dst t d h nx κ) (ltakeK sz (ldrop off c) fun l => outK (.agg ⟨l⟩) a.dst t d h nx κ) agg
noncomputable def extF (x : Opd) (i : Nat) : OpF := fun a t d h nx κ => evK t x fun u => opn (dTup u) fun c => opn (lnth c i) fun v => outK v a.dst t d h nx κ
noncomputable def fnF (f : Fn) (x y : List Opd) : OpF := fun a t d h nx κ => evsK t x fun xs => evsK t y fun ys => outK (.func f ⟨xs⟩ ⟨ys⟩) a.dst t d h nx κ
noncomputable def pickF (c x y : Opd) : OpF := fun a t d h nx κ => evK t c fun c => evK t x fun x => evK t y fun y => opn (dBool c) fun b => Bool.rec (motive := fun _ => Bool) (outK y a.dst t d h nx κ) (outK x a.dst t d h nx κ) b
noncomputable def iarF (len sz : Nat) (x i : Opd) : OpF := fun a t d h nx κ => evK t x fun u => evK t i fun w => opn (dPtr u) fun p => opn (dInt w) fun q =>
  Int.rec (motive := fun _ => Bool) (fun m => Bool.rec (motive := fun _ => Bool) false (natK (Nat.add p.2 (Nat.mul m sz)) fun o => natK p.1 fun n => outK (.pointer (some ⟨n, o, none⟩)) a.dst t d h nx κ) (Nat.ble (Nat.add m 1) len)) (fun _ => false) q.2
noncomputable def partsK (t : Tri Value) : List (Nat × Nat × Opd) → List Value → (List Value → Bool) → Bool
  | [], z, κ => κ z
  | p :: ps, z, κ => evK t p.2.2 fun v => cellsL v fun vs => Bool.rec (motive := fun _ => Bool) false (listK (fun v κ => κ v) (wrL z p.1 vs) fun z => partsK t ps z κ) (Nat.beq vs.length p.2.1 && Nat.ble (Nat.add p.1 vs.length) z.length)
noncomputable def bldF (z : List Value) (ps : List (Nat × Nat × Opd)) : OpF := fun a t d h nx κ => partsK t ps z fun l => outK (.agg ⟨l⟩) a.dst t d h nx κ
noncomputable def bslF (len : Nat) (z : List Value) (ps : List (Nat × Nat × Opd)) : OpF := fun a t d h nx κ => partsK t ps z fun l => natK l.length fun c => makeE (.cells true l c) (fun n => .slice (some ⟨n, 0, none⟩) len len) a t d h nx κ
noncomputable def valF (op : AOp) : OpF := fun a t d h nx κ => vK (valX a.P (toT t) h op) t a.dst fun v t => κ v t d h nx

noncomputable def genF (N : Nat) (o : Oper) : OpF := fun a t d h nx κ => Option.rec (motive := fun _ => Bool) (valF (.gen N o) a t d h nx κ)
  (fun p => Option.rec (motive := fun _ => Bool) (valF (.gen N o) a t d h nx κ) (fun r => r) (genQ a.eo N p.1 p.2.1 p.2.2.1 p.2.2.2 (evO (toT t) p.2.2.1) (evO (toT t) p.2.2.2) fun v => outK v a.dst t d h nx κ)) (dBin o.op)

noncomputable def opF (op : AOp) : OpF :=
  AOp.rec (motive := fun _ => OpF) (fun x => movF x) (fun c a b => pickF c a b) (fun o x y => binF o x y) (fun x => notF x) (fun k x => valF (.cvi k x)) (fun a sz x => ldF a sz x) (fun a off sz x => fldF a off sz x)
    (fun a len sz x i => valF (.idx a len sz x i)) (fun off x => faF off x) (fun len sz x i => iarF len sz x i) (fun sz x i => islF sz x i) (fun sz x lo hi => valF (.sl sz x lo hi)) (fun len sz x lo hi => valF (.sla len sz x lo hi)) (fun x => lenF x) (fun x i => extF x i)
    (fun f a b => fnF f a b) (fun x => valF (.nilc x)) (fun n x => valF (.isn n x)) (fun T z x k => valF (.lkp T z x k)) (fun T z x k => valF (.lk1 T z x k)) (fun z ps => bldF z ps) (fun N o => genF N o)
    (fun z => newF z) (fun x => boxF x) (fun n z ps => bslF n z ps) (fun sz b z l c => mkF (.mks sz b z l c)) (mkF .mkm) (fun sz x v => stF sz x v) (fun sz b y x => appF sz b y x) (fun T x k v => mupF T x k v) (fun f args => callF f args) op

noncomputable def isValR (op : AOp) : Bool :=
  AOp.rec (motive := fun _ => Bool) (fun _ => true) (fun _ _ _ => true) (fun _ _ _ => true) (fun _ => true) (fun _ _ => true) (fun _ _ _ => true) (fun _ _ _ _ => true) (fun _ _ _ _ _ => true) (fun _ _ => true) (fun _ _ _ _ => true) (fun _ _ _ => true) (fun _ _ _ _ => true) (fun _ _ _ _ _ => true) (fun _ => true) (fun _ _ => true)
    (fun _ _ _ => true) (fun _ => true) (fun _ _ => true) (fun _ _ _ _ => true) (fun _ _ _ _ => true) (fun _ _ => true) (fun _ _ => true) (fun _ => false) (fun _ => false) (fun _ _ _ => false) (fun _ _ _ _ _ => false) false (fun _ _ _ => false) (fun _ _ _ _ => false) (fun _ _ _ _ => false) (fun _ _ => false) op
theorem isValR_eq (op : AOp) : isValR op = op.isVal := by cases op <;> rfl

noncomputable def gB (v : Value) (w : Bool) : Bool := Option.rec (motive := fun _ => Bool) false (fun b => Bool.rec (motive := fun _ => Bool) (bNot w) w b) (dBool v)
theorem gB_eq (v : Value) (w : Bool) : gB v w = gval v w := by
  cases v with
  | bool b => cases b <;> cases w <;> rfl
  | _ => rfl
noncomputable def guardK (g : Option (Nat × Bool)) (t : Tri Value) (yes no : Bool) : Bool :=
  Option.rec (motive := fun _ => Bool) yes (fun p => Bool.rec (motive := fun _ => Bool) no yes (gB (toT t p.1) p.2)) g

noncomputable def opsK (P : Program) (eo : EqO) (call : CallK) (ops : List AOper) : Tri Value → List Nat → Tri EObj → Nat → StK → Bool :=
  List.rec (motive := fun _ => Tri Value → List Nat → Tri EObj → Nat → StK → Bool) (fun t d h nx κ => κ t d h nx)
    (fun o _ ih t d h nx κ => guardK o.guard t (opF o.op ⟨P, eo, call, fun _ => true, nx, Nat.add nx 1, o.dst⟩ t d h nx fun _ t d h nx => natK nx fun nx => ih t d h nx κ) (putK t o.dst undef fun t => ih t d h nx κ)) ops

noncomputable def recOf (st : DStep) (t : Tri Value) (v : Value) (recs : List RecX) : List RecX := Bool.rec (motive := fun _ => List RecX) recs ((st.i, st.op.op, t, v) :: recs) (isValR st.op.op)
noncomputable def chkOf (P : Program) (recs : List RecX) (loose : List Nat) (h : Tri EObj) : Bool := List.rec (motive := fun _ => Bool) true (fun _ _ _ => stabsX P recs loose h) loose

noncomputable def drawK (P : Program) (eo : EqO) (call : CallK) (base : Nat) (l : List DStep) : List RecX → Tri Value → List Nat → Tri EObj → Nat → StK → Bool :=
  List.rec (motive := fun _ => List RecX → Tri Value → List Nat → Tri EObj → Nat → StK → Bool) (fun _ t d h nx κ => κ t d h nx)
    (fun st _ ih recs t d h nx κ => guardK st.op.guard t (natK (Nat.add base st.i) fun mk => opF st.op.op ⟨P, eo, call, chkOf P recs st.loose, mk, nx, st.op.dst⟩ t d h nx fun v t' d h nx => ih (recOf st t v recs) t' d h nx κ) (putK t st.op.dst undef fun t => ih recs t d h nx κ)) l

abbrev RunT := Nat → Option Nat → ACode → Tri Value → List Nat → Tri EObj → Nat → (AExit → StK) → Bool
abbrev Tab := Nat → Option (Nat × ACode × List AOp)

noncomputable def initK : List Value → Nat → Tri Value → (Tri Value → Bool) → Bool
  | [], _, t, κ => κ t
  | v :: vs, i, t, κ => Tri.setK v t i fun t => initK vs (Nat.add i 1) t κ
noncomputable def leaveK : List Nat → Tri EObj → (Tri EObj → Bool) → Bool
  | [], h, κ => κ h
  | n :: d, h, κ => match h.get n with
    | some .dfr => Tri.setK .gone h n fun h => leaveK d h κ
    | _ => false
noncomputable def troundK : List Nat → List Value → Tri Value → (Tri Value → Bool) → Bool
  | p :: ps, v :: vs, t, κ => Tri.setK v t p fun t => troundK ps vs t κ
  | [], _, t, κ => κ t
  | _ :: _, [], t, κ => κ t

noncomputable def ressK (P : Program) (t : Tri Value) (h : Tri EObj) : List AOp → (List Value → Bool) → Bool
  | [], κ => κ []
  | x :: l, κ => Option.rec (motive := fun _ => Bool) (opn (valX P (toT t) h x) fun v => valC v fun v => ressK P t h l fun vs => κ (v :: vs)) (fun x => evK t x fun v => ressK P t h l fun vs => κ (v :: vs)) (dMov x)
noncomputable def retK (P : Program) (rs : List AOp) (t : Tri Value) (d : List Nat) (h : Tri EObj) (nx : Nat) (κ : Value → Tri EObj → Nat → Bool) : Bool :=
  leaveK d h fun h => ressK P t h rs fun vs => List.rec (motive := fun _ => Bool) (κ (.tuple ⟨[]⟩) h nx) (fun v l _ => List.rec (motive := fun _ => Bool) (κ v h nx) (fun _ _ _ => κ (.tuple ⟨v :: l⟩) h nx) l) vs

noncomputable def funK (P : Program) (tab : Tab) (run : RunT) (f : FuncId) (args : List Value) (h : Tri EObj) (nx : Nat) (κ : Value → Tri EObj → Nat → Bool) : Bool :=
  match tab f with
  | none => false
  | some (N, ac, rs) => match Nat.ble args.length N with
    | true => initK args 0 .leaf fun t => run N none ac t [] h nx fun e t d h nx => match e with
      | .exit _ => false
      | .normal => retK P rs t d h nx κ
      | .ret => retK P rs t d h nx κ
    | false => false

noncomputable def roundEnd (n : Nat) (e : AExit) (h : Tri EObj) (nx : Nat) (κ : Value → Tri EObj → Nat → Bool) : Bool := match h.get n with
  | some (.loop ⟨_, _, t1, N1, ps1, as1, bo1, x1, y1, df1⟩) => match e with
    | .normal => Tri.setK (.loop ⟨.ready, none, t1, N1, ps1, as1, bo1, x1, y1, df1⟩) h n fun h => κ (.bool true) h nx
    | .ret => Tri.setK (.loop ⟨.done, some .ret, t1, N1, ps1, as1, bo1, x1, y1, df1⟩) h n fun h => κ (.bool false) h nx
    | .exit id => Tri.setK (.loop ⟨.done, some (.exit id), t1, N1, ps1, as1, bo1, x1, y1, df1⟩) h n fun h => κ (.bool false) h nx
  | _ => false
noncomputable def roundBusy (n : Nat) (h : Tri EObj) (κ : Tri EObj → Bool) : Bool := match h.get n with
  | some (.loop ⟨.ready, pd, t1, N1, ps1, as1, bo1, x1, y1, df1⟩) => Tri.setK (.loop ⟨.busy, pd, t1, N1, ps1, as1, bo1, x1, y1, df1⟩) h n κ
  | _ => false
noncomputable def roundK (run : RunT) (n : Nat) (args : List Value) (h : Tri EObj) (nx : Nat) (κ : Value → Tri EObj → Nat → Bool) : Bool :=
  match h.get n with
  | some (.loop ⟨_, _, t0, N, ps, _, _, x, y, _⟩) => match decide (args.length = ps.size) && ps.toList.all fun p => decide (p < N) with
    | true => troundK ps.toList args t0 fun t => run N (some n) x t [] h nx fun e t d h nx => match e with
        | .normal => roundBusy n h fun h => run N (some n) y t d h nx fun e _ _ h nx => roundEnd n e h nx κ
        | _ => false
    | false => false
  | _ => false

def isPtrD : TypeDesc → Bool
  | .pointer _ => true
  | _ => false

noncomputable def callWith (P : Program) (tab : Tab) (run : RunT) : CallK := fun fv args h nx κ => match fv with
  | .func (.func f) ⟨xs⟩ ⟨us⟩ => listK (fun v κ => κ v) (xs ++ args ++ us) fun as => funK P tab run f as h nx κ
  | .func (.via T ⟨[]⟩ f false) ⟨xs⟩ _ => match P.underlying T, xs ++ args with
    | some td, x :: rest => match isPtrD td with
      | true => false
      | false => listK (fun v κ => κ v) (x :: rest) fun as => funK P tab run f as h nx κ
    | _, _ => false
  | .func (.yield n) ⟨[]⟩ ⟨[]⟩ => roundK run n args h nx κ
  | _ => false

noncomputable def endK (n : Nat) (t : Tri Value) (d : List Nat) (h : Tri EObj) (nx : Nat) (κ : AExit → StK) : Bool :=
  match h.get n with
  | some (.loop ⟨st, pd, t1, N1, ps1, as1, bo1, x1, y1, df1⟩) => match decide (st = .busy) with
    | true => false
    | false => Tri.setK (.loop ⟨.exhausted, pd, t1, N1, ps1, as1, bo1, x1, y1, df1⟩) h n fun h => match pd with
      | none => κ .normal t d h nx
      | some .ret => κ .ret t d h nx
      | some (.exit id) => κ (.exit id) t d h nx
      | _ => false
  | _ => false

noncomputable def rangeK (P : Program) (tab : Tab) (run : RunT) (N : Nat) (ro : Option Nat) (g : Opd) (ps : Array Tmp) (assign body : Code) (x y : ACode) (t : Tri Value) (d : List Nat) (h : Tri EObj) (nx : Nat) (κ : AExit → StK) : Bool :=
  match g.ev (toT t) with
  | .func (.func f) ⟨xs⟩ ⟨us⟩ => match ro with
    | none => natK (Nat.add nx 1) fun l => natK (Nat.add l 1) fun nx' => Tri.setK .dfr h nx fun h => Tri.setK (.loop ⟨.ready, none, t, N, ps, assign, body, x, y, nx⟩) h l fun h =>
        listK (fun v κ => κ v) (xs ++ [.func (.yield l) #[] #[]] ++ us) fun as => funK P tab run f as h nx' fun _ h nx'' => endK l t (nx :: d) h nx'' κ
    | some l0 => match h.get l0 with
      | some (.loop ⟨_, _, _, _, _, _, _, _, _, df0⟩) => natK (Nat.add nx 1) fun nx' => Tri.setK (.loop ⟨.ready, none, t, N, ps, assign, body, x, y, df0⟩) h nx fun h =>
          listK (fun v κ => κ v) (xs ++ [.func (.yield nx) #[] #[]] ++ us) fun as => funK P tab run f as h nx' fun _ h nx'' => endK nx t d h nx'' κ
      | _ => false
  | _ => false

noncomputable def runS (P : Program) (eo : EqO) (tab : Tab) (W : CallK → CallK) (run : RunT) : RunT := fun N ro c t d h nx κ => match c with
    | .skip => κ .normal t d h nx
    | .region ops => opsK P eo (W (callWith P tab run)) ops t d h nx (κ .normal)
    | .draw n steps => natK (Nat.add nx n) fun nx' => drawK P eo (W (callWith P tab run)) nx steps [] t d h nx' (κ .normal)
    | .seq a b => run N ro a t d h nx fun e t d h nx => match e with
      | .normal => run N ro b t d h nx κ
      | .exit i => κ (.exit i) t d h nx
      | .ret => κ .ret t d h nx
    | .cond c a b => match c.ev (toT t) with
      | .bool true => run N ro a t d h nx κ
      | .bool false => run N ro b t d h nx κ
      | _ => false
    | .block i b => run N ro b t d h nx fun e t d h nx => match e with
      | .normal => κ .normal t d h nx
      | .exit j => match Nat.beq j i with
        | true => κ .normal t d h nx
        | false => κ (.exit j) t d h nx
      | .ret => κ .ret t d h nx
    | .loop b => run N ro b t d h nx fun e t d h nx => match e with
      | .normal => run N ro (.loop b) t d h nx κ
      | .exit i => κ (.exit i) t d h nx
      | .ret => κ .ret t d h nx
    | .exit i => κ (.exit i) t d h nx
    | .ret => κ .ret t d h nx
    | .rangeF g ps assign body x y => rangeK P tab run N ro g ps assign body x y t d h nx κ

noncomputable def runK (P : Program) (eo : EqO) (tab : Tab) (W : CallK → CallK) (f : Nat) : RunT :=
  Nat.rec (motive := fun _ => RunT) (fun _ _ _ _ _ _ _ _ => false) (fun _ ih => runS P eo tab W ih) f

end Go.Ab


namespace Go.Ab

theorem brec_true {b x : Bool} (h : Bool.rec (motive := fun _ => Bool) false x b = true) : b = true ∧ x = true := by
  cases b
  · cases h
  · exact ⟨rfl, h⟩
theorem thenB_true {b x : Bool} (h : thenB b x = true) : b = true ∧ x = true := by
  cases b
  · cases h
  · exact ⟨rfl, h⟩

def putT (t : Nat → Value) (dst : Option Nat) (v : Value) : Nat → Value := match dst with
  | none => t
  | some d => upd t d v
theorem put_putT {t : Nat → Value} {d : List Nat} {H : Heap} {dst : Option Nat} {v : Value} : St.put ⟨t, d, H⟩ dst v = ⟨putT t dst v, d, H⟩ := by cases dst <;> rfl

theorem toT_set {t t' : Tri Value} {k : Nat} {v : Value} (h : ∀ j, t'.get j = if j = k then some v else t.get j) : toT t' = upd (toT t) k v := by
  funext j
  simp only [toT, upd, h]
  split <;> rfl
theorem putK_ok {t : Tri Value} {dst : Option Nat} {v : Value} {κ : Tri Value → Bool} (h : putK t dst v κ = true) : ∃ t', κ t' = true ∧ toT t' = putT (toT t) dst v := by
  cases dst with
  | none => exact ⟨t, h, rfl⟩
  | some d =>
    obtain ⟨t', h1, h2⟩ := Tri.setK_ok (show Tri.setK v t d κ = true from h)
    exact ⟨t', h1, toT_set h2⟩

theorem toH_set {F : Nat → FuncId} {h h' : Tri EObj} {n nx nx' : Nat} {o : EObj} (hs : ∀ j, h'.get j = if j = n then some o else h.get j) :
    toH F h' nx' = { get := fun m => if m = n then o.toA (F n) else (toH F h nx).get m, next := nx' } := by
  simp only [toH, Heap.mk.injEq, and_true]
  funext m
  rw [hs]
  by_cases e : m = n
  · subst e; simp
  · simp [e]
theorem toH_get {F : Nat → FuncId} {h : Tri EObj} {n nx : Nat} {o : EObj} (hg : h.get n = some o) : (toH F h nx).get n = o.toA (F n) := by simp [toH, hg]

def HOk (P : Program) (h : Tri EObj) : Prop := ∀ n r, h.get n = some (.loop r) → ccode P r.N (cdraw P r.N) r.assign = some r.x ∧ ccode P r.N (cdraw P r.N) r.body = some r.y
theorem HOk.set {P : Program} {h h' : Tri EObj} (hh : HOk P h) {n : Nat} {o : EObj} (hs : ∀ j, h'.get j = if j = n then some o else h.get j)
    (ho : ∀ r, o = .loop r → ccode P r.N (cdraw P r.N) r.assign = some r.x ∧ ccode P r.N (cdraw P r.N) r.body = some r.y) : HOk P h' := by
  intro m r hm
  rw [hs] at hm
  split at hm
  · exact ho r (Option.some.inj hm)
  · exact hh m r hm

section
variable {P : Program} {t : Nat → Value} {h : Tri EObj} {F : Nat → FuncId} {nx : Nat}

theorem lkpX_ok {T : TypeId} {z k v : Value} {es : List (Value × Value × Nat)} (he : lkpX P T z k es = some v) : lkpV P T z k es = some v := by
  unfold lkpX at he
  split at he
  · rename_i hf
    simp only [Bool.and_eq_true] at hf
    unfold lkpV
    rw [if_pos ⟨hf.1.1, hf.1.2, hf.2⟩]
    split at he
    · rename_i i hT hk; rw [keyF_ok hT hk]; exact he
    · rename_i hT hk; rw [keyF_ok hT hk]; exact he
    · cases he
  · cases he
theorem lk1X_ok {T : TypeId} {z k v : Value} {es : List (Value × Value × Nat)} (he : lk1X P T z k es = some v) : lk1V P T z k es = some v := by
  unfold lk1X at he
  split at he
  · rename_i hf
    simp only [Bool.and_eq_true] at hf
    unfold lk1V
    rw [if_pos ⟨hf.1.1, hf.1.2, hf.2⟩]
    split at he
    · rename_i i hT hk; rw [keyF_ok hT hk]; exact he
    · rename_i hT hk; rw [keyF_ok hT hk]; exact he
    · cases he
  · cases he

theorem valX_ok {op : AOp} {v : Value} (he : valX P t h op = some v) : aval P t (toH F h nx) op = some v := by
  cases op with
  | ld agg sz x =>
    simp only [valX] at he
    simp only [aval]
    split at he
    · rename_i n off hx
      split at he
      · rename_i rw cs c hg
        rw [hx]
        simp only [toH_get hg, EObj.toA]
        exact he
      · cases he
    · cases he
  | lkp T z x k =>
    simp only [valX] at he
    simp only [aval]
    split at he
    · rename_i n hx
      split at he
      · rename_i es c hg
        rw [hx]
        simp only [toH_get hg, EObj.toA]
        exact lkpX_ok he
      · cases he
    · cases he
  | lk1 T z x k =>
    simp only [valX] at he
    simp only [aval]
    split at he
    · rename_i n hx
      split at he
      · rename_i es c hg
        rw [hx]
        simp only [toH_get hg, EObj.toA]
        exact lk1X_ok he
      · cases he
    · cases he
  | gen N o =>
    simp only [valX] at he
    simp only [aval]
    split at he
    · rename_i hf
      rw [if_pos hf]
      exact genX_ok he
    · cases he
  | _ => exact avalC_ok he

theorem slE_ok {sz : Nat} {v : Value} {r : Nat × List Value} (he : slE h sz v = some r) : slCells (toH F h nx) sz v = some r := by
  unfold slE at he
  split at he
  · exact he
  · rename_i m o k cap
    split at he
    · rename_i rw cs c hg
      simp only [slCells, toH_get hg, EObj.toA]
      exact he
    · cases he
  · exact he
  · cases he

theorem sameL_ok {g : Value → Value → Bool} (hg : ∀ u v, g u v = true → u = v) : ∀ {xs ys : List Value}, sameL g xs ys = true → xs = ys
  | [], [], _ => rfl
  | x :: xs, y :: ys, h => by
    simp only [sameL, Bool.and_eq_true] at h
    rw [hg _ _ h.1, sameL_ok hg h.2]
  | [], _ :: _, h => by simp [sameL] at h
  | _ :: _, [], h => by simp [sameL] at h
theorem same_ok : ∀ {f : Nat} {u v : Value}, same f u v = true → u = v
  | 0, _, _, h => by simp [same] at h
  | f + 1, u, v, h => by
    unfold same at h
    split at h
    · rw [beq_iff_eq.1 h]
    · simp only [Bool.and_eq_true, decide_eq_true_eq] at h; rw [h.1, h.2]
    · rw [of_decide_eq_true h]
    · rw [of_decide_eq_true h]
    · simp only [Bool.and_eq_true, decide_eq_true_eq] at h; rw [h.1.1, h.1.2, h.2]
    · rw [of_decide_eq_true h]
    · rfl
    · rfl
    · simp only [Bool.and_eq_true, decide_eq_true_eq] at h
      rw [h.1.1, sameL_ok (fun _ _ => same_ok) h.1.2, sameL_ok (fun _ _ => same_ok) h.2]
    · rw [sameL_ok (fun _ _ => same_ok) h]
    · rw [sameL_ok (fun _ _ => same_ok) h]
    · cases h
end

def recsA (P : Program) (l : List RecX) : Recs := l.map fun r => (r.1, fun H => aval P (toT r.2.2.1) H r.2.1 = some r.2.2.2)
theorem stabsX_ok {P : Program} {loose : List Nat} {h : Tri EObj} {F : Nat → FuncId} {nx : Nat} : ∀ {l : List RecX}, stabsX P l loose h = true → stabs (recsA P l) loose (toH F h nx)
  | [], _ => trivial
  | (i, op, t, v) :: l, hs => by
    simp only [stabsX, Bool.and_eq_true] at hs
    refine ⟨?_, stabsX_ok hs.2⟩
    split
    · rename_i hc
      have h1 := hs.1
      rw [if_pos hc] at h1
      split at h1
      · rename_i u hu
        rw [← same_ok h1]
        exact valX_ok hu
      · cases h1
    · trivial
theorem stabs_none : ∀ {l : Recs} {H : Heap}, stabs l [] H
  | [], _ => trivial
  | (i, p) :: l, H => ⟨by simp, stabs_none⟩
theorem chkOf_ok {P : Program} {l : List RecX} {loose : List Nat} {h : Tri EObj} {F : Nat → FuncId} {nx : Nat} (hs : chkOf P l loose h = true) : stabs (recsA P l) loose (toH F h nx) := by
  cases loose with
  | nil => exact stabs_none
  | cons i loose => exact stabsX_ok hs

def CallOk (P : Program) (call : CallK) : Prop := ∀ fv args h nx κ, call fv args h nx κ = true → HOk P h → ∃ v h1 nx1, κ v h1 nx1 = true ∧ HOk P h1 ∧
  ∀ (F : Nat → FuncId) (R : Value → Heap → Prop), (∀ F', R v (toH F' h1 nx1)) → ACall P fv args (toH F h nx) R

def Did (a : OpA) (op : AOp) (t : Tri Value) (h : Tri EObj) (nx : Nat) (v : Value) (t1 : Tri Value) (h1 : Tri EObj) (nx1 : Nat) : Prop :=
  toT t1 = putT (toT t) a.dst v ∧
  ((op.isVal = true ∧ h1 = h ∧ nx1 = nx ∧ ∀ F, aval a.P (toT t) (toH F h nx) op = some v) ∨
   (op.isMake = true ∧ nx1 = a.nx' ∧ ∃ x, amake (toT t) a.at_ op = some (x, v) ∧ ∀ F, toH F h1 a.nx' = { get := fun m => if m = a.at_ then x else (toH F h nx).get m, next := a.nx' }) ∨
   (op.isStore = true ∧ v = undef ∧ nx1 = nx ∧ a.chk h1 = true ∧ ∀ F, astore a.P (toT t) (toH F h nx) op = some (toH F h1 nx)) ∨
   (op.isApp = true ∧ nx1 = a.nx' ∧ a.chk h1 = true ∧ ∀ F K, K v (toH F h1 a.nx') → aapp (toT t) (toH F h nx) a.at_ a.nx' K op) ∨
   (∃ f args, op = .call f args ∧ a.chk h1 = true ∧ ∀ (F : Nat → FuncId) (R : Value → Heap → Prop), (∀ F', R v (toH F' h1 nx1)) → ACall a.P (f.ev (toT t)) (args.map (·.ev (toT t))) (toH F h nx) R))

section
variable {a : OpA} {t : Tri Value} {d : List Nat} {h : Tri EObj} {nx : Nat} {κ : Value → StK} {v : Value}

def ValOk (op : AOp) (f : OpF) : Prop := ∀ a t d h nx κ, EqOk a.P a.eo → f a t d h nx κ = true → ∃ v, (∀ F, aval a.P (toT t) (toH F h nx) op = some v) ∧ outK v a.dst t d h nx κ = true

theorem vK_ok {r : Option Value} {t : Tri Value} {dst : Option Nat} {κ : Value → StK} {d : List Nat} {h : Tri EObj} {nx : Nat} (hk : vK r t dst (fun v t => κ v t d h nx) = true) : ∃ v, r = some v ∧ outK v dst t d h nx κ = true := by
  cases r with
  | none => cases hk
  | some v =>
    have : valC v (fun v => putK t dst v fun t => κ v t d h nx) = true := hk
    rw [valC_eq] at this
    exact ⟨v, rfl, this⟩

theorem movF_ok (x : Opd) : ValOk (.mov x) (movF x) := fun a t d h nx κ _ hk => by
  unfold movF at hk
  rw [evK_eq] at hk
  exact ⟨_, fun F => rfl, hk⟩
theorem binF_ok (o : BinOp) (x y : Opd) : ValOk (.bin o x y) (binF o x y) := fun a t d h nx κ _ hk => by
  unfold binF at hk
  rw [evK_eq, evK_eq] at hk
  obtain ⟨⟨k, m⟩, hp, hk⟩ := opn_ok hk
  obtain ⟨⟨k', n⟩, hq, hk⟩ := opn_ok hk
  obtain ⟨hb, hk⟩ := brec_true hk
  have := kIx_ok hb
  simp only at this
  subst this
  obtain ⟨r, h1, h2⟩ := binZ_ok hk
  refine ⟨r, fun F => ?_, h2⟩
  simp only [aval, dInt_ok hp, dInt_ok hq]
  exact h1
theorem notF_ok (x : Opd) : ValOk (.not x) (notF x) := fun a t d h nx κ _ hk => by
  unfold notF at hk
  rw [evK_eq] at hk
  obtain ⟨b, hp, hk⟩ := opn_ok hk
  rw [outB_eq] at hk
  have e : bNot b = !b := by cases b <;> rfl
  rw [e] at hk
  refine ⟨_, fun F => ?_, hk⟩
  simp only [aval, dBool_ok hp]
theorem ldF_ok (agg : Bool) (sz : Nat) (x : Opd) : ValOk (.ld agg sz x) (ldF agg sz x) := fun a t d h nx κ _ hk => by
  unfold ldF at hk
  rw [evK_eq] at hk
  obtain ⟨⟨n, off⟩, hp, hk⟩ := opn_ok hk
  obtain ⟨o, hg, hk⟩ := opn_ok hk
  obtain ⟨⟨q, cs, c⟩, hc, hk⟩ := opn_ok hk
  have hc := dCells_ok hc
  subst hc
  cases agg
  · have hk' : (opn (lnth cs off) fun v => outK v a.dst t d h nx κ) = true := hk
    obtain ⟨v, hv, hk⟩ := opn_ok hk'
    rw [lnth_eq] at hv
    refine ⟨v, fun F => ?_, hk⟩
    simp only [aval, dPtr_ok hp, toH_get hg, EObj.toA]
    simpa using hv
  · have hk' : Bool.rec (motive := fun _ => Bool) false (ltakeK sz (ldrop off cs) fun l => outK (.agg ⟨l⟩) a.dst t d h nx κ) (Nat.ble 1 sz) = true := hk
    obtain ⟨hz, hk'⟩ := brec_true hk'
    have hz := Nat.le_of_ble_eq_true hz
    obtain ⟨h1, h2⟩ := ltakeK_ok hk'
    rw [ldrop_eq] at h1 h2
    refine ⟨_, fun F => ?_, h1⟩
    simp only [aval, dPtr_ok hp, toH_get hg, EObj.toA, if_true]
    simp only [List.length_drop] at h2
    have : off + sz ≤ cs.length := by omega
    simp [rdL, this]
theorem fldF_ok (agg : Bool) (off sz : Nat) (x : Opd) : ValOk (.fld agg off sz x) (fldF agg off sz x) := fun a t d h nx κ _ hk => by
  unfold fldF at hk
  rw [evK_eq] at hk
  obtain ⟨c, hc, hk⟩ := opn_ok hk
  cases agg
  · have hk' : (opn (lnth c off) fun v => outK v a.dst t d h nx κ) = true := hk
    obtain ⟨v, hv, hk⟩ := opn_ok hk'
    rw [lnth_eq] at hv
    refine ⟨v, fun F => ?_, hk⟩
    simp only [aval, dAgg_ok' hc]
    simpa using hv
  · have hk' : (ltakeK sz (ldrop off c) fun l => outK (.agg ⟨l⟩) a.dst t d h nx κ) = true := hk
    obtain ⟨h1, h2⟩ := ltakeK_ok hk'
    rw [ldrop_eq] at h1
    refine ⟨_, fun F => ?_, h1⟩
    simp only [aval, dAgg_ok' hc, if_true, Option.some.injEq, Value.agg.injEq]
    apply Array.toList_inj.1
    simp [List.extract_eq_take_drop]
theorem faF_ok (off : Nat) (x : Opd) : ValOk (.fa off x) (faF off x) := fun a t d h nx κ _ hk => by
  unfold faF at hk
  rw [evK_eq] at hk
  obtain ⟨⟨n, o⟩, hp, hk⟩ := opn_ok hk
  rw [natK_eq, natK_eq] at hk
  refine ⟨_, fun F => ?_, hk⟩
  simp only [aval, dPtr_ok hp]; rfl
theorem int_of {q : Int} {f : Nat → Bool} {h : Int.rec (motive := fun _ => Bool) (fun m => f m) (fun _ => false) q = true} : ∃ m : Nat, q = (m : Int) ∧ f m = true := by
  cases q with
  | ofNat m => exact ⟨m, rfl, h⟩
  | negSucc m => cases h
theorem islF_ok (sz : Nat) (x i : Opd) : ValOk (.isl sz x i) (islF sz x i) := fun a t d h nx κ _ hk => by
  unfold islF at hk
  rw [evK_eq, evK_eq] at hk
  obtain ⟨⟨n, o, l⟩, hp, hk⟩ := opn_ok hk
  obtain ⟨⟨k, q⟩, hq, hk⟩ := opn_ok hk
  obtain ⟨m, hm, hk2⟩ := int_of (h := hk)
  obtain ⟨hb, hk3⟩ := brec_true hk2
  rw [natK_eq, natK_eq] at hk3
  clear hk hk2
  have hb := Nat.le_of_ble_eq_true hb
  simp only at hm
  subst hm
  obtain ⟨cap, hv⟩ := dSl_ok hp
  refine ⟨_, fun F => ?_, hk3⟩
  have hb' : m < l := hb
  simp only [aval, hv, dInt_ok hq]
  rw [if_pos ⟨by omega, by omega⟩]
  rfl
theorem iarF_ok (len sz : Nat) (x i : Opd) : ValOk (.iar len sz x i) (iarF len sz x i) := fun a t d h nx κ _ hk => by
  unfold iarF at hk
  rw [evK_eq, evK_eq] at hk
  obtain ⟨⟨n, o⟩, hp, hk⟩ := opn_ok hk
  obtain ⟨⟨k, q⟩, hq, hk⟩ := opn_ok hk
  obtain ⟨m, hm, hk2⟩ := int_of (h := hk)
  obtain ⟨hb, hk3⟩ := brec_true hk2
  rw [natK_eq, natK_eq] at hk3
  clear hk hk2
  have hb := Nat.le_of_ble_eq_true hb
  simp only at hm
  subst hm
  refine ⟨_, fun F => ?_, hk3⟩
  have hb' : m < len := hb
  simp only [aval, dPtr_ok hp, dInt_ok hq]
  rw [if_pos ⟨by omega, by omega⟩]
  rfl
theorem lenF_ok (x : Opd) : ValOk (.len x) (lenF x) := fun a t d h nx κ _ hk => by
  unfold lenF at hk
  rw [evK_eq] at hk
  obtain ⟨n, hn, hk⟩ := opn_ok hk
  rw [natK_eq] at hk
  obtain ⟨q, c, hv⟩ := dLen_ok hn
  refine ⟨_, fun F => ?_, hk⟩
  simp only [aval, hv]; rfl
theorem extF_ok (x : Opd) (i : Nat) : ValOk (.ext x i) (extF x i) := fun a t d h nx κ _ hk => by
  unfold extF at hk
  rw [evK_eq] at hk
  obtain ⟨c, hc, hk⟩ := opn_ok hk
  obtain ⟨v, hv, hk⟩ := opn_ok hk
  rw [lnth_eq] at hv
  refine ⟨v, fun F => ?_, hk⟩
  simp only [aval, dTup_ok hc]
  simpa using hv
theorem fnF_ok (f : Fn) (x y : List Opd) : ValOk (.fn f x y) (fnF f x y) := fun a t d h nx κ _ hk => by
  unfold fnF at hk
  rw [evsK_eq, evsK_eq] at hk
  exact ⟨_, fun F => rfl, hk⟩
theorem pickF_ok (c x y : Opd) : ValOk (.pick c x y) (pickF c x y) := fun a t d h nx κ _ hk => by
  unfold pickF at hk
  rw [evK_eq, evK_eq, evK_eq] at hk
  obtain ⟨b, hb, hk⟩ := opn_ok hk
  cases b
  · exact ⟨_, fun F => by simp only [aval, dBool_ok hb], hk⟩
  · exact ⟨_, fun F => by simp only [aval, dBool_ok hb], hk⟩
theorem idK_eq : ∀ (l : List Value) (κ : List Value → Bool), listK (fun v κ => κ v) l κ = κ l := listK_eq fun _ _ => rfl
theorem partsK_ok {t : Tri Value} : ∀ {ps : List (Nat × Nat × Opd)} {z : List Value} {κ : List Value → Bool}, partsK t ps z κ = true → ∃ l, fillA z (ps.map fun (off, sz, x) => (off, sz, x.ev (toT t))) = some l ∧ κ l = true
  | [], z, κ, h => ⟨z, rfl, h⟩
  | (off, sz, x) :: ps, z, κ, h => by
    unfold partsK at h
    rw [evK_eq, cellsL_eq] at h
    obtain ⟨hb, h⟩ := brec_true h
    rw [idK_eq] at h
    obtain ⟨l, h1, h2⟩ := partsK_ok h
    rw [Bool.and_eq_true] at hb
    have b1 := Nat.eq_of_beq_eq_true hb.1
    have b2 := Nat.le_of_ble_eq_true hb.2
    refine ⟨l, ?_, h2⟩
    simp only [List.map_cons, fillA]
    rw [if_pos ⟨by simpa using b1, by simpa using b2⟩, ← h1]
    congr 1

theorem bldF_ok (z : List Value) (ps : List (Nat × Nat × Opd)) : ValOk (.bld z ps) (bldF z ps) := fun a t d h nx κ _ hk => by
  unfold bldF at hk
  obtain ⟨l, h1, h2⟩ := partsK_ok hk
  refine ⟨_, fun F => ?_, h2⟩
  simp only [aval, h1, Option.map_some]
theorem valF_ok (op : AOp) : ValOk op (valF op) := fun a t d h nx κ _ hk => by
  obtain ⟨v, h1, h2⟩ := vK_ok hk
  exact ⟨v, fun F => valX_ok h1, h2⟩
theorem genF_ok (N : Nat) (o : Oper) : ValOk (.gen N o) (genF N o) := fun a t d h nx κ he hk => by
  unfold genF at hk
  cases hd : dBin o.op with
  | none => rw [hd] at hk; exact valF_ok _ a t d h nx κ he hk
  | some p =>
    obtain ⟨op, T, x, y⟩ := p
    rw [hd] at hk
    simp only at hk
    cases hg : genQ a.eo N op T x y (evO (toT t) x) (evO (toT t) y) fun v => outK v a.dst t d h nx κ with
    | none => rw [hg] at hk; exact valF_ok _ a t d h nx κ he hk
    | some r =>
      rw [hg] at hk
      obtain ⟨U, ho⟩ := dBin_ok hd
      have key := fun H : Heap => genQ_ok (P := a.P) (H := H) he ho hg hk
      obtain ⟨v, h1, h2⟩ := key (toH (fun _ => 0) h nx)
      refine ⟨v, fun F => ?_, h2⟩
      rw [aval_pure (H' := toH (fun _ => 0) h nx) rfl]
      exact h1

theorem outK_ok {v : Value} {dst : Option Nat} {t : Tri Value} {d : List Nat} {h : Tri EObj} {nx : Nat} {κ : Value → StK} (hk : outK v dst t d h nx κ = true) : ∃ t', κ v t' d h nx = true ∧ toT t' = putT (toT t) dst v := putK_ok hk

theorem ValOk.did {op : AOp} {f : OpF} (hf : ValOk op f) (hv : op.isVal = true) (he : EqOk a.P a.eo) (hk : f a t d h nx κ = true) (hh : HOk a.P h) : ∃ v t1 h1 nx1, κ v t1 d h1 nx1 = true ∧ HOk a.P h1 ∧ Did a op t h nx v t1 h1 nx1 := by
  obtain ⟨v, h1, h2⟩ := hf a t d h nx κ he hk
  obtain ⟨t', h3, h4⟩ := outK_ok h2
  exact ⟨v, t', h, nx, h3, hh, h4, .inl ⟨hv, rfl, rfl, h1⟩⟩

theorem makeE_ok {op : AOp} {x : EObj} {w : Nat → Value} {y : AObj} (hop : op.isMake = true) (hx : ∀ n, x.toA n = y) (hxl : ∀ r, x ≠ .loop r) (hm : amake (toT t) a.at_ op = some (y, w a.at_))
    (hk : makeE x w a t d h nx κ = true) (hh : HOk a.P h) : ∃ v t1 h1 nx1, κ v t1 d h1 nx1 = true ∧ HOk a.P h1 ∧ Did a op t h nx v t1 h1 nx1 := by
  unfold makeE at hk
  obtain ⟨h1, hk, hs⟩ := Tri.setK_ok hk
  rw [natK_eq] at hk
  obtain ⟨t', h3, h4⟩ := outK_ok hk
  refine ⟨_, t', h1, a.nx', h3, hh.set hs fun r hr => absurd hr (hxl r), h4, .inr (.inl ⟨hop, rfl, y, hm, fun F => ?_⟩)⟩
  rw [toH_set hs, hx]
theorem emake_ok {op : AOp} {t : Nat → Value} {n : Nat} {x : EObj} {v : Value} (he : emake t n op = some (x, v)) : ∃ y, (∀ m, x.toA m = y) ∧ (∀ r, x ≠ .loop r) ∧ amake t n op = some (y, v) := by
  cases op with
  | new z => simp only [emake, Option.some.injEq, Prod.mk.injEq] at he; obtain ⟨rfl, rfl⟩ := he; exact ⟨_, fun _ => rfl, fun r hr => (by cases hr), rfl⟩
  | box z => simp only [emake, Option.some.injEq, Prod.mk.injEq] at he; obtain ⟨rfl, rfl⟩ := he; exact ⟨_, fun _ => rfl, fun r hr => (by cases hr), rfl⟩
  | bsl l z ps =>
    simp only [emake, Option.map_eq_some_iff, Prod.mk.injEq] at he
    obtain ⟨l', h1, rfl, rfl⟩ := he
    exact ⟨_, fun _ => rfl, fun r hr => (by cases hr), by simp only [amake, h1, Option.map_some]⟩
  | mks sz b z l c =>
    simp only [emake] at he
    simp only [amake]
    split at he
    · rename_i k1 l1 k2 c1 e1 e2
      split at he
      · rename_i hb
        simp only [Option.some.injEq, Prod.mk.injEq] at he
        obtain ⟨rfl, rfl⟩ := he
        exact ⟨_, fun _ => rfl, fun r hr => (by cases hr), by rw [e1, e2]; simp only; rw [if_pos hb]⟩
      · cases he
    · cases he
  | mkm => simp only [emake, Option.some.injEq, Prod.mk.injEq] at he; obtain ⟨rfl, rfl⟩ := he; exact ⟨_, fun _ => rfl, fun r hr => (by cases hr), rfl⟩
  | _ => simp [emake] at he
end

end Go.Ab


namespace Go.Ab

section
variable {a : OpA} {t : Tri Value} {d : List Nat} {h : Tri EObj} {nx : Nat} {κ : Value → StK}

theorem stF_did {sz : Nat} {x v : Opd} (hk : stF sz x v a t d h nx κ = true) (hh : HOk a.P h) : ∃ w t1 h1 nx1, κ w t1 d h1 nx1 = true ∧ HOk a.P h1 ∧ Did a (.st sz x v) t h nx w t1 h1 nx1 := by
  unfold stF at hk
  rw [evK_eq, evK_eq] at hk
  obtain ⟨⟨n, off⟩, hp, hk⟩ := opn_ok hk
  obtain ⟨o, hg, hk⟩ := opn_ok hk
  obtain ⟨⟨q, cs, c⟩, hc, hk2⟩ := opn_ok hk
  clear hk
  have hk := hk2
  clear hk2
  have hc := dCells_ok hc
  subst hc
  rw [cellsL_eq] at hk
  obtain ⟨hb, hk⟩ := brec_true hk
  rw [idK_eq] at hk
  obtain ⟨h1, hk, hs⟩ := Tri.setK_ok hk
  obtain ⟨hch, hk⟩ := thenB_true hk
  obtain ⟨t1, hk9, ht⟩ := putK_ok hk
  simp only [Bool.and_eq_true] at hb
  obtain ⟨rfl, b1, b2, b3⟩ := hb
  have b1 := Nat.eq_of_beq_eq_true b1
  have b2 : off + sz ≤ cs.length := Nat.le_of_ble_eq_true b2
  refine ⟨undef, t1, h1, nx, hk9, hh.set hs fun r hr => (by cases hr), ht, .inr (.inr (.inl ⟨rfl, rfl, rfl, hch, fun F => ?_⟩))⟩
  simp only [astore, dPtr_ok hp, toH_get hg, EObj.toA]
  rw [if_pos ⟨by simpa using b1, b2, b3⟩]
  rw [toH_set (nx := nx) hs]
  rfl

theorem ent_eq : ∀ (l : List (Value × Value × Nat)) (κ : List (Value × Value × Nat) → Bool), listK entK l κ = κ l :=
  listK_eq fun e κ => by unfold entK; rw [valC_eq, valC_eq, natK_eq]

theorem mupF_did {T : TypeId} {x k v : Opd} (hk : mupF T x k v a t d h nx κ = true) (hh : HOk a.P h) : ∃ w t1 h1 nx1, κ w t1 d h1 nx1 = true ∧ HOk a.P h1 ∧ Did a (.mup T x k v) t h nx w t1 h1 nx1 := by
  unfold mupF at hk
  rw [evK_eq, evK_eq, evK_eq] at hk
  unfold mupK at hk
  split at hk
  · rename_i n hx
    split at hk
    · rename_i es clock hg
      split at hk
      · rename_i hf
        rw [Bool.and_eq_true] at hf
        split at hk
        · rename_i dT hT hK
          rw [ent_eq, natK_eq] at hk
          obtain ⟨h1, hk, hs⟩ := Tri.setK_ok hk
          obtain ⟨hch, hk⟩ := thenB_true hk
          obtain ⟨t1, hk, ht⟩ := putK_ok hk
          refine ⟨undef, t1, h1, nx, hk, hh.set hs fun r hr => (by cases hr), ht, .inr (.inr (.inl ⟨rfl, rfl, rfl, hch, fun F => ?_⟩))⟩
          simp only [astore, hx, toH_get hg, EObj.toA]
          rw [if_pos hf, keyF_ok hT hK, toH_set (nx := nx) hs]
          rfl
        · rename_i dT i hT hK
          split at hk
          · rename_i e he
            split at hk
            · rename_i hsame
              rw [ent_eq] at hk
              obtain ⟨h1, hk, hs⟩ := Tri.setK_ok hk
              obtain ⟨hch, hk⟩ := thenB_true hk
              obtain ⟨t1, hk, ht⟩ := putK_ok hk
              refine ⟨undef, t1, h1, nx, hk, hh.set hs fun r hr => (by cases hr), ht, .inr (.inr (.inl ⟨rfl, rfl, rfl, hch, fun F => ?_⟩))⟩
              simp only [astore, hx, toH_get hg, EObj.toA]
              rw [if_pos hf, keyF_ok hT hK, toH_set (nx := nx) hs]
              simp only [he]
              rw [if_pos hsame]
              rfl
            · cases hk
          · cases hk
        · cases hk
      · cases hk
    · cases hk
  · cases hk

theorem baseK_ok {sz : Nat} {v : Value} {κ : Nat → List Value → Option Nat → Nat → Bool} (hk : baseK h sz v κ = true) : ∃ len cs old cap, κ len cs old cap = true ∧ (∀ F, baseOf (toH F h nx) sz v = some (len, cs, old, cap)) ∧ ∀ q, old = some q → ∃ b cs0 c, h.get q = some (.cells b cs0 c) := by
  unfold baseK at hk
  cases hd : dSlc v with
  | none =>
    rw [hd] at hk
    obtain ⟨hb, hk⟩ := brec_true hk
    have := dNilS_ok hb
    subst this
    exact ⟨0, [], none, 0, hk, fun F => rfl, fun q hq => (by cases hq)⟩
  | some p =>
    obtain ⟨n, o, l, c⟩ := p
    rw [hd] at hk
    have hv := dSlc_ok hd
    subst hv
    obtain ⟨ob, hg, hk⟩ := opn_ok hk
    obtain ⟨⟨q, cs, cc⟩, hc, hk2⟩ := opn_ok hk
    clear hk
    have hk := hk2
    clear hk2
    have hc := dCells_ok hc
    subst hc
    obtain ⟨hb, hk⟩ := brec_true hk
    simp only [Bool.and_eq_true] at hb
    obtain ⟨rfl, b1, b2, b3⟩ := hb
    have b1 : o + l * sz = cs.length := Nat.eq_of_beq_eq_true b1
    have b2 : o + c * sz ≤ cc := Nat.le_of_ble_eq_true b2
    have b3 : l ≤ c := Nat.le_of_ble_eq_true b3
    rw [ldrop_eq] at hk
    refine ⟨l, cs.drop o, some n, c, hk, fun F => ?_, fun q hq => ⟨_, _, _, by cases hq; exact hg⟩⟩
    simp only [baseOf, toH_get hg, EObj.toA]
    rw [if_pos ⟨b1, b2, b3⟩]

theorem slK_ok {sz : Nat} {v : Value} {κ : Nat → List Value → Bool} (hk : slK h sz v κ = true) : ∃ m new, κ m new = true ∧ ∀ F, slCells (toH F h nx) sz v = some (m, new) := by
  unfold slK at hk
  cases hd : dSlc v with
  | none =>
    rw [hd] at hk
    simp only at hk
    cases hn : dNilS v with
    | false =>
      rw [hn] at hk
      obtain ⟨⟨m, l⟩, h1, hk⟩ := opn_ok hk
      rw [idK_eq] at hk
      exact ⟨m, l, hk, fun F => slE_ok h1⟩
    | true =>
      rw [hn] at hk
      have := dNilS_ok hn
      subst this
      exact ⟨0, [], hk, fun F => rfl⟩
  | some p =>
    obtain ⟨n, o, l, c⟩ := p
    rw [hd] at hk
    have hv := dSlc_ok hd
    subst hv
    obtain ⟨ob, hg, hk⟩ := opn_ok hk
    obtain ⟨⟨q, cs, cc⟩, hc, hk2⟩ := opn_ok hk
    clear hk
    have hk := hk2
    clear hk2
    have hc := dCells_ok hc
    subst hc
    obtain ⟨hb, hk⟩ := brec_true hk
    have hb : o ≤ cs.length := Nat.le_of_ble_eq_true hb
    obtain ⟨hk, hl⟩ := ltakeK_ok hk
    rw [ldrop_eq] at hk hl
    refine ⟨l, _, hk, fun F => ?_⟩
    simp only [slCells, toH_get hg, EObj.toA]
    have hl' : l * sz ≤ (cs.drop o).length := hl
    simp only [List.length_drop] at hl'
    have : o + l * sz ≤ cs.length := by omega
    simp only [rdL, if_pos this, Option.map_some]
    rfl

theorem appF_did {sz bytes : Nat} {y x : Opd} (hk : appF sz bytes y x a t d h nx κ = true) (hh : HOk a.P h) : ∃ w t1 h1 nx1, κ w t1 d h1 nx1 = true ∧ HOk a.P h1 ∧ Did a (.app sz bytes y x) t h nx w t1 h1 nx1 := by
  unfold appF at hk
  rw [evK_eq, evK_eq] at hk
  unfold appK at hk
  obtain ⟨len, cs, old, cap, hk, hbase, hold⟩ := baseK_ok (nx := nx) hk
  obtain ⟨m, new, hk, hsl⟩ := slK_ok (nx := nx) hk
  obtain ⟨hb, hk⟩ := brec_true hk
  rw [Bool.and_eq_true] at hb
  have hroom : (4 * (len + m) + 4096) * bytes ≤ 2 ^ 48 := Nat.le_of_ble_eq_true hb.2
  cases hz : old.isNone && Nat.beq m 0 with
  | true =>
    rw [hz] at hk
    obtain ⟨hch, hk⟩ := thenB_true hk
    obtain ⟨t1, hk, ht⟩ := putK_ok hk
    rw [Bool.and_eq_true] at hz
    have hm := Nat.eq_of_beq_eq_true hz.2
    have ho : old = none := by cases old with | none => rfl | some _ => cases hz.1
    refine ⟨_, t1, h, a.nx', hk, hh, ht, .inr (.inr (.inr (.inl ⟨rfl, rfl, hch, fun F K hK => ?_⟩)))⟩
    refine ⟨len, cs, old, cap, m, new, hbase F, hsl F, hb.1, hroom, ?_⟩
    rw [if_pos ⟨ho, hm⟩]
    exact hK
  | false =>
    rw [hz] at hk
    have hk' : (natK (Nat.add len m) fun lm => natK (capN cap len m) fun cp => natK (Nat.mul cp sz) fun cc => listK (fun v κ => κ v) (cs ++ new) fun cs =>
          (Option.rec (motive := fun _ => (Tri EObj → Bool) → Bool) (fun κ => κ h) (fun q κ => Tri.setK .gone h q κ) old) fun h => Tri.setK (.cells true cs cc) h a.at_ fun h =>
            thenB (a.chk h) (natK a.at_ fun mk => putK t a.dst (.slice (some ⟨mk, 0, none⟩) lm cp) fun t => κ (.slice (some ⟨mk, 0, none⟩) lm cp) t d h a.nx')) = true := hk
    clear hk
    rw [natK_eq, natK_eq, natK_eq, idK_eq] at hk'
    have hnil : ¬ (old = none ∧ m = 0) := by
      rintro ⟨rfl, rfl⟩
      cases hz
    -- the old name is given up
    obtain ⟨h0, hk2, hs0⟩ : ∃ h0, Tri.setK (.cells true (cs ++ new) (Nat.mul (capN cap len m) sz)) h0 a.at_ (fun h => thenB (a.chk h) (natK a.at_ fun mk => putK t a.dst (.slice (some ⟨mk, 0, none⟩) (Nat.add len m) (capN cap len m)) fun t => κ (.slice (some ⟨mk, 0, none⟩) (Nat.add len m) (capN cap len m)) t d h a.nx')) = true ∧
        ∀ j, h0.get j = if some j = old then some .gone else h.get j := by
      cases old with
      | none => exact ⟨h, hk', fun j => by simp⟩
      | some q =>
        obtain ⟨h0, k1, k2⟩ := Tri.setK_ok hk'
        refine ⟨h0, k1, fun j => ?_⟩
        rw [k2]
        by_cases e : j = q <;> simp [e]
    obtain ⟨h1, hk3, hs1⟩ := Tri.setK_ok hk2
    obtain ⟨hch, hk3⟩ := thenB_true hk3
    rw [natK_eq] at hk3
    obtain ⟨t1, hk4, ht⟩ := putK_ok hk3
    have hh0 : HOk a.P h0 := by
      intro n r hr
      rw [hs0] at hr
      split at hr
      · cases hr
      · exact hh n r hr
    refine ⟨_, t1, h1, a.nx', hk4, hh0.set hs1 fun r hr => (by cases hr), ht, .inr (.inr (.inr (.inl ⟨rfl, rfl, hch, fun F K hK => ?_⟩)))⟩
    refine ⟨len, cs, old, cap, m, new, hbase F, hsl F, hb.1, hroom, ?_⟩
    rw [if_neg hnil]
    have e : appHeap (toH F h nx) a.at_ a.nx' old (cs ++ new) (capN cap len m * sz) = toH F h1 a.nx' := by
      rw [toH_set (nx := nx) hs1]
      simp only [appHeap, Heap.mk.injEq, and_true]
      funext q
      by_cases e : q = a.at_
      · simp [e, EObj.toA]
      · simp only [e, if_false, toH, hs0]
        by_cases e2 : some q = old <;> simp [e2, EObj.toA]
    rw [e]
    exact hK

theorem callF_did {f : Opd} {args : List Opd} (hc : CallOk a.P a.call) (hk : callF f args a t d h nx κ = true) (hh : HOk a.P h) : ∃ w t1 h1 nx1, κ w t1 d h1 nx1 = true ∧ HOk a.P h1 ∧ Did a (.call f args) t h nx w t1 h1 nx1 := by
  unfold callF at hk
  rw [evK_eq, evsK_eq] at hk
  obtain ⟨v, h1, nx1, hk, hh1, hA⟩ := hc _ _ _ _ _ hk hh
  obtain ⟨hch, hk⟩ := thenB_true hk
  obtain ⟨t1, hk, ht⟩ := outK_ok hk
  exact ⟨v, t1, h1, nx1, hk, hh1, ht, .inr (.inr (.inr (.inr ⟨f, args, rfl, hch, hA⟩)))⟩

theorem mkF_did {op : AOp} (hop : op.isMake = true) (hk : mkF op a t d h nx κ = true) (hh : HOk a.P h) : ∃ w t1 h1 nx1, κ w t1 d h1 nx1 = true ∧ HOk a.P h1 ∧ Did a op t h nx w t1 h1 nx1 := by
  unfold mkF mkK at hk
  split at hk
  · rename_i x v he
    obtain ⟨y, q1, q2, q3⟩ := emake_ok he
    rw [valA_eq] at hk
    have hob : objK x = fun κ => κ x := by
      funext κ
      unfold objK
      split
      · rw [boolK_eq, listK_eq valB_eq, natK_eq]
      · rfl
    rw [hob] at hk
    obtain ⟨h1, hk, hs⟩ := Tri.setK_ok hk
    obtain ⟨t1, hk, ht⟩ := putK_ok hk
    refine ⟨v, t1, h1, a.nx', hk, hh.set hs fun r hr => absurd hr (q2 r), ht, .inr (.inl ⟨hop, rfl, y, q3, fun F => ?_⟩)⟩
    rw [toH_set hs, q1]
  · cases hk

theorem opF_did (op : AOp) (hc : CallOk a.P a.call) (he : EqOk a.P a.eo) (hk : opF op a t d h nx κ = true) (hh : HOk a.P h) : ∃ w t1 h1 nx1, κ w t1 d h1 nx1 = true ∧ HOk a.P h1 ∧ Did a op t h nx w t1 h1 nx1 := by
  cases op with
  | mov x => exact (movF_ok x).did rfl he hk hh
  | pick c x y => exact (pickF_ok c x y).did rfl he hk hh
  | bin o x y => exact (binF_ok o x y).did rfl he hk hh
  | not x => exact (notF_ok x).did rfl he hk hh
  | cvi k x => exact (valF_ok _).did rfl he hk hh
  | ld g sz x => exact (ldF_ok g sz x).did rfl he hk hh
  | fld g off sz x => exact (fldF_ok g off sz x).did rfl he hk hh
  | idx g len sz x i => exact (valF_ok _).did rfl he hk hh
  | fa off x => exact (faF_ok off x).did rfl he hk hh
  | iar len sz x i => exact (iarF_ok len sz x i).did rfl he hk hh
  | isl sz x i => exact (islF_ok sz x i).did rfl he hk hh
  | sl sz x lo hi => exact (valF_ok _).did rfl he hk hh
  | sla len sz x lo hi => exact (valF_ok _).did rfl he hk hh
  | len x => exact (lenF_ok x).did rfl he hk hh
  | ext x i => exact (extF_ok x i).did rfl he hk hh
  | fn f x y => exact (fnF_ok f x y).did rfl he hk hh
  | nilc x => exact (valF_ok _).did rfl he hk hh
  | isn n x => exact (valF_ok _).did rfl he hk hh
  | lkp T z x k => exact (valF_ok _).did rfl he hk hh
  | lk1 T z x k => exact (valF_ok _).did rfl he hk hh
  | bld z ps => exact (bldF_ok z ps).did rfl he hk hh
  | gen N o => exact (genF_ok N o).did rfl he hk hh
  | new z =>
    have hk' : newF z a t d h nx κ = true := hk
    unfold newF at hk'
    rw [natK_eq] at hk'
    exact makeE_ok (op := .new z) rfl (fun _ => rfl) (fun r hr => by cases hr) rfl hk' hh
  | box x =>
    have hk' : boxF x a t d h nx κ = true := hk
    unfold boxF at hk'
    rw [evK_eq, cellsL_eq, natK_eq] at hk'
    exact makeE_ok (op := .box x) (y := .cells true (x.ev (toT t)).cells.toList (x.ev (toT t)).cells.toList.length) rfl (fun _ => rfl) (fun r hr => by cases hr) (by simp only [amake, Array.length_toList]) hk' hh
  | bsl l z ps =>
    have hk' : bslF l z ps a t d h nx κ = true := hk
    unfold bslF at hk'
    obtain ⟨r, h1, hk'⟩ := partsK_ok hk'
    rw [natK_eq] at hk'
    exact makeE_ok (op := .bsl l z ps) (y := .cells true r r.length) rfl (fun _ => rfl) (fun r hr => by cases hr) (by simp only [amake, h1, Option.map_some]) hk' hh
  | mks sz b z l c => exact mkF_did rfl hk hh
  | mkm => exact mkF_did rfl hk hh
  | st sz x v => exact stF_did hk hh
  | app sz b y x => exact appF_did hk hh
  | mup T x k v => exact mupF_did hk hh
  | call f args => exact callF_did hc hk hh
end

section
variable {P : Program} {s : St} {K : St → Prop} {op : AOp} {dst : Option Nat} {v : Value}
theorem vop_of_val (hv : op.isVal = true) (h : aval P s.t s.H op = some v) (hK : K (s.put dst v)) : vop P op dst s K := by
  cases op <;> first | (cases hv; done) | exact ⟨v, h, hK⟩
theorem vop_of_make {x : AObj} (hv : op.isMake = true) (h : amake s.t s.H.next op = some (x, v)) (hK : K (({ s with H := s.H.new x } : St).put dst v)) : vop P op dst s K := by
  cases op <;> first | (cases hv; done) | exact ⟨x, v, h, hK⟩
theorem vop_of_store {H' : Heap} (hv : op.isStore = true) (h : astore P s.t s.H op = some H') (hK : K (({ s with H := H' } : St).put dst undef)) : vop P op dst s K := by
  cases op <;> first | (cases hv; done) | exact ⟨H', h, hK⟩
theorem vop_of_app (hv : op.isApp = true) (h : aapp s.t s.H s.H.next (s.H.next + 1) (fun v H' => K (({ s with H := H' } : St).put dst v)) op) : vop P op dst s K := by
  cases op <;> first | (cases hv; done) | exact h

variable {base : Nat} {st : DStep} {recs : Recs} {K2 : Recs → St → Prop}
theorem vstep_of_val (hv : st.op.op.isVal = true) (h : aval P s.t s.H st.op.op = some v) (hK : K2 ((st.i, fun H => aval P s.t H st.op.op = some v) :: recs) (s.put st.op.dst v)) : vstep P base st recs s K2 := by
  obtain ⟨⟨dst, op, g⟩, i, ch, lo⟩ := st
  simp only at hv h hK
  cases op <;> first | (cases hv; done) | exact ⟨v, h, hK⟩
theorem vstep_of_make {x : AObj} (hv : st.op.op.isMake = true) (h : amake s.t (base + st.i) st.op.op = some (x, v)) (hK : K2 recs (({ s with H := s.H.set (base + st.i) x } : St).put st.op.dst v)) : vstep P base st recs s K2 := by
  obtain ⟨⟨dst, op, g⟩, i, ch, lo⟩ := st
  simp only at hv h hK
  cases op <;> first | (cases hv; done) | exact ⟨x, v, h, hK⟩
theorem vstep_of_store {H' : Heap} (hv : st.op.op.isStore = true) (h : astore P s.t s.H st.op.op = some H') (hs : stabs recs st.loose H') (hK : K2 recs (({ s with H := H' } : St).put st.op.dst undef)) : vstep P base st recs s K2 := by
  obtain ⟨⟨dst, op, g⟩, i, ch, lo⟩ := st
  simp only at hv h hK hs
  cases op <;> first | (cases hv; done) | exact ⟨H', h, hs, hK⟩
theorem vstep_of_app (hv : st.op.op.isApp = true) (h : aapp s.t s.H (base + st.i) s.H.next (fun v H' => stabs recs st.loose H' ∧ K2 recs (({ s with H := H' } : St).put st.op.dst v)) st.op.op) : vstep P base st recs s K2 := by
  obtain ⟨⟨dst, op, g⟩, i, ch, lo⟩ := st
  simp only at hv h
  cases op <;> first | (cases hv; done) | exact h
theorem vstep_of_call {f : Opd} {args : List Opd} (hv : st.op.op = .call f args) (h : ACall P (f.ev s.t) (args.map (·.ev s.t)) s.H fun v H' => stabs recs st.loose H' ∧ K2 recs (({ s with H := H' } : St).put st.op.dst v)) : vstep P base st recs s K2 := by
  obtain ⟨⟨dst, op, g⟩, i, ch, lo⟩ := st
  simp only at hv h
  subst hv
  exact h
end

theorem guardK_ok {g : Option (Nat × Bool)} {t : Tri Value} {yes no : Bool} (h : guardK g t yes no = true) : (g = none ∧ yes = true) ∨ ∃ x w, g = some (x, w) ∧ ((gval (toT t x) w = true ∧ yes = true) ∨ (gval (toT t x) w = false ∧ no = true)) := by
  cases g with
  | none => exact .inl ⟨rfl, h⟩
  | some p =>
    obtain ⟨x, w⟩ := p
    refine .inr ⟨x, w, rfl, ?_⟩
    have h' : Bool.rec (motive := fun _ => Bool) no yes (gB (toT t x) w) = true := h
    rw [gB_eq] at h'
    cases hb : gval (toT t x) w
    · rw [hb] at h'; exact .inr ⟨rfl, h'⟩
    · rw [hb] at h'; exact .inl ⟨rfl, h'⟩

section
variable {P : Program} {eo : EqO} {call : CallK}

theorem opsK_ok (hc : CallOk P call) (he : EqOk P eo) : ∀ {ops : List AOper} {t : Tri Value} {d : List Nat} {h : Tri EObj} {nx : Nat} {κ : StK}, opsK P eo call ops t d h nx κ = true → HOk P h →
    ∃ t1 h1 nx1, κ t1 d h1 nx1 = true ∧ HOk P h1 ∧ ∀ (F : Nat → FuncId) (K : St → Prop), (∀ F', K (stX F' t1 d h1 nx1)) → vopers P ops (stX F t d h nx) K
  | [], t, d, h, nx, κ, hk, hh => ⟨t, h, nx, hk, hh, fun F K hK => hK F⟩
  | o :: ops, t, d, h, nx, κ, hk, hh => by
    have hk' : guardK o.guard t (opF o.op ⟨P, eo, call, fun _ => true, nx, Nat.add nx 1, o.dst⟩ t d h nx fun _ t d h nx => natK nx fun nx => opsK P eo call ops t d h nx κ) (putK t o.dst undef fun t => opsK P eo call ops t d h nx κ) = true := hk
    have go : opF o.op ⟨P, eo, call, fun _ => true, nx, Nat.add nx 1, o.dst⟩ t d h nx (fun _ t d h nx => natK nx fun nx => opsK P eo call ops t d h nx κ) = true →
        ∃ t1 h1 nx1, κ t1 d h1 nx1 = true ∧ HOk P h1 ∧ ∀ (F : Nat → FuncId) (K : St → Prop), (∀ F', K (stX F' t1 d h1 nx1)) → vop P o.op o.dst (stX F t d h nx) fun s' => vopers P ops s' K := by
      intro hop
      obtain ⟨v, t1, h1, nx1, hk1, hh1, hd⟩ := opF_did (a := ⟨P, eo, call, fun _ => true, nx, Nat.add nx 1, o.dst⟩) o.op hc he hop hh
      rw [natK_eq] at hk1
      obtain ⟨t2, h2, nx2, hk2, hh2, hv2⟩ := opsK_ok hc he hk1 hh1
      refine ⟨t2, h2, nx2, hk2, hh2, fun F K hK => ?_⟩
      obtain ⟨ht, hd⟩ := hd
      simp only at ht
      have hnext := fun F' => hv2 F' K hK
      have hst : ∀ F', (⟨putT (toT t) o.dst v, d, toH F' h1 nx1⟩ : St) = stX F' t1 d h1 nx1 := fun F' => by rw [stX, ht]
      rcases hd with ⟨q1, rfl, rfl, q2⟩ | ⟨q1, q0, x, q2, q3⟩ | ⟨q1, rfl, rfl, _, q2⟩ | ⟨q1, q0, _, q2⟩ | ⟨f, args, q1, _, q2⟩
      · refine vop_of_val q1 (q2 F) ?_
        rw [stX, put_putT, hst]
        exact hnext F
      · refine vop_of_make q1 q2 ?_
        have e : (toH F h nx).new x = toH F h1 (Nat.add nx 1) := by rw [q3 F]; rfl
        show vopers P ops (St.put ⟨toT t, d, (toH F h nx).new x⟩ o.dst v) K
        rw [put_putT, e]
        have := hnext F
        rw [← hst] at this
        rw [q0] at this
        exact this
      · refine vop_of_store q1 (q2 F) ?_
        show vopers P ops (St.put ⟨toT t, d, toH F h1 nx1⟩ o.dst undef) K
        rw [put_putT, hst]
        exact hnext F
      · refine vop_of_app q1 ?_
        refine q2 F _ ?_
        show vopers P ops (St.put ⟨toT t, d, toH F h1 (Nat.add nx 1)⟩ o.dst v) K
        rw [put_putT]
        have := hnext F
        rw [← hst] at this
        rw [q0] at this
        exact this
      · rw [q1]
        refine q2 F _ fun F' => ?_
        show vopers P ops (St.put ⟨toT t, d, toH F' h1 nx1⟩ o.dst v) K
        rw [put_putT, hst]
        exact hnext F'
    rcases guardK_ok hk' with ⟨hg, hy⟩ | ⟨x, w, hg, ⟨hb, hy⟩ | ⟨hb, hn⟩⟩
    · obtain ⟨t1, h1, nx1, q1, q2, q3⟩ := go hy
      refine ⟨t1, h1, nx1, q1, q2, fun F K hK => ?_⟩
      simp only [vopers, hg]
      exact q3 F K hK
    · obtain ⟨t1, h1, nx1, q1, q2, q3⟩ := go hy
      refine ⟨t1, h1, nx1, q1, q2, fun F K hK => ?_⟩
      simp only [vopers, hg]
      refine ⟨fun _ => q3 F K hK, fun hf => ?_⟩
      have : gval (toT t x) w = false := hf
      rw [hb] at this; cases this
    · obtain ⟨t0, hk0, ht0⟩ := putK_ok hn
      obtain ⟨t1, h1, nx1, q1, q2, q3⟩ := opsK_ok hc he hk0 hh
      refine ⟨t1, h1, nx1, q1, q2, fun F K hK => ?_⟩
      simp only [vopers, hg]
      refine ⟨fun hf => ?_, fun _ => ?_⟩
      · have : gval (toT t x) w = true := hf
        rw [hb] at this; cases this
      · have := q3 F K hK
        rw [stX, put_putT, ← ht0]
        exact this

theorem drawK_ok (hc : CallOk P call) (he : EqOk P eo) {base : Nat} : ∀ {l : List DStep} {rx : List RecX} {t : Tri Value} {d : List Nat} {h : Tri EObj} {nx : Nat} {κ : StK}, drawK P eo call base l rx t d h nx κ = true → HOk P h →
    ∃ t1 h1 nx1, κ t1 d h1 nx1 = true ∧ HOk P h1 ∧ ∀ (F : Nat → FuncId) (K : St → Prop), (∀ F', K (stX F' t1 d h1 nx1)) → vdraw P base l (recsA P rx) (stX F t d h nx) K
  | [], rx, t, d, h, nx, κ, hk, hh => ⟨t, h, nx, hk, hh, fun F K hK => hK F⟩
  | st :: l, rx, t, d, h, nx, κ, hk, hh => by
    have hk' : guardK st.op.guard t (natK (Nat.add base st.i) fun mk => opF st.op.op ⟨P, eo, call, chkOf P rx st.loose, mk, nx, st.op.dst⟩ t d h nx fun v t' d h nx => drawK P eo call base l (recOf st t v rx) t' d h nx κ) (putK t st.op.dst undef fun t => drawK P eo call base l rx t d h nx κ) = true := hk
    have go : (natK (Nat.add base st.i) fun mk => opF st.op.op ⟨P, eo, call, chkOf P rx st.loose, mk, nx, st.op.dst⟩ t d h nx fun v t' d h nx => drawK P eo call base l (recOf st t v rx) t' d h nx κ) = true →
        ∃ t1 h1 nx1, κ t1 d h1 nx1 = true ∧ HOk P h1 ∧ ∀ (F : Nat → FuncId) (K : St → Prop), (∀ F', K (stX F' t1 d h1 nx1)) → vstep P base st (recsA P rx) (stX F t d h nx) fun recs' s' => vdraw P base l recs' s' K := by
      intro hop
      rw [natK_eq] at hop
      obtain ⟨v, t1, h1, nx1, hk1, hh1, hd⟩ := opF_did (a := ⟨P, eo, call, chkOf P rx st.loose, Nat.add base st.i, nx, st.op.dst⟩) st.op.op hc he hop hh
      obtain ⟨t2, h2, nx2, hk2, hh2, hv2⟩ := drawK_ok hc he hk1 hh1
      refine ⟨t2, h2, nx2, hk2, hh2, fun F K hK => ?_⟩
      obtain ⟨ht, hd⟩ := hd
      simp only at ht
      have hnext := fun F' => hv2 F' K hK
      have hst : ∀ F', (⟨putT (toT t) st.op.dst v, d, toH F' h1 nx1⟩ : St) = stX F' t1 d h1 nx1 := fun F' => by rw [stX, ht]
      have hrec : recOf st t v rx = if st.op.op.isVal = true then (st.i, st.op.op, t, v) :: rx else rx := by
        unfold recOf
        rw [isValR_eq]
        cases st.op.op.isVal <;> rfl
      rcases hd with ⟨q1, rfl, rfl, q2⟩ | ⟨q1, q0, x, q2, q3⟩ | ⟨q1, rfl, rfl, qc, q2⟩ | ⟨q1, q0, qc, q2⟩ | ⟨f, args, q1, qc, q2⟩
      · refine vstep_of_val q1 (q2 F) ?_
        rw [hrec, if_pos q1] at hnext
        rw [stX, put_putT, hst]
        exact hnext F
      · have hnv : st.op.op.isVal = false := by cases hop2 : st.op.op <;> rw [hop2] at q1 <;> first | rfl | cases q1
        rw [hrec, hnv, if_neg (by simp)] at hnext
        refine vstep_of_make q1 q2 ?_
        have e : (toH F h nx).set (base + st.i) x = toH F h1 nx := by rw [q3 F]; rfl
        show vdraw P base l (recsA P rx) (St.put ⟨toT t, d, (toH F h nx).set (base + st.i) x⟩ st.op.dst v) K
        rw [put_putT, e]
        have := hnext F
        rw [← hst] at this
        rw [q0] at this
        exact this
      · have hnv : st.op.op.isVal = false := by cases hop2 : st.op.op <;> rw [hop2] at q1 <;> first | rfl | cases q1
        rw [hrec, hnv, if_neg (by simp)] at hnext
        refine vstep_of_store q1 (q2 F) (chkOf_ok qc) ?_
        show vdraw P base l (recsA P rx) (St.put ⟨toT t, d, toH F h1 nx1⟩ st.op.dst undef) K
        rw [put_putT, hst]
        exact hnext F
      · have hnv : st.op.op.isVal = false := by cases hop2 : st.op.op <;> rw [hop2] at q1 <;> first | rfl | cases q1
        rw [hrec, hnv, if_neg (by simp)] at hnext
        refine vstep_of_app q1 ?_
        refine q2 F _ ⟨chkOf_ok qc, ?_⟩
        show vdraw P base l (recsA P rx) (St.put ⟨toT t, d, toH F h1 nx⟩ st.op.dst v) K
        rw [put_putT]
        have := hnext F
        rw [← hst] at this
        rw [q0] at this
        exact this
      · have hnv : st.op.op.isVal = false := by rw [q1]; rfl
        rw [hrec, hnv, if_neg (by simp)] at hnext
        refine vstep_of_call q1 ?_
        refine q2 F _ fun F' => ⟨chkOf_ok qc, ?_⟩
        show vdraw P base l (recsA P rx) (St.put ⟨toT t, d, toH F' h1 nx1⟩ st.op.dst v) K
        rw [put_putT, hst]
        exact hnext F'
    rcases guardK_ok hk' with ⟨hg, hy⟩ | ⟨x, w, hg, ⟨hb, hy⟩ | ⟨hb, hn⟩⟩
    · obtain ⟨t1, h1, nx1, q1, q2, q3⟩ := go hy
      refine ⟨t1, h1, nx1, q1, q2, fun F K hK => ?_⟩
      simp only [vdraw, hg]
      exact q3 F K hK
    · obtain ⟨t1, h1, nx1, q1, q2, q3⟩ := go hy
      refine ⟨t1, h1, nx1, q1, q2, fun F K hK => ?_⟩
      simp only [vdraw, hg]
      refine ⟨fun _ => q3 F K hK, fun hf => ?_⟩
      have : gval (toT t x) w = false := hf
      rw [hb] at this; cases this
    · obtain ⟨t0, hk0, ht0⟩ := putK_ok hn
      obtain ⟨t1, h1, nx1, q1, q2, q3⟩ := drawK_ok hc he hk0 hh
      refine ⟨t1, h1, nx1, q1, q2, fun F K hK => ?_⟩
      simp only [vdraw, hg]
      refine ⟨fun hf => ?_, fun _ => ?_⟩
      · have : gval (toT t x) w = true := hf
        rw [hb] at this; cases this
      · have := q3 F K hK
        rw [stX, put_putT, ← ht0]
        exact this
end

end Go.Ab

