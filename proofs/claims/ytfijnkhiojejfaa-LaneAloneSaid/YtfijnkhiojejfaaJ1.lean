/-
  Joined texts of a calculus of abstract memory, of the program's code in it, and of contracts.
-/
import Derived.RangeFuncLeaves
import Derived.OrdersIn
import Derived.Below
import Derived.Laws.Cover3
namespace Go.Ab

structure Loc where
  b : Nat
  o : Nat
  kA : Nat
  esz : Nat
  kM : Nat

abbrev Places := Nat → Option Loc

def gmax : Nat := 0
def GOk (β : Places) : Prop := ∀ g, g < gmax → β g = some ⟨g, 0, 0, 0, 0⟩

def CapR (l : Loc) (off len cap cap' : Nat) : Prop := len ≤ cap' ∧ (cap' = cap ∨ (cap = 0 ∧ 0 < len) ∨ (off = 0 ∧ cap = l.kA ∧ cap' = l.kM ∧ 0 < cap ∧ cap ≤ cap'))

inductive VR (β : Places) : Value → Value → Prop
  | bool (x : Bool) : VR β (.bool x) (.bool x)
  | int (k : IntKind) (n : Int) : VR β (.int k n) (.int k n)
  | string (s : ByteArray) : VR β (.string s) (.string s)
  | pnil : VR β (.pointer none) (.pointer none)
  | ptr {n off : Nat} {l : Loc} (h : β n = some l) : VR β (.pointer (some ⟨n, off, none⟩)) (.pointer (some ⟨l.b, l.o + off, none⟩))
  | snil : VR β (.slice none 0 0) (.slice none 0 0)
  | slice {n off len cap cap' : Nat} {l : Loc} (h : β n = some l) (hc : CapR l off len cap cap') : VR β (.slice (some ⟨n, off, none⟩) len cap) (.slice (some ⟨l.b, l.o + off, none⟩) len cap')
  | void (a : Addr) (c : Nat) : VR β (.slice (some ⟨0, 0, some 0⟩) 0 0) (.slice (some a) 0 c)
  | mnil : VR β (.map none) (.map none)
  | map {n : Nat} {l : Loc} (h : β n = some l) : VR β (.map (some n)) (.map (some l.b))
  | fnil : VR β .nilFunc .nilFunc
  | func {fn : Fn} {xs ys us vs : Array Value} (hfn : ∀ l, fn ≠ .yield l) (hs : xs.size = ys.size) (h : ∀ i (h1 : i < xs.size) (h2 : i < ys.size), VR β xs[i] ys[i])
      (ht : us.size = vs.size) (g : ∀ i (h1 : i < us.size) (h2 : i < vs.size), VR β us[i] vs[i]) : VR β (.func fn xs us) (.func fn ys vs)
  | yield {n : Nat} {l : Loc} (h : β n = some l) : VR β (.func (.yield n) #[] #[]) (.func (.yield l.b) #[] #[])
  | inil : VR β .nilIface .nilIface
  | iface {t : TypeId} {v v' : Value} (h : VR β v v') : VR β (.iface t v) (.iface t v')
  | agg {xs ys : Array Value} (hs : xs.size = ys.size) (h : ∀ i (h1 : i < xs.size) (h2 : i < ys.size), VR β xs[i] ys[i]) : VR β (.agg xs) (.agg ys)
  | tuple {xs ys : Array Value} (hs : xs.size = ys.size) (h : ∀ i (h1 : i < xs.size) (h2 : i < ys.size), VR β xs[i] ys[i]) : VR β (.tuple xs) (.tuple ys)

def Ext (β β' : Places) : Prop := ∀ n l, β n = some l → β' n = some l

theorem Ext.refl (β : Places) : Ext β β := fun _ _ h => h
theorem Ext.trans {a b c : Places} (h : Ext a b) (k : Ext b c) : Ext a c := fun n l e => k n l (h n l e)

theorem VR.ext {β β' : Places} (he : Ext β β') {v u : Value} (h : VR β v u) : VR β' v u := by
  induction h with
  | bool x => exact .bool x
  | int k n => exact .int k n
  | string s => exact .string s
  | pnil => exact .pnil
  | ptr h => exact .ptr (he _ _ h)
  | snil => exact .snil
  | slice h hc => exact .slice (he _ _ h) hc
  | void a c => exact .void a c
  | mnil => exact .mnil
  | map h => exact .map (he _ _ h)
  | fnil => exact .fnil
  | func hfn hs _ ht _ ih ig => exact .func hfn hs ih ht ig
  | yield h => exact .yield (he _ _ h)
  | inil => exact .inil
  | iface _ ih => exact .iface ih
  | agg hs _ ih => exact .agg hs ih
  | tuple hs _ ih => exact .tuple hs ih

def VL (β : Places) : List Value → List Value → Prop
  | [], [] => True
  | x :: xs, y :: ys => VR β x y ∧ VL β xs ys
  | _, _ => False

section VL
variable {β β' : Places}

@[simp] theorem VL_nil : VL β [] [] := trivial
@[simp] theorem VL_cons {x y : Value} {xs ys : List Value} : VL β (x :: xs) (y :: ys) ↔ VR β x y ∧ VL β xs ys := Iff.rfl

theorem VL.length : ∀ {xs ys : List Value}, VL β xs ys → xs.length = ys.length
  | [], [], _ => rfl
  | _ :: _, _ :: _, h => by simp [VL.length h.2]
  | [], _ :: _, h => h.elim
  | _ :: _, [], h => h.elim

theorem VL.ext (he : Ext β β') : ∀ {xs ys : List Value}, VL β xs ys → VL β' xs ys
  | [], [], _ => trivial
  | _ :: _, _ :: _, h => ⟨h.1.ext he, VL.ext he h.2⟩
  | [], _ :: _, h => h.elim
  | _ :: _, [], h => h.elim

theorem VL.get : ∀ {xs ys : List Value} (_ : VL β xs ys) (i : Nat) (h1 : i < xs.length) (h2 : i < ys.length), VR β xs[i] ys[i]
  | _ :: _, _ :: _, h, 0, _, _ => h.1
  | _ :: _, _ :: _, h, i + 1, h1, h2 => VL.get h.2 i (by simpa using h1) (by simpa using h2)
  | [], [], _, _, h1, _ => absurd h1 (Nat.not_lt_zero _)
  | [], _ :: _, h, _, _, _ => h.elim
  | _ :: _, [], h, _, _, _ => h.elim

theorem VL.get? {xs ys : List Value} (h : VL β xs ys) {i : Nat} {x : Value} (hx : xs[i]? = some x) : ∃ y, ys[i]? = some y ∧ VR β x y := by
  obtain ⟨h1, rfl⟩ := List.getElem?_eq_some_iff.1 hx
  have h2 : i < ys.length := h.length ▸ h1
  exact ⟨ys[i], by simp [h2], h.get i h1 h2⟩

theorem VL.of_get : ∀ {xs ys : List Value} (_ : xs.length = ys.length) (_ : ∀ i (h1 : i < xs.length) (h2 : i < ys.length), VR β xs[i] ys[i]), VL β xs ys
  | [], [], _, _ => trivial
  | _ :: _, _ :: _, hs, h => ⟨h 0 (by simp) (by simp), VL.of_get (by simpa using hs) fun i h1 h2 =>
      h (i + 1) (Nat.succ_lt_succ h1) (Nat.succ_lt_succ h2)⟩
  | [], _ :: _, hs, _ => by simp at hs
  | _ :: _, [], hs, _ => by simp at hs

theorem VL.append : ∀ {xs ys us vs : List Value}, VL β xs ys → VL β us vs → VL β (xs ++ us) (ys ++ vs)
  | [], [], _, _, _, k => k
  | _ :: _, _ :: _, _, _, h, k => ⟨h.1, VL.append h.2 k⟩
  | [], _ :: _, _, _, h, _ => h.elim
  | _ :: _, [], _, _, h, _ => h.elim

theorem VL.take (n : Nat) {xs ys : List Value} (h : VL β xs ys) : VL β (xs.take n) (ys.take n) :=
  VL.of_get (by simp [h.length]) fun i h1 h2 => by
    simp only [List.getElem_take]
    exact h.get i _ _

theorem VL.drop (n : Nat) {xs ys : List Value} (h : VL β xs ys) : VL β (xs.drop n) (ys.drop n) :=
  VL.of_get (by simp [h.length]) fun i h1 h2 => by
    simp only [List.getElem_drop]
    exact h.get _ _ _

theorem VL.set {xs ys : List Value} (h : VL β xs ys) (i : Nat) {x y : Value} (hx : VR β x y) : VL β (xs.set i x) (ys.set i y) :=
  VL.of_get (by simp [h.length]) fun j h1 h2 => by
    simp only [List.getElem_set]
    split
    · exact hx
    · exact h.get _ _ _

theorem VL.replicate (n : Nat) {x y : Value} (hx : VR β x y) : VL β (List.replicate n x) (List.replicate n y) := by
  induction n with
  | zero => trivial
  | succ n ih => exact ⟨hx, ih⟩

end VL

theorem VL.arr {β : Places} {xs ys : Array Value} (h : VL β xs.toList ys.toList) : xs.size = ys.size ∧ ∀ i (h1 : i < xs.size) (h2 : i < ys.size), VR β xs[i] ys[i] :=
  ⟨by simpa using h.length, fun i h1 h2 => h.get i h1 h2⟩

theorem VL.of_arr {β : Places} {xs ys : Array Value} (hs : xs.size = ys.size) (h : ∀ i (h1 : i < xs.size) (h2 : i < ys.size), VR β xs[i] ys[i]) : VL β xs.toList ys.toList :=
  VL.of_get (by simpa using hs) fun i h1 h2 => h i h1 h2

theorem VR.mk_agg {β : Places} {xs ys : Array Value} (h : VL β xs.toList ys.toList) : VR β (.agg xs) (.agg ys) := .agg h.arr.1 h.arr.2
theorem VR.mk_tuple {β : Places} {xs ys : Array Value} (h : VL β xs.toList ys.toList) : VR β (.tuple xs) (.tuple ys) := .tuple h.arr.1 h.arr.2
theorem VR.of_agg {β : Places} {xs : Array Value} {v : Value} (h : VR β (.agg xs) v) : ∃ ys, v = .agg ys ∧ VL β xs.toList ys.toList := by
  cases h with
  | agg hs h => exact ⟨_, rfl, .of_arr hs h⟩
theorem VR.of_tuple {β : Places} {xs : Array Value} {v : Value} (h : VR β (.tuple xs) v) : ∃ ys, v = .tuple ys ∧ VL β xs.toList ys.toList := by
  cases h with
  | tuple hs h => exact ⟨_, rfl, .of_arr hs h⟩

theorem VR.undef (β : Places) : VR β undef undef := .mk_tuple (by simp)

theorem VR.cells {β : Places} {v u : Value} (h : VR β v u) : VL β v.cells.toList u.cells.toList := by
  cases h with
  | agg hs h => exact .of_arr hs h
  | bool x => exact ⟨.bool x, trivial⟩
  | int k n => exact ⟨.int k n, trivial⟩
  | string s => exact ⟨.string s, trivial⟩
  | pnil => exact ⟨.pnil, trivial⟩
  | ptr h => exact ⟨.ptr h, trivial⟩
  | snil => exact ⟨.snil, trivial⟩
  | slice h hc => exact ⟨.slice h hc, trivial⟩
  | void a c => exact ⟨.void a c, trivial⟩
  | mnil => exact ⟨.mnil, trivial⟩
  | map h => exact ⟨.map h, trivial⟩
  | fnil => exact ⟨.fnil, trivial⟩
  | func hfn hs h ht g => exact ⟨.func hfn hs h ht g, trivial⟩
  | yield h => exact ⟨.yield h, trivial⟩
  | inil => exact ⟨.inil, trivial⟩
  | iface h => exact ⟨.iface h, trivial⟩
  | tuple hs h => exact ⟨.tuple hs h, trivial⟩

def one : Value → Bool
  | .agg _ | .tuple _ => false
  | _ => true

theorem VR.one {β : Places} {v u : Value} (h : VR β v u) : Ab.one u = Ab.one v := by cases h <;> rfl

def flat1 : Value → Bool
  | .bool _ | .int _ _ | .string _ | .pointer none | .slice none 0 0 | .map none | .nilFunc | .nilIface => true
  | .func (.func _) xs us => xs.isEmpty && us.isEmpty
  | _ => false

def flat : Value → Bool
  | .agg cs | .tuple cs => cs.toList.all flat1
  | v => flat1 v

theorem flat1_VR (β : Places) {v : Value} (h : flat1 v = true) : VR β v v := by
  unfold flat1 at h
  split at h
  · exact .bool _
  · exact .int _ _
  · exact .string _
  · exact .pnil
  · exact .snil
  · exact .mnil
  · exact .fnil
  · exact .inil
  · rename_i f xs us
    simp only [Bool.and_eq_true, Array.isEmpty_iff] at h
    obtain ⟨rfl, rfl⟩ := h
    exact .func (by simp) rfl (fun _ h1 => absurd h1 (by simp)) rfl (fun _ h1 => absurd h1 (by simp))
  · cases h

theorem flatL_VR (β : Places) : ∀ {l : List Value}, l.all flat1 = true → VL β l l
  | [], _ => trivial
  | x :: l, h => by
    simp only [List.all_cons, Bool.and_eq_true] at h
    exact ⟨flat1_VR β h.1, flatL_VR β h.2⟩

theorem flat_VR (β : Places) {v : Value} (h : flat v = true) : VR β v v := by
  unfold flat at h
  split at h
  · exact .mk_agg (flatL_VR β h)
  · exact .mk_tuple (flatL_VR β h)
  · exact flat1_VR β h

theorem flat1_eq {β : Places} {v u : Value} (h : flat1 v = true) (hr : VR β v u) : u = v := by
  unfold flat1 at h
  split at h
  case h_9 f xs us =>
    simp only [Bool.and_eq_true, Array.isEmpty_iff] at h
    obtain ⟨rfl, rfl⟩ := h
    cases hr with
    | func hfn hs h ht g =>
      have h1 := Array.eq_empty_of_size_eq_zero hs.symm
      have h2 := Array.eq_empty_of_size_eq_zero ht.symm
      subst h1; subst h2; rfl
  case h_10 => cases h
  all_goals (cases hr; rfl)

theorem flatL_eq {β : Places} : ∀ {l k : List Value}, l.all flat1 = true → VL β l k → k = l
  | [], [], _, _ => rfl
  | x :: l, y :: k, h, hr => by
    simp only [List.all_cons, Bool.and_eq_true] at h
    rw [flat1_eq h.1 hr.1, flatL_eq h.2 hr.2]
  | [], _ :: _, _, h => h.elim
  | _ :: _, [], _, h => h.elim

theorem flat_eq {β : Places} {v u : Value} (h : flat v = true) (hr : VR β v u) : u = v := by
  unfold flat at h
  split at h
  · obtain ⟨ys, rfl, hl⟩ := hr.of_agg
    have := flatL_eq h hl
    rw [Array.toList_inj.1 this]
  · obtain ⟨ys, rfl, hl⟩ := hr.of_tuple
    have := flatL_eq h hl
    rw [Array.toList_inj.1 this]
  · exact flat1_eq h hr

end Go.Ab


namespace Go.Ab
open Go.RowKit

structure ALoop where
  state : LoopState
  pending : Option Code
  fn : FuncId
  t : Nat → Value
  N : Nat
  params : Array Tmp
  assign : Code
  body : Code
  defers : Nat

inductive AObj where
  | gone
  | cells (rw : Bool) (cs : List Value) (c : Nat)
  | map (es : List (Value × Value × Nat)) (clock : Nat)
  | loop (r : ALoop)
  | dfr

def AObj.owns : AObj → Bool
  | .gone => false
  | .cells rw _ _ => rw
  | _ => true

def AObj.live : AObj → Bool
  | .gone => false
  | _ => true

theorem AObj.live_of_owns {x : AObj} (h : x.owns = true) : x.live = true := by cases x <;> simp_all [AObj.owns, AObj.live]

structure Heap where
  get : Nat → AObj
  next : Nat

def Heap.set (H : Heap) (n : Nat) (x : AObj) : Heap := { H with get := fun m => if m = n then x else H.get m }
def Heap.new (H : Heap) (x : AObj) : Heap := { get := fun m => if m = H.next then x else H.get m, next := H.next + 1 }

@[simp] theorem Heap.set_next (H : Heap) (n : Nat) (x : AObj) : (H.set n x).next = H.next := rfl
@[simp] theorem Heap.set_get (H : Heap) (n : Nat) (x : AObj) (m : Nat) : (H.set n x).get m = if m = n then x else H.get m := rfl
@[simp] theorem Heap.new_next (H : Heap) (x : AObj) : (H.new x).next = H.next + 1 := rfl
@[simp] theorem Heap.new_get (H : Heap) (x : AObj) (m : Nat) : (H.new x).get m = if m = H.next then x else H.get m := rfl

def ER (β : Places) : List (Value × Value × Nat) → List MapEntry → Prop
  | [], [] => True
  | (k, v, n) :: es, e :: fs => VR β k e.key ∧ VR β v e.val ∧ e.born = n ∧ ER β es fs
  | _, _ => False

structure TR (β : Places) (N : Nat) (t : Nat → Value) (a : Array Value) : Prop where
  size : a.size = N
  get : ∀ x, x < N → VR β (t x) (a.getD x undef)
  glob : GOk β

def Slack (l : Loc) (c n : Nat) : Prop := l.kA = 0 ∨ (c = l.kA * l.esz ∧ l.o + l.kM * l.esz ≤ n)

def OR (β : Places) (l : Loc) (hp : Array Obj) : AObj → Prop
  | .gone => True
  | .cells rw cs c => cs.length ≤ c ∧ ∃ arr el fr, hp[l.b]? = some (.cells arr el fr) ∧ (l.o + c ≤ arr.size ∧ Slack l c arr.size) ∧ (rw = true → fr = (0, 0)) ∧ VL β cs ((arr.toList.drop l.o).take cs.length)
  | .map es clock => l.o = 0 ∧ ∃ fs, hp[l.b]? = some (.map fs clock) ∧ ER β es fs.toList
  | .loop r => l.o = 0 ∧ ∃ a d, hp[l.b]? = some (.loop { state := r.state, pending := r.pending, fn := r.fn, tmps := a, params := r.params, assign := r.assign, body := r.body, defers := d.b }) ∧ TR β r.N r.t a ∧ β r.defers = some d
  | .dfr => l.o = 0 ∧ hp[l.b]? = some (.deferred (some []))

structure WR (β : Places) (H : Heap) (hp : Array Obj) : Prop where
  obj : ∀ n l, β n = some l → OR β l hp (H.get n)
  apart : ∀ n m k l, β n = some k → β m = some l → (H.get n).owns = true → (H.get m).live = true → n ≠ m → k.b ≠ l.b
  fresh : ∀ n, H.next ≤ n → β n = none
  clean : ∀ n, H.next ≤ n → H.get n = .gone
  glob : GOk β

structure FR (β : Places) (H : Heap) (w : World) (β' : Places) (H' : Heap) (w' : World) : Prop where
  os : w'.os = w.os
  tape : w'.tape = w.tape
  output : w'.output = w.output
  size : w.heap.size ≤ w'.heap.size
  names : ∀ n, n < H.next → β' n = β n
  next : H.next ≤ H'.next
  keep : ∀ b, b < w.heap.size → (∀ n l, β n = some l → (H.get n).owns = true → l.b ≠ b) → w'.heap[b]? = w.heap[b]?
  own : ∀ n l, β' n = some l → (H'.get n).owns = true → l.b < w.heap.size → ∃ m k, β m = some k ∧ (H.get m).owns = true ∧ k.b = l.b
  phant : ∀ n, n < H.next → β n = none → H'.get n = H.get n

theorem FR.refl (β : Places) (H : Heap) (w : World) : FR β H w β H w :=
  ⟨rfl, rfl, rfl, Nat.le_refl _, fun _ _ => rfl, Nat.le_refl _, fun _ _ _ => rfl, fun n l h ho _ => ⟨n, l, h, ho, rfl⟩, fun _ _ _ => rfl⟩

theorem FR.trans {β β' β'' : Places} {H H' H'' : Heap} {w w' w'' : World} (h : FR β H w β' H' w') (k : FR β' H' w' β'' H'' w'') : FR β H w β'' H'' w'' where
  os := k.os.trans h.os
  tape := k.tape.trans h.tape
  output := k.output.trans h.output
  size := Nat.le_trans h.size k.size
  names n hn := (k.names n (Nat.lt_of_lt_of_le hn h.next)).trans (h.names n hn)
  next := Nat.le_trans h.next k.next
  keep b hb ho := by
    refine (k.keep b (Nat.lt_of_lt_of_le hb h.size) fun n l hn hl he => ?_).trans (h.keep b hb ho)
    obtain ⟨m, q, hm, hq, e⟩ := h.own n l hn hl (he ▸ hb)
    exact ho m q hm hq (e.trans he)
  own n l hn hl hb := by
    obtain ⟨m, q, hm, hq, e⟩ := k.own n l hn hl (Nat.lt_of_lt_of_le hb h.size)
    obtain ⟨m', q', hm', hq', e'⟩ := h.own m q hm hq (e ▸ hb)
    exact ⟨m', q', hm', hq', e'.trans e⟩
  phant n hn h0 := (k.phant n (Nat.lt_of_lt_of_le hn h.next) ((h.names n hn).trans h0)).trans (h.phant n hn h0)

theorem FR.ext {β β' : Places} {H H' : Heap} {w w' : World} (h : FR β H w β' H' w') (hw : WR β H w.heap) : Ext β β' := fun n l hn => by
  rw [h.names n (Nat.lt_of_not_le fun hle => by rw [hw.fresh n hle] at hn; cases hn), hn]

theorem FR.below {β β' : Places} {H H' : Heap} {w w' : World} (h : FR β H w β' H' w') (ho : ∀ n, (H.get n).owns = false) : Below w.heap.size w w' :=
  ⟨h.os, h.tape, h.output, h.size, fun b hb => h.keep b hb fun n l _ hn _ => by rw [ho n] at hn; cases hn⟩

theorem FR.drew {β : Places} {H : Heap} {w : World} (d : Nat) : FR β H w β H { w with drawn := d } :=
  ⟨rfl, rfl, rfl, Nat.le_refl _, fun _ _ => rfl, Nat.le_refl _, fun _ _ _ => rfl, fun n l h ho _ => ⟨n, l, h, ho, rfl⟩, fun _ _ _ => rfl⟩

theorem FR.more {β : Places} {H : Heap} {w : World} (k : Nat) : FR β H w β { H with next := H.next + k } w :=
  ⟨rfl, rfl, rfl, Nat.le_refl _, fun _ _ => rfl, Nat.le_add_right _ _, fun _ _ _ => rfl, fun n l h ho _ => ⟨n, l, h, ho, rfl⟩, fun _ _ _ => rfl⟩

theorem WR.more {β : Places} {H : Heap} {hp : Array Obj} (h : WR β H hp) (k : Nat) : WR β { H with next := H.next + k } hp :=
  ⟨h.obj, h.apart, fun n hn => h.fresh n (Nat.le_trans (Nat.le_add_right _ _) hn), fun n hn => h.clean n (Nat.le_trans (Nat.le_add_right _ _) hn), h.glob⟩

theorem WR.lt {β : Places} {H : Heap} {hp : Array Obj} (h : WR β H hp) {n : Nat} {l : Loc} (hn : β n = some l) : n < H.next :=
  Nat.lt_of_not_le fun hle => by rw [h.fresh n hle] at hn; cases hn

theorem TR.ext {β β' : Places} (he : Ext β β') {N : Nat} {t : Nat → Value} {a : Array Value} (h : TR β N t a) : TR β' N t a := ⟨h.size, fun x hx => (h.get x hx).ext he, fun g hg => he _ _ (h.glob g hg)⟩

theorem ER.ext {β β' : Places} (he : Ext β β') : ∀ {es : List (Value × Value × Nat)} {fs : List MapEntry}, ER β es fs → ER β' es fs
  | [], [], _ => trivial
  | (_, _, _) :: _, _ :: _, h => ⟨h.1.ext he, h.2.1.ext he, h.2.2.1, ER.ext he h.2.2.2⟩
  | [], _ :: _, h => h.elim
  | (_, _, _) :: _, [], h => h.elim

theorem OR.ext {β β' : Places} (he : Ext β β') {l : Loc} {hp : Array Obj} {x : AObj} (h : OR β l hp x) : OR β' l hp x := by
  cases x with
  | gone => trivial
  | cells rw cs c =>
    obtain ⟨h1, arr, el, fr, h2, h3, h4, h5⟩ := h
    exact ⟨h1, arr, el, fr, h2, h3, h4, h5.ext he⟩
  | map es clock =>
    obtain ⟨h0, fs, h1, h2⟩ := h
    exact ⟨h0, fs, h1, h2.ext he⟩
  | loop r =>
    obtain ⟨h0, a, d, h1, h2, h3⟩ := h
    exact ⟨h0, a, d, h1, h2.ext he, he _ _ h3⟩
  | dfr => exact h

theorem OR.same {β : Places} {l : Loc} {hp hp' : Array Obj} {x : AObj} (h : OR β l hp x) (e : hp'[l.b]? = hp[l.b]?) : OR β l hp' x := by
  cases x with
  | gone => trivial
  | cells rw cs c =>
    obtain ⟨h1, arr, el, fr, h2, h3, h4, h5⟩ := h
    exact ⟨h1, arr, el, fr, e.trans h2, h3, h4, h5⟩
  | map es clock =>
    obtain ⟨h0, fs, h1, h2⟩ := h
    exact ⟨h0, fs, e.trans h1, h2⟩
  | loop r =>
    obtain ⟨h0, a, d, h1, h2, h3⟩ := h
    exact ⟨h0, a, d, e.trans h1, h2, h3⟩
  | dfr => exact ⟨h.1, e.trans h.2⟩

theorem OR.lt {β : Places} {l : Loc} {hp : Array Obj} {x : AObj} (h : OR β l hp x) (hx : x.live = true) : l.b < hp.size := by
  cases x with
  | gone => cases hx
  | cells rw cs c => obtain ⟨_, arr, el, fr, h2, _⟩ := h; exact (Array.getElem?_eq_some_iff.1 h2).1
  | map es clock => obtain ⟨_, fs, h1, _⟩ := h; exact (Array.getElem?_eq_some_iff.1 h1).1
  | loop r => obtain ⟨_, a, d, h1, _⟩ := h; exact (Array.getElem?_eq_some_iff.1 h1).1
  | dfr => exact (Array.getElem?_eq_some_iff.1 h.2).1

def Places.at_ (β : Places) (n : Nat) (l : Loc) : Places := fun m => if m = n then some l else β m

theorem Places.at_self (β : Places) (n : Nat) (l : Loc) : β.at_ n l n = some l := by simp [Places.at_]
theorem Places.at_ne (β : Places) {n m : Nat} (l : Loc) (h : m ≠ n) : β.at_ n l m = β m := by simp [Places.at_, h]
theorem Places.ext_at {β : Places} {n : Nat} (h : β n = none) (l : Loc) : Ext β (β.at_ n l) := fun m k hm => by
  have : m ≠ n := fun e => by subst e; rw [h] at hm; cases hm
  rw [Places.at_ne _ _ this, hm]

theorem push_get_lt {hp : Array Obj} {o : Obj} {b : Nat} (h : b < hp.size) : (hp.push o)[b]? = hp[b]? := by
  rw [Array.getElem?_push, if_neg (by omega)]

theorem WR.make {β : Places} {H : Heap} {hp : Array Obj} (h : WR β H hp) {n : Nat} (hn : β n = none) {x : AObj} {o : Obj} {k : Nat} (hk : H.next ≤ k) (hlt : n < k) {ka es km : Nat}
    (hx : OR (β.at_ n ⟨hp.size, 0, ka, es, km⟩) ⟨hp.size, 0, ka, es, km⟩ (hp.push o) x) :
    WR (β.at_ n ⟨hp.size, 0, ka, es, km⟩) { get := fun m => if m = n then x else H.get m, next := k } (hp.push o) where
  obj m l hm := by
    by_cases e : m = n
    · subst e
      rw [Places.at_self] at hm
      cases hm
      simpa using hx
    · rw [Places.at_ne _ _ e] at hm
      simp only [if_neg e]
      have ho := (h.obj m l hm)
      by_cases hl : (H.get m).live = true
      · exact (ho.same (push_get_lt (ho.lt hl))).ext (Places.ext_at hn _)
      · have : H.get m = .gone := by cases hg : H.get m <;> simp_all [AObj.live]
        rw [this]; trivial
  apart a b ka kb ha hb oa ob hne := by
    by_cases ea : a = n
    · subst ea
      rw [Places.at_self] at ha; cases ha
      rw [Places.at_ne _ _ (Ne.symm hne)] at hb
      simp only [if_neg (Ne.symm hne)] at ob
      have := (h.obj b kb hb).lt ob
      simp only; omega
    · by_cases eb : b = n
      · subst eb
        rw [Places.at_self] at hb; cases hb
        rw [Places.at_ne _ _ ea] at ha
        simp only [if_neg ea] at oa
        have := (h.obj a ka ha).lt (AObj.live_of_owns oa)
        simp only; omega
      · rw [Places.at_ne _ _ ea] at ha
        rw [Places.at_ne _ _ eb] at hb
        simp only [if_neg ea] at oa
        simp only [if_neg eb] at ob
        exact h.apart a b ka kb ha hb oa ob hne
  fresh m hm := by
    have : m ≠ n := by simp only at hm; omega
    rw [Places.at_ne _ _ this]
    exact h.fresh m (Nat.le_trans hk hm)
  clean m hm := by
    have : m ≠ n := by simp only at hm; omega
    simp only [if_neg this]
    exact h.clean m (Nat.le_trans hk hm)
  glob g hg := Places.ext_at hn _ _ _ (h.glob g hg)

theorem FR.make {β₀ β : Places} {H₀ H : Heap} {w₀ w : World} (h : FR β₀ H₀ w₀ β H w) {n : Nat} (hn : H₀.next ≤ n) {x : AObj} {o : Obj} {k : Nat} (hk : H.next ≤ k) {ka es km : Nat} :
    FR β₀ H₀ w₀ (β.at_ n ⟨w.heap.size, 0, ka, es, km⟩) { get := fun m => if m = n then x else H.get m, next := k } { w with heap := w.heap.push o } where
  os := h.os
  tape := h.tape
  output := h.output
  size := by simp only [Array.size_push]; have := h.size; omega
  names m hm := by rw [Places.at_ne _ _ (by omega)]; exact h.names m hm
  next := Nat.le_trans h.next hk
  keep b hb ho := by
    have := h.size
    simp only
    rw [push_get_lt (by omega)]
    exact h.keep b hb ho
  own m l hm hl hb := by
    by_cases e : m = n
    · subst e
      rw [Places.at_self] at hm; cases hm
      have := h.size
      simp only at hb; omega
    · rw [Places.at_ne _ _ e] at hm
      simp only [if_neg e] at hl
      exact h.own m l hm hl hb
  phant m hm h0 := by
    have : m ≠ n := by omega
    simp only [if_neg this]
    exact h.phant m hm h0

theorem FR.make0 {β₀ β : Places} {H₀ H : Heap} {w₀ w : World} (h : FR β₀ H₀ w₀ β H w) {n : Nat} (hn : H₀.next ≤ n) {x : AObj} {o : Obj} {k : Nat} (hk : H.next ≤ k) :
    FR β₀ H₀ w₀ (β.at_ n ⟨w.heap.size, 0, 0, 0, 0⟩) { get := fun m => if m = n then x else H.get m, next := k } { w with heap := w.heap.push o } := h.make hn hk

theorem WR.turn {β : Places} {H : Heap} {hp hp' : Array Obj} (h : WR β H hp) {n : Nat} {l : Loc} (hn : β n = some l) (ho : (H.get n).owns = true) {x : AObj} (hx : OR β l hp' x) (hox : x.live = true → (H.get n).live = true)
    (hs : ∀ b, b ≠ l.b → hp'[b]? = hp[b]?) : WR β (H.set n x) hp' where
  obj m k hm := by
    by_cases e : m = n
    · subst e
      rw [hn] at hm; cases hm
      simpa using hx
    · rw [Heap.set_get, if_neg e]
      have h1 := h.obj m k hm
      by_cases hl : (H.get m).live = true
      · exact h1.same (hs _ (fun e' => h.apart n m l k hn hm ho hl (Ne.symm e) e'.symm))
      · have : H.get m = .gone := by cases hg : H.get m <;> simp_all [AObj.live]
        rw [this]; trivial
  apart a b ka kb ha hb oa ob hne := by
    rw [Heap.set_get] at oa ob
    have oa' : (H.get a).owns = true := by
      split at oa
      · next e => subst e; exact ho
      · exact oa
    have ob' : (H.get b).live = true := by
      split at ob
      · next e => subst e; exact hox ob
      · exact ob
    exact h.apart a b ka kb ha hb oa' ob' hne
  fresh m hm := h.fresh m hm
  clean m hm := by
    have : m ≠ n := fun e => by subst e; have := h.fresh m hm; rw [hn] at this; cases this
    rw [Heap.set_get, if_neg this]
    exact h.clean m hm
  glob := h.glob

theorem FR.turn {β₀ β : Places} {H₀ H : Heap} {w₀ w w' : World} (h : FR β₀ H₀ w₀ β H w) {n : Nat} {l : Loc} (hn : β n = some l) (ho : (H.get n).owns = true) (x : AObj)
    (h1 : w'.os = w.os) (h2 : w'.tape = w.tape) (h3 : w'.output = w.output) (h4 : w'.heap.size = w.heap.size) (hs : ∀ b, b ≠ l.b → w'.heap[b]? = w.heap[b]?) :
    FR β₀ H₀ w₀ β (H.set n x) w' where
  os := h1.trans h.os
  tape := h2.trans h.tape
  output := h3.trans h.output
  size := by rw [h4]; exact h.size
  names := h.names
  next := h.next
  keep b hb hno := by
    rw [hs b fun e => ?_]
    · exact h.keep b hb hno
    · subst e
      obtain ⟨m, k, hm, hk, e⟩ := h.own n l hn ho hb
      exact hno m k hm hk e
  own m k hm hk hb := by
    rw [Heap.set_get] at hk
    split at hk
    · next e => subst e; exact h.own m k hm ho hb
    · exact h.own m k hm hk hb
  phant m hm h0 := by
    have : m ≠ n := fun e => by subst e; have := h.names m hm; rw [hn, h0] at this; cases this
    rw [Heap.set_get, if_neg this]
    exact h.phant m hm h0

theorem WR.drop {β : Places} {H : Heap} {hp : Array Obj} (h : WR β H hp) (n : Nat) : WR β (H.set n .gone) hp where
  obj m k hm := by
    rw [Heap.set_get]
    split
    · trivial
    · exact h.obj m k hm
  apart a b ka kb ha hb oa ob hne := by
    rw [Heap.set_get] at oa ob
    split at oa
    · cases oa
    · split at ob
      · cases ob
      · exact h.apart a b ka kb ha hb oa ob hne
  fresh := h.fresh
  clean m hm := by
    rw [Heap.set_get]
    split
    · rfl
    · exact h.clean m hm
  glob := h.glob

theorem FR.drop {β₀ β : Places} {H₀ H : Heap} {w₀ w : World} (h : FR β₀ H₀ w₀ β H w) (n : Nat) (hp : n < H₀.next → β₀ n ≠ none) : FR β₀ H₀ w₀ β (H.set n .gone) w where
  os := h.os
  tape := h.tape
  output := h.output
  size := h.size
  names := h.names
  next := h.next
  keep := h.keep
  own m k hm hk hb := by
    rw [Heap.set_get] at hk
    split at hk
    · cases hk
    · exact h.own m k hm hk hb
  phant m hm h0 := by
    have : m ≠ n := fun e => by subst e; exact hp hm h0
    rw [Heap.set_get, if_neg this]
    exact h.phant m hm h0

theorem TR.put {β : Places} {N : Nat} {t : Nat → Value} {a : Array Value} (h : TR β N t a) {d : Nat} (hd : d < N) {v u : Value} (hv : VR β v u) :
    TR β N (fun y => if y = d then v else t y) (a.setIfInBounds d u) where
  size := by simpa using h.size
  get x hx := by
    have hs := h.size
    by_cases e : x = d
    · subst e
      simp [Array.getD, hs, hx]
      exact hv
    · have := h.get x hx
      have hx' : x < a.size := by omega
      simp only [if_neg e]
      simp only [Array.getD, Array.size_setIfInBounds, hx', dite_true] at this ⊢
      simp only [Array.getInternal_eq_getElem] at this ⊢
      rw [Array.getElem_setIfInBounds_ne hx' (Ne.symm e)]
      exact this
  glob := h.glob

end Go.Ab


namespace Go.Ab

inductive Opd where
  | t (x : Nat)
  | c (v : Value)

def Opd.ev (t : Nat → Value) : Opd → Value
  | .t x => t x
  | .c v => v

def copd (N : Nat) : Operand → Option Opd
  | .tmp x => if x < N then some (.t x) else none
  | .const v => if flat v then some (.c v) else none
  | .func f => some (.c (.func (.func f) #[] #[]))
  | .global g => if g < gmax then some (.c (.pointer (some ⟨g, 0, none⟩))) else none

theorem copd_VR {β : Places} {N : Nat} {t : Nat → Value} {a : Act} {x : Operand} {o : Opd} (h : copd N x = some o) (ht : TR β N t a.tmps) : VR β (o.ev t) (a.eval x) := by
  cases x with
  | tmp x =>
    simp only [copd, Option.ite_none_right_eq_some, Option.some.injEq] at h
    obtain ⟨hx, rfl⟩ := h
    exact ht.get x hx
  | const v =>
    simp only [copd, Option.ite_none_right_eq_some, Option.some.injEq] at h
    obtain ⟨hx, rfl⟩ := h
    exact flat_VR β hx
  | func f =>
    simp only [copd, Option.some.injEq] at h
    subst h
    exact flat1_VR β rfl
  | global g =>
    simp only [copd, Option.ite_none_right_eq_some, Option.some.injEq] at h
    obtain ⟨hg, rfl⟩ := h
    have := VR.ptr (off := 0) (ht.glob g hg)
    exact this

def copds (N : Nat) : List Operand → Option (List Opd)
  | [] => some []
  | x :: l => match copd N x, copds N l with
    | some o, some os => some (o :: os)
    | _, _ => none

theorem copds_VL {β : Places} {N : Nat} {t : Nat → Value} {a : Act} (ht : TR β N t a.tmps) : ∀ {l : List Operand} {os : List Opd}, copds N l = some os → VL β (os.map (·.ev t)) (l.map a.eval)
  | [], os, h => by simp only [copds, Option.some.injEq] at h; subst h; trivial
  | x :: l, os, h => by
    simp only [copds] at h
    split at h
    · rename_i o os' h1 h2
      simp only [Option.some.injEq] at h; subst h
      exact ⟨copd_VR h1 ht, copds_VL ht h2⟩
    · cases h

structure TI where
  agg : Bool
  size : Nat
  bytes : Nat
  zero : List Value

def isAggD : TypeDesc → Bool
  | .struct _ | .array _ _ => true
  | _ => false

def tinfo (P : Program) (T : TypeId) : Option TI :=
  match P.underlying T, P.info? T with
  | some d, some i => match i.zero with
    | some z => if z.cells.size = i.size && z.cells.toList.all flat1 then some { agg := isAggD d, size := i.size, bytes := i.bytes, zero := z.cells.toList } else none
    | none => none
  | _, _ => none

theorem tinfo_spec {P : Program} {T : TypeId} {i : TI} (h : tinfo P T = some i) :
    ∃ d j z, P.underlying T = some d ∧ P.info? T = some j ∧ j.zero = some z ∧ i.agg = isAggD d ∧ i.size = j.size ∧ i.bytes = j.bytes ∧ i.zero = z.cells.toList ∧ i.zero.length = i.size ∧ i.zero.all flat1 = true := by
  unfold tinfo at h
  split at h
  · rename_i d j h1 h2
    split at h
    · rename_i z hz
      split at h
      · rename_i hc
        simp only [Bool.and_eq_true, decide_eq_true_eq] at hc
        simp only [Option.some.injEq] at h
        subst h
        exact ⟨d, j, z, h1, h2, hz, rfl, rfl, rfl, rfl, by simpa using hc.1, hc.2⟩
      · cases h
    · cases h
  · cases h

theorem run_underlying {P : Program} {T : TypeId} {d : TypeDesc} (h : P.underlying T = some d) (w : World) : (underlying T).run P w = .ok d w := by
  simp [underlying, h]
theorem run_typeInfo {P : Program} {T : TypeId} {j : TypeInfo} (h : P.info? T = some j) (w : World) : (typeInfo T).run P w = .ok j w := by
  simp [typeInfo, h]
theorem run_sizeOf {P : Program} {T : TypeId} {j : TypeInfo} (h : P.info? T = some j) (w : World) : (sizeOf T).run P w = .ok j.size w := by
  simp [sizeOf, run_typeInfo h]
theorem run_zeroValue {P : Program} {T : TypeId} {j : TypeInfo} {z : Value} (h : P.info? T = some j) (hz : j.zero = some z) (w : World) : (zeroValue T).run P w = .ok z w := by
  simp [zeroValue, run_typeInfo h, hz]
theorem run_isAgg {P : Program} {T : TypeId} {d : TypeDesc} (h : P.underlying T = some d) (w : World) : (isAgg T).run P w = .ok (isAggD d) w := by
  simp only [isAgg, Sem.run_bind, run_underlying h, Result.andThen_ok]
  cases d <;> rfl

def binI (op : BinOp) : Value → Value → Option Value
  | .int k x, .int k' y =>
    if k = k' then
      match op with
      | .add => some (.int k (k.wrap (x + y)))
      | .sub => some (.int k (k.wrap (x - y)))
      | .mul => some (.int k (k.wrap (x * y)))
      | .quo => if y = 0 then none else some (.int k (k.wrap (x.tdiv y)))
      | .rem => if y = 0 then none else some (.int k (x.tmod y))
      | .eql => some (.bool (x == y))
      | .neq => some (.bool (x != y))
      | .lss => some (.bool (x < y))
      | .leq => some (.bool (x ≤ y))
      | .gtr => some (.bool (x > y))
      | .geq => some (.bool (x ≥ y))
      | _ => none
    else none
  | _, _ => none

theorem binI_run {P : Program} {op : BinOp} {T : TypeId} {x y : Operand} {u v r : Value} (h : binI op u v = some r) (w : World) :
    (do eqGuard op T x y u v; binOp op T u v : Sem Value).run P w = .ok r w := by
  unfold binI at h
  split at h
  · rename_i k a k' b
    split at h
    · rename_i hk
      subst hk
      cases op <;> simp only [Option.some.injEq, reduceCtorEq] at h
      case quo =>
        split at h
        · cases h
        · rename_i hy
          simp only [Option.some.injEq] at h; subst h
          simp [eqGuard, binOp, Op.intDiv, hy]
      case rem =>
        split at h
        · cases h
        · rename_i hy
          simp only [Option.some.injEq] at h; subst h
          simp [eqGuard, binOp, Op.intDiv, hy]
      all_goals (subst h; simp [eqGuard, binOp, Op.intArith, Op.intCmp])
    · cases h
  · cases h

theorem binI_VR {β : Places} {op : BinOp} {u v r u' v' : Value} (h : binI op u v = some r) (h1 : VR β u u') (h2 : VR β v v') : u' = u ∧ v' = v ∧ VR β r r := by
  unfold binI at h
  split at h
  · rename_i k a k' b
    cases h1; cases h2
    refine ⟨rfl, rfl, ?_⟩
    split at h
    · cases op <;> simp only [Option.some.injEq, reduceCtorEq] at h
      case quo => split at h <;> first | (cases h; done) | (simp only [Option.some.injEq] at h; subst h; exact .int _ _)
      case rem => split at h <;> first | (cases h; done) | (simp only [Option.some.injEq] at h; subst h; exact .int _ _)
      all_goals (subst h; first | exact .int _ _ | exact .bool _)
    · cases h
  · cases h

def rdL (cs : List Value) (off n : Nat) : Option (List Value) := if off + n ≤ cs.length then some ((cs.drop off).take n) else none

theorem OR.cell {β : Places} {l : Loc} {w : World} {rw : Bool} {cs : List Value} {c : Nat} (h : OR β l w.heap (.cells rw cs c)) {j : Nat} {v : Value} (hj : cs[j]? = some v) :
    ∃ u, w.cell? ⟨l.b, l.o + j, none⟩ = some u ∧ VR β v u := by
  obtain ⟨h1, arr, el, fr, h2, h3, h4, h5⟩ := h
  obtain ⟨u, hu, hv⟩ := h5.get? hj
  refine ⟨u, ?_, hv⟩
  have hlt : j < cs.length := (List.getElem?_eq_some_iff.1 hj).1
  rw [List.getElem?_take_of_lt hlt, List.getElem?_drop] at hu
  simp only [World.cell?, h2]
  simpa using hu

theorem addr_add (b o i : Nat) : (⟨b, o, none⟩ : Addr).add i = ⟨b, o + i, none⟩ := by
  unfold Addr.add; split
  · next h => subst h; rfl
  · rfl

theorem run_loadRow {β : Places} {P : Program} {l : Loc} {w : World} {rw : Bool} {cs : List Value} {c off n : Nat} (h : OR β l w.heap (.cells rw cs c)) (hn : off + n ≤ cs.length) :
    ∃ ys : Array Value, (loadCells ⟨l.b, l.o + off, none⟩ n).run P w = .ok ys w ∧ VL β ((cs.drop off).take n) ys.toList := by
  have key : ∀ j, j < n → ∃ u, w.cell? ((⟨l.b, l.o + off, none⟩ : Addr).add j) = some u ∧ ∃ v, cs[off + j]? = some v ∧ VR β v u := fun j hj => by
    have hlt : off + j < cs.length := by omega
    obtain ⟨u, h1, h2⟩ := h.cell (j := off + j) (v := cs[off + j]) (by simp [hlt])
    exact ⟨u, by rw [addr_add, Nat.add_assoc]; exact h1, cs[off + j], by simp [hlt], h2⟩
  let f : Nat → Value := fun j => if hj : j < n then (key j hj).choose else undef
  have hf : ∀ j, j < n → w.cell? ((⟨l.b, l.o + off, none⟩ : Addr).add j) = some (f j) ∧ ∃ v, cs[off + j]? = some v ∧ VR β v (f j) := fun j hj => by
    have := (key j hj).choose_spec
    simpa only [f, hj, dif_pos] using this
  refine ⟨((List.range n).map f).toArray, ?_, ?_⟩
  · have := run_loadCells (P := P) (w := w) ⟨l.b, l.o + off, none⟩ n f (fun j hj => (hf j hj).1)
    simpa using this
  · refine VL.of_get (by simp; omega) fun i h1 h2 => ?_
    have hi : i < n := by simp at h1; omega
    obtain ⟨v, hv, hr⟩ := (hf i hi).2
    obtain ⟨hlt, he⟩ := List.getElem?_eq_some_iff.1 hv
    simp only [List.getElem_take, List.getElem_drop, he, List.getElem_map, List.getElem_range]
    exact hr

end Go.Ab


namespace Go.Ab

inductive AOp where
  | mov (x : Opd)
  | pick (c a b : Opd)
  | bin (op : BinOp) (x y : Opd)
  | not (x : Opd)
  | cvi (k : IntKind) (x : Opd)
  | ld (agg : Bool) (sz : Nat) (x : Opd)
  | fld (agg : Bool) (off sz : Nat) (x : Opd)
  | idx (agg : Bool) (len sz : Nat) (x i : Opd)
  | fa (off : Nat) (x : Opd)
  | iar (len sz : Nat) (x i : Opd)
  | isl (sz : Nat) (x i : Opd)
  | sl (sz : Nat) (x : Opd) (lo hi : Option Opd)
  | sla (len sz : Nat) (x : Opd) (lo hi : Option Opd)
  | len (x : Opd)
  | ext (x : Opd) (i : Nat)
  | fn (f : Fn) (first captured : List Opd)
  | nilc (x : Opd)
  | isn (neg : Bool) (x : Opd)
  | lkp (T : TypeId) (z : Value) (x k : Opd)
  | lk1 (T : TypeId) (z : Value) (x k : Opd)
  | bld (zero : List Value) (parts : List (Nat × Nat × Opd))
  | gen (N : Nat) (o : Oper)
  -- new blocks
  | new (z : List Value)
  | box (x : Opd)
  | bsl (len : Nat) (zero : List Value) (parts : List (Nat × Nat × Opd))
  | mks (sz bytes : Nat) (zero : List Value) (len cap : Opd)
  | mkm
  -- the chain
  | st (sz : Nat) (x v : Opd)
  | app (sz bytes : Nat) (s x : Opd)
  | mup (T : TypeId) (x k v : Opd)
  | call (f : Opd) (args : List Opd)

def fillA : List Value → List (Nat × Nat × Value) → Option (List Value)
  | cells, [] => some cells
  | cells, (off, sz, v) :: rest =>
    if v.cells.size = sz ∧ off + v.cells.size ≤ cells.length then fillA (cells.take off ++ (v.cells.toList ++ cells.drop (off + v.cells.size))) rest else none

def evO (t : Nat → Value) : Operand → Value
  | .tmp x => t x
  | .const v => v
  | .global g => .pointer (some ⟨g, 0, none⟩)
  | .func f => .func (.func f) #[] #[]

def flatO (N : Nat) (t : Nat → Value) : Operand → Bool
  | .tmp x => decide (x < N) && flat (t x)
  | .const _ => true
  | .func _ => true
  | .global _ => false

def notSelect : Op → Bool
  | .select .. => false
  | _ => true

open Classical in
noncomputable def genV (P : Program) (ρ : Operand → Value) (o : Oper) : Option Value :=
  if h : ∃ v, flat v = true ∧ ∀ w : World, (execOp ρ o).run P w = .ok (.value v) w then some h.choose else none

theorem genV_some {P : Program} {ρ : Operand → Value} {o : Oper} {v : Value} (h : genV P ρ o = some v) : flat v = true ∧ ∀ w : World, (execOp ρ o).run P w = .ok (.value v) w := by
  unfold genV at h
  split at h
  · rename_i hx
    simp only [Option.some.injEq] at h; subst h
    exact hx.choose_spec
  · cases h

theorem genV_of {P : Program} {ρ : Operand → Value} {o : Oper} {v : Value} (hf : flat v = true) (h : ∀ w : World, (execOp ρ o).run P w = .ok (.value v) w) : genV P ρ o = some v := by
  have hx : ∃ v, flat v = true ∧ ∀ w : World, (execOp ρ o).run P w = .ok (.value v) w := ⟨v, hf, h⟩
  unfold genV
  rw [dif_pos hx]
  have h1 := hx.choose_spec.2 default
  rw [h default] at h1
  simp only [Result.ok.injEq, Next.value.injEq, and_true] at h1
  rw [← h1]

open Classical in
noncomputable def keyV (P : Program) (T : TypeId) (k : Value) (keys : List Value) : Option (Option Nat) :=
  if h : ∃ r : Option Nat, (∀ i, r = some i → i < keys.length) ∧ ∀ (w : World) (es : List MapEntry), es.map (·.key) = keys → (∀ b, (Instr.checkKey b 10000 T k).run P w = .ok () w) ∧ (Instr.findKey T k es).run P w = .ok (r.bind fun i => es[i]?.map fun e => (i, e.val)) w then some h.choose else none

theorem keyV_some {P : Program} {T : TypeId} {k : Value} {keys : List Value} {r : Option Nat} (h : keyV P T k keys = some r) :
    ∀ (w : World) (es : List MapEntry), es.map (·.key) = keys → (∀ b, (Instr.checkKey b 10000 T k).run P w = .ok () w) ∧ (Instr.findKey T k es).run P w = .ok (r.bind fun i => es[i]?.map fun e => (i, e.val)) w := by
  unfold keyV at h
  split at h
  · rename_i hx
    simp only [Option.some.injEq] at h; subst h
    exact hx.choose_spec.2
  · cases h

noncomputable def lkpV (P : Program) (T : TypeId) (z k : Value) (es : List (Value × Value × Nat)) : Option Value :=
  if flat k = true ∧ (es.map (·.1)).all flat = true ∧ flat z = true then match keyV P T k (es.map (·.1)) with
    | some (some i) => es[i]?.map fun e => .tuple #[e.2.1, .bool true]
    | some none => some (.tuple #[z, .bool false])
    | none => none
  else none

noncomputable def lk1V (P : Program) (T : TypeId) (z k : Value) (es : List (Value × Value × Nat)) : Option Value :=
  if flat k = true ∧ (es.map (·.1)).all flat = true ∧ flat z = true then match keyV P T k (es.map (·.1)) with
    | some (some i) => es[i]?.map fun e => e.2.1
    | some none => some z
    | none => none
  else none

noncomputable def aval (P : Program) (t : Nat → Value) (H : Heap) : AOp → Option Value
  | .mov x => some (x.ev t)
  | .pick c a b => match c.ev t with
    | .bool true => some (a.ev t)
    | .bool false => some (b.ev t)
    | _ => none
  | .bin op x y => binI op (x.ev t) (y.ev t)
  | .not x => match x.ev t with
    | .bool b => some (.bool (!b))
    | _ => none
  | .cvi k x => match x.ev t with
    | .int _ n => some (.int k (k.wrap n))
    | _ => none
  | .ld agg sz x => match x.ev t with
    | .pointer (some ⟨n, off, none⟩) => match H.get n with
      | .cells _ cs _ => if agg then (rdL cs off sz).map (fun l => .agg l.toArray) else cs[off]?
      | _ => none
    | _ => none
  | .fld agg off sz x => match x.ev t with
    | .agg xs => if agg then some (.agg (xs.extract off (off + sz))) else xs[off]?
    | _ => none
  | .idx agg len sz x i => match x.ev t, i.ev t with
    | .agg xs, .int _ n => if 0 ≤ n ∧ n < len then (if agg then some (.agg (xs.extract (n.toNat * sz) (n.toNat * sz + sz))) else xs[n.toNat * sz]?) else none
    | _, _ => none
  | .fa off x => match x.ev t with
    | .pointer (some ⟨n, o, none⟩) => some (.pointer (some ⟨n, o + off, none⟩))
    | _ => none
  | .iar len sz x i => match x.ev t, i.ev t with
    | .pointer (some ⟨n, o, none⟩), .int _ k => if 0 ≤ k ∧ k < len then some (.pointer (some ⟨n, o + k.toNat * sz, none⟩)) else none
    | _, _ => none
  | .isl sz x i => match x.ev t, i.ev t with
    | .slice (some ⟨n, o, none⟩) len _, .int _ k => if 0 ≤ k ∧ k < len then some (.pointer (some ⟨n, o + k.toNat * sz, none⟩)) else none
    | _, _ => none
  | .sl sz x lo hi => match x.ev t, (match hi with | none => some none | some y => match y.ev t with | .int _ k => some (some k) | _ => none), (match lo with | none => some none | some y => match y.ev t with | .int _ k => some (some k) | _ => none) with
    | .slice a len cap, some h, some l =>
      let hh : Int := h.getD len
      let ll : Int := l.getD 0
      if 0 ≤ hh ∧ (hh ≤ cap ∨ hh ≤ len) ∧ 0 ≤ ll ∧ ll ≤ hh then
        match a with
        | none => if hh = 0 then some (.slice none 0 0) else none
        | some ⟨n, o, none⟩ => if ll = 0 ∧ (0 < cap ∨ 0 < hh) then some (.slice (some ⟨n, o, none⟩) hh.toNat cap) else if ll < hh then some (.slice (some ⟨n, o + ll.toNat * sz, none⟩) (hh.toNat - ll.toNat) 0) else some (.slice (some ⟨0, 0, some 0⟩) 0 0)
        | _ => none
      else none
    | _, _, _ => none
  | .sla len sz x lo hi => match x.ev t, (match hi with | none => some none | some y => match y.ev t with | .int _ k => some (some k) | _ => none), (match lo with | none => some none | some y => match y.ev t with | .int _ k => some (some k) | _ => none) with
    | .pointer (some ⟨n, o, none⟩), some h, some l =>
      let hh : Int := h.getD len
      let ll : Int := l.getD 0
      if 0 ≤ hh ∧ hh ≤ len ∧ 0 ≤ ll ∧ ll ≤ hh then
        if ll < hh then some (.slice (some ⟨n, o + ll.toNat * sz, none⟩) (hh.toNat - ll.toNat) 0) else some (.slice (some ⟨0, 0, some 0⟩) 0 0)
      else none
    | _, _, _ => none
  | .len x => match x.ev t with
    | .slice _ n _ => some (.int .i64 n)
    | _ => none
  | .ext x i => match x.ev t with
    | .tuple vs => vs[i]?
    | _ => none
  | .fn f first captured => some (.func f (first.map (·.ev t)).toArray (captured.map (·.ev t)).toArray)
  | .nilc x => match x.ev t with
    | .pointer (some a) => some (.pointer (some a))
    | .func (.func f) first captured => some (.func (.func f) first captured)
    | _ => none
  | .isn neg x => match x.ev t with
    | .slice a _ _ => some (.bool (if neg then a.isSome else a.isNone))
    | _ => none
  | .lkp T z x k => match x.ev t with
    | .map (some n) => match H.get n with
      | .map es _ => lkpV P T z (k.ev t) es
      | _ => none
    | _ => none
  | .lk1 T z x k => match x.ev t with
    | .map (some n) => match H.get n with
      | .map es _ => lk1V P T z (k.ev t) es
      | _ => none
    | _ => none
  | .bld zero parts => (fillA zero (parts.map fun (off, sz, x) => (off, sz, x.ev t))).map fun l => .agg l.toArray
  | .gen N o => if o.op.operands.toList.all (flatO N t) then genV P (evO t) o else none
  | _ => none

def copdO (N : Nat) : Option Operand → Option (Option Opd)
  | none => some none
  | some x => (copd N x).map some

def cparts (N : Nat) (place : Nat → Option (Nat × Nat)) : List (Nat × Operand) → Option (List (Nat × Nat × Opd))
  | [] => some []
  | (i, x) :: l => match place i, copd N x, cparts N place l with
    | some (off, sz), some o, some os => some ((off, sz, o) :: os)
    | _, _, _ => none

def splaces (P : Program) (fs : Array Field) : Option (List (Nat × Nat)) :=
  fs.toList.mapM fun f => (P.info? f.type).map fun j => (f.offset, j.size)

def cbuiltin (P : Program) (N : Nat) (o : Oper) (b : Builtin) (args : List Operand) (tys : List TypeId) : Option AOp :=
  match b with
  | .len => match args, tys with
    | [x], [T] => match P.underlying T, copd N x with
      | some (.slice _), some x => some (.len x)
      | some .string, _ => some (.gen N o)
      | some (.array n _), _ => some (.mov (.c (.int .i64 n)))
      | _, _ => none
    | _, _ => none
  | .min => some (.gen N o)
  | .max => some (.gen N o)
  | _ => none

def cval (P : Program) (N : Nat) (o : Oper) : Option AOp :=
  match o.op with
  | .move x | .assign x => (copd N x).map .mov
  | .pick c a b => match copd N c, copd N a, copd N b with
    | some c, some a, some b => some (.pick c a b)
    | _, _, _ => none
  | .load T x => match tinfo P T, copd N x with
    | some i, some x => some (.ld i.agg i.size x)
    | _, _ => none
  | .field T x f => match P.underlying T, copd N x with
    | some (.struct fs), some x => match fs[f]? with
      | some fd => match tinfo P fd.type with
        | some i => some (.fld i.agg fd.offset i.size x)
        | none => none
      | none => none
    | _, _ => none
  | .fieldAddr T x f => match P.underlying T, copd N x with
    | some (.struct fs), some x => match fs[f]? with
      | some fd => match P.info? fd.type with
        | some j => if j.size = 0 then none else some (.fa fd.offset x)
        | none => none
      | none => none
    | _, _ => none
  | .index T x i => match P.underlying T, copd N x, copd N i with
    | some (.array len e), some x, some i => match tinfo P e with
      | some j => some (.idx j.agg len j.size x i)
      | none => none
    | some .string, _, _ => some (.gen N o)
    | _, _, _ => none
  | .indexAddr T x i => match P.underlying T, copd N x, copd N i with
    | some (.array len e), some x, some i => match P.info? e with
      | some j => some (.iar len j.size x i)
      | none => none
    | some (.slice e), some x, some i => match P.info? e with
      | some j => some (.isl j.size x i)
      | none => none
    | _, _, _ => none
  | .slice T x lo hi mx => match P.underlying T, copd N x, copdO N lo, copdO N hi, mx with
    | some (.slice e), some x, some lo, some hi, none => match P.info? e with
      | some j => some (.sl j.size x lo hi)
      | none => none
    | some (.array len e), some x, some lo, some hi, none => match P.info? e with
      | some j => some (.sla len j.size x lo hi)
      | none => none
    | some .string, _, _, _, _ => some (.gen N o)
    | _, _, _, _, _ => none
  | .extract x i => (copd N x).map (.ext · i)
  | .makeFunc (.func f) first captured => match copds N first.toList, copds N captured.toList with
    | some a, some b => some (.fn (.func f) a b)
    | _, _ => none
  | .makeFunc (.via T path f p) first captured => match copds N first.toList, copds N captured.toList with
    | some a, some b => some (.fn (.via T path f p) a b)
    | _, _ => none
  | .nilCheck x => (copd N x).map .nilc
  | .build T parts => match P.underlying T, tinfo P T with
    | some (.struct fs), some i => match splaces P fs with
      | some ps => (cparts N (ps[·]?) parts.toList).map (.bld i.zero)
      | none => none
    | some (.array _ e), some i => match P.info? e with
      | some j => (cparts N (fun k => some (k * j.size, j.size)) parts.toList).map (.bld i.zero)
      | none => none
    | _, _ => none
  | .binOp op T x y _ => match op, P.underlying T, copd N x, y with
    | .eql, some (.slice _), some a, .const (.slice none 0 0) => some (.isn false a)
    | .neq, some (.slice _), some a, .const (.slice none 0 0) => some (.isn true a)
    | _, _, _, _ => match P.underlying T, copd N x, copd N y with
      | some (.int _), some a, some b => match op with
        | .shl | .shr | .and | .or | .xor | .andNot => some (.gen N o)
        | _ => some (.bin op a b)
      | _, _, _ => some (.gen N o)
  | .lookup U x k true => match P.underlying U, copd N x, copd N k with
    | some (.map kt et), some x, some k => match (P.info? et).bind (·.zero) with
      | some z => some (.lkp kt z x k)
      | none => none
    | _, _, _ => none
  | .lookup U x k false => match P.underlying U, copd N x, copd N k with
    | some (.map kt et), some x, some k => match (P.info? et).bind (·.zero) with
      | some z => some (.lk1 kt z x k)
      | none => none
    | _, _, _ => none
  | .unOp .not _ x => (copd N x).map .not
  | .unOp _ _ _ => some (.gen N o)
  | .convert S D x => match P.underlying S, P.underlying D, copd N x with
    | some (.int _), some (.int k), some x => some (.cvi k x)
    | _, _, _ => some (.gen N o)
  | .call c => match c.callee with
    | .builtin b => cbuiltin P N o b c.args.toList c.argTypes.toList
    | _ => none
  | _ => none

section each
variable {P : Program} {β : Places} {N : Nat} {t : Nat → Value} {a : Act} {H : Heap} {w : World} {v : Value}

theorem VR.of_bool {b : Bool} {u : Value} (h : VR β (.bool b) u) : u = .bool b := by cases h; rfl
theorem VR.of_int {k : IntKind} {n : Int} {u : Value} (h : VR β (.int k n) u) : u = .int k n := by cases h; rfl
theorem VR.of_ptr {n off : Nat} {s : Option Nat} {u : Value} (h : VR β (.pointer (some ⟨n, off, s⟩)) u) : ∃ l, β n = some l ∧ s = none ∧ u = .pointer (some ⟨l.b, l.o + off, none⟩) := by
  cases h with
  | ptr h => exact ⟨_, h, rfl, rfl⟩
theorem VR.of_slice {n off len cap : Nat} {u : Value} (h : VR β (.slice (some ⟨n, off, none⟩) len cap) u) :
    ∃ l, β n = some l ∧ ∃ cap', CapR l off len cap cap' ∧ u = .slice (some ⟨l.b, l.o + off, none⟩) len cap' := by
  cases h with
  | slice h hc => exact ⟨_, h, _, hc, rfl⟩
theorem VR.of_snil {len cap : Nat} {u : Value} (h : VR β (.slice none len cap) u) : len = 0 ∧ cap = 0 ∧ u = .slice none 0 0 := by
  cases h with
  | snil => exact ⟨rfl, rfl, rfl⟩
theorem VR.slice_some {x : Addr} {len cap : Nat} {u : Value} (h : VR β (.slice (some x) len cap) u) : ∃ y c, u = .slice (some y) len c := by
  cases h with
  | void a c => exact ⟨_, _, rfl⟩
  | slice h hc => exact ⟨_, _, rfl⟩
theorem VR.slice_len {x : Option Addr} {len cap : Nat} {u : Value} (h : VR β (.slice x len cap) u) : ∃ y c, u = .slice y len c := by
  cases h with
  | snil => exact ⟨_, _, rfl⟩
  | void a c => exact ⟨_, _, rfl⟩
  | slice h hc => exact ⟨_, _, rfl⟩

theorem good_part {xs : Array Value} {u : Value} {T : TypeId} {i : TI} {off : Nat} (hi : tinfo P T = some i) (hu : VR β (.agg xs) u)
    (h : (if i.agg then some (.agg (xs.extract off (off + i.size))) else xs[off]?) = some v) :
    ∃ ys r, u = .agg ys ∧ VR β v r ∧ ∀ w : World, (part T ys off).run P w = .ok r w := by
  obtain ⟨ys, rfl, hl⟩ := hu.of_agg
  obtain ⟨d, j, z, h1, h2, h3, h4, h5, _⟩ := tinfo_spec hi
  refine ⟨ys, ?_⟩
  split at h
  · rename_i hagg
    simp only [Option.some.injEq] at h; subst h
    refine ⟨.agg (ys.extract off (off + i.size)), rfl, .mk_agg ?_, fun w => ?_⟩
    · simp only [Array.toList_extract, List.extract_eq_take_drop]
      exact (hl.drop _).take _
    · simp [part, run_isAgg h1, ← h4, hagg, run_sizeOf h2, h5]
  · rename_i hagg
    have hv : xs.toList[off]? = some v := by simpa using h
    obtain ⟨r, hr, hrv⟩ := hl.get? hv
    refine ⟨r, rfl, hrv, fun w => ?_⟩
    have hr' : ys[off]? = some r := by simpa using hr
    simp [part, run_isAgg h1, ← h4, hagg, hr']

end each

end Go.Ab


namespace Go.Ab

section
variable {P : Program} {β : Places} {N : Nat} {t : Nat → Value} {a : Act} {H : Heap} {w : World} {v : Value} {o : Oper}

theorem gen_sound (ht : TR β N t a.tmps) (hs : ∀ cs b, o.op ≠ .select cs b) (h : aval P t H (.gen N o) = some v) : ∃ u, VR β v u ∧ (execOp a.eval o).run P w = .ok (.value u) w := by
  simp only [aval] at h
  split at h
  · rename_i hfl
    obtain ⟨hf, hr⟩ := genV_some h
    refine ⟨v, flat_VR β hf, ?_⟩
    have he : execOp a.eval o = execOp (evO t) o := execOp_congr o hs fun x hx => by
      have hq := List.all_eq_true.1 hfl x (by simpa using hx)
      cases x with
      | tmp x =>
        simp only [flatO, Bool.and_eq_true, decide_eq_true_eq] at hq
        exact flat_eq hq.2 (ht.get x hq.1)
      | const v => rfl
      | func f => rfl
      | global g => simp [flatO] at hq
    rw [he]
    exact hr w
  · cases h

theorem fillA_run {β : Places} : ∀ {cells : List Value} {ps : List (Nat × Nat × Value)} {out : List Value}, fillA cells ps = some out →
    ∀ {arr : Array Value} {qs : List (Nat × Value)} {place : Nat → Option (Nat × Nat)}, VL β cells arr.toList →
      ps.length = qs.length → (∀ i (h1 : i < ps.length) (h2 : i < qs.length), place qs[i].1 = some (ps[i].1, ps[i].2.1) ∧ VR β ps[i].2.2 qs[i].2) →
      ∃ out', Instr.fill place arr qs = some out' ∧ VL β out out'.toList
  | cells, [], out, h, arr, [], place, hc, _, _ => by
    simp only [fillA, Option.some.injEq] at h; subst h
    exact ⟨arr, rfl, hc⟩
  | cells, (off, sz, v) :: ps, out, h, arr, (i, u) :: qs, place, hc, hl, hp => by
    simp only [fillA] at h
    split at h
    · rename_i hcond
      obtain ⟨hsz, hoff⟩ := hcond
      have h0 := hp 0 (by simp) (by simp)
      simp only [List.getElem_cons_zero] at h0
      obtain ⟨hplace, hv⟩ := h0
      have hcu := hv.cells
      have hsu : u.cells.size = v.cells.size := by have := hcu.length; simp only [Array.length_toList] at this; omega
      have hal : arr.size = cells.length := by have := hc.length; simp only [Array.length_toList] at this; omega
      have hfold : (u.cells.zipIdx.foldl (fun cs (x : Value × Nat) => cs.setIfInBounds (off + x.2) x.1) arr).toList =
          arr.toList.take off ++ (u.cells.toList ++ arr.toList.drop (off + v.cells.size)) := by
        rw [← hsu]
        have gen : ∀ (l : List Value) (k : Nat) (b : Array Value), off + k + l.length ≤ b.size →
            ((l.zipIdx k).foldl (fun cs (x : Value × Nat) => cs.setIfInBounds (off + x.2) x.1) b).toList = b.toList.take (off + k) ++ (l ++ b.toList.drop (off + k + l.length)) := by
          intro l
          induction l with
          | nil => intro k b _; simp
          | cons x l ih =>
            intro k b hb
            simp only [List.length_cons] at hb
            simp only [List.zipIdx_cons, List.foldl_cons]
            rw [ih (k + 1) _ (by simp; omega)]
            simp only [Array.toList_setIfInBounds, List.length_cons]
            have hlt : off + k < b.toList.length := by simp; omega
            rw [List.set_eq_take_append_cons_drop, if_pos hlt]
            have e1 : List.take (off + (k + 1)) (List.take (off + k) b.toList ++ x :: List.drop (off + k + 1) b.toList) = List.take (off + k) b.toList ++ [x] := by
              rw [List.take_append, List.take_of_length_le (by simp; omega)]
              have : off + (k + 1) - (List.take (off + k) b.toList).length = 1 := by simp; omega
              rw [this]; simp
            have e2 : List.drop (off + (k + 1) + l.length) (List.take (off + k) b.toList ++ x :: List.drop (off + k + 1) b.toList) = List.drop (off + k + (l.length + 1)) b.toList := by
              rw [List.drop_append, List.drop_of_length_le (by simp; omega)]
              have : off + (k + 1) + l.length - (List.take (off + k) b.toList).length = l.length + 1 := by simp; omega
              rw [this]
              simp only [List.nil_append, List.drop_succ_cons, List.drop_drop]
              congr 1; omega
            rw [e1, e2]
            simp
        have := gen u.cells.toList 0 arr (by simp; omega)
        rw [← Array.foldl_toList, Array.toList_zipIdx]
        simpa using this
      obtain ⟨out', ho, hvl⟩ := fillA_run (β := β) h (arr := u.cells.zipIdx.foldl (fun cs (x : Value × Nat) => cs.setIfInBounds (off + x.2) x.1) arr) (qs := qs) (place := place)
        (by rw [hfold]; exact (hc.take _).append (hcu.append (hc.drop _))) (by simpa using hl)
        (fun j h1 h2 => hp (j + 1) (Nat.succ_lt_succ h1) (Nat.succ_lt_succ h2))
      refine ⟨out', ?_, hvl⟩
      simp only [Instr.fill, hplace]
      rw [if_neg (by simp; omega)]
      exact ho
    · cases h
  | _, [], _, _, _, _ :: _, _, _, hl, _ => by simp at hl
  | _, _ :: _, _, _, _, [], _, _, hl, _ => by simp at hl

theorem cparts_spec {place : Nat → Option (Nat × Nat)} : ∀ {l : List (Nat × Operand)} {ps : List (Nat × Nat × Opd)}, cparts N place l = some ps →
    ps.length = l.length ∧ ∀ i (h1 : i < ps.length) (h2 : i < l.length), place l[i].1 = some (ps[i].1, ps[i].2.1) ∧ copd N l[i].2 = some ps[i].2.2
  | [], ps, h => by simp only [cparts, Option.some.injEq] at h; subst h; simp
  | (k, x) :: l, ps, h => by
    simp only [cparts] at h
    split at h
    · rename_i off sz q os h1 h2 h3
      simp only [Option.some.injEq] at h; subst h
      obtain ⟨hl, hp⟩ := cparts_spec h3
      refine ⟨by simp [hl], fun i hi1 hi2 => ?_⟩
      cases i with
      | zero => exact ⟨h1, h2⟩
      | succ i => exact hp i (by simpa using hi1) (by simpa using hi2)
    · cases h

theorem parts_run {place : Nat → Option (Nat × Nat)} {zero : List Value} {parts : List (Nat × Operand)} {ps : List (Nat × Nat × Opd)} {out : List Value} (ht : TR β N t a.tmps)
    (hc : cparts N place parts = some ps) (h : fillA zero (ps.map fun (off, sz, x) => (off, sz, x.ev t)) = some out) {arr : Array Value} (hz : VL β zero arr.toList) :
    ∃ out', Instr.fill place arr (parts.map fun (i, x) => (i, a.eval x)) = some out' ∧ VL β out out'.toList := by
  obtain ⟨hl, hp⟩ := cparts_spec hc
  refine fillA_run h hz (by simp [hl]) fun i h1 h2 => ?_
  simp only [List.length_map] at h1 h2
  obtain ⟨h3, h4⟩ := hp i h1 h2
  simp only [List.getElem_map]
  exact ⟨h3, copd_VR h4 ht⟩

theorem splaces_run {fs : Array Field} {ps : List (Nat × Nat)} (h : splaces P fs = some ps) (w : World) :
    (fs.mapM fun f => do pure (f.offset, ← sizeOf f.type) : Sem (Array (Nat × Nat))).run P w = .ok ps.toArray w := by
  rw [Array.mapM_eq_mapM_toList]
  unfold splaces at h
  have : ∀ (l : List Field) (ps : List (Nat × Nat)), (l.mapM fun f => (P.info? f.type).map fun j => (f.offset, j.size)) = some ps →
      (l.mapM fun f => do pure (f.offset, ← sizeOf f.type) : Sem (List (Nat × Nat))).run P w = .ok ps w := by
    intro l
    induction l with
    | nil => intro ps h; simp at h; subst h; simp
    | cons f l ih =>
      intro ps h
      simp only [List.mapM_cons] at h
      cases hf : P.info? f.type with
      | none => simp [hf] at h
      | some j =>
        cases hm : (l.mapM fun f => (P.info? f.type).map fun j => (f.offset, j.size)) with
        | none => simp [hf, hm] at h
        | some qs =>
          simp [hf, hm] at h
          subst h
          rw [List.mapM_cons]
          simp only [Sem.run_bind, run_sizeOf hf, ih _ hm, Result.andThen_ok, Sem.run_pure]
  simp only [Sem.run_map, this _ _ h, Result.andThen_ok]

end

end Go.Ab


namespace Go.Ab

section
variable {P : Program} {β : Places} {N : Nat} {t : Nat → Value} {a : Act} {H : Heap} {w : World} {v : Value} {o : Oper}

theorem s_load {T : TypeId} {x : Operand} {i : TI} {y : Opd} (ho : o.op = .load T x) (hi : tinfo P T = some i) (hx : copd N x = some y) (ht : TR β N t a.tmps) (hw : WR β H w.heap)
    (h : aval P t H (.ld i.agg i.size y) = some v) : ∃ u, VR β v u ∧ (execOp a.eval o).run P w = .ok (.value u) w := by
  simp only [aval] at h
  split at h
  · rename_i n off he
    have hp := copd_VR hx ht
    rw [he] at hp
    obtain ⟨l, hl, _, hev⟩ := hp.of_ptr
    have hob := hw.obj n l hl
    obtain ⟨d, j, z, h1, h2, h3, h4, h5, _⟩ := tinfo_spec hi
    split at h
    · rename_i rw cs c hg
      rw [hg] at hob
      split at h
      · rename_i hagg
        cases hr : rdL cs off i.size with
        | none => simp [hr] at h
        | some r =>
          simp only [hr, Option.map_some, Option.some.injEq] at h
          subst h
          unfold rdL at hr
          split at hr
          · rename_i hle
            simp only [Option.some.injEq] at hr; subst hr
            obtain ⟨ys, hy, hvl⟩ := run_loadRow (P := P) hob hle
            refine ⟨.agg ys, .mk_agg (by simpa using hvl), ?_⟩
            simp [execOp, ho, Instr.loadAt, hev, Instr.sureAddr, loadVar, run_isAgg h1, ← h4, hagg, run_sizeOf h2, ← h5, hy]
          · cases hr
      · rename_i hagg
        obtain ⟨u, hu, hvr⟩ := hob.cell h
        refine ⟨u, hvr, ?_⟩
        simp [execOp, ho, Instr.loadAt, hev, Instr.sureAddr, loadVar, run_isAgg h1, ← h4, hagg, hu]
    · cases h
  · cases h

theorem s_field {T : TypeId} {x : Operand} {f : Nat} {fs : Array Field} {fd : Field} {i : TI} {y : Opd} (ho : o.op = .field T x f) (hT : P.underlying T = some (.struct fs)) (hf : fs[f]? = some fd)
    (hi : tinfo P fd.type = some i) (hx : copd N x = some y) (ht : TR β N t a.tmps) (h : aval P t H (.fld i.agg fd.offset i.size y) = some v) :
    ∃ u, VR β v u ∧ (execOp a.eval o).run P w = .ok (.value u) w := by
  simp only [aval] at h
  split at h
  · rename_i xs he
    have hp := copd_VR hx ht
    rw [he] at hp
    obtain ⟨ys, r, hu, hr, hrun⟩ := good_part hi hp h
    refine ⟨r, hr, ?_⟩
    simp [execOp, ho, Instr.field, run_underlying hT, hf, hu, asAgg, hrun]
  · cases h

theorem s_index {T e : TypeId} {x i : Operand} {len : Nat} {j : TI} {y z : Opd} (ho : o.op = .index T x i) (hT : P.underlying T = some (.array len e)) (hj : tinfo P e = some j)
    (hx : copd N x = some y) (hi : copd N i = some z) (ht : TR β N t a.tmps) (h : aval P t H (.idx j.agg len j.size y z) = some v) :
    ∃ u, VR β v u ∧ (execOp a.eval o).run P w = .ok (.value u) w := by
  simp only [aval] at h
  split at h
  · rename_i xs k n he1 he2
    split at h
    · rename_i hb
      have hp := copd_VR hx ht
      have hq := copd_VR hi ht
      rw [he1] at hp
      rw [he2] at hq
      obtain ⟨d, q, z', h1, h2, h3, h4, h5, _⟩ := tinfo_spec hj
      obtain ⟨ys, r, hu, hr, hrun⟩ := good_part hj hp h
      refine ⟨r, hr, ?_⟩
      simp [execOp, ho, Instr.index, hq.of_int, asIntOf, run_underlying hT, hu, hb, run_sizeOf h2, ← h5, hrun]
    · cases h
  · cases h

theorem s_fa {T : TypeId} {x : Operand} {f : Nat} {fs : Array Field} {fd : Field} {j : TypeInfo} {y : Opd} (ho : o.op = .fieldAddr T x f) (hT : P.underlying T = some (.struct fs)) (hf : fs[f]? = some fd)
    (hj : P.info? fd.type = some j) (hn : j.size ≠ 0) (hx : copd N x = some y) (ht : TR β N t a.tmps) (h : aval P t H (.fa fd.offset y) = some v) :
    ∃ u, VR β v u ∧ (execOp a.eval o).run P w = .ok (.value u) w := by
  simp only [aval] at h
  split at h
  · rename_i n off he
    simp only [Option.some.injEq] at h; subst h
    have hp := copd_VR hx ht
    rw [he] at hp
    obtain ⟨l, hl, _, hev⟩ := hp.of_ptr
    refine ⟨_, .ptr hl, ?_⟩
    simp [execOp, ho, Instr.fieldAt, run_underlying hT, hf, hev, Instr.sureAddr, fieldPlace, run_sizeOf hj, hn, addr_add, Nat.add_assoc]
  · cases h

theorem s_iar {T e : TypeId} {x i : Operand} {len : Nat} {j : TypeInfo} {y z : Opd} (ho : o.op = .indexAddr T x i) (hT : P.underlying T = some (.array len e)) (hj : P.info? e = some j)
    (hx : copd N x = some y) (hi : copd N i = some z) (ht : TR β N t a.tmps) (h : aval P t H (.iar len j.size y z) = some v) :
    ∃ u, VR β v u ∧ (execOp a.eval o).run P w = .ok (.value u) w := by
  simp only [aval] at h
  split at h
  · rename_i n off k m he1 he2
    split at h
    · rename_i hb
      simp only [Option.some.injEq] at h; subst h
      have hp := copd_VR hx ht
      have hq := copd_VR hi ht
      rw [he1] at hp
      rw [he2] at hq
      obtain ⟨l, hl, _, hev⟩ := hp.of_ptr
      refine ⟨_, .ptr hl, ?_⟩
      simp [execOp, ho, Instr.indexAt, hq.of_int, asIntOf, run_underlying hT, hev, Instr.sureAddr, hb, run_sizeOf hj, addr_add, Nat.add_assoc]
    · cases h
  · cases h

theorem s_isl {T e : TypeId} {x i : Operand} {j : TypeInfo} {y z : Opd} (ho : o.op = .indexAddr T x i) (hT : P.underlying T = some (.slice e)) (hj : P.info? e = some j)
    (hx : copd N x = some y) (hi : copd N i = some z) (ht : TR β N t a.tmps) (h : aval P t H (.isl j.size y z) = some v) :
    ∃ u, VR β v u ∧ (execOp a.eval o).run P w = .ok (.value u) w := by
  simp only [aval] at h
  split at h
  · rename_i n off len cap k m he1 he2
    split at h
    · rename_i hb
      simp only [Option.some.injEq] at h; subst h
      have hp := copd_VR hx ht
      have hq := copd_VR hi ht
      rw [he1] at hp
      rw [he2] at hq
      obtain ⟨l, hl, cap', _, hev⟩ := hp.of_slice
      refine ⟨_, .ptr hl, ?_⟩
      simp [execOp, ho, Instr.indexAt, hq.of_int, asIntOf, run_underlying hT, hev, hb, run_sizeOf hj, addr_add, Nat.add_assoc]
    · cases h
  · cases h

theorem s_bin {op : BinOp} {T U : TypeId} {x y : Operand} {p q : Opd} (ho : o.op = .binOp op T x y U) (hx : copd N x = some p) (hy : copd N y = some q) (ht : TR β N t a.tmps)
    (h : aval P t H (.bin op p q) = some v) : ∃ u, VR β v u ∧ (execOp a.eval o).run P w = .ok (.value u) w := by
  simp only [aval] at h
  obtain ⟨h1, h2, h3⟩ := binI_VR h (copd_VR hx ht) (copd_VR hy ht)
  refine ⟨v, h3, ?_⟩
  have := binI_run (P := P) (T := T) (x := x) (y := y) h w
  simp only [execOp, ho, h1, h2]
  rw [Sem.run_bind, this]
  rfl

theorem s_sl {T e : TypeId} {x : Operand} {lo hi : Option Operand} {j : TypeInfo} {y : Opd} {lo' hi' : Option Opd} (ho : o.op = .slice T x lo hi none) (hT : P.underlying T = some (.slice e)) (hj : P.info? e = some j)
    (hx : copd N x = some y) (hlo : copdO N lo = some lo') (hhi : copdO N hi = some hi') (ht : TR β N t a.tmps) (h : aval P t H (.sl j.size y lo' hi') = some v) :
    ∃ u, VR β v u ∧ (execOp a.eval o).run P w = .ok (.value u) w := by
  -- what an end is
  have ends : ∀ {b : Option Operand} {b' : Option Opd} {k : Option Int}, copdO N b = some b' →
      (match b' with | none => some none | some y => match y.ev t with | .int _ k => some (some k) | _ => none) = some k →
      (b = none ∧ k = none) ∨ ∃ z n kd, b = some z ∧ k = some n ∧ a.eval z = .int kd n := by
    intro b b' k hb hk
    cases b with
    | none => simp only [copdO, Option.some.injEq] at hb; subst hb; simp at hk; exact .inl ⟨rfl, hk.symm⟩
    | some z =>
      simp only [copdO, Option.map_eq_some_iff] at hb
      obtain ⟨z', hz, rfl⟩ := hb
      simp only at hk
      split at hk
      · rename_i kd n he
        simp only [Option.some.injEq] at hk; subst hk
        have := copd_VR hz ht
        rw [he] at this
        exact .inr ⟨z, n, kd, rfl, rfl, this.of_int⟩
      · cases hk
  simp only [aval] at h
  split at h
  · rename_i s len cap hk lk he1 he2 he3
    have hh := ends hhi he2
    have hl := ends hlo he3
    split at h
    · rename_i hb
      obtain ⟨b1, b2, b3, b4⟩ := hb
      have hp := copd_VR hx ht
      rw [he1] at hp
      -- the bounds, as the machine reckons them
      have hbounds : ∀ cap' : Nat, (hk.getD (len : Int)) ≤ (cap' : Int) → ∀ w : World, (Instr.sliceBounds true len cap' (lo.map a.eval) (hi.map a.eval) none).run P w = .ok ((lk.getD 0).toNat, (hk.getD len).toNat, cap') w := by
        intro cap' b2 w
        rcases hh with ⟨rfl, rfl⟩ | ⟨z, n, kd, rfl, rfl, hz⟩ <;> rcases hl with ⟨rfl, rfl⟩ | ⟨z', n', kd', rfl, rfl, hz'⟩ <;>
          simp only [Option.getD_none, Option.getD_some] at b1 b2 b3 b4 <;>
          simp [Instr.sliceBounds, Instr.sliceBound, asIntOf, *] <;> (try omega)
        all_goals (rw [if_pos (by omega)]; simp)
      split at h
      · obtain ⟨rfl, rfl, hev⟩ := hp.of_snil
        split at h
        · rename_i e1
          simp only [Option.some.injEq] at h; subst h
          have e2 : lk.getD 0 = 0 := by omega
          refine ⟨.slice none 0 0, .snil, ?_⟩
          simp [execOp, ho, Instr.sliceAt, run_underlying hT, Instr.slice, hev, hbounds 0 (by omega), run_sizeOf hj, e2]
          first | done | (have e1' := e1; simp only [Int.ofNat_zero] at e1'; simp [e1'])
        · cases h
      · rename_i n off
        obtain ⟨l, hl', cap', hcc, hev⟩ := hp.of_slice
        obtain ⟨c1, c2⟩ := hcc
        have b2' : (hk.getD (len : Int)) ≤ cap' := by rcases c2 with rfl | c2 | c2 <;> omega
        have hb' := hbounds cap' b2'
        have hev2 : ∀ (x : Addr), (if cap' = (lk.getD 0).toNat then x else x.add ((lk.getD 0).toNat * j.size)) = if cap' = (lk.getD 0).toNat then x else x.add ((lk.getD 0).toNat * j.size) := fun _ => rfl
        have hrun : ∀ u : Value, u = .slice (some (if cap' = (lk.getD 0).toNat then ⟨l.b, l.o + off, none⟩ else (⟨l.b, l.o + off, none⟩ : Addr).add ((lk.getD 0).toNat * j.size))) ((hk.getD (len : Int)).toNat - (lk.getD 0).toNat) (cap' - (lk.getD 0).toNat) →
            (execOp a.eval o).run P w = .ok (.value u) w := by
          rintro _ rfl
          simp [execOp, ho, Instr.sliceAt, run_underlying hT, Instr.slice, hev, hb', run_sizeOf hj]
          first | done | (split <;> simp)
        split at h
        · rename_i hll
          simp only [Option.some.injEq] at h; subst h
          have e0 : (lk.getD 0).toNat = 0 := by omega
          refine ⟨_, .slice (cap' := cap') hl' ⟨by omega, ?_⟩, hrun _ ?_⟩
          · rcases c2 with c2 | c2 | c2
            · exact .inl c2
            · exact .inr (.inl ⟨c2.1, by omega⟩)
            · exact .inr (.inr c2)
          · rw [e0]; simp [addr_add]
        · rename_i hll
          split at h
          · rename_i hlt
            simp only [Option.some.injEq] at h; subst h
            have hne : ¬ cap' = (lk.getD 0).toNat := by omega
            refine ⟨_, .slice (cap' := cap' - (lk.getD 0).toNat) hl' ⟨by omega, .inr (.inl ⟨rfl, by omega⟩)⟩, hrun _ ?_⟩
            rw [if_neg hne, addr_add, Nat.add_assoc]
          · rename_i hlt
            simp only [Option.some.injEq] at h; subst h
            have e0 : (hk.getD (len : Int)).toNat - (lk.getD 0).toNat = 0 := by omega
            have hr := hrun _ rfl
            rw [e0] at hr
            exact ⟨_, .void _ _, hr⟩
      · cases h
    · cases h
  · cases h

theorem s_sla {T e : TypeId} {x : Operand} {lo hi : Option Operand} {len : Nat} {j : TypeInfo} {y : Opd} {lo' hi' : Option Opd} (ho : o.op = .slice T x lo hi none) (hT : P.underlying T = some (.array len e)) (hj : P.info? e = some j)
    (hx : copd N x = some y) (hlo : copdO N lo = some lo') (hhi : copdO N hi = some hi') (ht : TR β N t a.tmps) (h : aval P t H (.sla len j.size y lo' hi') = some v) :
    ∃ u, VR β v u ∧ (execOp a.eval o).run P w = .ok (.value u) w := by
  have ends : ∀ {b : Option Operand} {b' : Option Opd} {k : Option Int}, copdO N b = some b' →
      (match b' with | none => some none | some y => match y.ev t with | .int _ k => some (some k) | _ => none) = some k →
      (b = none ∧ k = none) ∨ ∃ z n kd, b = some z ∧ k = some n ∧ a.eval z = .int kd n := by
    intro b b' k hb hk
    cases b with
    | none => simp only [copdO, Option.some.injEq] at hb; subst hb; simp at hk; exact .inl ⟨rfl, hk.symm⟩
    | some z =>
      simp only [copdO, Option.map_eq_some_iff] at hb
      obtain ⟨z', hz, rfl⟩ := hb
      simp only at hk
      split at hk
      · rename_i kd n he
        simp only [Option.some.injEq] at hk; subst hk
        have := copd_VR hz ht
        rw [he] at this
        exact .inr ⟨z, n, kd, rfl, rfl, this.of_int⟩
      · cases hk
  simp only [aval] at h
  split at h
  · rename_i n off hk lk he1 he2 he3
    have hh := ends hhi he2
    have hl := ends hlo he3
    split at h
    · rename_i hb
      obtain ⟨b1, b2, b3, b4⟩ := hb
      have hp := copd_VR hx ht
      rw [he1] at hp
      have hbounds : ∀ w : World, (Instr.sliceBounds false len len (lo.map a.eval) (hi.map a.eval) none).run P w = .ok ((lk.getD 0).toNat, (hk.getD (len : Int)).toNat, len) w := by
        intro w
        rcases hh with ⟨rfl, rfl⟩ | ⟨z, n, kd, rfl, rfl, hz⟩ <;> rcases hl with ⟨rfl, rfl⟩ | ⟨z', n', kd', rfl, rfl, hz'⟩ <;>
          simp only [Option.getD_none, Option.getD_some] at b1 b2 b3 b4 <;>
          simp [Instr.sliceBounds, Instr.sliceBound, asIntOf, *] <;> (try omega)
        all_goals (rw [if_pos (by omega)]; simp)
      obtain ⟨l, hl', hpl, hev⟩ := hp.of_ptr
      have hrun : ∀ u : Value, u = .slice (some (if len = (lk.getD 0).toNat then ⟨l.b, l.o + off, none⟩ else (⟨l.b, l.o + off, none⟩ : Addr).add ((lk.getD 0).toNat * j.size))) ((hk.getD (len : Int)).toNat - (lk.getD 0).toNat) (len - (lk.getD 0).toNat) →
          (execOp a.eval o).run P w = .ok (.value u) w := by
        rintro _ rfl
        simp [execOp, ho, Instr.sliceAt, run_underlying hT, hev, Instr.sureAddr, hbounds, run_sizeOf hj]
        first | done | (split <;> simp)
      split at h
      · rename_i hlt
        simp only [Option.some.injEq] at h; subst h
        have hne : ¬ len = (lk.getD 0).toNat := by omega
        refine ⟨_, .slice (cap' := len - (lk.getD 0).toNat) hl' ⟨by omega, .inr (.inl ⟨rfl, by omega⟩)⟩, hrun _ ?_⟩
        rw [if_neg hne, addr_add, Nat.add_assoc]
      · rename_i hlt
        simp only [Option.some.injEq] at h; subst h
        have e0 : (hk.getD (len : Int)).toNat - (lk.getD 0).toNat = 0 := by omega
        have hr := hrun _ rfl
        rw [e0] at hr
        exact ⟨_, .void _ _, hr⟩
    · cases h
  · cases h

theorem s_bldS {T : TypeId} {fs : Array Field} {parts : Array (Nat × Operand)} {i : TI} {pl : List (Nat × Nat)} {ps : List (Nat × Nat × Opd)} (ho : o.op = .build T parts)
    (hd : P.underlying T = some (.struct fs)) (hi : tinfo P T = some i) (hpl : splaces P fs = some pl) (hps : cparts N (pl[·]?) parts.toList = some ps) (ht : TR β N t a.tmps)
    (h : aval P t H (.bld i.zero ps) = some v) : ∃ u, VR β v u ∧ (execOp a.eval o).run P w = .ok (.value u) w := by
  simp only [aval, Option.map_eq_some_iff] at h
  obtain ⟨out, h, rfl⟩ := h
  obtain ⟨d', j, z, h1, h2, h3, h4, h5, h6, h7, h8, h9⟩ := tinfo_spec hi
  have hz : VL β i.zero z.cells.toList := by rw [← h7]; exact flatL_VR β h9
  obtain ⟨out', ho', hvl⟩ := parts_run ht hps h hz
  refine ⟨.agg out', .mk_agg (by simpa using hvl), ?_⟩
  have hsp := splaces_run hpl w
  simp only [bind_pure_comp] at hsp
  simp [execOp, ho, Instr.build, run_zeroValue h2 h3, run_underlying hd, hsp, ho']

theorem s_bldA {T e : TypeId} {len : Nat} {parts : Array (Nat × Operand)} {i : TI} {j : TypeInfo} {ps : List (Nat × Nat × Opd)} (ho : o.op = .build T parts)
    (hd : P.underlying T = some (.array len e)) (hi : tinfo P T = some i) (hj : P.info? e = some j) (hps : cparts N (fun k => some (k * j.size, j.size)) parts.toList = some ps) (ht : TR β N t a.tmps)
    (h : aval P t H (.bld i.zero ps) = some v) : ∃ u, VR β v u ∧ (execOp a.eval o).run P w = .ok (.value u) w := by
  simp only [aval, Option.map_eq_some_iff] at h
  obtain ⟨out, h, rfl⟩ := h
  obtain ⟨d', j', z, h1, h2, h3, h4, h5, h6, h7, h8, h9⟩ := tinfo_spec hi
  have hz : VL β i.zero z.cells.toList := by rw [← h7]; exact flatL_VR β h9
  obtain ⟨out', ho', hvl⟩ := parts_run ht hps h hz
  refine ⟨.agg out', .mk_agg (by simpa using hvl), ?_⟩
  simp [execOp, ho, Instr.build, run_zeroValue h2 h3, run_underlying hd, run_sizeOf hj, ho']

theorem s_makeFunc {fn : Fn} {first captured : Array Operand} {p q : List Opd} (ho : o.op = .makeFunc fn first captured) (hfn : ∀ l, fn ≠ .yield l) (hp : copds N first.toList = some p) (hq : copds N captured.toList = some q)
    (ht : TR β N t a.tmps) (h : aval P t H (.fn fn p q) = some v) : ∃ u, VR β v u ∧ (execOp a.eval o).run P w = .ok (.value u) w := by
  simp only [aval, Option.some.injEq] at h; subst h
  refine ⟨.func fn (first.map a.eval) (captured.map a.eval), ?_, by simp [execOp, ho, Instr.makeFunc]⟩
  have h1 : VL β ((p.map (·.ev t)).toArray).toList (first.map a.eval).toList := by simpa using copds_VL ht hp
  have h2 : VL β ((q.map (·.ev t)).toArray).toList (captured.map a.eval).toList := by simpa using copds_VL ht hq
  exact .func hfn h1.arr.1 h1.arr.2 h2.arr.1 h2.arr.2

end

end Go.Ab


namespace Go.Ab

section
variable {P : Program} {β : Places} {N : Nat} {t : Nat → Value} {a : Act} {H : Heap} {w : World} {v : Value} {o : Oper}

theorem run_eq_nil {P : Program} {T e : TypeId} {x : Option Addr} {l c : Nat} (h : P.underlying T = some (.slice e)) (w : World) : (binOp .eql T (.slice x l c) (.slice none 0 0)).run P w = .ok (.bool x.isNone) w := by
  simp [binOp, run_equal_slice_nil w T e x l c h]
theorem run_ne_nil {P : Program} {T e : TypeId} {x : Option Addr} {l c : Nat} (h : P.underlying T = some (.slice e)) (w : World) : (binOp .neq T (.slice x l c) (.slice none 0 0)).run P w = .ok (.bool (!x.isNone)) w := by
  simp [binOp, run_equal_slice_nil w T e x l c h]

theorem s_isnE {T U e : TypeId} {x : Operand} {x' : Opd} (ho : o.op = .binOp .eql T x (.const (.slice none 0 0)) U) (h1 : P.underlying T = some (.slice e)) (h2 : copd N x = some x') (ht : TR β N t a.tmps) (h : aval P t H (.isn false x') = some v) :
    ∃ u, VR β v u ∧ (execOp a.eval o).run P w = .ok (.value u) w := by
  simp only [aval] at h
  split at h
  · rename_i ad l c he
    simp only [Option.some.injEq] at h; subst h
    have hp := copd_VR h2 ht
    rw [he] at hp
    obtain ⟨y, c', hy, hyn⟩ : ∃ y c', a.eval x = .slice y l c' ∧ y.isNone = ad.isNone := by
      cases ad with
      | none => obtain ⟨rfl, rfl, e⟩ := hp.of_snil; exact ⟨none, 0, e, rfl⟩
      | some ad => obtain ⟨y, c', e⟩ := hp.slice_some; exact ⟨_, c', e, rfl⟩
    refine ⟨_, .bool _, ?_⟩
    simp only [execOp, ho, hy, Sem.run_bind]
    have hg : (eqGuard .eql T x (.const (.slice none 0 0)) (.slice y l c') (a.eval (.const (.slice none 0 0)))).run P w = .ok () w := by simp [eqGuard]
    rw [hg]
    simp only [Result.andThen_ok]
    rw [show a.eval (.const (.slice none 0 0)) = .slice none 0 0 from rfl, run_eq_nil h1]
    simp [hyn]
  · cases h

theorem s_isnN {T U e : TypeId} {x : Operand} {x' : Opd} (ho : o.op = .binOp .neq T x (.const (.slice none 0 0)) U) (h1 : P.underlying T = some (.slice e)) (h2 : copd N x = some x') (ht : TR β N t a.tmps) (h : aval P t H (.isn true x') = some v) :
    ∃ u, VR β v u ∧ (execOp a.eval o).run P w = .ok (.value u) w := by
  simp only [aval] at h
  split at h
  · rename_i ad l c he
    simp only [Option.some.injEq] at h; subst h
    have hp := copd_VR h2 ht
    rw [he] at hp
    obtain ⟨y, c', hy, hyn⟩ : ∃ y c', a.eval x = .slice y l c' ∧ y.isNone = ad.isNone := by
      cases ad with
      | none => obtain ⟨rfl, rfl, e⟩ := hp.of_snil; exact ⟨none, 0, e, rfl⟩
      | some ad => obtain ⟨y, c', e⟩ := hp.slice_some; exact ⟨_, c', e, rfl⟩
    refine ⟨_, .bool _, ?_⟩
    simp only [execOp, ho, hy, Sem.run_bind]
    have hg : (eqGuard .neq T x (.const (.slice none 0 0)) (.slice y l c') (a.eval (.const (.slice none 0 0)))).run P w = .ok () w := by simp [eqGuard]
    rw [hg]
    simp only [Result.andThen_ok]
    rw [show a.eval (.const (.slice none 0 0)) = .slice none 0 0 from rfl, run_ne_nil h1]
    cases ad <;> simp_all
  · cases h

theorem ER_keys {es : List (Value × Value × Nat)} {fs : List MapEntry} (h : ER β es fs) (hk : (es.map (·.1)).all flat = true) : fs.map (·.key) = es.map (·.1) := by
  induction es generalizing fs with
  | nil => cases fs with
    | nil => rfl
    | cons f fs => exact h.elim
  | cons e es ih =>
    obtain ⟨k, v, n⟩ := e
    cases fs with
    | nil => exact h.elim
    | cons f fs =>
      simp only [List.map_cons, List.all_cons, Bool.and_eq_true] at hk ⊢
      rw [ih h.2.2.2 hk.2, flat_eq hk.1 h.1]

theorem ER_get {es : List (Value × Value × Nat)} {fs : List MapEntry} (h : ER β es fs) {i : Nat} {e : Value × Value × Nat} (he : es[i]? = some e) : ∃ f, fs[i]? = some f ∧ VR β e.2.1 f.val := by
  induction es generalizing fs i with
  | nil => simp at he
  | cons e' es ih =>
    obtain ⟨k, v, n⟩ := e'
    cases fs with
    | nil => exact h.elim
    | cons f fs =>
      cases i with
      | zero => simp at he; subst he; exact ⟨f, by simp, h.2.1⟩
      | succ i => simpa using ih h.2.2.2 (by simpa using he)

theorem s_lkp {U kt et : TypeId} {x k : Operand} {x' k' : Opd} {z : Value} (ho : o.op = .lookup U x k true) (h1 : P.underlying U = some (.map kt et)) (hz : (P.info? et).bind (·.zero) = some z) (h2 : copd N x = some x') (h3 : copd N k = some k') (ht : TR β N t a.tmps) (hw : WR β H w.heap)
    (h : aval P t H (.lkp kt z x' k') = some v) : ∃ u, VR β v u ∧ (execOp a.eval o).run P w = .ok (.value u) w := by
  simp only [aval] at h
  split at h
  · rename_i n he
    split at h
    · rename_i es clock hg
      unfold lkpV at h
      split at h
      · rename_i hfl
        obtain ⟨hf1, hf2, hf3⟩ := hfl
        have hp := copd_VR h2 ht
        rw [he] at hp
        have hkp := copd_VR h3 ht
        have hke := flat_eq hf1 hkp
        cases hev : a.eval x <;> rw [hev] at hp <;> cases hp
        rename_i l hl
        have hob := hw.obj n l hl
        rw [hg] at hob
        obtain ⟨hl0, fs, hfs, her⟩ := hob
        have hget : ∀ w' : World, w'.heap = w.heap → (getObj l.b).run P w' = .ok (.map fs clock) w' := fun w' e => by simp [getObj, Sem.run, e, hfs]
        have hkeys := ER_keys her hf2
        obtain ⟨zi, hzi, hzz⟩ := Option.bind_eq_some_iff.1 hz
        split at h
        · rename_i i hk
          obtain ⟨hck, hfk⟩ := keyV_some hk w fs.toList hkeys
          obtain ⟨e, hei, rfl⟩ := Option.map_eq_some_iff.1 h
          obtain ⟨f, hfi, hvf⟩ := ER_get her hei
          refine ⟨.tuple #[f.val, .bool true], .tuple rfl ?_, ?_⟩
          · intro j hj1 hj2
            match j, hj1 with
            | 0, _ => exact hvf
            | 1, _ => exact .bool _
          · simp only [execOp, ho, hev, Instr.lookup, Sem.run_bind, run_underlying h1, Result.andThen_ok, hget w rfl, hke]
            have hfi' : fs[i]? = some f := by simpa using hfi
            simp [hck, hfk, hfi']
        · rename_i hk
          simp only [Option.some.injEq] at h; subst h
          obtain ⟨hck, hfk⟩ := keyV_some hk w fs.toList hkeys
          refine ⟨.tuple #[z, .bool false], .tuple rfl ?_, ?_⟩
          · intro j hj1 hj2
            match j, hj1 with
            | 0, _ => exact flat_VR β hf3
            | 1, _ => exact .bool _
          · simp only [execOp, ho, hev, Instr.lookup, Sem.run_bind, run_underlying h1, Result.andThen_ok, hget w rfl, hke]
            simp [hck, hfk, run_zeroValue hzi hzz]
        · cases h
      · cases h
    · cases h
  · cases h

theorem s_lk1 {U kt et : TypeId} {x k : Operand} {x' k' : Opd} {z : Value} (ho : o.op = .lookup U x k false) (h1 : P.underlying U = some (.map kt et)) (hz : (P.info? et).bind (·.zero) = some z) (h2 : copd N x = some x') (h3 : copd N k = some k') (ht : TR β N t a.tmps) (hw : WR β H w.heap)
    (h : aval P t H (.lk1 kt z x' k') = some v) : ∃ u, VR β v u ∧ (execOp a.eval o).run P w = .ok (.value u) w := by
  simp only [aval] at h
  split at h
  · rename_i n he
    split at h
    · rename_i es clock hg
      unfold lk1V at h
      split at h
      · rename_i hfl
        obtain ⟨hf1, hf2, hf3⟩ := hfl
        have hp := copd_VR h2 ht
        rw [he] at hp
        have hkp := copd_VR h3 ht
        have hke := flat_eq hf1 hkp
        cases hev : a.eval x <;> rw [hev] at hp <;> cases hp
        rename_i l hl
        have hob := hw.obj n l hl
        rw [hg] at hob
        obtain ⟨hl0, fs, hfs, her⟩ := hob
        have hget : ∀ w' : World, w'.heap = w.heap → (getObj l.b).run P w' = .ok (.map fs clock) w' := fun w' e => by simp [getObj, Sem.run, e, hfs]
        have hkeys := ER_keys her hf2
        obtain ⟨zi, hzi, hzz⟩ := Option.bind_eq_some_iff.1 hz
        split at h
        · rename_i i hk
          obtain ⟨hck, hfk⟩ := keyV_some hk w fs.toList hkeys
          obtain ⟨e, hei, rfl⟩ := Option.map_eq_some_iff.1 h
          obtain ⟨f, hfi, hvf⟩ := ER_get her hei
          refine ⟨f.val, hvf, ?_⟩
          · simp only [execOp, ho, hev, Instr.lookup, Sem.run_bind, run_underlying h1, Result.andThen_ok, hget w rfl, hke]
            have hfi' : fs[i]? = some f := by simpa using hfi
            simp [hck, hfk, hfi']
        · rename_i hk
          simp only [Option.some.injEq] at h; subst h
          obtain ⟨hck, hfk⟩ := keyV_some hk w fs.toList hkeys
          refine ⟨z, flat_VR β hf3, ?_⟩
          · simp only [execOp, ho, hev, Instr.lookup, Sem.run_bind, run_underlying h1, Result.andThen_ok, hget w rfl, hke]
            simp [hck, hfk, run_zeroValue hzi hzz]
        · cases h
      · cases h
    · cases h
  · cases h

theorem cval_sound {ao : AOp} (hc : cval P N o = some ao) (ht : TR β N t a.tmps) (hw : WR β H w.heap) (h : aval P t H ao = some v) :
    ∃ u, VR β v u ∧ (execOp a.eval o).run P w = .ok (.value u) w := by
  have hgen : ∀ {ao : AOp}, (some (AOp.gen N o) = some ao) → (∀ cs b, o.op ≠ .select cs b) → aval P t H ao = some v → ∃ u, VR β v u ∧ (execOp a.eval o).run P w = .ok (.value u) w := by
    intro ao e hs h
    simp only [Option.some.injEq] at e; subst e
    exact gen_sound ht hs h
  cases ho : o.op with
  | move x =>
    simp only [cval, ho, Option.map_eq_some_iff] at hc
    obtain ⟨y, hy, rfl⟩ := hc
    simp only [aval, Option.some.injEq] at h; subst h
    exact ⟨_, copd_VR hy ht, by simp [execOp, ho]⟩
  | assign x =>
    simp only [cval, ho, Option.map_eq_some_iff] at hc
    obtain ⟨y, hy, rfl⟩ := hc
    simp only [aval, Option.some.injEq] at h; subst h
    exact ⟨_, copd_VR hy ht, by simp [execOp, ho]⟩
  | pick c x y =>
    simp only [cval, ho] at hc
    split at hc
    · rename_i c' x' y' h1 h2 h3
      simp only [Option.some.injEq] at hc; subst hc
      simp only [aval] at h
      split at h
      · rename_i he
        have hb := copd_VR h1 ht
        rw [he] at hb
        simp only [Option.some.injEq] at h; subst h
        exact ⟨_, copd_VR h2 ht, by simp [execOp, ho, hb.of_bool, asBool]⟩
      · rename_i he
        have hb := copd_VR h1 ht
        rw [he] at hb
        simp only [Option.some.injEq] at h; subst h
        exact ⟨_, copd_VR h3 ht, by simp [execOp, ho, hb.of_bool, asBool]⟩
      · cases h
    · cases hc
  | load T x =>
    simp only [cval, ho] at hc
    split at hc
    · rename_i i y h1 h2
      simp only [Option.some.injEq] at hc; subst hc
      exact s_load ho h1 h2 ht hw h
    · cases hc
  | field T x f =>
    simp only [cval, ho] at hc
    split at hc
    · rename_i fs y h1 h2
      split at hc
      · rename_i fd h3
        split at hc
        · rename_i i h4
          simp only [Option.some.injEq] at hc; subst hc
          exact s_field ho h1 h3 h4 h2 ht h
        · cases hc
      · cases hc
    · cases hc
  | fieldAddr T x f =>
    simp only [cval, ho] at hc
    split at hc
    · rename_i fs y h1 h2
      split at hc
      · rename_i fd h3
        split at hc
        · rename_i j h4
          split at hc
          · cases hc
          · rename_i h5
            simp only [Option.some.injEq] at hc; subst hc
            exact s_fa ho h1 h3 h4 h5 h2 ht h
        · cases hc
      · cases hc
    · cases hc
  | index T x i =>
    simp only [cval, ho] at hc
    split at hc
    · rename_i len e y z h1 h2 h3
      split at hc
      · rename_i j h4
        simp only [Option.some.injEq] at hc; subst hc
        exact s_index ho h1 h4 h2 h3 ht h
      · cases hc
    · exact hgen hc (by simp [ho]) h
    · cases hc
  | indexAddr T x i =>
    simp only [cval, ho] at hc
    split at hc
    · rename_i len e y z h1 h2 h3
      split at hc
      · rename_i j h4
        simp only [Option.some.injEq] at hc; subst hc
        exact s_iar ho h1 h4 h2 h3 ht h
      · cases hc
    · rename_i e y z h1 h2 h3
      split at hc
      · rename_i j h4
        simp only [Option.some.injEq] at hc; subst hc
        exact s_isl ho h1 h4 h2 h3 ht h
      · cases hc
    · cases hc
  | slice T x lo hi mx =>
    simp only [cval, ho] at hc
    split at hc
    · rename_i e y lo' hi' h1 h2 h3 h4
      split at hc
      · rename_i j h5
        simp only [Option.some.injEq] at hc; subst hc
        exact s_sl ho h1 h5 h2 h3 h4 ht h
      · cases hc
    · rename_i len e y lo' hi' h1 h2 h3 h4
      split at hc
      · rename_i j h5
        simp only [Option.some.injEq] at hc; subst hc
        exact s_sla ho h1 h5 h2 h3 h4 ht h
      · cases hc
    · exact hgen hc (by simp [ho]) h
    · cases hc
  | extract x i =>
    simp only [cval, ho, Option.map_eq_some_iff] at hc
    obtain ⟨y, hy, rfl⟩ := hc
    simp only [aval] at h
    split at h
    · rename_i vs he
      have hp := copd_VR hy ht
      rw [he] at hp
      obtain ⟨ys, hu, hl⟩ := hp.of_tuple
      have hv : vs.toList[i]? = some v := by simpa using h
      obtain ⟨r, hr, hrv⟩ := hl.get? hv
      have hr' : ys[i]? = some r := by simpa using hr
      exact ⟨r, hrv, by simp [execOp, ho, Instr.extract, hu, hr']⟩
    · cases h
  | makeFunc fn first captured =>
    cases fn <;> simp only [cval, ho, reduceCtorEq] at hc
    case func f =>
      split at hc
      · rename_i p q h1 h2
        simp only [Option.some.injEq] at hc; subst hc
        exact s_makeFunc ho (by simp) h1 h2 ht h
      · cases hc
    case via T path f p' =>
      split at hc
      · rename_i p q h1 h2
        simp only [Option.some.injEq] at hc; subst hc
        exact s_makeFunc ho (by simp) h1 h2 ht h
      · cases hc
  | nilCheck x =>
    simp only [cval, ho, Option.map_eq_some_iff] at hc
    obtain ⟨y, hy, rfl⟩ := hc
    simp only [aval] at h
    have hp := copd_VR hy ht
    split at h
    · rename_i ad he
      rw [he] at hp
      obtain ⟨n, off, s⟩ := ad
      simp only [Option.some.injEq] at h; subst h
      obtain ⟨l, hl, rfl, hev⟩ := hp.of_ptr
      exact ⟨_, .ptr hl, by simp [execOp, ho, hev]⟩
    · rename_i f first captured he
      rw [he] at hp
      simp only [Option.some.injEq] at h; subst h
      cases hev : a.eval x <;> rw [hev] at hp <;> cases hp
      rename_i h1 h2 h3 h4 h5
      exact ⟨_, .func h1 h2 h3 h4 h5, by simp [execOp, ho, hev]⟩
    · cases h
  | build T parts =>
    simp only [cval, ho] at hc
    split at hc
    · rename_i fs i h1 h2
      split at hc
      · rename_i ps h3
        simp only [Option.map_eq_some_iff] at hc
        obtain ⟨qs, h4, rfl⟩ := hc
        exact s_bldS ho h1 h2 h3 h4 ht h
      · cases hc
    · rename_i len e i h1 h2
      split at hc
      · rename_i j h3
        simp only [Option.map_eq_some_iff] at hc
        obtain ⟨qs, h4, rfl⟩ := hc
        exact s_bldA ho h1 h2 h3 h4 ht h
      · cases hc
    · cases hc
  | binOp op T x y U =>
    simp only [cval, ho] at hc
    split at hc
    · rename_i e p h1 h2
      simp only [Option.some.injEq] at hc; subst hc
      exact s_isnE ho h1 h2 ht h
    · rename_i e p h1 h2
      simp only [Option.some.injEq] at hc; subst hc
      exact s_isnN ho h1 h2 ht h
    · split at hc
      · rename_i k p q h1 h2 h3
        split at hc
        all_goals first
          | exact hgen hc (by simp [ho]) h
          | (simp only [Option.some.injEq] at hc; subst hc; exact s_bin ho h2 h3 ht h)
      · exact hgen hc (by simp [ho]) h
  | lookup U x k ok =>
    cases ok with
    | false =>
      simp only [cval, ho] at hc
      split at hc
      · rename_i kt et x' k' h1 h2 h3
        split at hc
        · rename_i z hz
          simp only [Option.some.injEq] at hc; subst hc
          exact s_lk1 ho h1 hz h2 h3 ht hw h
        · cases hc
      · cases hc
    | true =>
      simp only [cval, ho] at hc
      split at hc
      · rename_i kt et x' k' h1 h2 h3
        split at hc
        · rename_i z hz
          simp only [Option.some.injEq] at hc; subst hc
          exact s_lkp ho h1 hz h2 h3 ht hw h
        · cases hc
      · cases hc
  | unOp op T x =>
    cases op with
    | not =>
      simp only [cval, ho, Option.map_eq_some_iff] at hc
      obtain ⟨y, hy, rfl⟩ := hc
      simp only [aval] at h
      split at h
      · rename_i b he
        have hp := copd_VR hy ht
        rw [he] at hp
        simp only [Option.some.injEq] at h; subst h
        exact ⟨_, .bool _, by simp [execOp, ho, Op.unary, hp.of_bool]⟩
      · cases h
    | neg => simp only [cval, ho] at hc; exact hgen hc (by simp [ho]) h
    | xor => simp only [cval, ho] at hc; exact hgen hc (by simp [ho]) h
    | plus => simp only [cval, ho] at hc; exact hgen hc (by simp [ho]) h
  | convert S D x =>
    simp only [cval, ho] at hc
    split at hc
    · rename_i k1 k y h1 h2 h3
      simp only [Option.some.injEq] at hc; subst hc
      simp only [aval] at h
      split at h
      · rename_i k0 n he
        have hp := copd_VR h3 ht
        rw [he] at hp
        simp only [Option.some.injEq] at h; subst h
        exact ⟨_, .int _ _, by simp [execOp, ho, convert, run_underlying h1, run_underlying h2, hp.of_int, Conv.intToInt]⟩
      · cases h
    · exact hgen hc (by simp [ho]) h
  | call c =>
    obtain ⟨callee, args, argTypes⟩ := c
    simp only [cval, ho] at hc
    split at hc
    · rename_i b
      cases b <;> simp only [cbuiltin, reduceCtorEq] at hc
      case min => exact hgen hc (by simp [ho]) h
      case max => exact hgen hc (by simp [ho]) h
      case len =>
        split at hc
        · rename_i x T ha hty
          have ha' : args = #[x] := by cases args; simp_all
          have hty' : argTypes = #[T] := by cases argTypes; simp_all
          subst ha'; subst hty'
          split at hc
          · rename_i e y h1 h2
            simp only [Option.some.injEq] at hc; subst hc
            simp only [aval] at h
            split at h
            · rename_i ad n cap he
              have hp := copd_VR h2 ht
              rw [he] at hp
              obtain ⟨z, c', hz⟩ := hp.slice_len
              simp only [Option.some.injEq] at h; subst h
              exact ⟨_, .int _ _, by simp [execOp, ho, resolve, invoke, builtin, Builtin.len_, run_underlying h1, hz, goInt]⟩
            · cases h
          · exact hgen hc (by simp [ho]) h
          · rename_i n d hT
            simp only [Option.some.injEq] at hc; subst hc
            simp only [aval, Opd.ev, Option.some.injEq] at h; subst h
            exact ⟨_, .int _ _, by simp [execOp, ho, resolve, invoke, builtin, Builtin.len_, run_underlying hT, goInt]⟩
          · cases hc
        · cases hc
    · cases hc
  | _ => simp only [cval, ho] at hc; cases hc

end

end Go.Ab

