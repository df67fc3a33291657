/-
  Joined texts of a calculus of abstract memory, of the program's code in it, and of contracts.
-/
import Derived.Test.YtfijnkhiojejfaaJ3
import Derived.Laws.StructEq
import Derived.Deep.Slices
import Derived.OpenShut
import Derived.Carry
namespace Go.Ab

class Held (α : Type) where
  it : α

section
variable {α : Type} {n : Nat} {o : Option α} {v : α} {k : α → Prop} {b : Bool} {p q : Prop} {x : Value} {P : Program} {args : List Value} {H : Heap} {R : Value → Heap → Prop}

def oval (o : Option α) [k : Held (α → Prop)] : Prop := ∃ v, o = some v ∧ k.it v
@[simp] theorem oval_some : @oval α (some v) ⟨k⟩ = k v := by simp [oval]
@[simp] theorem oval_none : @oval α none ⟨k⟩ = False := by simp [oval]
theorem oval_pair {γ : Type} {o : Option (α × γ)} {k : α → γ → Prop} : (∃ x v, o = some (x, v) ∧ k x v) = @oval _ o ⟨fun p => k p.1 p.2⟩ :=
  propext ⟨fun ⟨x, v, h, hk⟩ => ⟨(x, v), h, hk⟩, fun ⟨(x, v), h, hk⟩ => ⟨x, v, h, hk⟩⟩
def fcond (b : Bool) [p : Held Prop] [q : Held Prop] : Prop := acond b p.it q.it
@[simp] theorem fcond_true : @fcond true ⟨p⟩ ⟨q⟩ = p := by simp [fcond, acond]
@[simp] theorem fcond_false : @fcond false ⟨p⟩ ⟨q⟩ = q := by simp [fcond, acond]
theorem fcond_intro (h1 : b = true → p) (h2 : b = false → q) : @fcond b ⟨p⟩ ⟨q⟩ := ⟨h1, h2⟩

def vcond (x : Value) [p : Held Prop] [q : Held Prop] : Prop := ∃ b, x = .bool b ∧ acond b p.it q.it
@[simp] theorem vcond_bool : @vcond (.bool b) ⟨p⟩ ⟨q⟩ = @fcond b ⟨p⟩ ⟨q⟩ := by simp [vcond, fcond]

def fand (p : Prop) [q : Held Prop] : Prop := p ∧ q.it
@[simp] theorem fand_true : @fand True ⟨q⟩ = q := by simp [fand]
@[simp] theorem fand_false : @fand False ⟨q⟩ = False := by simp [fand]
def fcall (P : Program) (x : Value) (args : List Value) (H : Heap) [R : Held (Value → Heap → Prop)] : Prop := ACall P x args H R.it
theorem fcall_intro (h : ACall P x args H R) : @fcall P x args H ⟨R⟩ := h
theorem fcall_fun {f : FuncId} {R' : Value → Heap → Prop} (h : AFun P f args H R') (k : ∀ v H', R' v H' → R v H') : @fcall P (.func (.func f) #[] #[]) args H ⟨R⟩ :=
  (ACall.plain h).mono k

def fapp (ob : Option (Nat × List Value × Option Nat × Nat)) (oc : Option (Nat × List Value)) (sz bytes : Nat) (H : Heap) (n nx : Nat) [R : Held (Value → Heap → Prop)] : Prop :=
  ∃ len cs old cap k new, ob = some (len, cs, old, cap) ∧ oc = some (k, new) ∧ new.all one = true ∧ (4 * (len + k) + 4096) * bytes ≤ 2 ^ 48 ∧
    (if old = none ∧ k = 0 then R.it (.slice none 0 0) { H with next := nx } else R.it (.slice (some ⟨n, 0, none⟩) (len + k) (capN cap len k)) (appHeap H n nx old (cs ++ new) (capN cap len k * sz)))
theorem fapp_intro {ob : Option (Nat × List Value × Option Nat × Nat)} {oc : Option (Nat × List Value)} {sz bytes nx len cap k : Nat} {cs new : List Value} {old : Option Nat} (h1 : ob = some (len, cs, old, cap)) (h2 : oc = some (k, new)) (hp : 0 < k)
    (h3 : new.all one = true) (h4 : (4 * (len + k) + 4096) * bytes ≤ 2 ^ 48) (h5 : ∀ cap', len + k ≤ cap' → R (.slice (some ⟨n, 0, none⟩) (len + k) cap') (appHeap H n nx old (cs ++ new) (cap' * sz))) : @fapp ob oc sz bytes H n nx ⟨R⟩ := by
  refine ⟨len, cs, old, cap, k, new, h1, h2, h3, h4, ?_⟩
  rw [if_neg (by omega)]
  exact h5 _ (by unfold capN; rw [if_neg (by omega)]; exact Nat.le_refl _)

def floop (s : St) [B : Held (APost → St → Prop)] [Q : Held APost] : Prop := aloop B.it Q.it s
theorem floop_intro {B : APost → St → Prop} {Q : APost} {s : St} (I : St → Prop) (μ : St → Nat) (h0 : I s) (h : ∀ s, I s → B (thenQ (fun s' => I s' ∧ μ s' < μ s) Q) s) : @floop s ⟨B⟩ ⟨Q⟩ := ⟨I, μ, h0, h⟩

def frange (s : St) [h : Held (St → Prop)] : Prop := h.it s
theorem frange_intro {h : St → Prop} {s : St} (k : h s) : @frange s ⟨h⟩ := k
end

section
variable {P : Program} {N : Nat} {ro : Option Nat} {D : Nat → List DStep → St → (St → Prop) → Prop} {t : Nat → Value} {dd : List Nat} {H : Heap} {K : St → Prop} {Q : APost} {s : St}

@[simp ↓] theorem vc_skip : vc P N ro D .skip Q s = Q .normal s := rfl
@[simp ↓] theorem vc_region {l : List AOper} : vc P N ro D (.region l) Q s = vopers P l s (Q .normal) := rfl
@[simp ↓] theorem vc_seq {a b : ACode} : vc P N ro D (.seq a b) Q s = vc P N ro D a (thenQ (vc P N ro D b Q) Q) s := rfl
@[simp ↓] theorem vc_cond {c : Opd} {a b : ACode} : vc P N ro D (.cond c a b) Q ⟨t, dd, H⟩ = @vcond (c.ev t) ⟨(vc P N ro D a Q ⟨t, dd, H⟩)⟩ ⟨(vc P N ro D b Q ⟨t, dd, H⟩)⟩ := rfl
@[simp ↓] theorem vc_block {i : Nat} {b : ACode} : vc P N ro D (.block i b) Q s = vc P N ro D b (blockQ i Q) s := rfl
@[simp ↓] theorem vc_loop {b : ACode} : vc P N ro D (.loop b) Q s = @floop s ⟨vc P N ro D b⟩ ⟨Q⟩ := rfl
@[simp ↓] theorem vc_exit {i : Nat} : vc P N ro D (.exit i) Q s = Q (.exit i) s := rfl
@[simp ↓] theorem vc_ret : vc P N ro D .ret Q s = Q .ret s := rfl
@[simp ↓] theorem vc_range {g : Opd} {ps : Array Tmp} {x y : Code} {ax ay : ACode} : vc P N ro D (.rangeF g ps x y ax ay) Q s = @frange s ⟨arange P N ro g ps x y Q⟩ := rfl
@[simp ↓] theorem vc_draw {n : Nat} {l : List DStep} : vc P N ro (vdrawD P) (.draw n l) Q ⟨t, dd, H⟩ = vdraw P H.next l [] ⟨t, dd, ⟨H.get, H.next + n⟩⟩ (Q .normal) := rfl

@[simp ↓] theorem thenQ_normal : thenQ K Q .normal s = K s := rfl
@[simp ↓] theorem thenQ_exit {i : Nat} : thenQ K Q (.exit i) s = Q (.exit i) s := rfl
@[simp ↓] theorem thenQ_ret : thenQ K Q .ret s = Q .ret s := rfl
@[simp ↓] theorem blockQ_normal {i : Nat} : blockQ i Q .normal s = Q .normal s := rfl
@[simp ↓] theorem blockQ_exit_same {i : Nat} : blockQ i Q (.exit i) s = Q .normal s := by simp [blockQ]
theorem blockQ_exit_other {i j : Nat} (h : j ≠ i) : blockQ i Q (.exit j) s = Q (.exit j) s := by simp [blockQ, h]
@[simp ↓ low] theorem blockQ_exit {i j : Nat} : blockQ i Q (.exit j) s = if j = i then Q .normal s else Q (.exit j) s := rfl
@[simp ↓] theorem blockQ_ret {i : Nat} : blockQ i Q .ret s = Q .ret s := rfl
@[simp ↓] theorem bodyQ_normal {rs : List AOp} {R : Value → Heap → Prop} : bodyQ P rs R .normal ⟨t, dd, H⟩ = vleave dd H fun H' => @oval _ (avals P t H' rs) ⟨fun vs => R (tup vs) H'⟩ := rfl
@[simp ↓] theorem bodyQ_ret {rs : List AOp} {R : Value → Heap → Prop} : bodyQ P rs R .ret ⟨t, dd, H⟩ = vleave dd H fun H' => @oval _ (avals P t H' rs) ⟨fun vs => R (tup vs) H'⟩ := rfl
@[simp ↓] theorem vleave_nil {K : Heap → Prop} : vleave [] H K = K H := rfl
@[simp ↓] theorem vleave_cons {n : Nat} {d : List Nat} {K : Heap → Prop} : vleave (n :: d) H K = @fand (H.get n = .dfr) ⟨vleave d (H.set n .gone) K⟩ := rfl
@[simp] theorem avals_nil : avals P t H [] = some [] := rfl
@[simp] theorem avals_one {x : AOp} : avals P t H [x] = (aval P t H x).map fun v => [v] := by simp only [avals]; cases aval P t H x <;> rfl
@[simp] theorem avals_two {x y : AOp} : avals P t H [x, y] = (aval P t H x).bind fun v => (aval P t H y).map fun u => [v, u] := by
  simp only [avals]; cases aval P t H x <;> cases aval P t H y <;> rfl
@[simp] theorem avals_three {x y z : AOp} : avals P t H [x, y, z] = (aval P t H x).bind fun v => (aval P t H y).bind fun u => (aval P t H z).map fun r => [v, u, r] := by
  simp only [avals]; cases aval P t H x <;> cases aval P t H y <;> cases aval P t H z <;> rfl
@[simp] theorem tup_one {v : Value} : tup [v] = v := rfl
@[simp] theorem tup_two {v u : Value} : tup [v, u] = .tuple #[v, u] := rfl
@[simp] theorem tup_three {v u r : Value} : tup [v, u, r] = .tuple #[v, u, r] := rfl
@[simp] theorem tup_nil : tup [] = .tuple #[] := rfl

@[simp] theorem ev_t {x : Nat} : Opd.ev t (.t x) = t x := rfl
@[simp] theorem ev_c {v : Value} : Opd.ev t (.c v) = v := rfl
@[simp] theorem upd_same {d : Nat} {v : Value} : upd t d v d = v := by simp [upd]
@[simp low] theorem upd_apply {d : Nat} {v : Value} {y : Nat} : upd t d v y = if y = d then v else t y := rfl
@[simp] theorem tinit_apply {args : List Value} {x : Nat} : tinit args x = args.getD x undef := rfl
@[simp] theorem gval_bool {b want : Bool} : gval (.bool b) want = (b == want) := rfl
@[simp] theorem gval_undef {want : Bool} : gval undef want = false := rfl

@[simp ↓] theorem vopers_nil : vopers P [] s K = K s := rfl
@[simp ↓] theorem vopers_guard {d : Option Nat} {op : AOp} {x : Nat} {want : Bool} {l : List AOper} :
    vopers P (⟨d, op, some (x, want)⟩ :: l) ⟨t, dd, H⟩ K = @fcond (gval (t x) want) ⟨(vopers P (⟨d, op, none⟩ :: l) ⟨t, dd, H⟩ K)⟩ ⟨(vopers P l (St.put ⟨t, dd, H⟩ d undef) K)⟩ := rfl

@[simp] theorem aval_mov {x : Opd} : aval P t H (.mov x) = some (x.ev t) := rfl
@[simp] theorem aval_bin {op : BinOp} {x y : Opd} : aval P t H (.bin op x y) = binI op (x.ev t) (y.ev t) := rfl
@[simp] theorem aval_fn {f : Fn} {a b : List Opd} : aval P t H (.fn f a b) = some (.func f (a.map (·.ev t)).toArray (b.map (·.ev t)).toArray) := rfl
def pickV : Value → Value → Value → Option Value
  | .bool true, a, _ => some a
  | .bool false, _, b => some b
  | _, _, _ => none
@[simp] theorem aval_pick {c x y : Opd} : aval P t H (.pick c x y) = pickV (c.ev t) (x.ev t) (y.ev t) := by
  simp only [aval, pickV]; split <;> simp_all
@[simp] theorem pickV_true {x y : Value} : pickV (.bool true) x y = some x := rfl
@[simp] theorem pickV_false {x y : Value} : pickV (.bool false) x y = some y := rfl
def notV : Value → Option Value
  | .bool b => some (.bool !b)
  | _ => none
@[simp] theorem aval_not {x : Opd} : aval P t H (.not x) = notV (x.ev t) := rfl
@[simp] theorem notV_bool {b : Bool} : notV (.bool b) = some (.bool !b) := rfl
def cviV (k : IntKind) : Value → Option Value
  | .int _ n => some (.int k (k.wrap n))
  | _ => none
@[simp] theorem aval_cvi {k : IntKind} {x : Opd} : aval P t H (.cvi k x) = cviV k (x.ev t) := rfl
@[simp] theorem cviV_int {k j : IntKind} {n : Int} : cviV k (.int j n) = some (.int k (k.wrap n)) := rfl
def ldV (H : Heap) (agg : Bool) (sz : Nat) : Value → Option Value
  | .pointer (some ⟨n, off, none⟩) => match H.get n with
    | .cells _ cs _ => if agg then (rdL cs off sz).map (fun l => .agg l.toArray) else cs[off]?
    | _ => none
  | _ => none
@[simp] theorem aval_ld {agg : Bool} {sz : Nat} {x : Opd} : aval P t H (.ld agg sz x) = ldV H agg sz (x.ev t) := rfl
theorem ldV_one {n off sz : Nat} {rw : Bool} {cs : List Value} {c : Nat} (h : H.get n = .cells rw cs c) : ldV H false sz (.pointer (some ⟨n, off, none⟩)) = cs[off]? := by simp [ldV, h]
def fldV (agg : Bool) (off sz : Nat) : Value → Option Value
  | .agg xs => if agg then some (.agg (xs.extract off (off + sz))) else xs[off]?
  | _ => none
@[simp] theorem aval_fld {agg : Bool} {off sz : Nat} {x : Opd} : aval P t H (.fld agg off sz x) = fldV agg off sz (x.ev t) := rfl
@[simp] theorem fldV_agg {agg : Bool} {off sz : Nat} {xs : Array Value} : fldV agg off sz (.agg xs) = if agg then some (.agg (xs.extract off (off + sz))) else xs[off]? := rfl
def faV (off : Nat) : Value → Option Value
  | .pointer (some ⟨n, o, none⟩) => some (.pointer (some ⟨n, o + off, none⟩))
  | _ => none
@[simp] theorem aval_fa {off : Nat} {x : Opd} : aval P t H (.fa off x) = faV off (x.ev t) := rfl
@[simp] theorem faV_ptr {off n o : Nat} : faV off (.pointer (some ⟨n, o, none⟩)) = some (.pointer (some ⟨n, o + off, none⟩)) := rfl
def iarV (len sz : Nat) : Value → Value → Option Value
  | .pointer (some ⟨n, o, none⟩), .int _ k => if 0 ≤ k ∧ k < len then some (.pointer (some ⟨n, o + k.toNat * sz, none⟩)) else none
  | _, _ => none
@[simp] theorem aval_iar {len sz : Nat} {x i : Opd} : aval P t H (.iar len sz x i) = iarV len sz (x.ev t) (i.ev t) := rfl
theorem iarV_in {len sz n o : Nat} {k : IntKind} {i : Int} (h0 : 0 ≤ i) (h1 : i < len) : iarV len sz (.pointer (some ⟨n, o, none⟩)) (.int k i) = some (.pointer (some ⟨n, o + i.toNat * sz, none⟩)) := by
  simp [iarV, h0, h1]
def islV (sz : Nat) : Value → Value → Option Value
  | .slice (some ⟨n, o, none⟩) len _, .int _ k => if 0 ≤ k ∧ k < len then some (.pointer (some ⟨n, o + k.toNat * sz, none⟩)) else none
  | _, _ => none
@[simp] theorem aval_isl {sz : Nat} {x i : Opd} : aval P t H (.isl sz x i) = islV sz (x.ev t) (i.ev t) := rfl
theorem islV_in {sz n o len cap : Nat} {k : IntKind} {i : Int} (h0 : 0 ≤ i) (h1 : i < len) : islV sz (.slice (some ⟨n, o, none⟩) len cap) (.int k i) = some (.pointer (some ⟨n, o + i.toNat * sz, none⟩)) := by
  simp [islV, h0, h1]
def lenV : Value → Option Value
  | .slice _ n _ => some (.int .i64 n)
  | _ => none
@[simp] theorem aval_len {x : Opd} : aval P t H (.len x) = lenV (x.ev t) := rfl
@[simp] theorem lenV_slice {a : Option Addr} {n c : Nat} : lenV (.slice a n c) = some (.int .i64 n) := rfl
def extV (i : Nat) : Value → Option Value
  | .tuple vs => vs[i]?
  | _ => none
@[simp] theorem aval_ext {x : Opd} {i : Nat} : aval P t H (.ext x i) = extV i (x.ev t) := rfl
@[simp] theorem extV_tuple {i : Nat} {vs : Array Value} : extV i (.tuple vs) = vs[i]? := rfl
@[simp] theorem aval_bld {z : List Value} {ps : List (Nat × Nat × Opd)} : aval P t H (.bld z ps) = (fillA z (ps.map fun (off, sz, x) => (off, sz, x.ev t))).map fun l => .agg l.toArray := rfl
@[simp] theorem fillA_nil {z : List Value} : fillA z [] = some z := rfl
@[simp] theorem fillA_cons {z : List Value} {off sz : Nat} {v : Value} {l : List (Nat × Nat × Value)} :
    fillA z ((off, sz, v) :: l) = if v.cells.size = sz ∧ off + v.cells.size ≤ z.length then fillA (z.take off ++ (v.cells.toList ++ z.drop (off + v.cells.size))) l else none := rfl
@[simp] theorem cells_agg {a : Array Value} : (Value.agg a).cells = a := rfl
@[simp] theorem cells_bool {b : Bool} : (Value.bool b).cells = #[.bool b] := rfl
@[simp] theorem cells_int {k : IntKind} {n : Int} : (Value.int k n).cells = #[.int k n] := rfl
@[simp] theorem cells_string {x : ByteArray} : (Value.string x).cells = #[.string x] := rfl
@[simp] theorem cells_pointer {a : Option Addr} : (Value.pointer a).cells = #[.pointer a] := rfl
@[simp] theorem cells_slice {a : Option Addr} {n c : Nat} : (Value.slice a n c).cells = #[.slice a n c] := rfl
@[simp] theorem cells_map {a : Option Nat} : (Value.map a).cells = #[.map a] := rfl
@[simp] theorem cells_func {f : Fn} {a b : Array Value} : (Value.func f a b).cells = #[.func f a b] := rfl
@[simp] theorem cells_nilFunc : Value.nilFunc.cells = #[.nilFunc] := rfl
@[simp] theorem cells_nilIface : Value.nilIface.cells = #[.nilIface] := rfl
@[simp] theorem cells_iface {t : TypeId} {v : Value} : (Value.iface t v).cells = #[.iface t v] := rfl

@[simp] theorem amake_new {n : Nat} {z : List Value} : amake t n (.new z) = some (.cells true z z.length, .pointer (some ⟨n, 0, none⟩)) := rfl
@[simp] theorem amake_box {n : Nat} {x : Opd} : amake t n (.box x) = some (.cells true (x.ev t).cells.toList (x.ev t).cells.size, .pointer (some ⟨n, 0, none⟩)) := rfl
@[simp] theorem amake_bsl {n len : Nat} {z : List Value} {ps : List (Nat × Nat × Opd)} :
    amake t n (.bsl len z ps) = (fillA z (ps.map fun (off, sz, x) => (off, sz, x.ev t))).map fun l => (.cells true l l.length, .slice (some ⟨n, 0, none⟩) len len) := rfl
@[simp] theorem amake_mkm {n : Nat} : amake t n .mkm = some (.map [] 0, .map (some n)) := rfl

def stV (H : Heap) (sz : Nat) (x v : Value) : Option Heap := match x with
  | .pointer (some ⟨n, off, none⟩) => match H.get n with
    | .cells true cs c => if v.cells.size = sz ∧ off + sz ≤ cs.length ∧ v.cells.toList.all one = true then some (H.set n (.cells true (wrL cs off v.cells.toList) c)) else none
    | _ => none
  | _ => none
theorem binI_add {k : IntKind} {x y : Int} : binI .add (.int k x) (.int k y) = some (.int k (k.wrap (x + y))) := by simp [binI]
theorem binI_sub {k : IntKind} {x y : Int} : binI .sub (.int k x) (.int k y) = some (.int k (k.wrap (x - y))) := by simp [binI]
theorem binI_mul {k : IntKind} {x y : Int} : binI .mul (.int k x) (.int k y) = some (.int k (k.wrap (x * y))) := by simp [binI]
@[simp] theorem binI_eql {k : IntKind} {x y : Int} : binI .eql (.int k x) (.int k y) = some (.bool (decide (x = y))) := by simp [binI]; rfl
@[simp] theorem binI_neq {k : IntKind} {x y : Int} : binI .neq (.int k x) (.int k y) = some (.bool (!decide (x = y))) := by simp [binI]; rfl
@[simp] theorem binI_lss {k : IntKind} {x y : Int} : binI .lss (.int k x) (.int k y) = some (.bool (decide (x < y))) := by simp [binI]
@[simp] theorem binI_leq {k : IntKind} {x y : Int} : binI .leq (.int k x) (.int k y) = some (.bool (decide (x ≤ y))) := by simp [binI]
@[simp] theorem binI_gtr {k : IntKind} {x y : Int} : binI .gtr (.int k x) (.int k y) = some (.bool (decide (y < x))) := by simp [binI]
@[simp] theorem binI_geq {k : IntKind} {x y : Int} : binI .geq (.int k x) (.int k y) = some (.bool (decide (y ≤ x))) := by simp [binI]

theorem wrap_i64 {n : Int} (h0 : -(2 ^ 63) ≤ n) (h1 : n < 2 ^ 63) : IntKind.i64.wrap n = n := by
  have e1 : (2 ^ IntKind.i64.bits : Int) = 18446744073709551616 := rfl
  have e2 : (2 ^ (IntKind.i64.bits - 1) : Int) = 9223372036854775808 := rfl
  have e3 : IntKind.i64.signed = true := rfl
  simp only [IntKind.wrap, e1, e2, e3, Bool.true_and, decide_eq_true_eq]
  split <;> omega
theorem add_in {x y : Int} (h0 : -(2 ^ 63) ≤ x + y) (h1 : x + y < 2 ^ 63) : binI .add (.int .i64 x) (.int .i64 y) = some (.int .i64 (x + y)) := by
  rw [binI_add, wrap_i64 h0 h1]
theorem sub_in {x y : Int} (h0 : -(2 ^ 63) ≤ x - y) (h1 : x - y < 2 ^ 63) : binI .sub (.int .i64 x) (.int .i64 y) = some (.int .i64 (x - y)) := by
  rw [binI_sub, wrap_i64 h0 h1]

@[simp ↓] theorem vopers_mov {d : Nat} {x : Opd} {l : List AOper} : vopers P (⟨some d, .mov x, none⟩ :: l) ⟨t, dd, H⟩ K = @oval _ (some (x.ev t)) ⟨fun v => vopers P l ⟨upd t d v, dd, H⟩ K⟩ := rfl
@[simp ↓] theorem vopers_pick {d : Nat} {c x y : Opd} {l : List AOper} : vopers P (⟨some d, .pick c x y, none⟩ :: l) ⟨t, dd, H⟩ K = @oval _ (pickV (c.ev t) (x.ev t) (y.ev t)) ⟨fun v => vopers P l ⟨upd t d v, dd, H⟩ K⟩ := by
  simp only [vopers, vop, oval, aval_pick]; rfl
@[simp ↓] theorem vopers_bin {d : Nat} {op : BinOp} {x y : Opd} {l : List AOper} : vopers P (⟨some d, .bin op x y, none⟩ :: l) ⟨t, dd, H⟩ K = @oval _ (binI op (x.ev t) (y.ev t)) ⟨fun v => vopers P l ⟨upd t d v, dd, H⟩ K⟩ := rfl
@[simp ↓] theorem vopers_not {d : Nat} {x : Opd} {l : List AOper} : vopers P (⟨some d, .not x, none⟩ :: l) ⟨t, dd, H⟩ K = @oval _ (notV (x.ev t)) ⟨fun v => vopers P l ⟨upd t d v, dd, H⟩ K⟩ := rfl
@[simp ↓] theorem vopers_cvi {d : Nat} {k : IntKind} {x : Opd} {l : List AOper} : vopers P (⟨some d, .cvi k x, none⟩ :: l) ⟨t, dd, H⟩ K = @oval _ (cviV k (x.ev t)) ⟨fun v => vopers P l ⟨upd t d v, dd, H⟩ K⟩ := rfl
@[simp ↓] theorem vopers_ld {d : Nat} {agg : Bool} {sz : Nat} {x : Opd} {l : List AOper} : vopers P (⟨some d, .ld agg sz x, none⟩ :: l) ⟨t, dd, H⟩ K = @oval _ (ldV H agg sz (x.ev t)) ⟨fun v => vopers P l ⟨upd t d v, dd, H⟩ K⟩ := rfl
@[simp ↓] theorem vopers_fld {d : Nat} {agg : Bool} {off sz : Nat} {x : Opd} {l : List AOper} : vopers P (⟨some d, .fld agg off sz x, none⟩ :: l) ⟨t, dd, H⟩ K = @oval _ (fldV agg off sz (x.ev t)) ⟨fun v => vopers P l ⟨upd t d v, dd, H⟩ K⟩ := rfl
@[simp ↓] theorem vopers_idx {d : Nat} {agg : Bool} {len sz : Nat} {x i : Opd} {l : List AOper} : vopers P (⟨some d, .idx agg len sz x i, none⟩ :: l) ⟨t, dd, H⟩ K = @oval _ (aval P t H (.idx agg len sz x i)) ⟨fun v => vopers P l ⟨upd t d v, dd, H⟩ K⟩ := rfl
@[simp ↓] theorem vopers_fa {d : Nat} {off : Nat} {x : Opd} {l : List AOper} : vopers P (⟨some d, .fa off x, none⟩ :: l) ⟨t, dd, H⟩ K = @oval _ (faV off (x.ev t)) ⟨fun v => vopers P l ⟨upd t d v, dd, H⟩ K⟩ := rfl
@[simp ↓] theorem vopers_iar {d : Nat} {len sz : Nat} {x i : Opd} {l : List AOper} : vopers P (⟨some d, .iar len sz x i, none⟩ :: l) ⟨t, dd, H⟩ K = @oval _ (iarV len sz (x.ev t) (i.ev t)) ⟨fun v => vopers P l ⟨upd t d v, dd, H⟩ K⟩ := rfl
@[simp ↓] theorem vopers_isl {d : Nat} {sz : Nat} {x i : Opd} {l : List AOper} : vopers P (⟨some d, .isl sz x i, none⟩ :: l) ⟨t, dd, H⟩ K = @oval _ (islV sz (x.ev t) (i.ev t)) ⟨fun v => vopers P l ⟨upd t d v, dd, H⟩ K⟩ := rfl
@[simp ↓] theorem vopers_len {d : Nat} {x : Opd} {l : List AOper} : vopers P (⟨some d, .len x, none⟩ :: l) ⟨t, dd, H⟩ K = @oval _ (lenV (x.ev t)) ⟨fun v => vopers P l ⟨upd t d v, dd, H⟩ K⟩ := rfl
@[simp ↓] theorem vopers_ext {d : Nat} {x : Opd} {i : Nat} {l : List AOper} : vopers P (⟨some d, .ext x i, none⟩ :: l) ⟨t, dd, H⟩ K = @oval _ (extV i (x.ev t)) ⟨fun v => vopers P l ⟨upd t d v, dd, H⟩ K⟩ := rfl
@[simp ↓] theorem vopers_fn {d : Nat} {f : Fn} {a b : List Opd} {l : List AOper} : vopers P (⟨some d, .fn f a b, none⟩ :: l) ⟨t, dd, H⟩ K = @oval _ (some (.func f (a.map (·.ev t)).toArray (b.map (·.ev t)).toArray)) ⟨fun v => vopers P l ⟨upd t d v, dd, H⟩ K⟩ := rfl
@[simp ↓] theorem vopers_sl {d : Nat} {sz : Nat} {x : Opd} {lo hi : Option Opd} {l : List AOper} : vopers P (⟨some d, .sl sz x lo hi, none⟩ :: l) ⟨t, dd, H⟩ K = @oval _ (aval P t H (.sl sz x lo hi)) ⟨fun v => vopers P l ⟨upd t d v, dd, H⟩ K⟩ := rfl
@[simp ↓] theorem vopers_sla {d : Nat} {len sz : Nat} {x : Opd} {lo hi : Option Opd} {l : List AOper} : vopers P (⟨some d, .sla len sz x lo hi, none⟩ :: l) ⟨t, dd, H⟩ K = @oval _ (aval P t H (.sla len sz x lo hi)) ⟨fun v => vopers P l ⟨upd t d v, dd, H⟩ K⟩ := rfl
@[simp ↓] theorem vopers_nilc {d : Nat} {x : Opd} {l : List AOper} : vopers P (⟨some d, .nilc x, none⟩ :: l) ⟨t, dd, H⟩ K = @oval _ (aval P t H (.nilc x)) ⟨fun v => vopers P l ⟨upd t d v, dd, H⟩ K⟩ := rfl
@[simp ↓] theorem vopers_bld {d : Nat} {z : List Value} {ps : List (Nat × Nat × Opd)} {l : List AOper} : vopers P (⟨some d, .bld z ps, none⟩ :: l) ⟨t, dd, H⟩ K = @oval _ ((fillA z (ps.map fun (off, sz, x) => (off, sz, x.ev t))).map fun l => .agg l.toArray) ⟨fun v => vopers P l ⟨upd t d v, dd, H⟩ K⟩ := rfl
@[simp ↓] theorem vopers_gen {d : Nat} {M : Nat} {o : Oper} {l : List AOper} : vopers P (⟨some d, .gen M o, none⟩ :: l) ⟨t, dd, H⟩ K = @oval _ (aval P t H (.gen M o)) ⟨fun v => vopers P l ⟨upd t d v, dd, H⟩ K⟩ := rfl
@[simp ↓] theorem vopers_new {d : Nat} {z : List Value} {l : List AOper} : vopers P (⟨some d, .new z, none⟩ :: l) ⟨t, dd, H⟩ K = @oval _ (amake t H.next (.new z)) ⟨fun x => vopers P l ⟨upd t d x.2, dd, H.new x.1⟩ K⟩ := oval_pair
@[simp ↓] theorem vopers_box {d : Nat} {x : Opd} {l : List AOper} : vopers P (⟨some d, .box x, none⟩ :: l) ⟨t, dd, H⟩ K = @oval _ (amake t H.next (.box x)) ⟨fun x => vopers P l ⟨upd t d x.2, dd, H.new x.1⟩ K⟩ := oval_pair
@[simp ↓] theorem vopers_bsl {d : Nat} {len : Nat} {z : List Value} {ps : List (Nat × Nat × Opd)} {l : List AOper} : vopers P (⟨some d, .bsl len z ps, none⟩ :: l) ⟨t, dd, H⟩ K = @oval _ (amake t H.next (.bsl len z ps)) ⟨fun x => vopers P l ⟨upd t d x.2, dd, H.new x.1⟩ K⟩ := oval_pair
@[simp ↓] theorem vopers_mks {d : Nat} {sz bytes : Nat} {z : List Value} {len cap : Opd} {l : List AOper} : vopers P (⟨some d, .mks sz bytes z len cap, none⟩ :: l) ⟨t, dd, H⟩ K = @oval _ (amake t H.next (.mks sz bytes z len cap)) ⟨fun x => vopers P l ⟨upd t d x.2, dd, H.new x.1⟩ K⟩ := oval_pair
@[simp ↓] theorem vopers_mkm {d : Nat}  {l : List AOper} : vopers P (⟨some d, .mkm, none⟩ :: l) ⟨t, dd, H⟩ K = @oval _ (amake t H.next (.mkm)) ⟨fun x => vopers P l ⟨upd t d x.2, dd, H.new x.1⟩ K⟩ := oval_pair
@[simp ↓] theorem vopers_st {sz : Nat} {x v : Opd} {l : List AOper} : vopers P (⟨none, .st sz x v, none⟩ :: l) ⟨t, dd, H⟩ K = @oval _ (stV H sz (x.ev t) (v.ev t)) ⟨fun H' => vopers P l ⟨t, dd, H'⟩ K⟩ := rfl
@[simp ↓] theorem vopers_app {d sz b : Nat} {y x : Opd} {l : List AOper} : vopers P (⟨some d, .app sz b y x, none⟩ :: l) ⟨t, dd, H⟩ K = @fapp (baseOf H sz (y.ev t)) (slCells H sz (x.ev t)) sz b H H.next (H.next + 1) ⟨fun v H' => vopers P l ⟨upd t d v, dd, H'⟩ K⟩ := rfl
@[simp ↓] theorem vopers_call {d : Nat} {f : Opd} {args : List Opd} {l : List AOper} : vopers P (⟨some d, .call f args, none⟩ :: l) ⟨t, dd, H⟩ K = @fcall P (f.ev t) (args.map (·.ev t)) H ⟨fun v H' => vopers P l ⟨upd t d v, dd, H'⟩ K⟩ := rfl
@[simp ↓] theorem vopers_call0 {f : Opd} {args : List Opd} {l : List AOper} : vopers P (⟨none, .call f args, none⟩ :: l) ⟨t, dd, H⟩ K = @fcall P (f.ev t) (args.map (·.ev t)) H ⟨fun _ H' => vopers P l ⟨t, dd, H'⟩ K⟩ := rfl
@[simp] theorem put_some {d : Nat} {v : Value} : St.put ⟨t, dd, H⟩ (some d) v = ⟨upd t d v, dd, H⟩ := rfl
@[simp] theorem put_none' {v : Value} : St.put s none v = s := rfl

section draws
variable {base i : Nat} {ch : Bool} {lo : List Nat} {rest : List DStep} {recs : Recs}

@[simp ↓] theorem vdraw_nil : vdraw P base [] recs s K = K s := rfl
@[simp ↓] theorem vdraw_guard {d : Option Nat} {op : AOp} {x : Nat} {want : Bool} :
    vdraw P base (⟨⟨d, op, some (x, want)⟩, i, ch, lo⟩ :: rest) recs ⟨t, dd, H⟩ K = @fcond (gval (t x) want) ⟨(vdraw P base (⟨⟨d, op, none⟩, i, ch, lo⟩ :: rest) recs ⟨t, dd, H⟩ K)⟩ ⟨(vdraw P base rest recs (St.put ⟨t, dd, H⟩ d undef) K)⟩ := rfl
@[simp ↓] theorem vdraw_mov {d : Nat} {x : Opd} : vdraw P base (⟨⟨some d, .mov x, none⟩, i, ch, lo⟩ :: rest) recs ⟨t, dd, H⟩ K = @oval _ (some (x.ev t)) ⟨fun v => vdraw P base rest ((i, fun H => aval P t H (.mov x) = some v) :: recs) ⟨upd t d v, dd, H⟩ K⟩ := rfl
@[simp ↓] theorem vdraw_pick {d : Nat} {c x y : Opd} : vdraw P base (⟨⟨some d, .pick c x y, none⟩, i, ch, lo⟩ :: rest) recs ⟨t, dd, H⟩ K = @oval _ (pickV (c.ev t) (x.ev t) (y.ev t)) ⟨fun v => vdraw P base rest ((i, fun H => aval P t H (.pick c x y) = some v) :: recs) ⟨upd t d v, dd, H⟩ K⟩ := by
  simp only [vdraw, vstep, oval, aval_pick]; rfl
@[simp ↓] theorem vdraw_bin {d : Nat} {op : BinOp} {x y : Opd} : vdraw P base (⟨⟨some d, .bin op x y, none⟩, i, ch, lo⟩ :: rest) recs ⟨t, dd, H⟩ K = @oval _ (binI op (x.ev t) (y.ev t)) ⟨fun v => vdraw P base rest ((i, fun H => aval P t H (.bin op x y) = some v) :: recs) ⟨upd t d v, dd, H⟩ K⟩ := rfl
@[simp ↓] theorem vdraw_not {d : Nat} {x : Opd} : vdraw P base (⟨⟨some d, .not x, none⟩, i, ch, lo⟩ :: rest) recs ⟨t, dd, H⟩ K = @oval _ (notV (x.ev t)) ⟨fun v => vdraw P base rest ((i, fun H => aval P t H (.not x) = some v) :: recs) ⟨upd t d v, dd, H⟩ K⟩ := rfl
@[simp ↓] theorem vdraw_cvi {d : Nat} {k : IntKind} {x : Opd} : vdraw P base (⟨⟨some d, .cvi k x, none⟩, i, ch, lo⟩ :: rest) recs ⟨t, dd, H⟩ K = @oval _ (cviV k (x.ev t)) ⟨fun v => vdraw P base rest ((i, fun H => aval P t H (.cvi k x) = some v) :: recs) ⟨upd t d v, dd, H⟩ K⟩ := rfl
@[simp ↓] theorem vdraw_ld {d : Nat} {agg : Bool} {sz : Nat} {x : Opd} : vdraw P base (⟨⟨some d, .ld agg sz x, none⟩, i, ch, lo⟩ :: rest) recs ⟨t, dd, H⟩ K = @oval _ (ldV H agg sz (x.ev t)) ⟨fun v => vdraw P base rest ((i, fun H => aval P t H (.ld agg sz x) = some v) :: recs) ⟨upd t d v, dd, H⟩ K⟩ := rfl
@[simp ↓] theorem vdraw_fld {d : Nat} {agg : Bool} {off sz : Nat} {x : Opd} : vdraw P base (⟨⟨some d, .fld agg off sz x, none⟩, i, ch, lo⟩ :: rest) recs ⟨t, dd, H⟩ K = @oval _ (fldV agg off sz (x.ev t)) ⟨fun v => vdraw P base rest ((i, fun H => aval P t H (.fld agg off sz x) = some v) :: recs) ⟨upd t d v, dd, H⟩ K⟩ := rfl
@[simp ↓] theorem vdraw_idx {d : Nat} {agg : Bool} {len sz : Nat} {x i' : Opd} : vdraw P base (⟨⟨some d, .idx agg len sz x i', none⟩, i, ch, lo⟩ :: rest) recs ⟨t, dd, H⟩ K = @oval _ (aval P t H (.idx agg len sz x i')) ⟨fun v => vdraw P base rest ((i, fun H => aval P t H (.idx agg len sz x i') = some v) :: recs) ⟨upd t d v, dd, H⟩ K⟩ := rfl
@[simp ↓] theorem vdraw_fa {d : Nat} {off : Nat} {x : Opd} : vdraw P base (⟨⟨some d, .fa off x, none⟩, i, ch, lo⟩ :: rest) recs ⟨t, dd, H⟩ K = @oval _ (faV off (x.ev t)) ⟨fun v => vdraw P base rest ((i, fun H => aval P t H (.fa off x) = some v) :: recs) ⟨upd t d v, dd, H⟩ K⟩ := rfl
@[simp ↓] theorem vdraw_iar {d : Nat} {len sz : Nat} {x i' : Opd} : vdraw P base (⟨⟨some d, .iar len sz x i', none⟩, i, ch, lo⟩ :: rest) recs ⟨t, dd, H⟩ K = @oval _ (iarV len sz (x.ev t) (i'.ev t)) ⟨fun v => vdraw P base rest ((i, fun H => aval P t H (.iar len sz x i') = some v) :: recs) ⟨upd t d v, dd, H⟩ K⟩ := rfl
@[simp ↓] theorem vdraw_isl {d : Nat} {sz : Nat} {x i' : Opd} : vdraw P base (⟨⟨some d, .isl sz x i', none⟩, i, ch, lo⟩ :: rest) recs ⟨t, dd, H⟩ K = @oval _ (islV sz (x.ev t) (i'.ev t)) ⟨fun v => vdraw P base rest ((i, fun H => aval P t H (.isl sz x i') = some v) :: recs) ⟨upd t d v, dd, H⟩ K⟩ := rfl
@[simp ↓] theorem vdraw_len {d : Nat} {x : Opd} : vdraw P base (⟨⟨some d, .len x, none⟩, i, ch, lo⟩ :: rest) recs ⟨t, dd, H⟩ K = @oval _ (lenV (x.ev t)) ⟨fun v => vdraw P base rest ((i, fun H => aval P t H (.len x) = some v) :: recs) ⟨upd t d v, dd, H⟩ K⟩ := rfl
@[simp ↓] theorem vdraw_ext {d : Nat} {x : Opd} {i' : Nat} : vdraw P base (⟨⟨some d, .ext x i', none⟩, i, ch, lo⟩ :: rest) recs ⟨t, dd, H⟩ K = @oval _ (extV i' (x.ev t)) ⟨fun v => vdraw P base rest ((i, fun H => aval P t H (.ext x i') = some v) :: recs) ⟨upd t d v, dd, H⟩ K⟩ := rfl
@[simp ↓] theorem vdraw_fn {d : Nat} {f : Fn} {a b : List Opd} : vdraw P base (⟨⟨some d, .fn f a b, none⟩, i, ch, lo⟩ :: rest) recs ⟨t, dd, H⟩ K = @oval _ (some (.func f (a.map (·.ev t)).toArray (b.map (·.ev t)).toArray)) ⟨fun v => vdraw P base rest ((i, fun H => aval P t H (.fn f a b) = some v) :: recs) ⟨upd t d v, dd, H⟩ K⟩ := rfl
@[simp ↓] theorem vdraw_sl {d : Nat} {sz : Nat} {x : Opd} {l h : Option Opd} : vdraw P base (⟨⟨some d, .sl sz x l h, none⟩, i, ch, lo⟩ :: rest) recs ⟨t, dd, H⟩ K = @oval _ (aval P t H (.sl sz x l h)) ⟨fun v => vdraw P base rest ((i, fun H => aval P t H (.sl sz x l h) = some v) :: recs) ⟨upd t d v, dd, H⟩ K⟩ := rfl
@[simp ↓] theorem vdraw_sla {d : Nat} {len sz : Nat} {x : Opd} {l h : Option Opd} : vdraw P base (⟨⟨some d, .sla len sz x l h, none⟩, i, ch, lo⟩ :: rest) recs ⟨t, dd, H⟩ K = @oval _ (aval P t H (.sla len sz x l h)) ⟨fun v => vdraw P base rest ((i, fun H => aval P t H (.sla len sz x l h) = some v) :: recs) ⟨upd t d v, dd, H⟩ K⟩ := rfl
@[simp ↓] theorem vdraw_nilc {d : Nat} {x : Opd} : vdraw P base (⟨⟨some d, .nilc x, none⟩, i, ch, lo⟩ :: rest) recs ⟨t, dd, H⟩ K = @oval _ (aval P t H (.nilc x)) ⟨fun v => vdraw P base rest ((i, fun H => aval P t H (.nilc x) = some v) :: recs) ⟨upd t d v, dd, H⟩ K⟩ := rfl
@[simp ↓] theorem vdraw_bld {d : Nat} {z : List Value} {ps : List (Nat × Nat × Opd)} : vdraw P base (⟨⟨some d, .bld z ps, none⟩, i, ch, lo⟩ :: rest) recs ⟨t, dd, H⟩ K = @oval _ ((fillA z (ps.map fun (off, sz, x) => (off, sz, x.ev t))).map fun l => .agg l.toArray) ⟨fun v => vdraw P base rest ((i, fun H => aval P t H (.bld z ps) = some v) :: recs) ⟨upd t d v, dd, H⟩ K⟩ := rfl
@[simp ↓] theorem vdraw_gen {d : Nat} {M : Nat} {o : Oper} : vdraw P base (⟨⟨some d, .gen M o, none⟩, i, ch, lo⟩ :: rest) recs ⟨t, dd, H⟩ K = @oval _ (aval P t H (.gen M o)) ⟨fun v => vdraw P base rest ((i, fun H => aval P t H (.gen M o) = some v) :: recs) ⟨upd t d v, dd, H⟩ K⟩ := rfl
@[simp ↓] theorem vdraw_new {d : Nat} {z : List Value} : vdraw P base (⟨⟨some d, .new z, none⟩, i, ch, lo⟩ :: rest) recs ⟨t, dd, H⟩ K = @oval _ (amake t (base + i) (.new z)) ⟨fun x => vdraw P base rest recs ⟨upd t d x.2, dd, H.set (base + i) x.1⟩ K⟩ := oval_pair
@[simp ↓] theorem vdraw_box {d : Nat} {x : Opd} : vdraw P base (⟨⟨some d, .box x, none⟩, i, ch, lo⟩ :: rest) recs ⟨t, dd, H⟩ K = @oval _ (amake t (base + i) (.box x)) ⟨fun x => vdraw P base rest recs ⟨upd t d x.2, dd, H.set (base + i) x.1⟩ K⟩ := oval_pair
@[simp ↓] theorem vdraw_bsl {d : Nat} {len : Nat} {z : List Value} {ps : List (Nat × Nat × Opd)} : vdraw P base (⟨⟨some d, .bsl len z ps, none⟩, i, ch, lo⟩ :: rest) recs ⟨t, dd, H⟩ K = @oval _ (amake t (base + i) (.bsl len z ps)) ⟨fun x => vdraw P base rest recs ⟨upd t d x.2, dd, H.set (base + i) x.1⟩ K⟩ := oval_pair
@[simp ↓] theorem vdraw_mks {d : Nat} {sz bytes : Nat} {z : List Value} {len cap : Opd} : vdraw P base (⟨⟨some d, .mks sz bytes z len cap, none⟩, i, ch, lo⟩ :: rest) recs ⟨t, dd, H⟩ K = @oval _ (amake t (base + i) (.mks sz bytes z len cap)) ⟨fun x => vdraw P base rest recs ⟨upd t d x.2, dd, H.set (base + i) x.1⟩ K⟩ := oval_pair
@[simp ↓] theorem vdraw_mkm {d : Nat}  : vdraw P base (⟨⟨some d, .mkm, none⟩, i, ch, lo⟩ :: rest) recs ⟨t, dd, H⟩ K = @oval _ (amake t (base + i) (.mkm)) ⟨fun x => vdraw P base rest recs ⟨upd t d x.2, dd, H.set (base + i) x.1⟩ K⟩ := oval_pair
@[simp ↓] theorem vdraw_st {sz : Nat} {x v : Opd} : vdraw P base (⟨⟨none, .st sz x v, none⟩, i, ch, lo⟩ :: rest) recs ⟨t, dd, H⟩ K = @oval _ (stV H sz (x.ev t) (v.ev t)) ⟨fun H' => @fand (stabs recs lo H') ⟨vdraw P base rest recs ⟨t, dd, H'⟩ K⟩⟩ := rfl
@[simp ↓] theorem vdraw_app {d sz b : Nat} {y x : Opd} : vdraw P base (⟨⟨some d, .app sz b y x, none⟩, i, ch, lo⟩ :: rest) recs ⟨t, dd, H⟩ K =
    @fapp (baseOf H sz (y.ev t)) (slCells H sz (x.ev t)) sz b H (base + i) H.next ⟨fun v H' => @fand (stabs recs lo H') ⟨vdraw P base rest recs ⟨upd t d v, dd, H'⟩ K⟩⟩ := rfl
@[simp ↓] theorem vdraw_call {d : Nat} {f : Opd} {args : List Opd} : vdraw P base (⟨⟨some d, .call f args, none⟩, i, ch, lo⟩ :: rest) recs ⟨t, dd, H⟩ K =
    @fcall P (f.ev t) (args.map (·.ev t)) H ⟨fun v H' => @fand (stabs recs lo H') ⟨vdraw P base rest recs ⟨upd t d v, dd, H'⟩ K⟩⟩ := rfl
@[simp] theorem stabs_nil {H : Heap} : stabs [] lo H = True := rfl
@[simp ↓] theorem stabs_cons {p : Heap → Prop} {H : Heap} : stabs ((i, p) :: recs) lo H = ((if lo.contains i then p H else True) ∧ stabs recs lo H) := rfl
end draws

end

end Go.Ab


namespace Go.Ab

def intOf : Value → Int
  | .int _ n => n
  | _ => 0
@[simp] theorem intOf_int {k : IntKind} {n : Int} : intOf (.int k n) = n := rfl

def SlR (H : Heap) (sz : Nat) (v : Value) (len : Nat) (cs : List Value) : Prop := slCells H sz v = some (len, cs) ∧ ∀ a n c, v = .slice (some a) n c → a.block < H.next

section
variable {H H' : Heap} {sz len : Nat} {v : Value} {cs : List Value}

theorem SlR.cases (h : SlR H sz v len cs) : ((v = .slice none 0 0 ∨ v = .slice (some ⟨0, 0, some 0⟩) 0 0) ∧ len = 0 ∧ cs = []) ∨ ∃ n o cap rw ds c, v = .slice (some ⟨n, o, none⟩) len cap ∧ H.get n = .cells rw ds c ∧ rdL ds o (len * sz) = some cs := by
  replace h := h.1
  unfold slCells at h
  split at h
  · simp only [Option.some.injEq, Prod.mk.injEq] at h; exact Or.inl ⟨.inl rfl, h.1.symm, h.2.symm⟩
  · rename_i m o k cap
    split at h
    · rename_i rw ds c hg
      simp only [Option.map_eq_some_iff, Prod.mk.injEq] at h
      obtain ⟨l, h1, rfl, rfl⟩ := h
      exact Or.inr ⟨m, o, cap, rw, ds, c, rfl, hg, h1⟩
    · cases h
  · simp only [Option.some.injEq, Prod.mk.injEq] at h; exact Or.inl ⟨.inr rfl, h.1.symm, h.2.symm⟩
  · cases h

theorem SlR.ge (h : SlR H sz v len cs) (g : Ge H H') : SlR H' sz v len cs := by
  refine ⟨?_, fun a n c e => Nat.lt_of_lt_of_le (h.2 a n c e) g.next⟩
  rcases h.cases with ⟨rfl | rfl, rfl, rfl⟩ | ⟨n, o, cap, rw, ds, c, rfl, hg, hr⟩
  · rfl
  · rfl
  · have := h.2 _ _ _ rfl
    simp only [slCells, g.get n this, hg, hr, Option.map_some]

theorem SlR.lenV (h : SlR H sz v len cs) : lenV v = some (.int .i64 len) := by
  rcases h.cases with ⟨rfl | rfl, rfl, _⟩ | ⟨n, o, cap, rw, ds, c, rfl, _⟩ <;> rfl

theorem rdL_some {ds : List Value} {o n : Nat} (h : rdL ds o n = some cs) : cs = (ds.drop o).take n ∧ o + n ≤ ds.length ∧ cs.length = n := by
  unfold rdL at h
  split at h
  · rename_i hl
    simp only [Option.some.injEq] at h
    refine ⟨h.symm, hl, ?_⟩
    rw [← h]; simp; omega
  · cases h

theorem SlR.length (h : SlR H sz v len cs) : cs.length = len * sz := by
  rcases h.cases with ⟨_, rfl, rfl⟩ | ⟨n, o, cap, rw, ds, c, _, _, hr⟩
  · simp
  · exact (rdL_some hr).2.2

theorem SlR.isl (h : SlR H sz v len cs) {i : Nat} {k : IntKind} (hi : i < len) : ∃ n o rw ds c, islV sz v (.int k i) = some (.pointer (some ⟨n, o, none⟩)) ∧ n < H.next ∧ H.get n = .cells rw ds c ∧ rdL ds o sz = some ((cs.drop (i * sz)).take sz) := by
  rcases h.cases with ⟨_, rfl, rfl⟩ | ⟨n, o, cap, rw, ds, c, rfl, hg, hr⟩
  · omega
  · obtain ⟨h1, h2, h3⟩ := rdL_some hr
    refine ⟨n, o + i * sz, rw, ds, c, ?_, h.2 _ _ _ rfl, hg, ?_⟩
    · rw [islV_in (by omega) (by omega)]; simp
    · have : i * sz + sz ≤ len * sz := by rw [← Nat.succ_mul]; exact Nat.mul_le_mul_right _ hi
      unfold rdL
      rw [if_pos (by omega), h1]
      simp only [List.drop_take, List.take_take, List.drop_drop]
      congr 2
      omega

theorem SlR.at1 (h : SlR H 1 v len cs) {i : Nat} {k : IntKind} (hi : i < len) : ∃ p, islV 1 v (.int k i) = some p ∧ ldV H false 1 p = cs[i]? := by
  obtain ⟨n, o, rw, ds, c, h1, _, h2, h3⟩ := h.isl (k := k) hi
  refine ⟨_, h1, ?_⟩
  rw [ldV_one h2]
  obtain ⟨h4, h5, h6⟩ := rdL_some h3
  have hl := h.length
  have : ((cs.drop (i * 1)).take 1)[0]? = ((ds.drop o).take 1)[0]? := by rw [h4]
  simpa using this.symm

end

def IntsAt (H : Heap) (v : Value) (xs : List Int) : Prop := SlR H 1 v xs.length (xs.map (Value.int .i64)) ∧ xs.length < 2 ^ 63

section
variable {H : Heap} {v : Value} {xs : List Int}
theorem IntsAt.lenV (h : IntsAt H v xs) : Go.Ab.lenV v = some (.int .i64 xs.length) := h.1.lenV
theorem IntsAt.ge {H' : Heap} (h : IntsAt H v xs) (g : Ge H H') : IntsAt H' v xs := ⟨h.1.ge g, h.2⟩
theorem IntsAt.at (h : IntsAt H v xs) {i : Nat} (hi : i < xs.length) : ∃ p, islV 1 v (.int .i64 i) = some p ∧ ldV H false 1 p = some (.int .i64 xs[i]) := by
  obtain ⟨p, h1, h2⟩ := h.1.at1 (k := .i64) hi
  exact ⟨p, h1, by rw [h2]; simp [hi]⟩
end

attribute [simp] Ge.refl Ge.more
@[simp] theorem Ge.more' (H : Heap) (k : Nat) : Ge H ⟨H.get, H.next + k⟩ := Ge.more H k
theorem Ge.grow {H H' : Heap} (h : Ge H H') (k : Nat) : Ge H ⟨H'.get, H'.next + k⟩ := h.trans (Ge.more H' k)

def ldA (x : AObj) (agg : Bool) (sz off : Nat) : Option Value := match x with
  | .cells _ cs _ => if agg then (rdL cs off sz).map (fun l => .agg l.toArray) else cs[off]?
  | _ => none
@[simp] theorem ldV_ptr {H : Heap} {agg : Bool} {sz n off : Nat} : ldV H agg sz (.pointer (some ⟨n, off, none⟩)) = ldA (H.get n) agg sz off := by
  simp only [ldV, ldA] <;> (cases H.get n <;> rfl)
@[simp] theorem ldA_one {rw : Bool} {cs : List Value} {c sz off : Nat} : ldA (.cells rw cs c) false sz off = cs[off]? := rfl
@[simp] theorem ldA_agg {rw : Bool} {cs : List Value} {c sz off : Nat} : ldA (.cells rw cs c) true sz off = (rdL cs off sz).map fun l => .agg l.toArray := rfl
@[simp] theorem rdL_cons {a : Value} {l : List Value} {off n : Nat} : rdL (a :: l) off n = if off + n ≤ (a :: l).length then some (((a :: l).drop off).take n) else none := rfl

def stA (H : Heap) (n off sz : Nat) (v : Value) (x : AObj) : Option Heap := match x with
  | .cells true cs c => if v.cells.size = sz ∧ off + sz ≤ cs.length ∧ v.cells.toList.all one = true then some (H.set n (.cells true (wrL cs off v.cells.toList) c)) else none
  | _ => none
@[simp] theorem stV_ptr {H : Heap} {sz n off : Nat} {v : Value} : stV H sz (.pointer (some ⟨n, off, none⟩)) v = stA H n off sz v (H.get n) := by
  simp only [stV, stA] <;> (cases H.get n <;> first | rfl | (rename_i rw _ _; cases rw <;> rfl))
@[simp] theorem stA_cells {H : Heap} {n off sz c : Nat} {v : Value} {cs : List Value} : stA H n off sz v (.cells true cs c) = if v.cells.size = sz ∧ off + sz ≤ cs.length ∧ v.cells.toList.all one = true then some (H.set n (.cells true (wrL cs off v.cells.toList) c)) else none := rfl
@[simp] theorem wrL_cons {a : Value} {l vs : List Value} {off : Nat} : wrL (a :: l) off vs = (a :: l).take off ++ (vs ++ (a :: l).drop (off + vs.length)) := rfl
@[simp] theorem one_bool {b : Bool} : one (.bool b) = true := rfl
@[simp] theorem one_int {k : IntKind} {n : Int} : one (.int k n) = true := rfl
@[simp] theorem one_string {x : ByteArray} : one (.string x) = true := rfl
@[simp] theorem one_pointer {a : Option Addr} : one (.pointer a) = true := rfl
@[simp] theorem one_slice {a : Option Addr} {n c : Nat} : one (.slice a n c) = true := rfl
@[simp] theorem one_map {a : Option Nat} : one (.map a) = true := rfl
@[simp] theorem one_func {f : Fn} {a b : Array Value} : one (.func f a b) = true := rfl
@[simp] theorem one_nilFunc : one .nilFunc = true := rfl
@[simp] theorem one_nilIface : one .nilIface = true := rfl
@[simp] theorem one_iface {t : TypeId} {v : Value} : one (.iface t v) = true := rfl
@[simp] theorem one_agg {a : Array Value} : one (.agg a) = false := rfl
@[simp] theorem one_tuple {a : Array Value} : one (.tuple a) = false := rfl
def mksV (n sz bytes : Nat) (z : List Value) : Value → Value → Option (AObj × Value)
  | .int _ l, .int _ c => if 0 ≤ l ∧ l ≤ c ∧ (bytes : Int) * c ≤ 2 ^ 48 ∧ c < 2 ^ 62 then some (.cells true (zrep c.toNat z) (c.toNat * sz), .slice (some ⟨n, 0, none⟩) l.toNat c.toNat) else none
  | _, _ => none
@[simp] theorem amake_mks {t : Nat → Value} {n sz bytes : Nat} {z : List Value} {len cap : Opd} : amake t n (.mks sz bytes z len cap) = mksV n sz bytes z (len.ev t) (cap.ev t) := rfl
theorem mksV_at {n sz bytes : Nat} {z : List Value} {k j : IntKind} {m : Nat} (h : bytes * m ≤ 2 ^ 48) (h2 : m < 2 ^ 62) : mksV n sz bytes z (.int k m) (.int j m) = some (.cells true (zrep m z) (m * sz), .slice (some ⟨n, 0, none⟩) m m) := by
  simp only [mksV]
  rw [if_pos]
  · simp
  · refine ⟨by omega, by omega, ?_, by omega⟩
    exact_mod_cast h
theorem one_cells {v : Value} (h : one v = true) : v.cells = #[v] := by cases v <;> simp_all [one, Value.cells]

@[simp] theorem Ge.new_of {H H' : Heap} {x : AObj} (h : Ge H H') : Ge H (H'.new x) := h.newOf x
@[simp] theorem Ge.set_of {H H' : Heap} {n : Nat} {x : AObj} (hn : H.next ≤ n) (h : Ge H H') : Ge H (H'.set n x) := h.setNew hn x
@[simp] theorem Ge.grow_of {H H' : Heap} {k : Nat} (h : Ge H H') : Ge H ⟨H'.get, H'.next + k⟩ := h.grow k

theorem Ge.got {H H' : Heap} (g : Ge H H') {n : Nat} {x : AObj} (hn : n < H.next) (h : H.get n = x) : H'.get n = x := (g.get n hn).trans h

@[simp] theorem Ge.grow_le {H H' : Heap} {k : Nat} (hk : H.next ≤ k) (h : Ge H H') : Ge H ⟨H'.get, k⟩ := ⟨hk, h.get⟩

@[simp] theorem next_add (H : Heap) (a b : Nat) : H.next + a + b = H.next + (a + b) := Nat.add_assoc _ _ _

end Go.Ab


namespace Go.Ab

def rfs : Code → List (Code × Code)
  | .seq a b => rfs a ++ rfs b
  | .cond _ a b => rfs a ++ rfs b
  | .block _ b => rfs b
  | .loop b => rfs b
  | .scope b => rfs b
  | .rangeFunc _ _ a b => [(a, b)]
  | _ => []
def rfN (c : Option Code) (k : Nat) : Code × Code := ((c.map rfs).getD [])[k]?.getD (.skip, .skip)

section
variable {P : Program} {t : Nat → Value} {H : Heap} {N x y a b : Nat} {k : IntKind} {m n : Int} {d : Option Tmp} {ty T U : TypeId} {pos : String} {af : Array Edge} {g : Option (Nat × Bool)}

theorem aval_gen {o : Oper} {v : Value} (h : o.op.operands.toList.all (flatO N t) = true) (hf : flat v = true) (hr : ∀ w : World, (execOp (evO t) o).run P w = .ok (.value v) w) : aval P t H (.gen N o) = some v := by
  simp only [aval, h, if_true]
  exact genV_of hf hr

end

@[simp ↓] theorem roundQ_normal {n : Nat} {R : Value → Heap → Prop} {s : St} : roundQ n R .normal s = ∃ r, s.H.get n = .loop r ∧ R (.bool true) (s.H.set n (.loop { r with state := .ready, pending := none })) := rfl
@[simp ↓] theorem roundQ_ret {n : Nat} {R : Value → Heap → Prop} {s : St} : roundQ n R .ret s = ∃ r, s.H.get n = .loop r ∧ R (.bool false) (s.H.set n (.loop { r with state := .done, pending := some .ret })) := rfl
@[simp ↓] theorem roundQ_exit {n i : Nat} {R : Value → Heap → Prop} {s : St} : roundQ n R (.exit i) s = ∃ r, s.H.get n = .loop r ∧ R (.bool false) (s.H.set n (.loop { r with state := .done, pending := some (.exit i) })) := rfl

end Go.Ab


namespace Go.Ab

def idxV (agg : Bool) (len sz : Nat) : Value → Value → Option Value
  | .agg xs, .int _ n => if 0 ≤ n ∧ n < len then (if agg then some (.agg (xs.extract (n.toNat * sz) (n.toNat * sz + sz))) else xs[n.toNat * sz]?) else none
  | _, _ => none
@[simp] theorem aval_idx {P : Program} {t : Nat → Value} {H : Heap} {agg : Bool} {len sz : Nat} {x i : Opd} : aval P t H (.idx agg len sz x i) = idxV agg len sz (x.ev t) (i.ev t) := rfl
def OwnSl (H : Heap) (lo : Nat) (v : Value) (cs : List Value) : Prop :=
  (v = .slice none 0 0 ∧ cs = []) ∨ ∃ n cap c, v = .slice (some ⟨n, 0, none⟩) cs.length cap ∧ lo ≤ n ∧ n < H.next ∧ H.get n = .cells true cs c ∧ cs.length ≤ cap ∧ cap ≤ c

def slName : Value → Option Nat
  | .slice (some a) _ _ => some a.block
  | _ => none

section
variable {H A B : Heap} {lo : Nat} {v : Value} {cs : List Value}

theorem OwnSl.ge (h : OwnSl A lo v cs) (g : Ge A B) : OwnSl B lo v cs := by
  rcases h with h | ⟨n, cap, c, h1, h2, h3, h4, h5, h6⟩
  · exact .inl h
  · exact .inr ⟨n, cap, c, h1, h2, Nat.lt_of_lt_of_le h3 g.next, g.got h3 h4, h5, h6⟩

theorem OwnSl.keep (h : OwnSl A lo v cs) (hn : A.next ≤ B.next) (hk : ∀ n, slName v = some n → B.get n = A.get n) : OwnSl B lo v cs := by
  rcases h with h | ⟨n, cap, c, h1, h2, h3, h4, h5, h6⟩
  · exact .inl h
  · exact .inr ⟨n, cap, c, h1, h2, Nat.lt_of_lt_of_le h3 hn, by rw [hk n (by rw [h1]; rfl)]; exact h4, h5, h6⟩

theorem OwnSl.names (h : OwnSl A lo v cs) {n : Nat} (hn : slName v = some n) : lo ≤ n ∧ n < A.next := by
  rcases h with ⟨rfl, _⟩ | ⟨m, cap, c, rfl, h2, h3, _⟩
  · cases hn
  · simp [slName] at hn; subst hn; exact ⟨h2, h3⟩

theorem OwnSl.slr (h : OwnSl A lo v cs) : SlR A 1 v cs.length cs := by
  rcases h with ⟨rfl, rfl⟩ | ⟨n, cap, c, rfl, h2, h3, h4, h5, h6⟩
  · exact ⟨rfl, fun a n c e => by cases e⟩
  · refine ⟨?_, ?_⟩
    · simp only [slCells, h4]
      simp [rdL]
    · intro a n' c' e; simp at e; rw [← e.1]; exact h3
theorem OwnSl.lenV (h : OwnSl A lo v cs) : lenV v = some (.int .i64 cs.length) := h.slr.lenV
theorem OwnSl.one (h : OwnSl A lo v cs) : one v = true := by
  rcases h with ⟨rfl, rfl⟩ | ⟨n, cap, c, rfl, _⟩ <;> rfl

theorem fapp_own' {x y : Value} {bytes n nx : Nat} {R : Value → Heap → Prop} (h : OwnSl A lo v cs) (hy : slCells A 1 y = some (1, [x])) (hx : Go.Ab.one x = true) (hlen : cs.length ≤ 2 ^ 20) (hb : bytes ≤ 48)
    (hlo : lo ≤ n) (hnx : n < nx)
    (K : ∀ u B, OwnSl B lo u (cs ++ [x]) → slName u = some n → B.next = nx → (∀ m, m ≠ n → slName v ≠ some m → B.get m = A.get m) → R u B) : @fapp (baseOf A 1 v) (slCells A 1 y) 1 bytes A n nx ⟨R⟩ := by
  have hsz : (4 * (cs.length + 1) + 4096) * bytes ≤ 2 ^ 48 := by
    have : (4 * (cs.length + 1) + 4096) * bytes ≤ (4 * (2 ^ 20 + 1) + 4096) * 48 := Nat.mul_le_mul (by omega) hb
    omega
  rcases h with ⟨rfl, rfl⟩ | ⟨m, cap, c, rfl, h2, h3, h4, h5, h6⟩
  · refine fapp_intro (len := 0) (cs := []) (old := none) (cap := 0) rfl hy (by omega) (by simp [hx]) hsz ?_
    intro cap' hcap
    refine K _ _ (.inr ⟨n, cap', cap', ?_, by omega, ?_, ?_, ?_, Nat.le_refl _⟩) rfl rfl ?_
    · simp
    · simpa [appHeap] using hnx
    · simp [appHeap]
    · simp; omega
    · intro m hm _; simp [appHeap, hm]
  · refine fapp_intro (len := cs.length) (cs := cs) (old := some m) (cap := cap) ?_ hy (by omega) (by simp [hx]) hsz ?_
    · simp [baseOf, h4, h5, h6]
    intro cap' hcap
    refine K _ _ (.inr ⟨n, cap', cap', ?_, by omega, ?_, ?_, ?_, Nat.le_refl _⟩) rfl rfl ?_
    · simp
    · simpa [appHeap] using hnx
    · simp [appHeap]
    · simp; omega
    · intro p hp hq
      have : p ≠ m := fun e => hq (by rw [e]; rfl)
      simp [appHeap, hp, this]
theorem fapp_own {x y : Value} {bytes n nx : Nat} {R : Value → Heap → Prop} (h : OwnSl A lo v cs) (hy : slCells A 1 y = some (1, [x])) (hx : Go.Ab.one x = true) (hlen : cs.length ≤ 2 ^ 20) (hb : bytes ≤ 48)
    (hn : A.next ≤ n) (hnx : n < nx) (hlo : lo ≤ A.next)
    (K : ∀ u B, OwnSl B lo u (cs ++ [x]) → slName u = some n → B.next = nx → (∀ m, m ≠ n → slName v ≠ some m → B.get m = A.get m) → R u B) : @fapp (baseOf A 1 v) (slCells A 1 y) 1 bytes A n nx ⟨R⟩ :=
  fapp_own' h hy hx hlen hb (by omega) hnx K
end

theorem slCells_new {H : Heap} {n c : Nat} {x : Value} {rw : Bool} (h : H.get n = .cells rw [x] c) {cap : Nat} : slCells H 1 (.slice (some ⟨n, 0, none⟩) 1 cap) = some (1, [x]) := by
  simp [slCells, h]

def isnV (neg : Bool) : Value → Option Value
  | .slice a _ _ => some (.bool (if neg then a.isSome else a.isNone))
  | _ => none
@[simp] theorem isnV_slice {neg : Bool} {a : Option Addr} {n c : Nat} : isnV neg (.slice a n c) = some (.bool (if neg then a.isSome else a.isNone)) := rfl
noncomputable def lkpH (P : Program) (T : TypeId) (z : Value) (H : Heap) (k : Value) : Value → Option Value
  | .map (some n) => match H.get n with
    | .map es _ => lkpV P T z k es
    | _ => none
  | _ => none
theorem lkpH_at {P : Program} {T : TypeId} {z k : Value} {H : Heap} {n : Nat} {es : List (Value × Value × Nat)} {c : Nat} (h : H.get n = .map es c) : lkpH P T z H k (.map (some n)) = lkpV P T z k es := by simp [lkpH, h]
noncomputable def mupH (P : Program) (T : TypeId) (H : Heap) (k v : Value) : Value → Option Heap
  | .map (some n) => match H.get n with
    | .map es clock => if flat k = true ∧ (es.map (·.1)).all flat = true then match keyV P T k (es.map (·.1)) with
        | some none => some (H.set n (.map (es ++ [(k, v, clock)]) (clock + 1)))
        | some (some i) => match es[i]? with
          | some e => if Instr.sameBits 10000 e.1 k = true then some (H.set n (.map (es.set i (k, v, e.2.2)) clock)) else none
          | none => none
        | none => none
      else none
    | _ => none
  | _ => none
theorem keyV_of {P : Program} {T : TypeId} {k : Value} {keys : List Value} {r : Option Nat}
    (h : ∀ (w : World) (es : List MapEntry), es.map (·.key) = keys → (∀ b, (Instr.checkKey b 10000 T k).run P w = .ok () w) ∧ (Instr.findKey T k es).run P w = .ok (r.bind fun i => es[i]?.map fun e => (i, e.val)) w) (hr : ∀ i, r = some i → i < keys.length) :
    keyV P T k keys = some r := by
  have hx : ∃ r : Option Nat, (∀ i, r = some i → i < keys.length) ∧ ∀ (w : World) (es : List MapEntry), es.map (·.key) = keys → (∀ b, (Instr.checkKey b 10000 T k).run P w = .ok () w) ∧ (Instr.findKey T k es).run P w = .ok (r.bind fun i => es[i]?.map fun e => (i, e.val)) w := ⟨r, hr, h⟩
  unfold keyV
  rw [dif_pos hx]
  congr 1
  have e1 : (keys.map fun k => ({ key := k, val := .bool true, born := 0 } : MapEntry)).map (·.key) = keys := by simp [Function.comp_def]
  have h1 := (hx.choose_spec.2 default _ e1).2
  have hlt := hx.choose_spec.1
  have h2 := (h default _ e1).2
  rw [h1] at h2
  simp only [Result.ok.injEq, and_true] at h2
  generalize hx.choose = r' at h2 hlt
  cases r with
  | none =>
    cases r' with
    | none => rfl
    | some j =>
      have hj := hlt j rfl
      simp [hj] at h2
  | some i =>
    have hi := hr i rfl
    cases r' with
    | none => simp [hi] at h2
    | some j =>
      have hj := hlt j rfl
      simp [hi, hj] at h2
      rw [h2]

section
variable {P : Program} {t : Nat → Value} {dd : List Nat} {H : Heap} {K : St → Prop} {base i : Nat} {ch : Bool} {lo : List Nat} {rest : List DStep} {recs : Recs}
@[simp] theorem aval_isn {neg : Bool} {x : Opd} : aval P t H (.isn neg x) = isnV neg (x.ev t) := rfl
@[simp] theorem aval_lkp {T : TypeId} {z : Value} {x k : Opd} : aval P t H (.lkp T z x k) = lkpH P T z H (k.ev t) (x.ev t) := by
  simp only [aval, lkpH]; rfl
@[simp ↓] theorem vopers_isn {d : Nat} {neg : Bool} {x : Opd} {l : List AOper} : vopers P (⟨some d, .isn neg x, none⟩ :: l) ⟨t, dd, H⟩ K = @oval _ (isnV neg (x.ev t)) ⟨fun v => vopers P l ⟨upd t d v, dd, H⟩ K⟩ := rfl
@[simp ↓] theorem vdraw_isn {d : Nat} {neg : Bool} {x : Opd} : vdraw P base (⟨⟨some d, .isn neg x, none⟩, i, ch, lo⟩ :: rest) recs ⟨t, dd, H⟩ K = @oval _ (isnV neg (x.ev t)) ⟨fun v => vdraw P base rest ((i, fun H => aval P t H (.isn neg x) = some v) :: recs) ⟨upd t d v, dd, H⟩ K⟩ := rfl
@[simp ↓] theorem vopers_lkp {d : Nat} {T : TypeId} {z : Value} {x k : Opd} {l : List AOper} : vopers P (⟨some d, .lkp T z x k, none⟩ :: l) ⟨t, dd, H⟩ K = @oval _ (lkpH P T z H (k.ev t) (x.ev t)) ⟨fun v => vopers P l ⟨upd t d v, dd, H⟩ K⟩ := by
  rw [← aval_lkp (P := P)]; rfl
@[simp ↓] theorem vdraw_lkp {d : Nat} {T : TypeId} {z : Value} {x k : Opd} : vdraw P base (⟨⟨some d, .lkp T z x k, none⟩, i, ch, lo⟩ :: rest) recs ⟨t, dd, H⟩ K = @oval _ (lkpH P T z H (k.ev t) (x.ev t)) ⟨fun v => vdraw P base rest ((i, fun H => aval P t H (.lkp T z x k) = some v) :: recs) ⟨upd t d v, dd, H⟩ K⟩ := by
  rw [← aval_lkp (P := P)]; rfl
theorem astore_mup {T : TypeId} {x k v : Opd} : astore P t H (.mup T x k v) = mupH P T H (k.ev t) (v.ev t) (x.ev t) := by
  simp only [astore, mupH]; rfl
@[simp ↓] theorem vopers_mup {T : TypeId} {x k v : Opd} {l : List AOper} : vopers P (⟨none, .mup T x k v, none⟩ :: l) ⟨t, dd, H⟩ K = @oval _ (mupH P T H (k.ev t) (v.ev t) (x.ev t)) ⟨fun H' => vopers P l ⟨t, dd, H'⟩ K⟩ := by
  rw [← astore_mup (P := P)]; rfl
@[simp ↓] theorem vdraw_mup {T : TypeId} {x k v : Opd} : vdraw P base (⟨⟨none, .mup T x k v, none⟩, i, ch, lo⟩ :: rest) recs ⟨t, dd, H⟩ K = @oval _ (mupH P T H (k.ev t) (v.ev t) (x.ev t)) ⟨fun H' => @fand (stabs recs lo H') ⟨vdraw P base rest recs ⟨t, dd, H'⟩ K⟩⟩ := by
  rw [← astore_mup (P := P)]; rfl
end

end Go.Ab


namespace Go.Ab

def OwnS (H : Heap) (lo sz : Nat) (v : Value) (len : Nat) (cs : List Value) : Prop :=
  (v = .slice none 0 0 ∧ len = 0 ∧ cs = []) ∨ ∃ n cap c, v = .slice (some ⟨n, 0, none⟩) len cap ∧ lo ≤ n ∧ n < H.next ∧ H.get n = .cells true cs c ∧ len * sz = cs.length ∧ len ≤ cap ∧ cap * sz ≤ c

section
variable {H A B : Heap} {lo sz len : Nat} {v : Value} {cs : List Value}

theorem OwnS.keep (h : OwnS A lo sz v len cs) (hn : A.next ≤ B.next) (hk : ∀ n, slName v = some n → B.get n = A.get n) : OwnS B lo sz v len cs := by
  rcases h with h | ⟨n, cap, c, h1, h2, h3, h4, h5⟩
  · exact .inl h
  · exact .inr ⟨n, cap, c, h1, h2, Nat.lt_of_lt_of_le h3 hn, by rw [hk n (by rw [h1]; rfl)]; exact h4, h5⟩
theorem OwnS.ge (h : OwnS A lo sz v len cs) (g : Ge A B) : OwnS B lo sz v len cs := by
  rcases h with h | ⟨n, cap, c, h1, h2, h3, h4, h5⟩
  · exact .inl h
  · exact .inr ⟨n, cap, c, h1, h2, Nat.lt_of_lt_of_le h3 g.next, g.got h3 h4, h5⟩
theorem OwnS.names (h : OwnS A lo sz v len cs) {n : Nat} (hn : slName v = some n) : lo ≤ n ∧ n < A.next := by
  rcases h with ⟨rfl, _⟩ | ⟨m, cap, c, rfl, h2, h3, _⟩
  · cases hn
  · simp [slName] at hn; subst hn; exact ⟨h2, h3⟩
theorem OwnS.slr (h : OwnS A lo sz v len cs) : SlR A sz v len cs := by
  rcases h with ⟨rfl, rfl, rfl⟩ | ⟨n, cap, c, rfl, h2, h3, h4, h5, h6⟩
  · exact ⟨rfl, fun a n c e => by cases e⟩
  · refine ⟨?_, ?_⟩
    · simp only [slCells, h4]
      simp [rdL, h5]
    · intro a n' c e; simp at e; rw [← e.1]; exact h3
theorem OwnS.one (h : OwnS A lo sz v len cs) : one v = true := by
  rcases h with ⟨rfl, _⟩ | ⟨n, cap, c, rfl, _⟩ <;> rfl

theorem fapp_ownS' {xs : List Value} {y : Value} {bytes n nx : Nat} {R : Value → Heap → Prop} (h : OwnS A lo sz v len cs) (hy : slCells A sz y = some (1, xs)) (hxs : xs.length = sz) (hx : xs.all one = true) (hlen : len ≤ 2 ^ 20) (hb : bytes ≤ 48)
    (hlo : lo ≤ n) (hnx : n < nx)
    (K : ∀ u B, OwnS B lo sz u (len + 1) (cs ++ xs) → slName u = some n → B.next = nx → (∀ m, m ≠ n → slName v ≠ some m → B.get m = A.get m) → R u B) : @fapp (baseOf A sz v) (slCells A sz y) sz bytes A n nx ⟨R⟩ := by
  have hsz : (4 * (len + 1) + 4096) * bytes ≤ 2 ^ 48 := by
    have : (4 * (len + 1) + 4096) * bytes ≤ (4 * (2 ^ 20 + 1) + 4096) * 48 := Nat.mul_le_mul (by omega) hb
    omega
  rcases h with ⟨rfl, rfl, rfl⟩ | ⟨m, cap, c, rfl, h2, h3, h4, h5, h6, h7⟩
  · refine fapp_intro (len := 0) (cs := []) (old := none) (cap := 0) rfl hy (by omega) (by simpa using hx) hsz ?_
    intro cap' hcap
    refine K _ _ (.inr ⟨n, cap', cap' * sz, ?_, by omega, ?_, ?_, ?_, by omega, Nat.le_refl _⟩) rfl rfl ?_
    · simp
    · simpa [appHeap] using hnx
    · simp [appHeap]
    · simp [hxs]
    · intro m hm _; simp [appHeap, hm]
  · refine fapp_intro (len := len) (cs := cs) (old := some m) (cap := cap) ?_ hy (by omega) (by simpa using hx) hsz ?_
    · simp [baseOf, h4, h5, h6, h7]
    intro cap' hcap
    refine K _ _ (.inr ⟨n, cap', cap' * sz, ?_, by omega, ?_, ?_, ?_, by omega, Nat.le_refl _⟩) rfl rfl ?_
    · simp
    · simpa [appHeap] using hnx
    · simp [appHeap]
    · simp [hxs, ← h5, Nat.succ_mul]
    · intro p hp hq
      have : p ≠ m := fun e => hq (by rw [e]; rfl)
      simp [appHeap, hp, this]
theorem fapp_ownS {xs : List Value} {y : Value} {bytes n nx : Nat} {R : Value → Heap → Prop} (h : OwnS A lo sz v len cs) (hy : slCells A sz y = some (1, xs)) (hxs : xs.length = sz) (hx : xs.all one = true) (hlen : len ≤ 2 ^ 20) (hb : bytes ≤ 48)
    (hn : A.next ≤ n) (hnx : n < nx) (hlo : lo ≤ A.next)
    (K : ∀ u B, OwnS B lo sz u (len + 1) (cs ++ xs) → slName u = some n → B.next = nx → (∀ m, m ≠ n → slName v ≠ some m → B.get m = A.get m) → R u B) : @fapp (baseOf A sz v) (slCells A sz y) sz bytes A n nx ⟨R⟩ :=
  fapp_ownS' h hy hxs hx hlen hb (by omega) hnx K
end

end Go.Ab


namespace Go.Ab
open Go.RowKit Go.Deep

def objSize : Obj → Nat
  | .cells a _ _ => a.size
  | _ => 0
def capM (hp : Array Obj) : Nat := (hp.toList.map objSize).sum

theorem le_sum : ∀ {l : List Nat} {x : Nat}, x ∈ l → x ≤ l.sum
  | y :: l, x, h => by
    rcases List.mem_cons.1 h with rfl | h
    · simp
    · have := le_sum h; simp; omega
theorem le_capM {hp : Array Obj} {b : Nat} {arr : Array Value} {el : TypeId} {fr : Nat × Nat} (h : hp[b]? = some (.cells arr el fr)) : arr.size ≤ capM hp := by
  have hm : Obj.cells arr el fr ∈ hp.toList := by
    obtain ⟨h1, h2⟩ := Array.getElem?_eq_some_iff.1 h
    rw [← h2]; simp
  exact le_sum (List.mem_map.2 ⟨_, hm, rfl⟩)

abbrev voidV : Value := .slice (some ⟨0, 0, some 0⟩) 0 0

def absV (S : Nat) : Value → Value
  | .slice (some a) len cap => if cap = 0 then voidV else .slice (some ⟨a.off * S + a.block, 0, none⟩) len cap
  | v => v

def goodV (S M : Nat) : Value → Bool
  | .bool _ | .int _ _ | .string _ | .pointer none | .slice none 0 0 => true
  | .slice (some a) len cap => if cap = 0 then len == 0 else decide (len ≤ cap) && a.spot.isNone && decide (a.block < S) && decide (a.off ≤ M)
  | _ => false

def absO (hp : Array Obj) (n : Nat) : AObj :=
  match hp[n % hp.size]? with
  | some (.cells arr _ _) => if n / hp.size ≤ arr.size then .cells false (((arr.toList.drop (n / hp.size)).takeWhile (goodV hp.size (capM hp))).map (absV hp.size)) ((arr.toList.drop (n / hp.size)).takeWhile (goodV hp.size (capM hp))).length else .gone
  | _ => .gone

def absH (hp : Array Obj) : Heap := { get := fun n => if n < hp.size * (capM hp + 1) then absO hp n else .gone, next := hp.size * (capM hp + 1) + 1 }
def absB (hp : Array Obj) : Places := fun n => if n < hp.size * (capM hp + 1) then some ⟨n % hp.size, n / hp.size, 0, 0, 0⟩ else none

theorem name_lt {S M o b : Nat} (ho : o ≤ M) (hb : b < S) : o * S + b < S * (M + 1) := by
  have : o * S ≤ M * S := Nat.mul_le_mul_right _ ho
  rw [Nat.mul_succ, Nat.mul_comm S M]; omega
theorem name_mod {S o b : Nat} (hb : b < S) : (o * S + b) % S = b := by
  rw [Nat.add_comm, Nat.add_mul_mod_self_right, Nat.mod_eq_of_lt hb]
theorem name_div {S o b : Nat} (hb : b < S) : (o * S + b) / S = o := by
  rw [Nat.add_comm, Nat.add_mul_div_right _ _ (by omega), Nat.div_eq_of_lt hb]; omega

theorem good_VR {hp : Array Obj} {v : Value} (h : goodV hp.size (capM hp) v = true) : VR (absB hp) (absV hp.size v) v := by
  cases v with
  | bool b => exact .bool b
  | int k n => exact .int k n
  | string s => exact .string s
  | pointer a => cases a with
    | none => exact .pnil
    | some a => simp [goodV] at h
  | slice a len cap => cases a with
    | none =>
      unfold goodV at h
      split at h <;> simp_all
      exact .snil
    | some a =>
      obtain ⟨b, o, s⟩ := a
      simp only [goodV] at h
      by_cases hc : cap = 0
      · subst hc
        simp at h
        subst h
        simp only [absV, if_true]
        exact .void _ _
      · simp only [hc, if_false, Bool.and_eq_true, decide_eq_true_eq, Option.isNone_iff_eq_none] at h
        obtain ⟨⟨⟨h0, rfl⟩, h1⟩, h2⟩ := h
        simp only [absV, hc, if_false]
        have hp1 : absB hp (o * hp.size + b) = some ⟨b, o, 0, 0, 0⟩ := by
          simp only [absB, if_pos (name_lt h2 h1), name_mod h1, name_div h1]
        have := VR.slice (off := 0) (len := len) (cap := cap) hp1 ⟨h0, .inl rfl⟩
        simpa using this
  | _ => simp [goodV] at h

theorem good_VL {hp : Array Obj} : ∀ {vs : List Value}, (∀ v ∈ vs, goodV hp.size (capM hp) v = true) → VL (absB hp) (vs.map (absV hp.size)) vs
  | [], _ => trivial
  | v :: _vs, h => ⟨good_VR (h v (List.mem_cons_self)), good_VL fun u hu => h u (List.mem_cons_of_mem _ hu)⟩

theorem takeWhile_take {α : Type} {p : α → Bool} (l : List α) : l.take (l.takeWhile p).length = l.takeWhile p := by
  induction l with
  | nil => rfl
  | cons x l ih =>
    simp only [List.takeWhile_cons]
    split
    · simp [ih]
    · simp

theorem abs_glob (hp : Array Obj) (h : gmax ≤ hp.size) : GOk (absB hp) := by
  intro g hg
  have h1 : g < hp.size := by omega
  have h2 : g < hp.size * (capM hp + 1) := by rw [Nat.mul_succ]; omega
  simp only [absB, if_pos h2, Nat.mod_eq_of_lt h1, Nat.div_eq_of_lt h1]

theorem abs_WR (hp : Array Obj) (hgl : gmax ≤ hp.size) : WR (absB hp) (absH hp) hp where
  glob := abs_glob hp hgl
  obj n l hn := by
    unfold absB at hn
    split at hn
    · rename_i hlt
      cases hn
      simp only [absH, if_pos hlt, absO]
      split
      · rename_i arr el fr he
        split
        · rename_i hle
          refine ⟨by simp, arr, el, fr, he, ⟨?_, .inl rfl⟩, by simp, ?_⟩
          · have := (List.takeWhile_prefix (p := goodV hp.size (capM hp)) (l := arr.toList.drop (n / hp.size))).length_le
            simp at this
            show n / hp.size + _ ≤ _
            omega
          · rw [List.length_map]
            show VL _ _ ((arr.toList.drop (n / hp.size)).take _)
            rw [takeWhile_take]
            refine good_VL fun v hv => ?_
            have := List.all_takeWhile (p := goodV hp.size (capM hp)) (l := arr.toList.drop (n / hp.size))
            exact List.all_eq_true.1 this v hv
        · trivial
      · trivial
    · cases hn
  apart n m k l hn hm ho := by
    have : ((absH hp).get n).owns = false := by
      simp only [absH]
      split
      · unfold absO; split
        · split <;> rfl
        · rfl
      · rfl
    rw [this] at ho; cases ho
  fresh n hn := by
    simp only [absH] at hn
    simp only [absB]
    rw [if_neg (by omega)]
  clean n hn := by
    simp only [absH] at hn
    simp only [absH]
    rw [if_neg (by omega)]

theorem abs_owns (hp : Array Obj) (n : Nat) : ((absH hp).get n).owns = false := by
  simp only [absH]
  split
  · unfold absO; split
    · split <;> rfl
    · rfl
  · rfl

theorem abs_row {w : World} {a : Addr} {vs : List Value} (h0 : vs ≠ []) (hc : ∀ i (h : i < vs.length), w.cell? (a.add i) = some vs[i]) (hg : ∀ v ∈ vs, goodV w.heap.size (capM w.heap) v = true) :
    a.spot = none ∧ a.block < w.heap.size ∧ a.off ≤ capM w.heap ∧ ∃ ds c, (absH w.heap).get (a.off * w.heap.size + a.block) = .cells false ds c ∧ vs.length ≤ ds.length ∧ ds.take vs.length = vs.map (absV w.heap.size) := by
  have hpos : 0 < vs.length := List.length_pos_iff.2 h0
  obtain ⟨b, o, s⟩ := a
  have hfirst := hc 0 hpos
  simp only [Addr.add, if_true] at hfirst
  unfold World.cell? at hfirst
  simp only at hfirst
  split at hfirst
  case h_2 => cases hfirst
  rename_i arr el fr he
  split at hfirst
  · cases hfirst
  rename_i hs
  have hs' : s = none := by simpa using hs
  subst hs'
  have hb : b < w.heap.size := (Array.getElem?_eq_some_iff.1 he).1
  have hall : ∀ i (h : i < vs.length), arr[o + i]? = some vs[i] := by
    intro i hi
    have := hc i hi
    by_cases hi0 : i = 0
    · subst hi0; simpa using hfirst
    · simp only [Addr.add, hi0, if_false] at this
      unfold World.cell? at this
      simp only [he] at this
      simpa using this
  have ho : o < arr.size := by
    have := hall 0 hpos
    exact (Array.getElem?_eq_some_iff.1 (by simpa using this)).1
  have hM := le_capM he
  refine ⟨rfl, hb, by simp only; omega, ?_⟩
  have hpre : (arr.toList.drop o).take vs.length = vs := by
    have hlast := hall (vs.length - 1) (by omega)
    have hl := (Array.getElem?_eq_some_iff.1 hlast).1
    apply List.ext_getElem
    · simp; omega
    · intro i h1 h2
      simp only [List.getElem_take, List.getElem_drop]
      have := hall i h2
      obtain ⟨h3, h4⟩ := Array.getElem?_eq_some_iff.1 this
      simpa using h4
  have htw : vs <+: (arr.toList.drop o).takeWhile (goodV w.heap.size (capM w.heap)) := by
    have e : arr.toList.drop o = vs ++ (arr.toList.drop o).drop vs.length := by
      conv => lhs; rw [← List.take_append_drop vs.length (arr.toList.drop o), hpre]
    rw [e, List.takeWhile_append_of_pos hg]
    exact List.prefix_append _ _
  refine ⟨((arr.toList.drop o).takeWhile (goodV w.heap.size (capM w.heap))).map (absV w.heap.size), ((arr.toList.drop o).takeWhile (goodV w.heap.size (capM w.heap))).length, ?_, ?_, ?_⟩
  · simp only [absH, if_pos (name_lt (by omega : o ≤ capM w.heap) hb), absO, name_mod hb, name_div hb, he]
    rw [if_pos (by omega)]
  · simpa using htw.length_le
  · rw [← List.map_take]
    congr 1
    exact (List.prefix_iff_eq_take.1 htw).symm

theorem abs_next (hp : Array Obj) : 0 < (absH hp).next := by simp [absH]

theorem abs_SlR {w : World} {a : Addr} {len cap sz : Nat} {vs : List Value} (hsz : 0 < sz) (hl : len ≤ cap) (hv : vs.length = cap * sz) (hc : ∀ i (h : i < vs.length), w.cell? (a.add i) = some vs[i]) (hg : ∀ v ∈ vs, goodV w.heap.size (capM w.heap) v = true) :
    goodV w.heap.size (capM w.heap) (.slice (some a) len cap) = true ∧ SlR (absH w.heap) sz (absV w.heap.size (.slice (some a) len cap)) len ((vs.take (len * sz)).map (absV w.heap.size)) := by
  by_cases h0 : cap = 0
  · subst h0
    have : len = 0 := by omega
    subst this
    refine ⟨by simp [goodV], ?_⟩
    simp only [absV, if_true, Nat.zero_mul, List.take_zero, List.map_nil]
    refine ⟨rfl, fun b n c e => ?_⟩
    cases e
    exact abs_next _
  · have hne : vs ≠ [] := by
      intro e
      rw [e] at hv
      have := Nat.mul_pos (Nat.pos_of_ne_zero h0) hsz
      simp at hv
      omega
    obtain ⟨h1, h2, h3, ds, c, h4, h5, h6⟩ := abs_row hne hc hg
    refine ⟨by simp [goodV, h0, h1, h2, h3, hl], ?_⟩
    simp only [absV, h0, if_false]
    have hle : len * sz ≤ vs.length := by rw [hv]; exact Nat.mul_le_mul_right _ hl
    refine ⟨?_, fun b n c e => ?_⟩
    · simp only [slCells, h4, rdL, List.drop_zero]
      rw [if_pos (by omega)]
      simp only [Option.map_some, Option.some.injEq, Prod.mk.injEq, true_and]
      rw [List.map_take, ← h6, List.take_take, Nat.min_eq_left hle]
    · cases e
      have := name_lt h3 h2
      simp only [absH]
      omega

end Go.Ab


namespace Go.Ab
open Go.RowKit Go.Deep Go.ChangeShapes Go.WideShapes

section
variable {H : Type} {enc : TypeId × Value → H} {P : Program} {w : World} {held : Bool} {α : Type}

theorem flat_length {k : Nat} : ∀ {css : List (List Value)}, (∀ c ∈ css, c.length = k) → css.flatten.length = css.length * k
  | [], _ => by simp
  | c :: css, h => by
    simp only [List.flatten_cons, List.length_append, List.length_cons]
    rw [flat_length fun c hc => h c (List.mem_cons_of_mem _ hc), h c (List.mem_cons_self), Nat.succ_mul, Nat.add_comm]
theorem flat_get {k : Nat} : ∀ {css : List (List Value)}, (∀ c ∈ css, c.length = k) → ∀ (q r : Nat), r < k → css.flatten[q * k + r]? = (css[q]?).bind (·[r]?)
  | [], _, q, r, _ => by simp
  | c :: css, h, 0, r, hr => by
    have := h c (List.mem_cons_self)
    simp [List.getElem?_append_left (by omega : r < c.length)]
  | c :: css, h, q + 1, r, hr => by
    have h1 := h c (List.mem_cons_self)
    have := flat_get (fun c hc => h c (List.mem_cons_of_mem _ hc)) q r hr
    rw [List.flatten_cons, List.getElem?_append_right (by rw [h1, Nat.succ_mul]; omega), h1]
    have e : (q + 1) * k + r - k = q * k + r := by rw [Nat.succ_mul]; omega
    rw [e, this]
    simp
theorem flat_take {k : Nat} : ∀ {css : List (List Value)}, (∀ c ∈ css, c.length = k) → ∀ n, css.flatten.take (n * k) = (css.take n).flatten
  | [], _, n => by simp
  | c :: css, h, 0 => by simp
  | c :: css, h, n + 1 => by
    have h1 := h c (List.mem_cons_self)
    rw [List.take_succ_cons, List.flatten_cons, List.flatten_cons, ← flat_take (fun c hc => h c (List.mem_cons_of_mem _ hc)) n]
    rw [List.take_append, h1, List.take_of_length_le (by rw [h1, Nat.succ_mul]; omega), Nat.succ_mul, Nat.add_sub_cancel]

theorem flat_split {S : Nat} {f : α → List Value} {Q : α → Prop} : ∀ {css : List (List Value)}, (∀ c ∈ css, ∃ x, c.map (absV S) = f x ∧ Q x) → ∃ xs : List α, xs.length = css.length ∧ css.flatten.map (absV S) = xs.flatMap f ∧ ∀ x ∈ xs, Q x
  | [], _ => ⟨[], rfl, rfl, by simp⟩
  | c :: css, h => by
    obtain ⟨x, h1, h2⟩ := h c (List.mem_cons_self)
    obtain ⟨xs, h3, h4, h5⟩ := flat_split (css := css) fun c hc => h c (List.mem_cons_of_mem _ hc)
    refine ⟨x :: xs, by simp [h3], ?_, ?_⟩
    · simp only [List.flatten_cons, List.map_append, List.flatMap_cons, h1, h4]
    · intro y hy
      rcases List.mem_cons.1 hy with rfl | hy
      · exact h2
      · exact h5 y hy

theorem read_slice {t e : TypeId} {fuel : Nat} {v : Value} {x : DataW H × List MemPlace} {f : α → List Value} {Q : α → Prop} (ht : P.underlying t = some (.slice e)) (hsz : 0 < P.cellsOf e)
    (he : ∀ n cs y, DataW.trod enc P w 0 (fun _ => true) held n e cs = some y → (∀ u ∈ cs, goodV w.heap.size (capM w.heap) u = true) ∧ ∃ x, cs.map (absV w.heap.size) = f x ∧ Q x)
    (h : DataW.trod enc P w 0 (fun _ => true) held fuel t [v] = some x) :
    goodV w.heap.size (capM w.heap) v = true ∧ ∃ xs : List α, SlR (absH w.heap) (P.cellsOf e) (absV w.heap.size v) xs.length (xs.flatMap f) ∧ xs.length ≤ maxLen ∧ ∀ x ∈ xs, Q x := by
  rcases open_slice ht h with ⟨hv, _⟩ | ⟨a, len, cap, m, n, D, Pl, hv, _, hl, hm, hmm, _, hx⟩
  · simp only [List.cons.injEq, and_true] at hv
    subst hv
    exact ⟨rfl, [], ⟨rfl, fun a n c e => by cases e⟩, Nat.zero_le _, by simp⟩
  · simp only [List.cons.injEq, and_true] at hv
    subst hv
    simp only [if_true] at hmm
    subst hmm
    obtain ⟨C, hC⟩ := choose_lt (α := List Value) hx
    have hlen : ∀ c ∈ (List.range m).map C, c.length = P.cellsOf e := by
      intro c hc
      obtain ⟨i, hi, rfl⟩ := List.mem_map.1 hc
      obtain ⟨_, h2, _⟩ := World.cells?_some (hC i (List.mem_range.1 hi)).1
      exact h2
    have hfl : ((List.range m).map C).flatten.length = m * P.cellsOf e := by
      have := flat_length hlen
      rwa [List.length_map, List.length_range] at this
    have hg : ∀ u ∈ ((List.range m).map C).flatten, goodV w.heap.size (capM w.heap) u = true := by
      intro u hu
      obtain ⟨c, hc, huc⟩ := List.mem_flatten.1 hu
      obtain ⟨i, hi, rfl⟩ := List.mem_map.1 hc
      exact (he _ _ _ (hC i (List.mem_range.1 hi)).2).1 u huc
    have hcell : ∀ i (hi : i < ((List.range m).map C).flatten.length), w.cell? (a.add i) = some ((List.range m).map C).flatten[i] := by
      intro i hi
      have hi' : i < m * P.cellsOf e := by rw [← hfl]; exact hi
      have hq : i / P.cellsOf e < m := Nat.div_lt_of_lt_mul (by rw [Nat.mul_comm]; exact hi')
      have hr : i % P.cellsOf e < P.cellsOf e := Nat.mod_lt _ hsz
      have hi2 : i / P.cellsOf e * P.cellsOf e + i % P.cellsOf e = i := by rw [Nat.mul_comm]; exact Nat.div_add_mod i _
      obtain ⟨_, h2, h3⟩ := World.cells?_some (hC _ hq).1
      have h4 := h3 _ hr
      rw [Deep.add_add, hi2] at h4
      have h5 := flat_get hlen (i / P.cellsOf e) _ hr
      rw [hi2] at h5
      rw [h4, ← List.getElem?_eq_getElem hi, h5]
      simp [hq]
    obtain ⟨k1, k2⟩ := abs_SlR (w := w) (a := a) (len := len) (cap := m) hsz hl hfl hcell hg
    refine ⟨k1, ?_⟩
    rw [flat_take hlen] at k2
    obtain ⟨xs, h6, h7, h8⟩ := flat_split (S := w.heap.size) (f := f) (Q := Q) (css := ((List.range m).map C).take len) (fun c hc => by
      obtain ⟨i, hi, rfl⟩ := List.mem_map.1 (List.mem_of_mem_take hc)
      exact (he _ _ _ (hC i (List.mem_range.1 hi)).2).2)
    have hxl : xs.length = len := by rw [h6]; simp; omega
    refine ⟨xs, ?_, by omega, h8⟩
    rw [← h7, hxl]
    exact k2

theorem read_int {t : TypeId} {k : IntKind} (ht : P.underlying t = some (.int k)) {n : Nat} {cs : List Value} {y : DataW H × List MemPlace} (h : DataW.trod enc P w 0 (fun _ => true) held n t cs = some y) :
    (∀ u ∈ cs, goodV w.heap.size (capM w.heap) u = true) ∧ ∃ x : Int, cs.map (absV w.heap.size) = [.int k x] ∧ (Lit.int k x).wf = true := by
  obtain ⟨z, rfl, _, hw⟩ := DataW.trod_int ht h
  exact ⟨by simp [goodV], z, rfl, hw⟩

theorem read_ints {t e : TypeId} {k : IntKind} {fuel : Nat} {v : Value} {x : DataW H × List MemPlace} (ht : P.underlying t = some (.slice e)) (he : P.underlying e = some (.int k)) (hc : P.cellsOf e = 1) (h : DataW.trod enc P w 0 (fun _ => true) held fuel t [v] = some x) :
    goodV w.heap.size (capM w.heap) v = true ∧ ∃ xs : List Int, SlR (absH w.heap) 1 (absV w.heap.size v) xs.length (xs.map (.int k)) ∧ xs.length ≤ maxLen ∧ ∀ x ∈ xs, (Lit.int k x).wf = true := by
  obtain ⟨h1, xs, h2, h3⟩ := read_slice (α := Int) (f := fun x => [.int k x]) (Q := fun x => (Lit.int k x).wf = true) ht (by omega) (fun n cs y hy => read_int he hy) h
  refine ⟨h1, xs, ?_, h3⟩
  rw [hc] at h2
  have : xs.flatMap (fun x => [Value.int k x]) = xs.map (.int k) := by
    clear h2 h3
    induction xs with
    | nil => rfl
    | cons x xs ih => simp [ih]
  rw [← this]; exact h2

theorem law_calls {f : FuncId} {args : Array Value} {vs : List Value} (hgl : gmax ≤ w.heap.size) (hA : AFun P f vs (absH w.heap) (fun v _ => v = .bool true)) (hv : VL (absB w.heap) vs args.toList) :
    Calls P f args w fun e w' => e = .returned (.bool true) ∧ Below w.heap.size w w' := by
  have h := callsIn_wide.1 (hA.2 _ w args.toList (abs_WR w.heap hgl) hv)
  rw [Array.toArray_toList] at h
  refine h.mono fun e w' he => ?_
  cases e with
  | returned u =>
    obtain ⟨v, H', β', rfl, h1, _, h2⟩ := he
    rw [h1.of_bool]
    exact ⟨rfl, h2.below (abs_owns _)⟩
  | _ => exact he.elim

theorem trodAll_stays {W W' : World} {sp : Nat → Bool} (hl : laidOutB P = true) (hb : Below W.heap.size W W') : ∀ {ts : List TypeId} {vs : List Value} {ds : List (DataW H)} {ps : List MemPlace}, (∀ t ∈ ts, P.readableRec t = true ∧ t < P.types.size) →
    DataW.TrodAll enc P W 0 (fun _ => true) true ts vs ds ps → (∀ x ∈ ps, x.block < W.heap.size) → (∀ x ∈ ps, sp x.block = true) → DataW.TrodAll enc P W' 0 sp true ts vs ds ps
  | [], [], [], _, _, h, _, _ => h
  | t :: ts, v :: vs, d :: ds, _, ht, ⟨p, q, h1, h2, e⟩, hlt, hs => by
    subst e
    refine ⟨p, q, WideElems.Trod_stays hl (ht t (List.mem_cons_self)).1 (ht t (List.mem_cons_self)).2 h1 (fun x hx => hb.same (hlt x (List.mem_append_left _ hx))) (fun x hx => hs x (List.mem_append_left _ hx)), ?_, rfl⟩
    exact trodAll_stays hl hb (fun t ht' => ht t (List.mem_cons_of_mem _ ht')) h2 (fun x hx => hlt x (List.mem_append_right _ hx)) (fun x hx => hs x (List.mem_append_right _ hx))

theorem post_true {fn : Func} {s : ChangeSpec} {W W' : World} {args : Array Value} {ds gs : List (DataW H)} {before : List MemPlace} (hl : laidOutB P = true) (hr : ∀ t ∈ fn.params.toList, P.readableRec t = true ∧ t < P.types.size) {tb : TypeId} (hres : fn.resultTypes = #[tb]) (hb : P.underlying tb = some .bool) (hvars : s.vars = [])
    (hW : DataW.Whole enc P fn.params.toList s.vars false W args.toList ds gs before) (hs : s.fn H (ds ++ gs) = { results := [.lit (.bool true)], args := ds }) (hB : Below W.heap.size W W') : s.post enc P fn false true false false W args (.bool true) W' := by
  have hlt := fun p (hp : p ∈ before) => hW.lt p hp
  have hW' := hW
  obtain ⟨p, q, hA, hV, rfl, _, _⟩ := hW
  rw [hvars] at hV
  have hq : q = [] ∧ gs = [] := by
    cases gs with
    | nil => exact ⟨hV, rfl⟩
    | cons _ _ => exact hV.elim
  obtain ⟨rfl, rfl⟩ := hq
  refine ⟨ds, [], p ++ [], [], p, [], hW', ?_, ?_, ?_, hB.frame _, fun h => by cases h⟩
  · rw [hs, hres]
    exact ⟨[], [], shut_bool hb true, rfl, rfl⟩
  · rw [hs]
    refine trodAll_stays hl hB hr hA (fun x hx => hlt x (by simpa using hx)) (fun x hx => ?_)
    have := hlt x (by simpa using hx)
    simpa using this
  · rw [hs, hvars]
    rfl
end

end Go.Ab


namespace Go.Ab

inductive Tri (α : Type) where
  | leaf
  | node (l : Tri α) (x : Option α) (r : Tri α)

section
variable {α : Type}

noncomputable def Tri.get (t : Tri α) : Nat → Option α :=
  Tri.rec (motive := fun _ => Nat → Option α) (fun _ => none) (fun _ x _ gl gr k => Nat.rec (motive := fun _ => Option α) x (fun k _ => Nat.rec (motive := fun _ => Option α) (gl (Nat.div k 2)) (fun _ _ => gr (Nat.div k 2)) (Nat.mod k 2)) k) t
noncomputable def pathK (v : α) (f : Nat) : Nat → (Tri α → Bool) → Bool :=
  Nat.rec (motive := fun _ => Nat → (Tri α → Bool) → Bool) (fun _ _ => false)
    (fun _ ih k κ => Nat.rec (motive := fun _ => Bool) (κ (.node .leaf (some v) .leaf)) (fun k _ => Nat.rec (motive := fun _ => Bool) (ih (Nat.div k 2) fun l => κ (.node l none .leaf)) (fun _ _ => ih (Nat.div k 2) fun r => κ (.node .leaf none r)) (Nat.mod k 2)) k) f
noncomputable def Tri.setK (v : α) (t : Tri α) : Nat → (Tri α → Bool) → Bool :=
  Tri.rec (motive := fun _ => Nat → (Tri α → Bool) → Bool) (fun k κ => pathK v 40 k κ)
    (fun l x r sl sr k κ => Nat.rec (motive := fun _ => Bool) (κ (.node l (some v) r)) (fun k _ => Nat.rec (motive := fun _ => Bool) (sl (Nat.div k 2) fun l => κ (.node l x r)) (fun _ _ => sr (Nat.div k 2) fun r => κ (.node l x r)) (Nat.mod k 2)) k) t

theorem Tri.get_leaf (k : Nat) : (Tri.leaf : Tri α).get k = none := rfl
theorem Tri.get_even {l r : Tri α} {x : Option α} {k : Nat} (h : Nat.mod k 2 = 0) : (Tri.node l x r).get (k + 1) = l.get (Nat.div k 2) := by
  show Nat.rec (motive := fun _ => Option α) (l.get (Nat.div k 2)) (fun _ _ => r.get (Nat.div k 2)) (Nat.mod k 2) = Nat.rec (motive := fun _ => Option α) (l.get (Nat.div k 2)) (fun _ _ => r.get (Nat.div k 2)) 0
  rw [h]
theorem Tri.get_odd {l r : Tri α} {x : Option α} {k q : Nat} (h : Nat.mod k 2 = q + 1) : (Tri.node l x r).get (k + 1) = r.get (Nat.div k 2) := by
  show Nat.rec (motive := fun _ => Option α) (l.get (Nat.div k 2)) (fun _ _ => r.get (Nat.div k 2)) (Nat.mod k 2) = Nat.rec (motive := fun _ => Option α) (l.get (Nat.div k 2)) (fun _ _ => r.get (Nat.div k 2)) (q + 1)
  rw [h]

theorem half_inj (a b : Nat) (e : Nat.mod a 2 = Nat.mod b 2) : Nat.div a 2 = Nat.div b 2 ↔ a = b := by
  have e' : a % 2 = b % 2 := e
  show a / 2 = b / 2 ↔ a = b
  omega
theorem mod2 (a : Nat) : Nat.mod a 2 = 0 ∨ Nat.mod a 2 = 1 := by
  have : a % 2 < 2 := Nat.mod_lt _ (by omega)
  show a % 2 = 0 ∨ a % 2 = 1
  omega

theorem Tri.turned {l r l' : Tri α} {x : Option α} {k : Nat} {v : α} (h0 : Nat.mod k 2 = 0) (h : ∀ j, l'.get j = if j = Nat.div k 2 then some v else l.get j) (j : Nat) :
    (Tri.node l' x r).get j = if j = k + 1 then some v else (Tri.node l x r).get j := by
  cases j with
  | zero => rw [if_neg (by omega)]; rfl
  | succ j =>
    rcases mod2 j with hj | hj
    · rw [Tri.get_even hj, Tri.get_even hj, h]
      have := half_inj j k (by rw [hj, h0])
      by_cases e : j = k
      · rw [if_pos (this.2 e), if_pos (by omega)]
      · rw [if_neg (fun e2 => e (this.1 e2)), if_neg (by omega)]
    · rw [Tri.get_odd hj, Tri.get_odd hj, if_neg]
      intro e
      have : j = k := by omega
      rw [this, h0] at hj; cases hj
theorem Tri.turnedR {l r r' : Tri α} {x : Option α} {k : Nat} {v : α} (h0 : Nat.mod k 2 = 1) (h : ∀ j, r'.get j = if j = Nat.div k 2 then some v else r.get j) (j : Nat) :
    (Tri.node l x r').get j = if j = k + 1 then some v else (Tri.node l x r).get j := by
  cases j with
  | zero => rw [if_neg (by omega)]; rfl
  | succ j =>
    rcases mod2 j with hj | hj
    · rw [Tri.get_even hj, Tri.get_even hj, if_neg]
      intro e
      have : j = k := by omega
      rw [this, h0] at hj; cases hj
    · rw [Tri.get_odd hj, Tri.get_odd hj, h]
      have := half_inj j k (by rw [hj, h0])
      by_cases e : j = k
      · rw [if_pos (this.2 e), if_pos (by omega)]
      · rw [if_neg (fun e2 => e (this.1 e2)), if_neg (by omega)]
theorem Tri.turned0 {l r : Tri α} {x : Option α} {v : α} (j : Nat) : (Tri.node l (some v) r).get j = if j = 0 then some v else (Tri.node l x r).get j := by
  cases j with
  | zero => rfl
  | succ j => rw [if_neg (by omega)]; rfl
theorem Tri.none_get (j : Nat) : (Tri.node (.leaf : Tri α) none .leaf).get j = none := by
  cases j with
  | zero => rfl
  | succ j => rcases mod2 j with hj | hj
              · rw [Tri.get_even hj]; rfl
              · rw [Tri.get_odd hj]; rfl

theorem pathK_ok {v : α} : ∀ {f k : Nat} {κ : Tri α → Bool}, pathK v f k κ = true → ∃ t', κ t' = true ∧ ∀ j, t'.get j = if j = k then some v else none
  | 0, _, _, h => by cases h
  | f + 1, k, κ, h => by
    cases k with
    | zero =>
      refine ⟨_, h, fun j => ?_⟩
      rw [Tri.turned0 (x := none), Tri.none_get]
    | succ k =>
      have h' : Nat.rec (motive := fun _ => Bool) (pathK v f (Nat.div k 2) fun l => κ (.node l none .leaf)) (fun _ _ => pathK v f (Nat.div k 2) fun r => κ (.node .leaf none r)) (Nat.mod k 2) = true := h
      rcases mod2 k with hk | hk
      · rw [hk] at h'
        obtain ⟨l, h1, h2⟩ := pathK_ok h'
        refine ⟨_, h1, fun j => ?_⟩
        rw [Tri.turned (l := .leaf) hk h2, Tri.none_get]
      · rw [hk] at h'
        obtain ⟨l, h1, h2⟩ := pathK_ok h'
        refine ⟨_, h1, fun j => ?_⟩
        rw [Tri.turnedR (r := .leaf) hk h2, Tri.none_get]

theorem Tri.setK_ok {v : α} : ∀ {t : Tri α} {k : Nat} {κ : Tri α → Bool}, Tri.setK v t k κ = true → ∃ t', κ t' = true ∧ ∀ j, t'.get j = if j = k then some v else t.get j
  | .leaf, k, κ, h => pathK_ok (show pathK v 40 k κ = true from h)
  | .node l x r, k, κ, h => by
    cases k with
    | zero => exact ⟨_, h, fun j => Tri.turned0 j⟩
    | succ k =>
      have h' : Nat.rec (motive := fun _ => Bool) (Tri.setK v l (Nat.div k 2) fun l => κ (.node l x r)) (fun _ _ => Tri.setK v r (Nat.div k 2) fun r => κ (.node l x r)) (Nat.mod k 2) = true := h
      rcases mod2 k with hk | hk
      · rw [hk] at h'
        obtain ⟨l', h1, h2⟩ := Tri.setK_ok h'
        exact ⟨_, h1, Tri.turned hk h2⟩
      · rw [hk] at h'
        obtain ⟨l', h1, h2⟩ := Tri.setK_ok h'
        exact ⟨_, h1, Tri.turnedR hk h2⟩
end

noncomputable def natK (n : Nat) (κ : Nat → Bool) : Bool := Nat.rec (motive := fun _ => Bool) (κ 0) (fun k _ => κ (Nat.add k 1)) n
theorem natK_eq (n : Nat) (κ : Nat → Bool) : natK n κ = κ n := by cases n <;> rfl
noncomputable def intK (n : Int) (κ : Int → Bool) : Bool := match n with
  | .ofNat n => natK n fun n => κ (.ofNat n)
  | .negSucc n => natK n fun n => κ (.negSucc n)
theorem intK_eq (n : Int) (κ : Int → Bool) : intK n κ = κ n := by cases n <;> simp only [intK, natK_eq]
def kindK (k : IntKind) (κ : IntKind → Bool) : Bool := match k with
  | .i8 => κ .i8 | .i16 => κ .i16 | .i32 => κ .i32 | .i64 => κ .i64 | .u8 => κ .u8 | .u16 => κ .u16 | .u32 => κ .u32 | .u64 => κ .u64
theorem kindK_eq (n : IntKind) (κ : IntKind → Bool) : kindK n κ = κ n := by cases n <;> rfl
def boolK (b : Bool) (κ : Bool → Bool) : Bool := match b with
  | true => κ true
  | false => κ false
theorem boolK_eq (n : Bool) (κ : Bool → Bool) : boolK n κ = κ n := by cases n <;> rfl
noncomputable def addrK (a : Addr) (κ : Addr → Bool) : Bool := match a with
  | ⟨b, o, s⟩ => natK b fun b => natK o fun o => match s with
    | none => κ ⟨b, o, none⟩
    | some s => natK s fun s => κ ⟨b, o, some s⟩
theorem addrK_eq (a : Addr) (κ : Addr → Bool) : addrK a κ = κ a := by
  obtain ⟨b, o, s⟩ := a
  cases s <;> simp only [addrK, natK_eq]
def listK {α : Type} (g : α → (α → Bool) → Bool) : List α → (List α → Bool) → Bool
  | [], κ => κ []
  | x :: l, κ => g x fun x => listK g l fun l => κ (x :: l)
theorem listK_eq {α : Type} {g : α → (α → Bool) → Bool} (hg : ∀ x κ, g x κ = κ x) : ∀ (l : List α) (κ : List α → Bool), listK g l κ = κ l
  | [], _ => rfl
  | x :: l, κ => by simp only [listK, hg, listK_eq hg l]
noncomputable def valS (g : Value → (Value → Bool) → Bool) (v : Value) (κ : Value → Bool) : Bool := match v with
  | .bool b => boolK b fun b => κ (.bool b)
  | .int k n => kindK k fun k => intK n fun n => κ (.int k n)
  | .pointer (some a) => addrK a fun a => κ (.pointer (some a))
  | .slice (some a) l c => addrK a fun a => natK l fun l => natK c fun c => κ (.slice (some a) l c)
  | .map (some r) => natK r fun r => κ (.map (some r))
  | .agg ⟨l⟩ => listK g l fun l => κ (.agg ⟨l⟩)
  | .tuple ⟨l⟩ => listK g l fun l => κ (.tuple ⟨l⟩)
  | .func fn ⟨xs⟩ ⟨us⟩ => listK g xs fun xs => listK g us fun us => κ (.func fn ⟨xs⟩ ⟨us⟩)
  | .iface t v => g v fun v => κ (.iface t v)
  | .pointer none => κ (.pointer none)
  | .slice none l c => natK l fun l => natK c fun c => κ (.slice none l c)
  | .map none => κ (.map none)
  | .nilFunc => κ .nilFunc
  | .nilIface => κ .nilIface
  | .string s => κ (.string s)
  | v => κ v
theorem valS_eq {g : Value → (Value → Bool) → Bool} (hg : ∀ x κ, g x κ = κ x) (v : Value) (κ : Value → Bool) : valS g v κ = κ v := by
  unfold valS
  split <;> simp only [boolK_eq, kindK_eq, intK_eq, addrK_eq, natK_eq, listK_eq hg, hg]
noncomputable def valA : Value → (Value → Bool) → Bool := valS fun v κ => κ v
noncomputable def valB : Value → (Value → Bool) → Bool := valS valA
noncomputable def valC : Value → (Value → Bool) → Bool := valS valB
theorem valA_eq (v : Value) (κ : Value → Bool) : valA v κ = κ v := valS_eq (fun _ _ => rfl) v κ
theorem valB_eq (v : Value) (κ : Value → Bool) : valB v κ = κ v := valS_eq valA_eq v κ
theorem valC_eq (v : Value) (κ : Value → Bool) : valC v κ = κ v := valS_eq valB_eq v κ
structure ELoop where
  state : LoopState
  pending : Option Code
  t : Tri Value
  N : Nat
  ps : Array Tmp
  assign : Code
  body : Code
  x : ACode
  y : ACode
  defers : Nat

inductive EObj where
  | gone
  | cells (rw : Bool) (cs : List Value) (c : Nat)
  | map (es : List (Value × Value × Nat)) (clock : Nat)
  | loop (r : ELoop)
  | dfr

noncomputable def toT (t : Tri Value) : Nat → Value := fun x => (t.get x).getD undef
noncomputable def ELoop.toA (fn : FuncId) (r : ELoop) : ALoop := { state := r.state, pending := r.pending, fn, t := toT r.t, N := r.N, params := r.ps, assign := r.assign, body := r.body, defers := r.defers }
noncomputable def EObj.toA (fn : FuncId) : EObj → AObj
  | .gone => .gone
  | .cells rw cs c => .cells rw cs c
  | .map es c => .map es c
  | .loop r => .loop (r.toA fn)
  | .dfr => .dfr
noncomputable def toH (F : Nat → FuncId) (h : Tri EObj) (nx : Nat) : Heap := { get := fun n => match h.get n with | none => .gone | some o => o.toA (F n), next := nx }

noncomputable def stX (F : Nat → FuncId) (t : Tri Value) (d : List Nat) (h : Tri EObj) (nx : Nat) : St := ⟨toT t, d, toH F h nx⟩

def calm {α : Type} (P : Program) : Sem α → Option α
  | .pure a => some a
  | .program k => calm P (k P)
  | .mark _ k => calm P k
  | _ => none
theorem calm_run {α : Type} {P : Program} : ∀ {s : Sem α} {v : α}, calm P s = some v → ∀ w, s.run P w = .ok v w
  | .pure a, v, h, w => by simp only [calm, Option.some.injEq] at h; subst h; rfl
  | .program k, v, h, w => by simp only [calm] at h; exact calm_run (s := k P) h w
  | .mark m k, v, h, w => by simp only [calm] at h; exact calm_run (s := k) h w
  | .load .., _, h, _ => by simp [calm] at h
  | .store .., _, h, _ => by simp [calm] at h
  | .new .., _, h, _ => by simp [calm] at h
  | .shape .., _, h, _ => by simp [calm] at h
  | .freeze .., _, h, _ => by simp [calm] at h
  | .frozen .., _, h, _ => by simp [calm] at h
  | .getObj .., _, h, _ => by simp [calm] at h
  | .setObj .., _, h, _ => by simp [calm] at h
  | .choose .., _, h, _ => by simp [calm] at h
  | .sys .., _, h, _ => by simp [calm] at h
  | .halt .., _, h, _ => by simp [calm] at h

def genX (P : Program) (ρ : Operand → Value) (o : Oper) : Option Value := match calm P (execOp ρ o) with
  | some (.value v) => if flat v then some v else none
  | _ => none
theorem genX_ok {P : Program} {ρ : Operand → Value} {o : Oper} {v : Value} (h : genX P ρ o = some v) : genV P ρ o = some v := by
  unfold genX at h
  split at h
  · rename_i u hc
    split at h
    · rename_i hf
      simp only [Option.some.injEq] at h; subst h
      exact genV_of hf (calm_run hc)
    · cases h
  · cases h

def findX (P : Program) (T : TypeId) (k : Value) : List Value → Nat → Option (Option Nat)
  | [], _ => some none
  | x :: l, i => match calm P (Op.equal T k x) with
    | some true => some (some i)
    | some false => findX P T k l (i + 1)
    | none => none
def keyX (P : Program) (T : TypeId) (k : Value) (keys : List Value) : Option (Option Nat) :=
  match calm P (Instr.checkKey true 10000 T k), calm P (Instr.checkKey false 10000 T k) with
  | some _, some _ => findX P T k keys 0
  | _, _ => none

theorem sameNow_equal {P : Program} {T : TypeId} {d : TypeDesc} {k x : Value} {b b' : Bool} (hd : P.underlying T = some d) (h1 : Instr.sameNow d k x = some b) (h2 : calm P (Op.equal T k x) = some b') : b = b' := by
  have hr := calm_run h2 default
  unfold Instr.sameNow at h1
  obtain ⟨n, e⟩ : ∃ n, Op.maxDepth = n + 1 := ⟨9999, rfl⟩
  have hu := run_underlying hd (default : World)
  simp only [Op.equal, e, Op.equalIn, Sem.run_bind, hu, Result.andThen_ok] at hr
  clear e h2 hu
  split at h1
  · split at h1
    · rename_i hk
      simp only [Option.some.injEq] at h1; subst h1; subst hk
      simpa using hr
    · cases h1
  · simp only [Option.some.injEq] at h1; subst h1
    simpa using hr
  · simp only [Option.some.injEq] at h1; subst h1
    simpa using hr
  · cases h1

theorem findNow_ok {P : Program} {T : TypeId} {d : TypeDesc} {k : Value} (hd : P.underlying T = some d) : ∀ {es : List MapEntry} {i : Nat} {r : Option (Nat × Value)} {q : Option Nat}, Instr.findNow d k es i = some r → findX P T k (es.map (·.key)) i = some q →
    r = q.bind fun j => (es[j - i]?).map fun e => (j, e.val)
  | [], i, r, q, h1, h2 => by
    simp only [Instr.findNow, Option.some.injEq] at h1; subst h1
    simp only [List.map_nil, findX, Option.some.injEq] at h2; subst h2
    rfl
  | e :: es, i, r, q, h1, h2 => by
    simp only [Instr.findNow] at h1
    simp only [List.map_cons, findX] at h2
    split at h1
    · rename_i hs
      simp only [Option.some.injEq] at h1; subst h1
      split at h2
      · simp only [Option.some.injEq] at h2; subst h2
        simp
      · rename_i hc; have := sameNow_equal hd hs hc; cases this
      · cases h2
    · rename_i hs
      split at h2
      · rename_i hc; have := sameNow_equal hd hs hc; cases this
      · have := findNow_ok hd h1 h2
        rw [this]
        cases q with
        | none => rfl
        | some j =>
          have hij := findX_le h2
          simp only [Option.bind_some]
          have e1 : j - i = (j - (i + 1)) + 1 := by omega
          rw [e1, List.getElem?_cons_succ]
      · cases h2
    · cases h1
where
  findX_le {P : Program} {T : TypeId} {k : Value} : ∀ {l : List Value} {i j : Nat}, findX P T k l i = some (some j) → i ≤ j
  | [], _, _, h => by simp [findX] at h
  | x :: l, i, j, h => by
    simp only [findX] at h
    split at h
    · simp only [Option.some.injEq] at h; omega
    · have := findX_le h; omega
    · cases h

theorem findX_lt {P : Program} {T : TypeId} {k : Value} : ∀ {l : List Value} {i j : Nat}, findX P T k l i = some (some j) → i ≤ j ∧ j < i + l.length
  | [], _, _, h => by simp [findX] at h
  | x :: l, i, j, h => by
    simp only [findX] at h
    split at h
    · simp only [Option.some.injEq] at h; subst h; simp
    · have := findX_lt h; simp; omega
    · cases h

theorem findAsking_ok {P : Program} {T : TypeId} {k : Value} : ∀ {es : List MapEntry} {i : Nat} {q : Option Nat}, findX P T k (es.map (·.key)) i = some q → ∀ w : World,
    (Instr.findAsking T k es i).run P w = .ok (q.bind fun j => (es[j - i]?).map fun e => (j, e.val)) w
  | [], i, q, h, w => by
    simp only [List.map_nil, findX, Option.some.injEq] at h; subst h
    simp [Instr.findAsking]
  | e :: es, i, q, h, w => by
    simp only [List.map_cons, findX] at h
    split at h
    · rename_i hc
      simp only [Option.some.injEq] at h; subst h
      simp [Instr.findAsking, calm_run hc]
    · rename_i hc
      have := findAsking_ok h w
      simp only [Instr.findAsking, Sem.run_bind, calm_run hc, Result.andThen_ok, Bool.false_eq_true, if_false, this]
      cases q with
      | none => rfl
      | some j =>
        have hij := (findX_lt h).1
        have e1 : j - i = (j - (i + 1)) + 1 := by omega
        simp only [Option.bind_some, e1, List.getElem?_cons_succ]
    · cases h

theorem keyX_ok {P : Program} {T : TypeId} {d : TypeDesc} {k : Value} {keys : List Value} {r : Option Nat} (hd : P.underlying T = some d) (h : keyX P T k keys = some r) : keyV P T k keys = some r := by
  unfold keyX at h
  split at h
  · rename_i h1 h2
    refine keyV_of ?_ fun i hi => by subst hi; have := findX_lt h; omega
    intro w es hes
    subst hes
    refine ⟨fun b => by cases b; exact calm_run h2 w; exact calm_run h1 w, ?_⟩
    simp only [Instr.findKey, Sem.run_bind, run_underlying hd, Result.andThen_ok]
    split
    · rename_i r' hr'
      have := findNow_ok hd hr' h
      simp only [Sem.run_pure, this, Nat.sub_zero]
    · have := findAsking_ok h w
      simpa using this
  · cases h

end Go.Ab

