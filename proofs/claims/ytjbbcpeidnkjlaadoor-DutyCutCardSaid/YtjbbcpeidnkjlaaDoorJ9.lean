/-
  Joined texts of a calculus of abstract memory, of the program's code in it, and of contracts.
-/
import Derived.Test.YtjbbcpeidnkjlaaDoorJ6
import Derived.Test.YtjbbcpeidnkjlaaDoorJ7
import Derived.Test.YtjbbcpeidnkjlaaDoorChecked
namespace Go.Proofs.YtjbbcpeidnkjlaaDoor
open Go Go.Ab

structure Rl where
  place : Int
  lo : Int
  hi : Int
deriving DecidableEq

def Rl.cells (x : Rl) : List Value := [.int .i64 x.place, .int .i64 x.lo, .int .i64 x.hi]
def Rl.val (x : Rl) : Value := .agg #[.int .i64 x.place, .int .i64 x.lo, .int .i64 x.hi]

structure Lw where
  piece : Int
  drive : Int
  spread : Int
  brk : Int
  on : Int
  off : Int
  least : Int
  pieces : Int

structure Dy where
  law : Lw
  blocks : List (List Rl)
  walk : List (List Int)

def Lw.list (l : Lw) : List Int := [l.piece, l.drive, l.spread, l.brk, l.on, l.off, l.least, l.pieces]
def Lw.cells (l : Lw) : List Value := l.list.map (Value.int .i64)
abbrev dayV (D : Dy) (b w : Value) : Value := .agg #[.int .i64 D.law.piece, .int .i64 D.law.drive, .int .i64 D.law.spread, .int .i64 D.law.brk, .int .i64 D.law.on, .int .i64 D.law.off, .int .i64 D.law.least, .int .i64 D.law.pieces, b, w]

theorem flatMap_at {α β : Type} {f : α → List β} {k : Nat} (hf : ∀ x, (f x).length = k) : ∀ (xs : List α) (i : Nat) (hi : i < xs.length), ((xs.flatMap f).drop (i * k)).take k = f xs[i]
  | [], i, hi => by simp at hi
  | x :: xs, 0, hi => by
    simp only [List.flatMap_cons, Nat.zero_mul, List.drop_zero, List.getElem_cons_zero]
    rw [← hf x, List.take_left]
  | x :: xs, i + 1, hi => by
    have := flatMap_at hf xs i (by simpa using hi)
    simp only [List.flatMap_cons, List.getElem_cons_succ]
    rw [← this, Nat.succ_mul, Nat.add_comm, ← hf x, ← List.drop_drop, List.drop_left]

def RelsAt (H : Heap) (v : Value) (xs : List Rl) : Prop := SlR H 3 v xs.length (xs.flatMap Rl.cells) ∧ xs.length < 2 ^ 63

theorem SlR.one {H : Heap} {sz len : Nat} {v : Value} {cs : List Value} (h : SlR H sz v len cs) : one v = true := by
  rcases h.cases with ⟨rfl | rfl, _⟩ | ⟨n, o, cap, rw, ds, c, rfl, _⟩ <;> rfl
theorem IntsAt.one {H : Heap} {v : Value} {xs : List Int} (h : IntsAt H v xs) : Go.Ab.one v = true := SlR.one h.1

section
variable {H H' : Heap} {v : Value} {xs : List Rl}
theorem RelsAt.lenV (h : RelsAt H v xs) : Go.Ab.lenV v = some (.int .i64 xs.length) := h.1.lenV
theorem RelsAt.ge (h : RelsAt H v xs) (g : Ge H H') : RelsAt H' v xs := ⟨h.1.ge g, h.2⟩
theorem RelsAt.one (h : RelsAt H v xs) : Go.Ab.one v = true := SlR.one h.1
theorem RelsAt.at (h : RelsAt H v xs) {i : Nat} (hi : i < xs.length) : ∃ n o, islV 3 v (.int .i64 i) = some (.pointer (some ⟨n, o, none⟩)) ∧ n < H.next ∧ ldA (H.get n) true 3 o = some xs[i].val ∧ (∀ f, f < 3 → ldA (H.get n) false 1 (o + f) = xs[i].cells[f]?) ∧ ldA (H.get n) true 2 (o + 1) = some (.agg #[.int .i64 xs[i].lo, .int .i64 xs[i].hi]) := by
  obtain ⟨n, o, rw', ds, c, h1, hn, h2, h3⟩ := h.1.isl (k := .i64) hi
  rw [flatMap_at (f := Rl.cells) (fun _ => rfl) xs i hi] at h3
  refine ⟨n, o, h1, hn, ?_, fun f hf => ?_, ?_⟩
  · rw [h2, ldA_agg, h3]; rfl
  · rw [h2, ldA_one]
    obtain ⟨h4, _⟩ := rdL_some h3
    rw [h4]
    simp [hf]
  · rw [h2, ldA_agg]
    obtain ⟨h4, h5, _⟩ := rdL_some h3
    have h6 : rdL ds (o + 1) 2 = some [.int .i64 xs[i].lo, .int .i64 xs[i].hi] := by
      unfold rdL
      rw [if_pos (by omega)]
      have : (ds.drop (o + 1)).take 2 = ((ds.drop o).take 3).drop 1 := by rw [List.drop_take, List.drop_drop]
      rw [this, ← h4]; rfl
    rw [h6]; rfl
end

def RowsOf {α : Type} (R : Heap → Value → α → Prop) (H : Heap) (v : Value) (xs : List α) : Prop := ∃ vs : List Value, SlR H 1 v xs.length vs ∧ xs.length < 2 ^ 63 ∧ ∀ i (h : i < xs.length), ∃ u, vs[i]? = some u ∧ R H u xs[i]
abbrev RowsAt := RowsOf IntsAt
abbrev BlksAt := RowsOf RelsAt

section
variable {α : Type} {R : Heap → Value → α → Prop} {H H' : Heap} {v : Value} {xs : List α}
theorem RowsOf.lt (h : RowsOf R H v xs) : xs.length < 2 ^ 63 := let ⟨_, _, k, _⟩ := h; k
theorem RowsOf.lenV (h : RowsOf R H v xs) : Go.Ab.lenV v = some (.int .i64 xs.length) := let ⟨_, k, _⟩ := h; k.lenV
theorem RowsOf.one (h : RowsOf R H v xs) : Go.Ab.one v = true := let ⟨_, k, _⟩ := h; SlR.one k
theorem RowsOf.geR (hR : ∀ u x, R H u x → R H' u x) (h : RowsOf R H v xs) (g : Ge H H') : RowsOf R H' v xs := by
  obtain ⟨vs, h1, h2, h3⟩ := h
  exact ⟨vs, h1.ge g, h2, fun i hi => let ⟨u, h4, h5⟩ := h3 i hi; ⟨u, h4, hR _ _ h5⟩⟩
theorem RowsOf.at (h : RowsOf R H v xs) {i : Nat} (hi : i < xs.length) : ∃ p u, islV 1 v (.int .i64 i) = some p ∧ ldV H false 1 p = some u ∧ R H u xs[i] := by
  obtain ⟨vs, h1, h2, h3⟩ := h
  obtain ⟨u, h4, h5⟩ := h3 i hi
  obtain ⟨p, h6, h7⟩ := h1.at1 (k := .i64) hi
  exact ⟨p, u, h6, h7.trans h4, h5⟩
end
theorem RowsOf.ge {H H' : Heap} {v : Value} {xs : List (List Int)} (h : RowsAt H v xs) (g : Ge H H') : RowsAt H' v xs := RowsOf.geR (fun _ _ k => IntsAt.ge k g) h g
theorem RowsOf.geB {H H' : Heap} {v : Value} {xs : List (List Rl)} (h : BlksAt H v xs) (g : Ge H H') : BlksAt H' v xs := RowsOf.geR (fun _ _ k => RelsAt.ge k g) h g

structure DayAt (H : Heap) (b w : Value) (D : Dy) : Prop where
  blocks : BlksAt H b D.blocks
  walk : RowsAt H w D.walk
theorem DayAt.ge {H H' : Heap} {b w : Value} {D : Dy} (h : DayAt H b w D) (g : Ge H H') : DayAt H' b w D := ⟨h.blocks.geB g, h.walk.ge g⟩

theorem hm : Tryd.prog.follows .mixedOrders = true := by kernel_rfl

section
variable {P : Program} {t : Nat → Value} {H : Heap} {N x y : Nat} {k : IntKind} {m n : Int} {d : Option Tmp} {T U ty : TypeId} {pos : String} {af : Array Edge} {g : Option (Nat × Bool)}
theorem aval_maxC (hy : t y = .int k n) (h2 : y < N) :
    aval P t H (.gen N ⟨d, .call ⟨.builtin .max, #[.const (.int k m), .tmp y], #[T, U]⟩, ty, pos, af, g⟩) = some (.int k (max m n)) := by
  refine aval_gen ?_ rfl fun w => ?_
  · simp [Op.operands, Call.operands, flatO, hy, h2, flat, flat1]
  · simp [execOp, resolve, invoke, builtin, Builtin.max_, Builtin.max2, evO, hy]
    split <;> omega
theorem aval_maxD (hy : t y = .int k n) (h2 : y < N) :
    aval P t H (.gen N ⟨d, .call ⟨.builtin .max, #[.tmp y, .const (.int k m)], #[T, U]⟩, ty, pos, af, g⟩) = some (.int k (max n m)) := by
  refine aval_gen ?_ rfl fun w => ?_
  · simp [Op.operands, Call.operands, flatO, hy, h2, flat, flat1]
  · simp [execOp, resolve, invoke, builtin, Builtin.max_, Builtin.max2, evO, hy]
    split <;> omega

abbrev bitsV (m : Nat) : Value := .int .u64 m
def diffN (a b : Nat) : Nat := a ^^^ (a &&& b)
theorem testBit_diff {a b i : Nat} : (diffN a b).testBit i = (a.testBit i && !b.testBit i) := by
  unfold diffN
  rw [Nat.testBit_xor, Nat.testBit_and]
  cases a.testBit i <;> cases b.testBit i <;> rfl
theorem diff_lt {a b n : Nat} (h : a < 2 ^ n) : diffN a b < 2 ^ n := Nat.xor_lt_two_pow h (Nat.lt_of_le_of_lt Nat.and_le_left h)
theorem wrap_u64 {m : Nat} (h : m < 2 ^ 64) : IntKind.u64.wrap (m : Int) = m := by
  simp [IntKind.wrap, IntKind.bits, IntKind.signed]
  omega

theorem aval_shl1 {s : Nat} (hx : t x = .int .i64 (s : Int)) (h1 : x < N) (hs : s < 64) :
    aval P t H (.gen N ⟨d, .binOp .shl T (.const (.int .u64 1)) (.tmp x) U, ty, pos, af, g⟩) = some (bitsV (2 ^ s)) := by
  refine aval_gen ?_ rfl fun w => ?_
  · simp [Op.operands, flatO, hx, h1, flat, flat1]
  · have e : IntKind.u64.wrap (2 ^ s : Int) = ((2 ^ s : Nat) : Int) := by
      have := wrap_u64 (m := 2 ^ s) (Nat.pow_lt_pow_right (by omega) hs)
      rw [← this]; push_cast; rfl
    have e2 : min s IntKind.u64.bits = s := by simp [IntKind.bits]; omega
    simp [execOp, evO, hx, eqGuard, binOp, Op.shift, e2, e]
theorem bv_and {a b : Nat} (ha : a < 2 ^ 64) (hb : b < 2 ^ 64) : (BitVec.ofNat 64 a &&& BitVec.ofNat 64 b).toNat = a &&& b := by
  simp [Nat.mod_eq_of_lt ha, Nat.mod_eq_of_lt hb]
theorem bv_or {a b : Nat} (ha : a < 2 ^ 64) (hb : b < 2 ^ 64) : (BitVec.ofNat 64 a ||| BitVec.ofNat 64 b).toNat = a ||| b := by
  simp [Nat.mod_eq_of_lt ha, Nat.mod_eq_of_lt hb]
theorem bv_diff {a b : Nat} (ha : a < 2 ^ 64) (_hb : b < 2 ^ 64) : (BitVec.ofNat 64 a &&& ~~~ BitVec.ofNat 64 b).toNat = diffN a b := by
  apply Nat.eq_of_testBit_eq
  intro i
  rw [testBit_diff]
  by_cases hi : i < 64
  · rw [BitVec.testBit_toNat, BitVec.getLsbD_and, BitVec.getLsbD_not, BitVec.getLsbD_ofNat, BitVec.getLsbD_ofNat]
    simp [hi]
  · have h3 : (BitVec.ofNat 64 a &&& ~~~ BitVec.ofNat 64 b).toNat < 2 ^ i := Nat.lt_of_lt_of_le (BitVec.isLt _) (Nat.pow_le_pow_right (by omega) (by omega))
    have h4 : a < 2 ^ i := Nat.lt_of_lt_of_le ha (Nat.pow_le_pow_right (by omega) (by omega))
    rw [Nat.testBit_lt_two_pow h3, Nat.testBit_lt_two_pow h4]
    rfl
theorem bits_and {a b : Nat} (ha : a < 2 ^ 64) (hb : b < 2 ^ 64) : Op.intBits .and .u64 (a : Int) (b : Int) = pure (bitsV (a &&& b)) := by
  show (pure (Value.int .u64 (IntKind.u64.wrap ((BitVec.ofNat 64 a &&& BitVec.ofNat 64 b).toNat : Int))) : Sem Value) = _
  rw [bv_and ha hb, wrap_u64 (Nat.lt_of_le_of_lt Nat.and_le_left ha)]
theorem bits_or {a b : Nat} (ha : a < 2 ^ 64) (hb : b < 2 ^ 64) : Op.intBits .or .u64 (a : Int) (b : Int) = pure (bitsV (a ||| b)) := by
  show (pure (Value.int .u64 (IntKind.u64.wrap ((BitVec.ofNat 64 a ||| BitVec.ofNat 64 b).toNat : Int))) : Sem Value) = _
  rw [bv_or ha hb, wrap_u64 (Nat.or_lt_two_pow ha hb)]
theorem bits_diff {a b : Nat} (ha : a < 2 ^ 64) (hb : b < 2 ^ 64) : Op.intBits .andNot .u64 (a : Int) (b : Int) = pure (bitsV (diffN a b)) := by
  show (pure (Value.int .u64 (IntKind.u64.wrap ((BitVec.ofNat 64 a &&& ~~~ BitVec.ofNat 64 b).toNat : Int))) : Sem Value) = _
  rw [bv_diff ha hb, wrap_u64 (diff_lt ha)]
theorem aval_and {a b : Nat} (hx : t x = bitsV a) (hy : t y = bitsV b) (h1 : x < N) (h2 : y < N) (ha : a < 2 ^ 64) (hb : b < 2 ^ 64) :
    aval P t H (.gen N ⟨d, .binOp .and T (.tmp x) (.tmp y) U, ty, pos, af, g⟩) = some (bitsV (a &&& b)) := by
  refine aval_gen ?_ rfl fun w => ?_
  · simp [Op.operands, flatO, hx, hy, h1, h2, flat, flat1]
  · simp [execOp, evO, hx, hy, eqGuard, binOp, bits_and ha hb]
theorem aval_or {a b : Nat} (hx : t x = bitsV a) (hy : t y = bitsV b) (h1 : x < N) (h2 : y < N) (ha : a < 2 ^ 64) (hb : b < 2 ^ 64) :
    aval P t H (.gen N ⟨d, .binOp .or T (.tmp x) (.tmp y) U, ty, pos, af, g⟩) = some (bitsV (a ||| b)) := by
  refine aval_gen ?_ rfl fun w => ?_
  · simp [Op.operands, flatO, hx, hy, h1, h2, flat, flat1]
  · simp [execOp, evO, hx, hy, eqGuard, binOp, bits_or ha hb]
theorem aval_diff {a b : Nat} (hx : t x = bitsV a) (hy : t y = bitsV b) (h1 : x < N) (h2 : y < N) (ha : a < 2 ^ 64) (hb : b < 2 ^ 64) :
    aval P t H (.gen N ⟨d, .binOp .andNot T (.tmp x) (.tmp y) U, ty, pos, af, g⟩) = some (bitsV (diffN a b)) := by
  refine aval_gen ?_ rfl fun w => ?_
  · simp [Op.operands, flatO, hx, hy, h1, h2, flat, flat1]
  · simp [execOp, evO, hx, hy, eqGuard, binOp, bits_diff ha hb]
end

end Go.Proofs.YtjbbcpeidnkjlaaDoor


namespace Go.Proofs.YtjbbcpeidnkjlaaDoor
open Go Go.Ab

structure GeX (m : Nat) (H H' : Heap) : Prop where
  next : H.next ≤ H'.next
  get : ∀ n, n < H.next → n ≠ m → H'.get n = H.get n
theorem GeX.refl (m : Nat) (H : Heap) : GeX m H H := ⟨Nat.le_refl _, fun _ _ _ => rfl⟩
theorem GeX.trans {m : Nat} {A B C : Heap} (h : GeX m A B) (k : GeX m B C) : GeX m A C := ⟨Nat.le_trans h.next k.next, fun n hn hm => (k.get n (Nat.lt_of_lt_of_le hn h.next) hm).trans (h.get n hn hm)⟩
theorem GeX.of {m : Nat} {A B : Heap} (h : Ge A B) : GeX m A B := ⟨h.next, fun n hn _ => h.get n hn⟩
theorem GeX.set {m : Nat} {A B : Heap} (h : GeX m A B) (x : AObj) : GeX m A (B.set m x) := ⟨h.next, fun n hn hm => by simp [hm, h.get n hn hm]⟩
theorem within_spec (n lo hi : Int) (H : Heap) : AFun Tryd.prog 86 [.int .i64 n, .int .i64 lo, .int .i64 hi] H (fun v H' => v = .bool (decide (lo ≤ n) && decide (n ≤ hi)) ∧ H' = H) := by
  refine AFun.mk ok86 hm (Nat.le_of_ble_eq_true rfl) ?_
  simp [a86, r86]
  by_cases h1 : lo ≤ n <;> by_cases h2 : n ≤ hi <;> simp [h1, h2]
theorem in_spec (n lo hi : Int) (H : Heap) : AFun Tryd.prog 63 [.int .i64 n, .int .i64 lo, .int .i64 hi] H (fun v H' => v = .bool (decide (lo ≤ n) && decide (n ≤ hi)) ∧ H' = H) := by
  refine AFun.mk ok63 hm (Nat.le_of_ble_eq_true rfl) ?_
  simp [a63, r63]
  by_cases h1 : lo ≤ n <;> by_cases h2 : n ≤ hi <;> simp [h1, h2]
def okTime (n : Int) : Bool := decide (0 ≤ n) && decide (n ≤ 3000)
theorem validTime_spec (n : Int) (H : Heap) : AFun Tryd.prog 85 [.int .i64 n] H (fun v H' => v = .bool (okTime n) ∧ H' = H) := by
  refine AFun.mk ok85 hm (Nat.le_of_ble_eq_true rfl) ?_
  simp [a85, r85]
  refine fcall_fun (within_spec _ _ _ _) ?_
  rintro _ _ ⟨rfl, rfl⟩
  simp [okTime]
theorem setOf_spec (s : Nat) (hs : s < 64) (H : Heap) : AFun Tryd.prog 97 [.int .i64 s] H (fun v H' => v = bitsV (2 ^ s) ∧ H' = H) := by
  refine AFun.mk ok97 hm (Nat.le_of_ble_eq_true rfl) ?_
  simp [a97, r97]
  rw [aval_shl1 (s := s) (by simp) (by decide) hs]
  simp
theorem pow_lt64 {s : Nat} (hs : s < 64) : 2 ^ s < 2 ^ 64 := Nat.pow_lt_pow_right (by omega) hs
theorem and_pow {m s : Nat} : (m &&& 2 ^ s = 0) ↔ m.testBit s = false := by
  constructor
  · intro h
    have : (m &&& 2 ^ s).testBit s = false := by rw [h]; simp
    rw [Nat.testBit_and, Nat.testBit_two_pow_self, Bool.and_true] at this
    exact this
  · intro h
    apply Nat.eq_of_testBit_eq
    intro i
    rw [Nat.testBit_and, Nat.testBit_two_pow, Nat.zero_testBit]
    by_cases e : s = i
    · subst e; rw [h]; rfl
    · simp [e]
theorem hasB_spec (m s : Nat) (hs : s < 64) (hm2 : m < 2 ^ 64) (H : Heap) : AFun Tryd.prog 128 [bitsV m, .int .i64 s] H (fun v H' => v = .bool (m.testBit s) ∧ H' = H) := by
  refine AFun.mk ok128 hm (Nat.le_of_ble_eq_true rfl) ?_
  simp [a128, r128]
  refine fcall_fun (setOf_spec s hs _) ?_
  rintro _ _ ⟨rfl, rfl⟩
  simp
  rw [aval_and (a := m) (b := 2 ^ s) (by simp) (by simp) (by decide) (by decide) hm2 (pow_lt64 hs)]
  simp
  have := @and_pow m s
  cases h : m.testBit s
  · simp [this.2 h]
  · have : ¬ (m &&& 2 ^ s = 0) := fun e => by rw [this.1 e] at h; cases h
    simp [this]

section
variable {I : Nat → Heap → Prop} {F : Heap → Prop} {H : Heap} {v pv : Value}
theorem every_int_inv {xs : List Int} (h0 : I 0 H) (hv : ∀ i A, I i A → IntsAt A v xs)
    (hp : ∀ i A (h : i < xs.length), I i A → ACall Tryd.prog pv [.int .i64 xs[i]] A (fun r B => ∃ b, r = .bool b ∧ (b = true → I (i + 1) B) ∧ (b = false → F B))) :
    AFun Tryd.prog 75 [v, pv] H (fun r B => ∃ b, r = .bool b ∧ (b = true → I xs.length B) ∧ (b = false → F B)) := by
  refine AFun.mk ok75 hm (Nat.le_of_ble_eq_true rfl) ?_
  have h62 := (hv _ _ h0).2
  simp [a75, r75, (hv _ _ h0).lenV]
  refine floop_intro (fun s => s.d = [] ∧ s.t 1 = pv ∧ s.t 7 = v ∧ s.t 8 = .int .i64 xs.length ∧ ∃ i : Nat, i ≤ xs.length ∧ s.t 9 = .int .i64 i ∧ I i s.H) (fun s => xs.length - (intOf (s.t 9)).toNat) ?_ ?_
  · exact ⟨rfl, by simp, by simp, by simp, 0, by simp, by simp, h0⟩
  · rintro ⟨t, _, A⟩ ⟨rfl, h1, h7, h8, i, hi, h9, hn⟩
    dsimp only at h1 h7 h8 h9 hn
    simp [h8, h9]
    refine fcond_intro (fun hc => ?_) (fun hc => ?_)
    · have hi' : i < xs.length := by simpa using hc
      obtain ⟨q, e1, e2⟩ := (hv _ _ hn).at hi'
      simp [h1, h7, h9, e1, e2]
      refine fcall_intro ((hp i A hi' hn).mono ?_)
      rintro _ B ⟨b, rfl, k1, k2⟩
      cases b
      · simp [k2 rfl]
      · simp [h9, add_in (x := i) (y := 1) (by omega) (by omega)]
        exact ⟨⟨h1, h7, h8, i + 1, by omega, by omega, k1 rfl⟩, by omega⟩
    · have : i = xs.length := by simp at hc; omega
      subst this
      simp [hn]
theorem every_row_inv {α : Type} {R : Heap → Value → α → Prop} {xs : List α} (h0 : I 0 H) (hv : ∀ i A, I i A → RowsOf R A v xs)
    (hp : ∀ i A (h : i < xs.length) u, R A u xs[i] → I i A → ACall Tryd.prog pv [u] A (fun r B => ∃ b, r = .bool b ∧ (b = true → I (i + 1) B) ∧ (b = false → F B))) :
    AFun Tryd.prog 58 [v, pv] H (fun r B => ∃ b, r = .bool b ∧ (b = true → I xs.length B) ∧ (b = false → F B)) := by
  refine AFun.mk ok58 hm (Nat.le_of_ble_eq_true rfl) ?_
  have h62 := (hv _ _ h0).lt
  simp [a58, r58, (hv _ _ h0).lenV]
  refine floop_intro (fun s => s.d = [] ∧ s.t 1 = pv ∧ s.t 7 = v ∧ s.t 8 = .int .i64 xs.length ∧ ∃ i : Nat, i ≤ xs.length ∧ s.t 9 = .int .i64 i ∧ I i s.H) (fun s => xs.length - (intOf (s.t 9)).toNat) ?_ ?_
  · exact ⟨rfl, by simp, by simp, by simp, 0, by simp, by simp, h0⟩
  · rintro ⟨t, _, A⟩ ⟨rfl, h1, h7, h8, i, hi, h9, hn⟩
    dsimp only at h1 h7 h8 h9 hn
    simp [h8, h9]
    refine fcond_intro (fun hc => ?_) (fun hc => ?_)
    · have hi' : i < xs.length := by simpa using hc
      obtain ⟨q, u, e1, e2, e3⟩ := (hv _ _ hn).at hi'
      simp [h1, h7, h9, e1, e2]
      refine fcall_intro ((hp i A hi' u e3 hn).mono ?_)
      rintro _ B ⟨b, rfl, k1, k2⟩
      cases b
      · simp [k2 rfl]
      · simp [h9, add_in (x := i) (y := 1) (by omega) (by omega)]
        exact ⟨⟨h1, h7, h8, i + 1, by omega, by omega, k1 rfl⟩, by omega⟩
    · have : i = xs.length := by simp at hc; omega
      subst this
      simp [hn]
theorem every_rel_inv {xs : List Rl} (h0 : I 0 H) (hv : ∀ i A, I i A → RelsAt A v xs) (hge : ∀ i A B, I i A → Ge A B → I i B)
    (hp : ∀ i A (h : i < xs.length), I i A → ACall Tryd.prog pv [xs[i].val] A (fun r B => ∃ b, r = .bool b ∧ (b = true → I (i + 1) B) ∧ (b = false → F B))) :
    AFun Tryd.prog 87 [v, pv] H (fun r B => ∃ b, r = .bool b ∧ (b = true → I xs.length B) ∧ (b = false → F B)) := by
  refine AFun.mk ok87 hm (Nat.le_of_ble_eq_true rfl) ?_
  have h62 := (hv _ _ h0).2
  simp [a87, r87, (hv _ _ h0).lenV]
  refine floop_intro (fun s => s.d = [] ∧ s.t 1 = pv ∧ s.t 7 = v ∧ s.t 8 = .int .i64 xs.length ∧ ∃ i : Nat, i ≤ xs.length ∧ s.t 9 = .int .i64 i ∧ I i s.H) (fun s => xs.length - (intOf (s.t 9)).toNat) ?_ ?_
  · exact ⟨rfl, by simp, by simp, by simp, 0, by simp, by simp, h0⟩
  · rintro ⟨t, _, A⟩ ⟨rfl, h1, h7, h8, i, hi, h9, hn⟩
    dsimp only at h1 h7 h8 h9 hn
    simp [h8, h9]
    refine fcond_intro (fun hc => ?_) (fun hc => ?_)
    · have hi' : i < xs.length := by simpa using hc
      obtain ⟨n, o, e1, _, e2, _⟩ := (hv _ _ hn).at hi'
      simp [h1, h7, h9, e1, e2, Rl.val]
      refine fcall_intro ((hp i _ hi' (hge i A _ hn (by simp))).mono ?_)
      rintro _ B ⟨b, rfl, k1, k2⟩
      cases b
      · simp [k2 rfl]
      · simp [h9, add_in (x := i) (y := 1) (by omega) (by omega)]
        exact ⟨⟨h1, h7, h8, i + 1, by omega, by omega, k1 rfl⟩, by omega⟩
    · have : i = xs.length := by simp at hc; omega
      subst this
      simp [hn]
end

theorem every_int_spec {H : Heap} {v pv : Value} {xs : List Int} {p : Int → Bool} (hv : IntsAt H v xs)
    (hp : ∀ n A, Ge H A → ACall Tryd.prog pv [.int .i64 n] A (fun r B => r = .bool (p n) ∧ Ge A B)) : AFun Tryd.prog 75 [v, pv] H (fun r B => r = .bool (xs.all p) ∧ Ge H B) := by
  refine (every_int_inv (I := fun i A => Ge H A ∧ ∀ j, (h : j < xs.length) → j < i → p xs[j] = true) (F := fun A => Ge H A ∧ xs.all p = false) ⟨Ge.refl _, fun j _ h => by omega⟩ (fun i A h => hv.ge h.1) fun i A h hI => (hp xs[i] A hI.1).mono ?_).mono ?_
  · rintro r B ⟨rfl, g⟩
    refine ⟨_, rfl, fun hb => ⟨hI.1.trans g, fun j hj hji => ?_⟩, fun hb => ⟨hI.1.trans g, ?_⟩⟩
    · by_cases e : j = i
      · subst e; exact hb
      · exact hI.2 j hj (by omega)
    · rw [List.all_eq_false]; exact ⟨xs[i], List.getElem_mem h, by simp [hb]⟩
  · rintro r B ⟨b, rfl, k1, k2⟩
    cases b
    · exact ⟨by rw [(k2 rfl).2], (k2 rfl).1⟩
    · refine ⟨?_, (k1 rfl).1⟩
      have : xs.all p = true := by
        rw [List.all_eq_true]
        intro x hx
        obtain ⟨j, hj, rfl⟩ := List.mem_iff_getElem.1 hx
        exact (k1 rfl).2 j hj hj
      rw [this]

end Go.Proofs.YtjbbcpeidnkjlaaDoor


namespace Go.Proofs.YtjbbcpeidnkjlaaDoor
open Go Go.Ab

structure Dy.Thin (D : Dy) : Prop where
  few : D.blocks.length ≤ 10
  short : ∀ b ∈ D.blocks, b.length ≤ 14
  places : D.walk.length ≤ 8
  rows : ∀ r ∈ D.walk, r.length ≤ 14

def segsOf (bs : List (List Rl)) : Nat := (bs.map fun b => b.length - 1).sum
theorem segsOf_cons {b : List Rl} {bs : List (List Rl)} : segsOf (b :: bs) = b.length - 1 + segsOf bs := by simp [segsOf]
theorem segsOf_take {bs : List (List Rl)} {i : Nat} (hi : i < bs.length) : segsOf (bs.take (i + 1)) = segsOf (bs.take i) + (bs[i].length - 1) := by
  simp only [segsOf, List.take_succ_eq_append_getElem hi, List.map_append, List.sum_append, List.map_cons, List.map_nil, List.sum_cons, List.sum_nil, Nat.add_zero]
theorem segsOf_le {bs : List (List Rl)} {k : Nat} (h : ∀ b ∈ bs, b.length ≤ k) : segsOf bs ≤ bs.length * k := by
  induction bs with
  | nil => simp [segsOf]
  | cons b bs ih =>
    have h1 := h b (by simp)
    have h2 := ih fun c hc => h c (by simp [hc])
    rw [segsOf_cons, List.length_cons, Nat.succ_mul]; omega
theorem Dy.Thin.segs {D : Dy} (h : D.Thin) (i : Nat) : segsOf (D.blocks.take i) ≤ 140 := by
  have h1 := segsOf_le (bs := D.blocks.take i) (k := 14) fun b hb => h.short b (List.mem_of_mem_take hb)
  have h2 : (D.blocks.take i).length ≤ 10 := by rw [List.length_take]; have := h.few; omega
  have : (D.blocks.take i).length * 14 ≤ 10 * 14 := Nat.mul_le_mul_right _ h2
  omega

theorem max_sub (n : Nat) : max ((n : Int) - 1) 0 = ((n - 1 : Nat) : Int) := by omega
theorem max_sub' (n : Nat) : max 0 ((n : Int) - 1) = ((n - 1 : Nat) : Int) := by omega

theorem count_spec {D : Dy} {b w : Value} {H : Heap} (h : DayAt H b w D) (hT : D.Thin) : AFun Tryd.prog 55 [dayV D b w] H (fun v H' => v = .int .i64 (segsOf D.blocks) ∧ Ge H H') := by
  refine AFun.mk ok55 hm (Nat.le_of_ble_eq_true rfl) ?_
  have hfew := hT.few
  simp [a55, r55, h.blocks.lenV]
  refine floop_intro (fun s => s.d = [] ∧ Ge H s.H ∧ s.t 7 = b ∧ s.t 8 = .int .i64 D.blocks.length ∧ ∃ i : Nat, i ≤ D.blocks.length ∧ s.t 9 = .int .i64 i ∧ s.t 3 = .int .i64 (segsOf (D.blocks.take i))) (fun s => D.blocks.length - (intOf (s.t 9)).toNat) ?_ ?_
  · exact ⟨rfl, by simp, by simp, by simp, 0, by simp, by simp, by simp [segsOf]⟩
  · rintro ⟨t, _, A⟩ ⟨rfl, g, h7, h8, i, hi, h9, h3⟩
    dsimp only at g h7 h8 h9 h3
    simp [h8, h9]
    refine fcond_intro (fun hc => ?_) (fun hc => ?_)
    · have hi' : i < D.blocks.length := by simpa using hc
      obtain ⟨p, u, e1, e2, e3⟩ := (h.blocks.geB g).at hi'
      have hl := hT.short _ (List.getElem_mem hi')
      have hs := hT.segs i
      simp [h7, h9, h3, e1, e2, e3.lenV]
      rw [sub_in (by omega) (by omega)]
      simp
      rw [aval_maxD (k := .i64) (m := 0) (n := (D.blocks[i].length : Int) - 1) (by simp) (by decide)]
      rw [max_sub]
      simp
      rw [add_in (by omega) (by omega)]
      simp [h9, add_in (x := i) (y := 1) (by omega) (by omega)]
      refine ⟨⟨g, h7, h8, i + 1, by omega, by omega, ?_⟩, by omega⟩
      rw [segsOf_take hi']; simp
    · have : i = D.blocks.length := by simp at hc; omega
      subst this
      simp [h3, g]
theorem segments_spec {D : Dy} {b w : Value} {H : Heap} (h : DayAt H b w D) (hT : D.Thin) : AFun Tryd.prog 37 [dayV D b w] H (fun v H' => v = .int .i64 (segsOf D.blocks) ∧ Ge H H') := by
  refine AFun.mk ok37 hm (Nat.le_of_ble_eq_true rfl) ?_
  have hfew := hT.few
  simp [a37, r37]
  refine floop_intro (fun s => s.d = [] ∧ Ge H s.H ∧ H.next < s.H.next ∧ s.t 1 = .pointer (some ⟨H.next, 0, none⟩) ∧ s.H.get H.next = .cells true (dayV D b w).cells.toList 10 ∧ ∃ i : Nat, i ≤ D.blocks.length ∧ s.t 4 = .int .i64 i ∧ s.t 3 = .int .i64 (segsOf (D.blocks.take i))) (fun s => D.blocks.length - (intOf (s.t 4)).toNat) ?_ ?_
  · exact ⟨rfl, by simp, by simp, by simp, by simp [Value.cells], 0, by simp, by simp, by simp [segsOf]⟩
  · rintro ⟨t, _, A⟩ ⟨rfl, g, hn, h1, hk, i, hi, h4, h3⟩
    dsimp only at g hn h1 hk h4 h3
    simp [Value.cells] at hk
    simp [h1, hk, h4, h.blocks.lenV]
    refine fcond_intro (fun hc => ?_) (fun hc => ?_)
    · have hi' : i < D.blocks.length := by simpa using hc
      obtain ⟨p, u, e1, e2, e3⟩ := (h.blocks.geB g).at hi'
      have hl := hT.short _ (List.getElem_mem hi')
      have hs := hT.segs i
      simp [h1, hk, h4, h3, e1, e2, e3.lenV]
      rw [sub_in (by omega) (by omega)]
      simp
      rw [aval_maxC (k := .i64) (m := 0) (n := (D.blocks[i].length : Int) - 1) (by simp) (by decide)]
      rw [max_sub']
      simp
      rw [add_in (by omega) (by omega)]
      simp [h4, add_in (x := i) (y := 1) (by omega) (by omega)]
      refine ⟨⟨g, hn, h1, hk, i + 1, by omega, by omega, ?_⟩, by omega⟩
      rw [segsOf_take hi']; simp
    · have : i = D.blocks.length := by simp at hc; omega
      subst this
      simp [h3, g]

def okLaw (l : Lw) : Bool := [l.piece, l.drive, l.spread, l.brk, l.on, l.off, l.least].all okTime && (decide (0 < l.brk) && (decide (1 ≤ l.pieces) && decide (l.pieces ≤ 3)))
theorem law_spec (l : Lw) (H : Heap) : AFun Tryd.prog 56 [.agg #[.int .i64 l.piece, .int .i64 l.drive, .int .i64 l.spread, .int .i64 l.brk, .int .i64 l.on, .int .i64 l.off, .int .i64 l.least, .int .i64 l.pieces]] H (fun v H' => v = .bool (okLaw l) ∧ Ge H H') := by
  refine AFun.mk ok56 hm (Nat.le_of_ble_eq_true rfl) ?_
  simp [a56, r56]
  refine fcall_fun (every_int_spec (xs := [l.piece, l.drive, l.spread, l.brk, l.on, l.off, l.least]) (p := okTime) ?_ fun n A _ => ACall.plain ((validTime_spec n A).mono ?_)) ?_
  · refine ⟨⟨?_, ?_⟩, by simp⟩
    · simp [slCells]
    · intro a n c e; simp at e; simp [← e.1]
  · rintro v _ ⟨rfl, rfl⟩; simp
  rintro _ H1 ⟨rfl, g1⟩
  have G1 : Ge H H1 := Ge.trans (by simp) g1
  have k1 := g1.got (n := H.next) (by simp) rfl
  simp at k1
  unfold okLaw
  generalize ([l.piece, l.drive, l.spread, l.brk, l.on, l.off, l.least].all okTime) = b1
  cases b1 <;> simp [G1, k1]
  by_cases hc : 0 < l.brk
  · simp [hc, k1]
    refine fcall_fun (within_spec _ _ _ _) ?_
    rintro _ _ ⟨rfl, rfl⟩
    simp [hc, G1]
  · simp [hc, G1]

def okRow (n i : Nat) (row : List Int) : Bool := decide (row.length = n) && (decide (row[i]?.getD 0 = 0) && row.all okTime)
def okWalk (w : List (List Int)) : Bool := (List.range w.length).all (fun i => okRow w.length i (w[i]?.getD [])) && decide (0 < w.length)
theorem walk_spec {D : Dy} {b w : Value} {H : Heap} (h : DayAt H b w D) (hT : D.Thin) : AFun Tryd.prog 57 [dayV D b w] H (fun v H' => v = .bool (okWalk D.walk) ∧ Ge H H') := by
  refine AFun.mk ok57 hm (Nat.le_of_ble_eq_true rfl) ?_
  have hfew := hT.places
  have hb := h.blocks.one
  simp [a57, r57, h.walk.lenV]
  refine floop_intro (fun s => s.d = [] ∧ Ge H s.H ∧ H.next < s.H.next ∧ s.t 1 = .pointer (some ⟨H.next, 0, none⟩) ∧ s.H.get H.next = .cells true (dayV D b w).cells.toList 10 ∧ s.t 6 = w ∧ s.t 7 = .int .i64 D.walk.length ∧ ∃ i : Nat, i ≤ D.walk.length ∧ s.t 8 = .int .i64 i ∧ ∀ j, j < i → okRow D.walk.length j (D.walk[j]?.getD []) = true) (fun s => D.walk.length - (intOf (s.t 8)).toNat) ?_ ?_
  · exact ⟨rfl, by simp, by simp, by simp, by simp [Value.cells], by simp, by simp, 0, by simp, by simp, by simp⟩
  · rintro ⟨t, _, A⟩ ⟨rfl, g, hn, h1, hk, h6, h7, i, hi, h8, hr⟩
    dsimp only at g hn h1 hk h6 h7 h8
    simp [Value.cells] at hk
    simp [h7, h8]
    refine fcond_intro (fun hc => ?_) (fun hc => ?_)
    · have hi' : i < D.walk.length := by simpa using hc
      obtain ⟨p, u, e1, e2, e3⟩ := (h.walk.ge g).at hi'
      have hl := hT.rows _ (List.getElem_mem hi')
      have hrow : okRow D.walk.length i (D.walk[i]?.getD []) = okRow D.walk.length i D.walk[i] := by simp [hi']
      have hfalse : okRow D.walk.length i D.walk[i] = false → okWalk D.walk = false := fun e => by
        unfold okWalk
        rw [Bool.and_eq_false_iff]; left
        rw [List.all_eq_false]
        exact ⟨i, by simp [hi'], by rw [hrow, e]; simp⟩
      simp [h1, hk, h6, h8, e1, e2, e3.lenV, h.walk.lenV]
      by_cases hx : D.walk[i].length = D.walk.length
      · obtain ⟨q, f1, f2⟩ := e3.at (i := i) (by omega)
        simp [hx, f1, f2]
        by_cases h0 : D.walk[i][i]'(by omega) = 0
        · simp [h0]
          refine fcall_fun (every_int_spec (p := okTime) e3 fun n A' _ => ACall.plain ((validTime_spec n A').mono ?_)) ?_
          · rintro v _ ⟨rfl, rfl⟩; simp
          rintro _ B ⟨rfl, g2⟩
          have G2 := g.trans g2
          have k2 := g2.got hn hk
          cases h3 : D.walk[i].all okTime
          · simp [h0, G2]
            exact hfalse (by simp [okRow, h3])
          · simp [h0, h8, add_in (x := i) (y := 1) (by omega) (by omega)]
            refine ⟨⟨G2, by have := g2.next; omega, h1, by simpa [Value.cells] using k2, h6, h7, i + 1, by omega, by omega, ?_⟩, by omega⟩
            intro j hj
            by_cases hji : j = i
            · subst hji
              rw [hrow]
              simp only [okRow, h3, hx, decide_true, Bool.true_and, Bool.and_true, decide_eq_true_eq]
              rw [List.getElem?_eq_getElem (by omega)]
              simpa using h0
            · exact hr j (by omega)
        · simp [h0, g]
          exact hfalse (by rw [okRow, List.getElem?_eq_getElem (by omega)]; simp [h0])
      · simp [hx, g, Int.ofNat_inj]
        exact hfalse (by simp [okRow, hx])
    · have : i = D.walk.length := by simp at hc; omega
      subst this
      simp [h1, hk, g, h.walk.lenV]
      have : (List.range D.walk.length).all (fun i => okRow D.walk.length i (D.walk[i]?.getD [])) = true := by
        rw [List.all_eq_true]; intro j hj; exact hr j (by simpa using hj)
      rw [okWalk, this]; simp

def okRel (n : Nat) (r : Rl) : Bool := (decide (0 ≤ r.place) && decide (r.place ≤ (n : Int) - 1)) && (okTime r.hi && (decide (0 ≤ r.lo) && decide (r.lo ≤ r.hi)))
theorem rel_spec {D : Dy} {b w : Value} {H : Heap} (h : DayAt H b w D) (hT : D.Thin) (r : Rl) : AFun Tryd.prog 89 [dayV D b w, r.val] H (fun v H' => v = .bool (okRel D.walk.length r) ∧ Ge H H') := by
  refine AFun.mk ok89 hm (Nat.le_of_ble_eq_true rfl) ?_
  have hfew := hT.places
  simp [a89, r89, Rl.val, h.walk.lenV]
  rw [sub_in (by omega) (by omega)]
  simp
  refine fcall_fun (within_spec _ _ _ _) ?_
  rintro _ _ ⟨rfl, rfl⟩
  unfold okRel
  generalize (decide (0 ≤ r.place) && decide (r.place ≤ (D.walk.length : Int) - 1)) = b1
  cases b1 <;> simp
  refine fcall_fun (within_spec _ _ _ _) ?_
  rintro _ _ ⟨rfl, rfl⟩
  unfold okTime
  generalize (decide (0 ≤ r.hi) && decide (r.hi ≤ 3000)) = b1
  cases b1 <;> simp
  refine fcall_fun (within_spec _ _ _ _) ?_
  rintro _ _ ⟨rfl, rfl⟩
  simp

def bef (b : List Rl) (i : Nat) : Int × Int := if i = 0 then (0, 0) else ((b[i - 1]?.map Rl.lo).getD 0, (b[i - 1]?.map Rl.hi).getD 0)
def okAt (n : Nat) (b : List Rl) (i : Nat) : Bool := (decide ((bef b i).1 ≤ (b[i]?.map Rl.lo).getD 0) && decide ((bef b i).2 ≤ (b[i]?.map Rl.hi).getD 0)) && (b[i]?.map (okRel n)).getD false
def okBlk (n : Nat) (b : List Rl) : Bool := decide (2 ≤ b.length) && (List.range b.length).all (okAt n b)

theorem relClosure_spec {D : Dy} {b w : Value} {A : Heap} {m q : Nat} {c1 c2 : Nat} {rw' : Bool} {lo hi : Int} (h : DayAt A b w D) (hT : D.Thin) (hm1 : A.get m = .cells true [.int .i64 lo, .int .i64 hi] c1) (hq1 : A.get q = .cells rw' (dayV D b w).cells.toList c2) (hlm : m < A.next) (hlq : q < A.next) (hmq : m ≠ q) (r : Rl) (hkeep : ∀ B : Heap, A.next ≤ B.next → (∀ n, n < A.next → n ≠ m → B.get n = A.get n) → DayAt B b w D) :
    AFun Tryd.prog 88 [r.val, .pointer (some ⟨m, 0, none⟩), .pointer (some ⟨q, 0, none⟩)] A (fun v B => v = .bool ((decide (lo ≤ r.lo) && decide (hi ≤ r.hi)) && okRel D.walk.length r) ∧ GeX m A B ∧ B.get m = .cells true [.int .i64 r.lo, .int .i64 r.hi] c1) := by
  refine AFun.mk ok88 hm (Nat.le_of_ble_eq_true rfl) ?_
  have hb := h.blocks.one
  have hw := h.walk.one
  have n1 : m ≠ A.next := by omega
  have n2 : q ≠ A.next := by omega
  have n3 : q ≠ m := by omega
  have n4 : A.next ≠ m := by omega
  simp [Value.cells] at hq1
  simp [a88, r88, Rl.val, hm1, n1]
  have key : ∀ c : Bool, GeX m A ((A.new (AObj.cells true [Value.int IntKind.i64 r.place, Value.int IntKind.i64 r.lo, Value.int IntKind.i64 r.hi] 3)).set m (AObj.cells true [Value.int IntKind.i64 r.lo, Value.int IntKind.i64 r.hi] c1)) := fun _ => (GeX.of (Ge.new _ _)).set _
  by_cases h1 : lo ≤ r.lo
  · by_cases h2 : hi ≤ r.hi
    · simp [h1, h2, hm1, n1, n2, n3, n4, hq1]
      refine fcall_fun (rel_spec (D := D) (hkeep _ ?_ ?_) hT r) ?_
      · simp
      · intro n hn hne; simp [hne, Nat.ne_of_lt hn]
      rintro _ B ⟨rfl, g⟩
      simp [h1, h2]
      refine ⟨(key true).trans (GeX.of g), ?_⟩
      exact g.got (by simp; omega) (by simp)
    · simp [h1, h2, hm1, n1, n4]
      exact key true
  · simp [h1, hm1, n1, n4]
    exact key true

theorem bef_succ {b : List Rl} {i : Nat} (hi : i < b.length) : bef b (i + 1) = (b[i].lo, b[i].hi) := by simp [bef, hi]

theorem block_spec {D : Dy} {b w u : Value} {H : Heap} {x : List Rl} (h : DayAt H b w D) (hT : D.Thin) (hu : RelsAt H u x) : AFun Tryd.prog 59 [dayV D b w, u] H (fun v B => v = .bool (okBlk D.walk.length x) ∧ Ge H B) := by
  refine AFun.mk ok59 hm (Nat.le_of_ble_eq_true rfl) ?_
  have hb := h.blocks.one
  have hw := h.walk.one
  have h62 := hu.2
  simp [a59, r59, hu.lenV]
  unfold okBlk
  have hdec : decide (2 ≤ x.length) = decide ((2 : Int) ≤ x.length) := decide_eq_decide.2 (by omega)
  rw [hdec]
  by_cases hl : (2 : Int) ≤ x.length
  case neg =>
    simp [hl]
    exact Ge.setNew (by simp) (by omega) _
  simp [hl]
  have ge0 : ∀ A : Heap, H.next + 2 ≤ A.next → (∀ n, n < H.next → A.get n = H.get n) → Ge H A := fun A h1 h2 => ⟨by omega, h2⟩
  refine fcall_fun (every_rel_inv (xs := x) (I := fun i A => H.next + 2 ≤ A.next ∧ (∀ n, n < H.next → A.get n = H.get n) ∧ A.get H.next = .cells true (dayV D b w).cells.toList 10 ∧ A.get (H.next + 1) = .cells true [.int .i64 (bef x i).1, .int .i64 (bef x i).2] 2 ∧ ∀ j, j < i → okAt D.walk.length x j = true)
    (F := fun A => Ge H A ∧ (List.range x.length).all (okAt D.walk.length x) = false) ?_ ?_ ?_ ?_) ?_
  · refine ⟨by simp, fun n hn => ?_, by simp [Value.cells], by simp [bef], by simp⟩
    have e1 : n ≠ H.next + 1 := by omega
    simp [e1, Nat.ne_of_lt hn]
  · exact fun i A hI => hu.ge (ge0 A hI.1 hI.2.1)
  · rintro i A B ⟨k1, k2, k3, k4, k5⟩ g
    have := g.next
    exact ⟨by omega, fun n hn => (g.get n (by omega)).trans (k2 n hn), g.got (by omega) k3, g.got (by omega) k4, k5⟩
  · rintro i A hi ⟨k1, k2, k3, k4, k5⟩
    refine ACall.of_fun ((relClosure_spec (D := D) (m := H.next + 1) (q := H.next) (h.ge (ge0 A k1 k2)) hT k4 k3 (by omega) (by omega) (by omega) x[i] ?_).mono ?_)
    · exact fun B hB1 hB2 => h.ge (ge0 B (by omega) fun n hn => by rw [hB2 n (by omega) (by omega)]; exact k2 n hn)
    rintro v B ⟨rfl, g, hB⟩
    have hn := g.next
    have hat : okAt D.walk.length x i = ((decide ((bef x i).1 ≤ x[i].lo) && decide ((bef x i).2 ≤ x[i].hi)) && okRel D.walk.length x[i]) := by simp [okAt, hi]
    rw [← hat]
    refine ⟨_, rfl, fun ht => ⟨by omega, fun n hn => ?_, ?_, ?_, ?_⟩, fun hf => ⟨ge0 B (by omega) fun n hn => ?_, ?_⟩⟩
    · rw [g.get n (by omega) (by omega)]; exact k2 n hn
    · rw [g.get _ (by omega) (by omega)]; exact k3
    · rw [hB, bef_succ hi]
    · intro j hj
      by_cases e : j = i
      · rw [e]; exact ht
      · exact k5 j (by omega)
    · rw [g.get n (by omega) (by omega)]; exact k2 n hn
    · rw [List.all_eq_false]; exact ⟨i, by simpa using hi, by simp [hf]⟩
  · rintro v B ⟨c, rfl, k1, k2⟩
    simp [hl]
    cases c
    · exact ⟨(k2 rfl).2.symm, (k2 rfl).1⟩
    · obtain ⟨k3, k4, _, _, k5⟩ := k1 rfl
      refine ⟨?_, ge0 B k3 k4⟩
      symm; rw [List.all_eq_true]
      intro j hj; exact k5 j (by simpa using hj)

def checkD (D : Dy) : Int := if 6 < D.blocks.length ∨ 5 < D.walk.length ∨ 10 < segsOf D.blocks then 3 else if okLaw D.law && (okWalk D.walk && D.blocks.all (okBlk D.walk.length)) then 0 else 1

theorem checkDay_spec {D : Dy} {b w : Value} {H : Heap} (h : DayAt H b w D) (hT : D.Thin) : AFun Tryd.prog 17 [dayV D b w] H (fun v B => v = .int .i64 (checkD D) ∧ Ge H B) := by
  refine AFun.mk ok17 hm (Nat.le_of_ble_eq_true rfl) ?_
  have hb := h.blocks.one
  have hw := h.walk.one
  simp [a17, r17, h.blocks.lenV]
  unfold checkD
  by_cases h1 : (6 : Int) < D.blocks.length
  · simp [h1, (by omega : 6 < D.blocks.length)]
  have h1' : ¬ 6 < D.blocks.length := by omega
  simp [h1, h1', h.walk.lenV]
  by_cases h2 : (5 : Int) < D.walk.length
  · simp [h2, (by omega : 5 < D.walk.length)]
  have h2' : ¬ 5 < D.walk.length := by omega
  simp [h2, h2']
  refine fcall_fun (count_spec (h.ge (by simp)) hT) ?_
  rintro _ H1 ⟨rfl, g1⟩
  have G1 : Ge H H1 := Ge.trans (by simp) g1
  have k1 := g1.got (n := H.next) (by simp) rfl
  simp at k1
  by_cases h3 : (10 : Int) < segsOf D.blocks
  · simp [h3, G1, (by omega : 10 < segsOf D.blocks)]
  have h3' : ¬ 10 < segsOf D.blocks := by omega
  simp [h3, h3', k1]
  refine fcall_fun (law_spec D.law _) ?_
  rintro _ H2 ⟨rfl, g2⟩
  have G2 := G1.trans g2
  have k2 := g2.got (n := H.next) (by have := g1.next; simp at this; omega) k1
  cases h4 : okLaw D.law
  · simp [G2]; omega
  simp [k2]
  refine fcall_fun (walk_spec (h.ge G2) hT) ?_
  rintro _ H3 ⟨rfl, g3⟩
  have G3 := G2.trans g3
  have k3 := g3.got (n := H.next) (by have := g1.next; have := g2.next; simp at *; omega) k2
  cases h5 : okWalk D.walk
  · simp [G3]; omega
  simp [k3]
  refine fcall_fun (every_row_inv (R := RelsAt) (xs := D.blocks) (I := fun i A => Ge H A ∧ ∀ j, (h : j < D.blocks.length) → j < i → okBlk D.walk.length D.blocks[j] = true) (F := fun A => Ge H A ∧ D.blocks.all (okBlk D.walk.length) = false) ⟨G3, fun j _ hj => by omega⟩ (fun i A hI => h.blocks.geB hI.1) ?_) ?_
  · rintro i A hi u hu ⟨g, hj⟩
    refine ACall.of_fun ((block_spec (h.ge g) hT hu).mono ?_)
    rintro v B ⟨rfl, gB⟩
    refine ⟨_, rfl, fun ht => ⟨g.trans gB, fun j hj2 hji => ?_⟩, fun hf => ⟨g.trans gB, ?_⟩⟩
    · by_cases e : j = i
      · subst e; exact ht
      · exact hj j hj2 (by omega)
    · rw [List.all_eq_false]; exact ⟨_, List.getElem_mem hi, by simp [hf]⟩
  · rintro v B ⟨c, rfl, k4, k5⟩
    cases c
    · simp [(k5 rfl).1, (k5 rfl).2]; omega
    · have : D.blocks.all (okBlk D.walk.length) = true := by
        rw [List.all_eq_true]
        intro y hy
        obtain ⟨j, hj, rfl⟩ := List.mem_iff_getElem.1 hy
        exact (k4 rfl).2 j hj hj
      simp [(k4 rfl).1, this]; omega

end Go.Proofs.YtjbbcpeidnkjlaaDoor


namespace Go.Proofs.YtjbbcpeidnkjlaaDoor
open Go Go.Ab

theorem checkD_bad {D : Dy} (h1 : ¬ 6 < D.blocks.length) (h2 : ¬ 5 < D.walk.length) (h3 : ¬ 10 < segsOf D.blocks) (h : (okLaw D.law && (okWalk D.walk && D.blocks.all (okBlk D.walk.length))) = false) : checkD D = 1 := by
  unfold checkD; rw [if_neg (by omega), h]; simp
theorem checkD_ok {D : Dy} (h1 : ¬ 6 < D.blocks.length) (h2 : ¬ 5 < D.walk.length) (h3 : ¬ 10 < segsOf D.blocks) (h : okLaw D.law = true) (h4 : okWalk D.walk = true) (h5 : D.blocks.all (okBlk D.walk.length) = true) : checkD D = 0 := by
  unfold checkD; rw [if_neg (by omega), h, h4, h5]; simp
theorem checkD_law {D : Dy} (h1 : ¬ 6 < D.blocks.length) (h2 : ¬ 5 < D.walk.length) (h3 : ¬ 10 < segsOf D.blocks) (h : okLaw D.law = false) : checkD D = 1 := checkD_bad h1 h2 h3 (by rw [h]; rfl)
theorem checkD_walk {D : Dy} (h1 : ¬ 6 < D.blocks.length) (h2 : ¬ 5 < D.walk.length) (h3 : ¬ 10 < segsOf D.blocks) (h : okWalk D.walk = false) : checkD D = 1 := checkD_bad h1 h2 h3 (by rw [h]; cases okLaw D.law <;> rfl)
theorem checkD_blk {D : Dy} (h1 : ¬ 6 < D.blocks.length) (h2 : ¬ 5 < D.walk.length) (h3 : ¬ 10 < segsOf D.blocks) (h : D.blocks.all (okBlk D.walk.length) = false) : checkD D = 1 := checkD_bad h1 h2 h3 (by rw [h]; cases okLaw D.law <;> cases okWalk D.walk <;> rfl)
theorem okWalk_bad {w : List (List Int)} {i : Nat} (hi : i < w.length) (h : okRow w.length i w[i] = false) : okWalk w = false := by
  unfold okWalk
  rw [Bool.and_eq_false_iff]; left
  rw [List.all_eq_false]
  exact ⟨i, by simp [hi], by simp [hi, h]⟩
theorem okBlks_bad {n : Nat} {bs : List (List Rl)} {i : Nat} (hi : i < bs.length) (h : okBlk n bs[i] = false) : bs.all (okBlk n) = false := by
  rw [List.all_eq_false]; exact ⟨_, List.getElem_mem hi, by simp [h]⟩
theorem okBlk_bad {n : Nat} {b : List Rl} {i : Nat} (hi : i < b.length) (h : okAt n b i = false) : okBlk n b = false := by
  unfold okBlk
  rw [Bool.and_eq_false_iff]; right
  rw [List.all_eq_false]; exact ⟨i, by simpa using hi, by simp [h]⟩

theorem okAt_eq {n : Nat} {b : List Rl} {i : Nat} (hi : i < b.length) : okAt n b i = (okRel n b[i] && (decide (i = 0) || (decide ((b[i - 1]?.map Rl.lo).getD 0 ≤ b[i].lo) && decide ((b[i - 1]?.map Rl.hi).getD 0 ≤ b[i].hi)))) := by
  unfold okAt bef
  simp only [hi, List.getElem?_eq_getElem, Option.map_some, Option.getD_some]
  by_cases h0 : i = 0
  · simp only [h0, if_pos rfl]
    subst h0
    cases h : okRel n b[0]
    · simp
    · have h1 : (0 : Int) ≤ b[0].lo := by simp [okRel, okTime] at h; omega
      have h2 : (0 : Int) ≤ b[0].hi := by simp [okRel, okTime] at h; omega
      simp [h1, h2]
  · simp only [h0, if_neg, if_false, decide_false, Bool.false_or]
    rw [Bool.and_comm]

theorem inTime_spec (n : Int) (H : Heap) : AFun Tryd.prog 63 [.int .i64 n, .int .i64 0, .int .i64 3000] H (fun v H' => v = .bool (okTime n) ∧ H' = H) := in_spec n 0 3000 H

def Lw.nums (l : Lw) : List Int := [l.piece, l.drive, l.spread, l.brk, l.on, l.off, l.least]

theorem fault36_spec {D : Dy} {b w : Value} {H : Heap} (h : DayAt H b w D) (hT : D.Thin) : AFun Tryd.prog 36 [dayV D b w] H (fun v B => v = .int .i64 (checkD D) ∧ Ge H B) := by
  refine AFun.mk ok36 hm (Nat.le_of_ble_eq_true rfl) ?_
  have hb := h.blocks.one
  have hw := h.walk.one
  have hfb := hT.few
  have hfw := hT.places
  simp [a36, r36, h.blocks.lenV]
  by_cases h1 : (6 : Int) < D.blocks.length
  · simp [h1, checkD, (by omega : 6 < D.blocks.length)]
  have h1' : ¬ 6 < D.blocks.length := by omega
  simp [h1, h.walk.lenV]
  by_cases h2 : (5 : Int) < D.walk.length
  · simp [h2, checkD, (by omega : 5 < D.walk.length)]
  have h2' : ¬ 5 < D.walk.length := by omega
  simp [h2]
  refine fcall_fun (segments_spec (h.ge (by simp)) hT) ?_
  rintro _ H1 ⟨rfl, g1⟩
  have G1 : Ge H H1 := Ge.trans (by simp) g1
  have n1 := g1.next
  have k1 := g1.got (n := H.next) (by simp) rfl
  simp at k1 n1
  simp [h2]
  by_cases h3 : (10 : Int) < segsOf D.blocks
  · simp [h3, G1, checkD, (by omega : 10 < segsOf D.blocks)]
  have h3' : ¬ 10 < segsOf D.blocks := by omega
  have ne1 : H.next ≠ H1.next := by omega
  simp [h3, k1, ne1]
  refine floop_intro (fun s => s.d = [] ∧ Ge H s.H ∧ H.next < H1.next ∧ H1.next + 1 < s.H.next ∧ s.t 1 = .pointer (some ⟨H.next, 0, none⟩) ∧ s.t 3 = .pointer (some ⟨H1.next, 0, none⟩) ∧ s.t 4 = .slice (some ⟨H1.next + 1, 0, none⟩) 7 7 ∧ s.H.get H.next = .cells true (dayV D b w).cells.toList 10 ∧ s.H.get H1.next = .cells true D.law.cells 8 ∧ s.H.get (H1.next + 1) = .cells true (D.law.nums.map (Value.int .i64)) 7 ∧ ∃ i : Nat, i ≤ 7 ∧ s.t 5 = .int .i64 i ∧ (D.law.nums.take i).all okTime = true) (fun s => 7 - (intOf (s.t 5)).toNat) ?_ ?_
  · refine ⟨rfl, ?_, by omega, by simp, by simp, by simp, by simp, ?_, ?_, ?_, 0, by simp, by simp, by simp⟩
    · refine Ge.newOf (Ge.setNew (Ge.newOf G1 _) ?_ _) _; omega
    · simp [Value.cells, ne1, k1]; omega
    · simp [Lw.cells, Lw.list]
    · simp [Lw.nums]
  rintro ⟨t, _, A⟩ ⟨rfl, g, hlt, hlt2, t1, t3, t4, kd, kl, kn, i, hi, t5, hall⟩
  dsimp only at g hlt2 t1 t3 t4 kd kl kn t5
  simp [Value.cells] at kd
  simp [Lw.cells, Lw.list] at kl
  simp [t5, t4]
  refine fcond_intro (fun hc => ?_) (fun hc => ?_)
  · have hi' : i < 7 := by simp at hc; omega
    have hlen : D.law.nums.length = 7 := rfl
    have hat : ∀ x, x = islV 1 (.slice (some ⟨H1.next + 1, 0, none⟩) 7 7) (.int .i64 i) → x = some (.pointer (some ⟨H1.next + 1, i, none⟩)) := fun x e => by rw [e, islV_in (by omega) (by omega)]; simp
    have hat2 := hat _ rfl
    simp [t4, t5, hat2, kn, (by omega : i < D.law.nums.length)]
    refine fcall_fun (inTime_spec _ _) ?_
    rintro _ _ ⟨rfl, rfl⟩
    cases hq : okTime D.law.nums[i]
    · simp [g]
      exact (checkD_law h1' h2' h3' (by
        have : D.law.nums.all okTime = false := by rw [List.all_eq_false]; exact ⟨D.law.nums[i], List.getElem_mem (by omega), by simp [hq]⟩
        unfold okLaw; unfold Lw.nums at this; rw [this]; rfl)).symm
    · simp [t5, add_in (x := i) (y := 1) (by omega) (by omega)]
      refine ⟨⟨g, hlt, hlt2, t1, t3, t4, by simpa [Value.cells] using kd, by simpa [Lw.cells, Lw.list] using kl, by simpa using kn, i + 1, by omega, by omega, ?_⟩, by omega⟩
      intro x hx
      rw [List.take_succ_eq_append_getElem (by omega)] at hx
      simp only [List.mem_append, List.mem_singleton] at hx
      rcases hx with hx | rfl
      · rw [List.all_eq_true] at hall; exact hall x hx
      · exact hq
  have hi7 : i = 7 := by simp at hc; omega
  subst hi7
  have hnums : D.law.nums.all okTime = true := by simpa [Lw.nums] using hall
  clear hall hi hc
  have hne : H.next ≠ H1.next + 1 := by omega
  simp [t3, kl, t1, kd]
  by_cases hbrk : D.law.brk = 0
  · simp [hbrk, g]
    exact (checkD_law h1' h2' h3' (by simp [okLaw, hbrk])).symm
  simp [hbrk, t3, kl]
  refine fcall_fun (in_spec _ _ _ _) ?_
  rintro _ _ ⟨rfl, rfl⟩
  cases hpc : (decide (1 ≤ D.law.pieces) && decide (D.law.pieces ≤ 3))
  · simp [hbrk, hpc, g]
    exact (checkD_law h1' h2' h3' (by simp only [okLaw, hpc, Bool.and_false])).symm
  simp [hbrk, hpc, t1, kd, h.walk.lenV]
  by_cases hwl : D.walk = []
  · simp [hbrk, hpc, hwl, g]
    exact (checkD_walk h1' h2' h3' (by simp [okWalk, hwl])).symm
  have hlaw : okLaw D.law = true := by
    have hb0 : 0 < D.law.brk := by
      have := List.all_eq_true.1 hnums D.law.brk (by simp [Lw.nums])
      simp [okTime] at this; omega
    unfold okLaw; unfold Lw.nums at hnums; rw [hnums, hpc]; simp [hb0]
  simp [hbrk, hpc, hwl]
  refine floop_intro (fun s => s.d = [] ∧ Ge H s.H ∧ H.next < s.H.next ∧ s.t 1 = .pointer (some ⟨H.next, 0, none⟩) ∧ s.H.get H.next = .cells true (dayV D b w).cells.toList 10 ∧ ∃ i : Nat, i ≤ D.walk.length ∧ s.t 6 = .int .i64 i ∧ ∀ j, (hj : j < D.walk.length) → j < i → okRow D.walk.length j D.walk[j] = true) (fun s => D.walk.length - (intOf (s.t 6)).toNat) ?_ ?_
  · exact ⟨rfl, g, by dsimp only; omega, by simp [t1], by simp [Value.cells, kd], 0, by simp, by simp, fun j _ hj => by omega⟩
  clear t3 t4 kl kn t5 hlt2
  rintro ⟨t', _, A'⟩ ⟨rfl, g', hn', t1', kd', i, hi, t6, hrows⟩
  dsimp only at g' hn' t1' kd' t6
  simp [Value.cells] at kd'
  simp [t1', kd', t6, h.walk.lenV]
  refine fcond_intro (fun hc => ?_) (fun hc => ?_)
  · have hi' : i < D.walk.length := by simpa using hc
    obtain ⟨p, u, e1, e2, e3⟩ := (h.walk.ge (g'.grow 21)).at hi'
    have hl := hT.rows _ (List.getElem_mem hi')
    simp [t1', kd', t6, e1, e2, e3.lenV, h.walk.lenV]
    by_cases hx : D.walk[i].length = D.walk.length
    case neg =>
      simp [hx, g'.grow 21, Int.ofNat_inj]
      exact (checkD_walk h1' h2' h3' (okWalk_bad hi' (by simp [okRow, hx]))).symm
    obtain ⟨q, f1, f2⟩ := e3.at (i := i) (by omega)
    simp [hx, f1, f2, t1', kd', t6, e1, e2]
    by_cases h0 : D.walk[i][i]'(by omega) = 0
    case neg =>
      simp [h0, g'.grow 21]
      exact (checkD_walk h1' h2' h3' (okWalk_bad hi' (by rw [okRow, List.getElem?_eq_getElem (by omega)]; simp [h0]))).symm
    simp [h0]
    refine floop_intro (fun s => s.d = [] ∧ Ge H s.H ∧ H.next < s.H.next ∧ s.t 1 = .pointer (some ⟨H.next, 0, none⟩) ∧ s.H.get H.next = .cells true (dayV D b w).cells.toList 10 ∧ s.t 6 = .int .i64 i ∧ ∃ k : Nat, k ≤ D.walk.length ∧ s.t 7 = .int .i64 k ∧ ∀ j, (hj : j < D.walk[i].length) → j < k → okTime D.walk[i][j] = true) (fun s => D.walk.length - (intOf (s.t 7)).toNat) ?_ ?_
    · exact ⟨rfl, g'.grow 21, by simp; omega, by simp [t1'], by simp [Value.cells, kd'], by simp [t6], 0, by simp, by simp, fun j _ hj => by omega⟩
    rintro ⟨t2, _, A2⟩ ⟨rfl, gg, hn2, t1'', kd'', t6', k, hk, t7, hall⟩
    dsimp only at gg hn2 t1'' kd'' t6' t7
    simp [Value.cells] at kd''
    simp [t1'', kd'', t7, h.walk.lenV]
    refine fcond_intro (fun hc2 => ?_) (fun hc2 => ?_)
    · have hk' : k < D.walk.length := by simpa using hc2
      obtain ⟨p', u', e1', e2', e3'⟩ := (h.walk.ge gg).at hi'
      obtain ⟨q', f1', f2'⟩ := e3'.at (i := k) (by omega)
      simp [t1'', kd'', t6', t7, e1', e2', f1', f2']
      refine fcall_fun (inTime_spec _ _) ?_
      rintro _ _ ⟨rfl, rfl⟩
      cases hq : okTime (D.walk[i][k]'(by omega))
      · simp [gg]
        refine (checkD_walk h1' h2' h3' (okWalk_bad hi' ?_)).symm
        have : D.walk[i].all okTime = false := by rw [List.all_eq_false]; exact ⟨D.walk[i][k]'(by omega), List.getElem_mem _, by simp [hq]⟩
        simp [okRow, this]
      · simp [t7, add_in (x := k) (y := 1) (by omega) (by omega)]
        refine ⟨⟨gg, hn2, t1'', by simpa [Value.cells] using kd'', t6', k + 1, by omega, by omega, ?_⟩, by omega⟩
        intro j hj hjk
        by_cases e : j = k
        · subst e; exact hq
        · exact hall j hj (by omega)
    · have hk' : k = D.walk.length := by simp at hc2; omega
      simp [t6', add_in (x := i) (y := 1) (by omega) (by omega)]
      refine ⟨⟨gg, hn2, t1'', by simpa [Value.cells] using kd'', i + 1, by omega, by omega, ?_⟩, by rw [t6]; simp; omega⟩
      intro j hj hji
      by_cases e : j = i
      · subst e
        have : D.walk[j].all okTime = true := by
          rw [List.all_eq_true]; intro y hy
          obtain ⟨m, hm2, rfl⟩ := List.mem_iff_getElem.1 hy
          exact hall m hm2 (by omega)
        rw [okRow, List.getElem?_eq_getElem (by omega), this]
        simp [hx, h0]
      · exact hrows j hj (by omega)
  have hiw : i = D.walk.length := by simp at hc; omega
  subst hiw
  have hwalk : okWalk D.walk = true := by
    unfold okWalk
    have : (List.range D.walk.length).all (fun i => okRow D.walk.length i (D.walk[i]?.getD [])) = true := by
      rw [List.all_eq_true]; intro j hj
      have hj' : j < D.walk.length := by simpa using hj
      have := hrows j hj' hj'
      simpa [hj'] using this
    have h0 : 0 < D.walk.length := List.length_pos_iff.2 hwl
    rw [this]; simp [h0]
  clear hrows hc hi t6 kd hpc t1 hlt g hbrk hnums
  simp
  refine floop_intro (fun s => s.d = [] ∧ Ge H s.H ∧ H.next < s.H.next ∧ s.t 1 = .pointer (some ⟨H.next, 0, none⟩) ∧ s.H.get H.next = .cells true (dayV D b w).cells.toList 10 ∧ ∃ i : Nat, i ≤ D.blocks.length ∧ s.t 8 = .int .i64 i ∧ ∀ j, (hj : j < D.blocks.length) → j < i → okBlk D.walk.length D.blocks[j] = true) (fun s => D.blocks.length - (intOf (s.t 8)).toNat) ?_ ?_
  · exact ⟨rfl, g', by dsimp only; omega, by simp [t1'], by simp [Value.cells, kd'], 0, by simp, by simp, fun j _ hj => by omega⟩
  clear t1' kd' g' hn'
  rintro ⟨t, _, A⟩ ⟨rfl, g, hn, t1, kd, i, hi, t8, hblk⟩
  dsimp only at g hn t1 kd t8
  simp [Value.cells] at kd
  simp [t1, kd, t8, h.blocks.lenV]
  refine fcond_intro (fun hc => ?_) (fun hc => ?_)
  case refine_2 =>
    have : i = D.blocks.length := by simp at hc; omega
    subst this
    simp [g]
    refine (checkD_ok h1' h2' h3' hlaw hwalk ?_).symm
    rw [List.all_eq_true]; intro y hy
    obtain ⟨m, hm2, rfl⟩ := List.mem_iff_getElem.1 hy
    exact hblk m hm2 hm2
  have hi' : i < D.blocks.length := by simpa using hc
  obtain ⟨p, u, e1, e2, e3⟩ := (h.blocks.geB g).at hi'
  have hl := hT.short _ (List.getElem_mem hi')
  simp [t1, kd, t8, e1, e2, e3.lenV]
  by_cases h0 : (D.blocks[i].length : Int) < 2
  · simp [h0, g]
    exact (checkD_blk h1' h2' h3' (okBlks_bad hi' (by simp [okBlk]; omega))).symm
  simp [h0]
  refine floop_intro (fun s => s.d = [] ∧ Ge H s.H ∧ H.next < s.H.next ∧ s.t 1 = .pointer (some ⟨H.next, 0, none⟩) ∧ s.H.get H.next = .cells true (dayV D b w).cells.toList 10 ∧ s.t 8 = .int .i64 i ∧ s.t 9 = u ∧ RelsAt s.H u D.blocks[i] ∧ ∃ k : Nat, k ≤ D.blocks[i].length ∧ s.t 10 = .int .i64 k ∧ ∀ j, j < k → okAt D.walk.length D.blocks[i] j = true) (fun s => D.blocks[i].length - (intOf (s.t 10)).toNat) ?_ ?_
  · exact ⟨rfl, g, by dsimp only; omega, by simp [t1], by simp [Value.cells, kd], by simp [t8], by simp, e3, 0, by simp, by simp, fun j hj => by omega⟩
  have t8o := t8
  clear t1 kd hn g hc t8 e1 e2 e3
  rintro ⟨t, _, A⟩ ⟨rfl, g, hn, t1, kd, t8, t9, hu, k, hk, t10, hall⟩
  dsimp only at g hn t1 kd t8 t9 hu t10
  simp [Value.cells] at kd
  simp [t9, t10, hu.lenV]
  refine fcond_intro (fun hc2 => ?_) (fun hc2 => ?_)
  case refine_2 =>
    have : k = D.blocks[i].length := by simp at hc2; omega
    subst this
    simp [t8, add_in (x := i) (y := 1) (by omega) (by omega)]
    refine ⟨⟨g, hn, t1, by simpa [Value.cells] using kd, i + 1, by omega, by omega, ?_⟩, by rw [t8o]; simp; omega⟩
    intro j hj hji
    by_cases e : j = i
    · subst e
      have h2l : 2 ≤ D.blocks[j].length := by omega
      have : (List.range D.blocks[j].length).all (okAt D.walk.length D.blocks[j]) = true := by
        rw [List.all_eq_true]; intro m hm2; exact hall m (by simpa using hm2)
      simp only [okBlk, this, h2l, decide_true, Bool.and_self]
    · exact hblk j hj (by omega)
  have hk' : k < D.blocks[i].length := by simpa using hc2
  obtain ⟨n, o, e1, l1, _, e3, e4⟩ := hu.at hk'
  have c0 := e3 0 (by omega)
  have c1 := e3 1 (by omega)
  have c2 := e3 2 (by omega)
  simp [Rl.cells] at c0 c1 c2
  have hat := okAt_eq (n := D.walk.length) hk'
  have hbad : okAt D.walk.length D.blocks[i] k = false → checkD D = 1 := fun hf => checkD_blk h1' h2' h3' (okBlks_bad hi' (okBlk_bad hk' hf))
  simp [t9, t10, t1, kd, e1, c0, h.walk.lenV]
  rw [sub_in (by omega) (by omega)]
  simp
  refine fcall_fun (in_spec _ _ _ _) ?_
  rintro _ _ ⟨rfl, rfl⟩
  have hrel : okRel D.walk.length D.blocks[i][k] = ((decide (0 ≤ D.blocks[i][k].place) && decide (D.blocks[i][k].place ≤ (D.walk.length : Int) - 1)) && (okTime D.blocks[i][k].hi && (decide (0 ≤ D.blocks[i][k].lo) && decide (D.blocks[i][k].lo ≤ D.blocks[i][k].hi)))) := rfl
  generalize (decide (0 ≤ D.blocks[i][k].place) && decide (D.blocks[i][k].place ≤ (D.walk.length : Int) - 1)) = b1 at hrel
  cases b1
  · simp [g]
    exact (hbad (by rw [hat, hrel]; rfl)).symm
  simp [t9, t10, e1, c1, c2]
  refine fcall_fun (in_spec _ _ _ _) ?_
  rintro _ _ ⟨rfl, rfl⟩
  generalize hb2 : (decide (0 ≤ D.blocks[i][k].lo) && decide (D.blocks[i][k].lo ≤ D.blocks[i][k].hi)) = b2 at hrel
  cases b2
  · simp [g]
    exact (hbad (by rw [hat, hrel]; simp)).symm
  simp [t9, t10, e1, c1, c2]
  by_cases h3000 : 3000 < D.blocks[i][k].hi
  · simp [h3000, g]
    refine (hbad ?_).symm
    rw [hat, hrel]
    have : okTime D.blocks[i][k].hi = false := by simp [okTime]; omega
    rw [this]; rfl
  simp at hb2
  have hok : okRel D.walk.length D.blocks[i][k] = true := by
    rw [hrel]; simp [okTime]; omega
  rw [hok, Bool.true_and] at hat
  simp [h3000, t10]
  have hnext : ∀ B : Heap, Ge A B → B.get H.next = A.get H.next → okAt D.walk.length D.blocks[i] k = true → ∀ j, j < k + 1 → okAt D.walk.length D.blocks[i] j = true := fun B _ _ ho j hj => by
    by_cases e : j = k
    · rw [e]; exact ho
    · exact hall j (by omega)
  by_cases hk0 : k = 0
  · have hkz : ¬ 0 < k := by omega
    have hkz2 : ¬ (0 : Int) < k := by omega
    simp [hkz, hkz2, t10, add_in (x := k) (y := 1) (by omega) (by omega)]
    refine ⟨⟨g.grow 70, by omega, t1, by simpa [Value.cells] using kd, t8, t9, hu.ge (Ge.more A 70), k + 1, by omega, by omega, ?_⟩, by omega⟩
    exact hnext A (Ge.refl _) rfl (by rw [hat]; simp [hk0])
  have hk1 : k - 1 < D.blocks[i].length := by omega
  obtain ⟨n', o', e1', l1', _, e3', e4'⟩ := hu.at hk1
  have c1' := e3' 1 (by omega)
  have c2' := e3' 2 (by omega)
  simp [Rl.cells] at c1' c2'
  have hcast : ((k - 1 : Nat) : Int) = (k : Int) - 1 := by omega
  rw [hcast] at e1'
  have hkp : (0 : Int) < k := by omega
  have hkn : 0 < k := by omega
  have hat2 : okAt D.walk.length D.blocks[i] k = (decide (D.blocks[i][k - 1].lo ≤ D.blocks[i][k].lo) && decide (D.blocks[i][k - 1].hi ≤ D.blocks[i][k].hi)) := by
    rw [hat]; simp [hk0, hk1]
  simp [hk0, hkp, hkn, t9, t10, e1, c1, c2, sub_in (x := k) (y := 1) (by omega) (by omega), e1', c1', c2']
  by_cases ha : D.blocks[i][k].lo < D.blocks[i][k - 1].lo
  · simp [ha, hk0, hkp, hkn, g.grow 70]
    exact (hbad (by rw [hat2]; simp; omega)).symm
  simp [ha, hk0, hkp, hkn, t9, t10, e1, c1, c2, sub_in (x := k) (y := 1) (by omega) (by omega), e1', c1', c2']
  by_cases hb3 : D.blocks[i][k].hi < D.blocks[i][k - 1].hi
  · simp [hb3, ha, hk0, hkp, hkn, g.grow 70]
    exact (hbad (by rw [hat2]; simp; omega)).symm
  simp [hb3, ha, hk0, hkp, hkn, t10, add_in (x := k) (y := 1) (by omega) (by omega)]
  refine ⟨⟨g.grow 70, by omega, t1, by simpa [Value.cells] using kd, t8, t9, hu.ge (Ge.more A 70), k + 1, by omega, by omega, ?_⟩, by omega⟩
  exact hnext A (Ge.refl _) rfl (by rw [hat2]; simp; omega)

end Go.Proofs.YtjbbcpeidnkjlaaDoor


namespace Go.Proofs.YtjbbcpeidnkjlaaDoor
open Go Go.Ab

structure Valid (D : Dy) : Prop where
  few : D.blocks.length ≤ 6
  places : 1 ≤ D.walk.length ∧ D.walk.length ≤ 5
  segs : segsOf D.blocks ≤ 10
  law : okLaw D.law = true
  row : ∀ r ∈ D.walk, r.length = D.walk.length ∧ ∀ x ∈ r, 0 ≤ x ∧ x ≤ 3000
  diag : ∀ i (h : i < D.walk.length), (D.walk[i])[i]? = some 0
  blk : ∀ b ∈ D.blocks, okBlk D.walk.length b = true

theorem valid_of {D : Dy} (h : checkD D = 0) : Valid D := by
  unfold checkD at h
  split at h
  · cases h
  rename_i h1
  split at h
  case isFalse => cases h
  rename_i h2
  simp only [Bool.and_eq_true] at h2
  obtain ⟨hl, hw, hb⟩ := h2
  unfold okWalk at hw
  rw [Bool.and_eq_true, List.all_eq_true, decide_eq_true_eq] at hw
  obtain ⟨hr, h0⟩ := hw
  have hrow : ∀ i (hi : i < D.walk.length), okRow D.walk.length i D.walk[i] = true := fun i hi => by
    have := hr i (by simpa using hi)
    simpa [hi] using this
  refine ⟨by omega, by omega, by omega, hl, ?_, ?_, ?_⟩
  · intro r hrm
    obtain ⟨i, hi, rfl⟩ := List.mem_iff_getElem.1 hrm
    have := hrow i hi
    unfold okRow at this
    simp only [Bool.and_eq_true, decide_eq_true_eq, List.all_eq_true] at this
    refine ⟨this.1, fun x hx => ?_⟩
    have := this.2.2 x hx
    simpa [okTime] using this
  · intro i hi
    have := hrow i hi
    unfold okRow at this
    simp only [Bool.and_eq_true, decide_eq_true_eq] at this
    rw [List.getElem?_eq_getElem (by omega)] at this ⊢
    simpa using this.2.1
  · intro b hbm
    exact List.all_eq_true.1 hb b hbm

theorem Valid.rel {D : Dy} (h : Valid D) {b : List Rl} (hb : b ∈ D.blocks) {r : Rl} (hr : r ∈ b) : 0 ≤ r.place ∧ r.place.toNat < D.walk.length ∧ 0 ≤ r.lo ∧ r.lo ≤ r.hi ∧ r.hi ≤ 3000 := by
  have := h.blk b hb
  unfold okBlk at this
  rw [Bool.and_eq_true, List.all_eq_true] at this
  obtain ⟨i, hi, rfl⟩ := List.mem_iff_getElem.1 hr
  have := this.2 i (by simpa using hi)
  rw [okAt_eq hi, Bool.and_eq_true] at this
  have := this.1
  simp [okRel, okTime] at this
  omega
theorem Valid.two {D : Dy} (h : Valid D) {b : List Rl} (hb : b ∈ D.blocks) : 2 ≤ b.length := by
  have := h.blk b hb
  unfold okBlk at this
  rw [Bool.and_eq_true] at this
  simpa using this.1
theorem Valid.blen {D : Dy} (h : Valid D) {b : List Rl} (hb : b ∈ D.blocks) : b.length ≤ 11 := by
  have h1 := h.segs
  have : ∀ (bs : List (List Rl)), b ∈ bs → b.length - 1 ≤ segsOf bs := fun bs => by
    induction bs with
    | nil => intro h; cases h
    | cons c bs ih =>
      intro h
      rw [segsOf_cons]
      rcases List.mem_cons.1 h with rfl | h
      · omega
      · have := ih h; omega
  have := this _ hb
  omega

structure Pc where
  s : Nat
  b : Nat
  f : Nat
  e : Nat
  t : Nat
deriving DecidableEq
def Pc.cells (x : Pc) : List Value := [bitsV x.s, .int .i64 x.b, .int .i64 x.f, .int .i64 x.e, .int .i64 x.t]
abbrev Pc.val (x : Pc) : Value := .agg #[bitsV x.s, .int .i64 x.b, .int .i64 x.f, .int .i64 x.e, .int .i64 x.t]

def spotsTo (bs : List (List Rl)) (i : Nat) : List (Nat × Nat) := (List.range i).flatMap fun b => (List.range (((bs[b]?.map List.length).getD 0) - 1)).map fun n => (b, n)
def alone (l : List (Nat × Nat)) : List Pc := l.zipIdx.map fun p => ⟨2 ^ p.2, p.1.1, p.1.2, p.1.1, p.1.2 + 1⟩
def segPs (D : Dy) : List Pc := alone (spotsTo D.blocks D.blocks.length)

theorem alone_append {l : List (Nat × Nat)} {x : Nat × Nat} : alone (l ++ [x]) = alone l ++ [⟨2 ^ l.length, x.1, x.2, x.1, x.2 + 1⟩] := by
  simp [alone, List.zipIdx_append]
theorem alone_length {l : List (Nat × Nat)} : (alone l).length = l.length := by simp [alone]
theorem spotsTo_succ {bs : List (List Rl)} {i : Nat} (hi : i < bs.length) : spotsTo bs (i + 1) = spotsTo bs i ++ (List.range (bs[i].length - 1)).map fun n => (i, n) := by
  simp [spotsTo, List.range_succ, hi]
theorem spotsTo_length {bs : List (List Rl)} : ∀ {i : Nat}, i ≤ bs.length → (spotsTo bs i).length = segsOf (bs.take i)
  | 0, _ => by simp [spotsTo, segsOf]
  | i + 1, h => by
    rw [spotsTo_succ (by omega), List.length_append, spotsTo_length (by omega), segsOf_take (by omega)]
    simp

def endCells (x : Int × Int) : List Value := [.int .i64 x.1, .int .i64 x.2]
def EndsAt (H : Heap) (v : Value) (xs : List (Int × Int)) : Prop := SlR H 2 v xs.length (xs.flatMap endCells) ∧ xs.length < 2 ^ 63
abbrev KnownAt := RowsOf EndsAt
def PcsAt (H : Heap) (v : Value) (xs : List Pc) : Prop := SlR H 5 v xs.length (xs.flatMap Pc.cells) ∧ xs.length < 2 ^ 63
def questVs : List Value := [.func (.func 114) #[] #[], .func (.func 115) #[] #[], .func (.func 116) #[] #[], .func (.func 117) #[] #[], .func (.func 118) #[] #[]]
def QuestAt (H : Heap) (v : Value) : Prop := SlR H 1 v 5 questVs
def known0 (D : Dy) : List (List (Int × Int)) := D.blocks.map fun b => b.map fun r => (r.lo, r.hi)

abbrev planV (D : Dy) (b w s k q : Value) : Value := .agg #[.int .i64 D.law.piece, .int .i64 D.law.drive, .int .i64 D.law.spread, .int .i64 D.law.brk, .int .i64 D.law.on, .int .i64 D.law.off, .int .i64 D.law.least, .int .i64 D.law.pieces, b, w, s, k, q]
structure PlanAt (H : Heap) (b w s k q : Value) (D : Dy) (K : List (List (Int × Int))) : Prop where
  day : DayAt H b w D
  segs : PcsAt H s (segPs D)
  known : KnownAt H k K
  quest : QuestAt H q

theorem EndsAt.ge {H H' : Heap} {v : Value} {xs : List (Int × Int)} (h : EndsAt H v xs) (g : Ge H H') : EndsAt H' v xs := ⟨h.1.ge g, h.2⟩
theorem PcsAt.ge {H H' : Heap} {v : Value} {xs : List Pc} (h : PcsAt H v xs) (g : Ge H H') : PcsAt H' v xs := ⟨h.1.ge g, h.2⟩
theorem KnownAt.ge {H H' : Heap} {v : Value} {xs : List (List (Int × Int))} (h : KnownAt H v xs) (g : Ge H H') : KnownAt H' v xs := RowsOf.geR (fun _ _ k => EndsAt.ge k g) h g
theorem PlanAt.ge {H H' : Heap} {b w s k q : Value} {D : Dy} {K : List (List (Int × Int))} (h : PlanAt H b w s k q D K) (g : Ge H H') : PlanAt H' b w s k q D K := ⟨h.day.ge g, h.segs.ge g, KnownAt.ge h.known g, SlR.ge h.quest g⟩
theorem PcsAt.lenV {H : Heap} {v : Value} {xs : List Pc} (h : PcsAt H v xs) : Go.Ab.lenV v = some (.int .i64 xs.length) := h.1.lenV
theorem PcsAt.one {H : Heap} {v : Value} {xs : List Pc} (h : PcsAt H v xs) : Go.Ab.one v = true := SlR.one h.1
theorem EndsAt.lenV {H : Heap} {v : Value} {xs : List (Int × Int)} (h : EndsAt H v xs) : Go.Ab.lenV v = some (.int .i64 xs.length) := h.1.lenV
theorem EndsAt.one {H : Heap} {v : Value} {xs : List (Int × Int)} (h : EndsAt H v xs) : Go.Ab.one v = true := SlR.one h.1
theorem PcsAt.at {H : Heap} {v : Value} {xs : List Pc} (h : PcsAt H v xs) {i : Nat} (hi : i < xs.length) : ∃ n o, islV 5 v (.int .i64 i) = some (.pointer (some ⟨n, o, none⟩)) ∧ n < H.next ∧ ldA (H.get n) true 5 o = some xs[i].val := by
  obtain ⟨n, o, rw', ds, c, h1, hn, h2, h3⟩ := h.1.isl (k := .i64) hi
  rw [flatMap_at (f := Pc.cells) (fun _ => rfl) xs i hi] at h3
  refine ⟨n, o, h1, hn, ?_⟩
  rw [h2, ldA_agg, h3]; rfl
theorem EndsAt.at {H : Heap} {v : Value} {xs : List (Int × Int)} (h : EndsAt H v xs) {i : Nat} (hi : i < xs.length) : ∃ n o, islV 2 v (.int .i64 i) = some (.pointer (some ⟨n, o, none⟩)) ∧ n < H.next ∧ ldA (H.get n) true 2 o = some (.agg #[.int .i64 xs[i].1, .int .i64 xs[i].2]) ∧ ldA (H.get n) false 1 o = some (.int .i64 xs[i].1) ∧ ldA (H.get n) false 1 (o + 1) = some (.int .i64 xs[i].2) := by
  obtain ⟨n, o, rw', ds, c, h1, hn, h2, h3⟩ := h.1.isl (k := .i64) hi
  rw [flatMap_at (f := endCells) (fun _ => rfl) xs i hi] at h3
  obtain ⟨h4, _⟩ := rdL_some h3
  refine ⟨n, o, h1, hn, ?_, ?_, ?_⟩
  · rw [h2, ldA_agg, h3]; rfl
  · rw [h2, ldA_one]
    have : (endCells xs[i])[0]? = some (.int .i64 xs[i].1) := rfl
    rw [← this, h4]; simp
  · rw [h2, ldA_one]
    have : (endCells xs[i])[1]? = some (.int .i64 xs[i].2) := rfl
    rw [← this, h4]; simp

end Go.Proofs.YtjbbcpeidnkjlaaDoor


namespace Go.Proofs.YtjbbcpeidnkjlaaDoor
open Go Go.Ab

structure RowsG {α : Type} (sz : Nat) (cells : α → List Value) (A : Heap) (lo : Nat) (X : Nat → Prop) (v : Value) (rows : List (List α)) : Prop where
  ex : ∃ vs : List Value, OwnSl A lo v vs ∧ vs.length = rows.length ∧ ∀ k (h : k < rows.length), ∃ u, vs[k]? = some u ∧ OwnS A lo sz u rows[k].length (rows[k].flatMap cells) ∧ ∀ m, slName u = some m → slName v ≠ some m ∧ ¬ X m
  own : ∀ m, slName v = some m → ¬ X m

section
variable {α : Type} {sz : Nat} {cells : α → List Value} {A B : Heap} {lo : Nat} {X X' : Nat → Prop} {v : Value} {rs : List (List α)}

theorem RowsG.nil (h : v = .slice none 0 0) : RowsG sz cells A lo X v [] := by
  subst h
  exact ⟨⟨[], .inl ⟨rfl, rfl⟩, rfl, fun k hk => by simp at hk⟩, fun m hm => by cases hm⟩
theorem RowsG.keep (h : RowsG sz cells A lo X v rs) (hn : A.next ≤ B.next) (hk : ∀ n, lo ≤ n → n < A.next → ¬ X n → B.get n = A.get n) (hX : ∀ m, m < A.next → X' m → X m) : RowsG sz cells B lo X' v rs := by
  obtain ⟨⟨vs, h1, h2, h3⟩, h4⟩ := h
  refine ⟨⟨vs, h1.keep hn fun n hs => hk n (h1.names hs).1 (h1.names hs).2 (h4 n hs), h2, fun k hk2 => ?_⟩, fun m hm hx => h4 m hm (hX m (h1.names hm).2 hx)⟩
  obtain ⟨u, h5, h6, h7⟩ := h3 k hk2
  refine ⟨u, h5, h6.keep hn fun n hs => hk n (h6.names hs).1 (h6.names hs).2 (h7 n hs).2, fun m hm => ⟨(h7 m hm).1, fun hx => (h7 m hm).2 (hX m (h6.names hm).2 hx)⟩⟩
theorem RowsG.names (h : RowsG sz cells A lo X v rs) {m : Nat} (hm : slName v = some m) : lo ≤ m ∧ m < A.next := by
  obtain ⟨⟨vs, h1, _⟩, _⟩ := h; exact h1.names hm
theorem RowsG.one (h : RowsG sz cells A lo X v rs) : Go.Ab.one v = true := by
  obtain ⟨⟨vs, h1, _⟩, _⟩ := h; exact h1.one
theorem RowsG.rows {R : Heap → Value → List α → Prop} (h : RowsG sz cells A lo X v rs) (hl : rs.length < 2 ^ 63) (hR : ∀ u r, r ∈ rs → OwnS A lo sz u r.length (r.flatMap cells) → R A u r) : RowsOf R A v rs := by
  obtain ⟨⟨vs, h1, h2, h3⟩, h4⟩ := h
  refine ⟨vs, by rw [← h2]; exact h1.slr, hl, fun i hi => ?_⟩
  obtain ⟨u, h5, h6, _⟩ := h3 i hi
  exact ⟨u, h5, hR _ _ (List.getElem_mem hi) h6⟩

theorem RowsG.push {x : Value} {r : List α} {y : Value} {n nx : Nat} {R : Value → Heap → Prop} (h : RowsG sz cells A lo X v rs) (hx : OwnS A lo sz x r.length (r.flatMap cells))
    (hnm : ∀ m, slName x = some m → slName v ≠ some m ∧ ¬ X' m) (hX : ∀ m, X' m → X m ∧ m < A.next)
    (hy : slCells A 1 y = some (1, [x])) (hlen : rs.length ≤ 2 ^ 20) (hn : A.next ≤ n) (hnx : n < nx) (hlo : lo ≤ A.next)
    (K : ∀ u B, RowsG sz cells B lo X' u (rs ++ [r]) → slName u = some n → B.next = nx → (∀ m, m ≠ n → slName v ≠ some m → B.get m = A.get m) → R u B) : @fapp (baseOf A 1 v) (slCells A 1 y) 1 24 A n nx ⟨R⟩ := by
  obtain ⟨⟨vs, h1, h2, h3⟩, h4⟩ := h
  refine fapp_own h1 hy hx.one (by omega) (by omega) hn hnx hlo fun u B k1 k2 k3 k4 => ?_
  refine K u B ⟨⟨vs ++ [x], k1, by simp [h2], fun k hk => ?_⟩, ?_⟩ k2 k3 k4
  · by_cases hk2 : k < rs.length
    · obtain ⟨w, h5, h6, h7⟩ := h3 k hk2
      refine ⟨w, by rw [List.getElem?_append_left (by omega)]; exact h5, ?_, fun m hm => ⟨?_, fun hx' => (h7 m hm).2 (hX m hx').1⟩⟩
      · rw [List.getElem_append_left hk2]
        exact h6.keep (by omega) fun m hm => k4 m (by have := (h6.names hm).2; omega) (h7 m hm).1
      · rw [k2]; intro e; cases e; have := (h6.names hm).2; omega
    · have : k = rs.length := by simp at hk; omega
      subst this
      refine ⟨x, by rw [List.getElem?_append_right (by omega)]; simp [h2], ?_, fun m hm => ⟨?_, (hnm m hm).2⟩⟩
      · rw [List.getElem_append_right (by omega)]
        simp only [Nat.sub_self, List.getElem_cons_zero]
        exact hx.keep (by omega) fun m hm => k4 m (by have := (hx.names hm).2; omega) (hnm m hm).1
      · rw [k2]; intro e; cases e; have := (hx.names hm).2; omega
  · intro m hm hx'
    rw [k2] at hm; cases hm
    have := (hX n hx').2; omega
end

structure NInv (D : Dy) (b w v12 : Value) (A0 : Heap) (q : Nat) (A : Heap) (X : Nat → Prop) (v10 v11 : Value) (sp : List (Nat × Nat)) (rows : List (List (Int × Int))) : Prop where
  next : A0.next ≤ A.next
  keep : ∀ n, n < A0.next → n ≠ q → A.get n = A0.get n
  box : A.get q = .cells true [.int .i64 D.law.piece, .int .i64 D.law.drive, .int .i64 D.law.spread, .int .i64 D.law.brk, .int .i64 D.law.on, .int .i64 D.law.off, .int .i64 D.law.least, .int .i64 D.law.pieces, b, w, v10, v11, v12] 13
  own : OwnS A A0.next 5 v10 sp.length ((alone sp).flatMap Pc.cells)
  rows : RowsG 2 endCells A A0.next (fun m => slName v10 = some m ∨ X m) v11 rows
  apart : ∀ m, X m → slName v10 ≠ some m ∧ A0.next ≤ m ∧ m < A.next

section
variable {D : Dy} {b w v12 : Value} {A0 A B : Heap} {q : Nat} {X X' : Nat → Prop} {v10 v11 : Value} {sp : List (Nat × Nat)} {rows : List (List (Int × Int))}

theorem NInv.move (h : NInv D b w v12 A0 q A X v10 v11 sp rows) (hq : q < A0.next) (hn : A.next ≤ B.next) (hk : ∀ n, n < A.next → ¬ X n → B.get n = A.get n) (hX : ∀ m, X' m → X m ∨ (A.next ≤ m ∧ m < B.next)) : NInv D b w v12 A0 q B X' v10 v11 sp rows := by
  have hXq : ∀ n, n < A0.next → ¬ X n := fun n hn2 hx => by have := (h.apart n hx).2.1; omega
  have hnx := h.next
  refine ⟨by omega, fun n h1 h2 => by rw [hk n (by omega) (hXq n h1)]; exact h.keep n h1 h2, by rw [hk q (by omega) (hXq q hq)]; exact h.box, ?_, ?_, ?_⟩
  · exact h.own.keep hn fun n hs => hk n (h.own.names hs).2 fun hx => (h.apart n hx).1 hs
  · refine h.rows.keep hn (fun n _ h2 h3 => hk n h2 fun hx => h3 (.inr hx)) fun m hm hx => ?_
    rcases hx with hx | hx
    · exact .inl hx
    · rcases hX m hx with hx | hx
      · exact .inr hx
      · omega
  · intro m hx
    rcases hX m hx with hx | hx
    · have := h.apart m hx; exact ⟨this.1, this.2.1, by omega⟩
    · refine ⟨fun e => ?_, by omega, hx.2⟩
      have := (h.own.names e).2; omega

theorem NInv.spot {u10 : Value} {n : Nat} {x : Nat × Nat} {c : AObj} (h : NInv D b w v12 A0 q A X v10 v11 sp rows) (hq : q < A0.next) (hn : A.next ≤ n) (hB : n < B.next) (hu : slName u10 = some n)
    (hown : OwnS B A0.next 5 u10 (sp.length + 1) ((alone sp).flatMap Pc.cells ++ (⟨2 ^ sp.length, x.1, x.2, x.1, x.2 + 1⟩ : Pc).cells)) (hk : ∀ m, m ≠ n → slName v10 ≠ some m → m < A.next → B.get m = A.get m)
    (hc : c = .cells true [.int .i64 D.law.piece, .int .i64 D.law.drive, .int .i64 D.law.spread, .int .i64 D.law.brk, .int .i64 D.law.on, .int .i64 D.law.off, .int .i64 D.law.least, .int .i64 D.law.pieces, b, w, u10, v11, v12] 13) :
    NInv D b w v12 A0 q (B.set q c) X u10 v11 (sp ++ [x]) rows := by
  have hnx := h.next
  have h10 : ∀ m, m < A0.next → slName v10 ≠ some m := fun m hm e => by have := (h.own.names e).1; omega
  refine ⟨by simp; omega, fun m h1 h2 => ?_, by simp [hc], ?_, ?_, ?_⟩
  · simp [h2]; rw [hk m (by omega) (h10 m h1) (by omega)]; exact h.keep m h1 h2
  · have e1 : (alone (sp ++ [x])).flatMap Pc.cells = (alone sp).flatMap Pc.cells ++ (⟨2 ^ sp.length, x.1, x.2, x.1, x.2 + 1⟩ : Pc).cells := by rw [alone_append, List.flatMap_append]; simp
    rw [e1, List.length_append]
    refine hown.keep (by simp) fun m hm => ?_
    rw [hu] at hm; cases hm
    have : n ≠ q := by omega
    simp [this]
  · refine h.rows.keep (by simp; omega) (fun m h1 h2 h3 => ?_) fun m hm hx => ?_
    · have e2 : m ≠ q := by omega
      simp [e2]
      exact hk m (by omega) (fun e => h3 (.inl e)) h2
    · rcases hx with hx | hx
      · rw [hu] at hx; cases hx; omega
      · exact .inr hx
  · intro m hx
    have ha := h.apart m hx
    refine ⟨fun e => ?_, ha.2.1, by simp; omega⟩
    rw [hu] at e; cases e; omega

theorem NInv.row {u : Value} {n : Nat} {c : AObj} {rows' : List (List (Int × Int))} (h : NInv D b w v12 A0 q A X v10 v11 sp rows) (hq : q < A0.next) (hn : A.next ≤ n) (hB : n < B.next) (hu : slName u = some n)
    (hr : RowsG 2 endCells B A0.next (fun m => slName v10 = some m) u rows') (hk : ∀ m, m ≠ n → slName v11 ≠ some m → B.get m = A.get m)
    (hc : c = .cells true [.int .i64 D.law.piece, .int .i64 D.law.drive, .int .i64 D.law.spread, .int .i64 D.law.brk, .int .i64 D.law.on, .int .i64 D.law.off, .int .i64 D.law.least, .int .i64 D.law.pieces, b, w, v10, u, v12] 13) :
    NInv D b w v12 A0 q (B.set q c) (fun _ => False) v10 u sp rows' := by
  have hnx := h.next
  have h11 : ∀ m, m < A0.next → slName v11 ≠ some m := fun m hm e => by have := (h.rows.names e).1; omega
  refine ⟨by simp; omega, fun m h1 h2 => ?_, by simp [hc], ?_, ?_, fun m hx => hx.elim⟩
  · simp [h2]; rw [hk m (by omega) (h11 m h1)]; exact h.keep m h1 h2
  · refine h.own.keep (by simp; omega) fun m hm => ?_
    have hm2 := h.own.names hm
    have e2 : m ≠ q := by omega
    simp [e2]
    exact hk m (by omega) fun e => h.rows.own m e (.inl hm)
  · refine hr.keep (by simp) (fun m h1 h2 h3 => ?_) fun m hm hx => ?_
    · have e2 : m ≠ q := by omega
      simp [e2]
    · rcases hx with hx | hx
      · exact hx
      · exact hx.elim
end

end Go.Proofs.YtjbbcpeidnkjlaaDoor


namespace Go.Proofs.YtjbbcpeidnkjlaaDoor
open Go Go.Ab

theorem quest_exact (H : Heap) : AFun Tryd.prog 96 [] H (fun v B => v = .slice (some ⟨H.next, 0, none⟩) 5 5 ∧ B = H.new (.cells true questVs 5)) := by
  refine AFun.mk ok96 hm (Nat.le_of_ble_eq_true rfl) ?_
  simp [a96, r96, questVs]

theorem RowsOf.atGe {α : Type} {R : Heap → Value → α → Prop} {H A : Heap} {v : Value} {xs : List α} (h : RowsOf R H v xs) (g : Ge H A) {i : Nat} (hi : i < xs.length) : ∃ p u, islV 1 v (.int .i64 i) = some p ∧ ldV A false 1 p = some u ∧ R H u xs[i] := by
  obtain ⟨vs, h1, h2, h3⟩ := h
  obtain ⟨u, h4, h5⟩ := h3 i hi
  obtain ⟨p, h6, h7⟩ := (h1.ge g).at1 (k := .i64) hi
  exact ⟨p, u, h6, h7.trans h4, h5⟩

def PlanOwn (lo : Nat) (A : Heap) (s k q : Value) (D : Dy) (K : List (List (Int × Int))) : Prop := ∀ B : Heap, A.next ≤ B.next → (∀ n, lo ≤ n → n < A.next → B.get n = A.get n) → PcsAt B s (segPs D) ∧ KnownAt B k K ∧ QuestAt B q
theorem PlanOwn.at {lo : Nat} {A : Heap} {b w s k q : Value} {D : Dy} {K : List (List (Int × Int))} (h : PlanOwn lo A s k q D K) (hd : DayAt A b w D) : PlanAt A b w s k q D K := by
  obtain ⟨h1, h2, h3⟩ := h A (Nat.le_refl _) fun _ _ _ => rfl
  exact ⟨hd, h1, h2, h3⟩
theorem PlanOwn.keep {lo : Nat} {A B : Heap} {s k q : Value} {D : Dy} {K : List (List (Int × Int))} (h : PlanOwn lo A s k q D K) (hn : A.next ≤ B.next) (hk : ∀ n, lo ≤ n → n < A.next → B.get n = A.get n) : PlanOwn lo B s k q D K :=
  fun C h1 h2 => h C (by omega) fun n h3 h4 => (h2 n h3 (by omega)).trans (hk n h3 h4)

theorem newPlanned_spec {D : Dy} {b w : Value} {H : Heap} (h : DayAt H b w D) (hV : Valid D) : AFun Tryd.prog 71 [dayV D b w] H (fun v B => ∃ s k q, v = planV D b w s k q ∧ PlanOwn H.next B s k q D (known0 D) ∧ Ge H B) := by
  refine AFun.mk ok71 hm (Nat.le_of_ble_eq_true rfl) ?_
  have hb := h.blocks.one
  have hw := h.walk.one
  have hfew := hV.few
  simp [a71, r71, hb, hw]
  refine fcall_fun (quest_exact _) ?_
  rintro _ _ ⟨rfl, rfl⟩
  simp [hb, hw, h.blocks.lenV]
  generalize hA0 : Heap.set _ (H.next + 5) _ = A0
  have nx0 : A0.next = H.next + 8 := by rw [← hA0]; simp
  have g0 : Ge H A0 := by
    rw [← hA0]
    exact Ge.setNew (Ge.newOf (Ge.setNew (Ge.grow_le (by omega) ((Ge.new H _).newOf _)) (by omega) _) _) (by omega) _
  have c1 : A0.get (H.next + 1) = .cells true [.int .i64 0, .int .i64 0, .int .i64 0, .int .i64 0, .int .i64 0, .int .i64 0, .int .i64 0, .int .i64 0, .slice none 0 0, .slice none 0 0, .slice none 0 0, .slice none 0 0, .slice none 0 0] 13 := by rw [← hA0]; simp
  have c5 : A0.get (H.next + 5) = .cells true [.int .i64 D.law.piece, .int .i64 D.law.drive, .int .i64 D.law.spread, .int .i64 D.law.brk, .int .i64 D.law.on, .int .i64 D.law.off, .int .i64 D.law.least, .int .i64 D.law.pieces, b, w, .slice none 0 0, .slice none 0 0, .slice (some ⟨H.next + 7, 0, none⟩) 5 5] 13 := by rw [← hA0]; simp
  have c7 : A0.get (H.next + 7) = .cells true questVs 5 := by rw [← hA0]; simp
  clear hA0
  have geOf : ∀ {A X v10 v11 sp rows}, NInv D b w (.slice (some ⟨H.next + 7, 0, none⟩) 5 5) A0 (H.next + 5) A X v10 v11 sp rows → Ge H A := fun hI => ⟨by have := hI.next; omega, fun n hn => by rw [hI.keep n (by omega) (by omega)]; exact g0.get n hn⟩
  refine floop_intro (fun s => s.d = [] ∧ s.t 2 = .pointer (some ⟨H.next + 1, 0, none⟩) ∧ s.t 3 = .pointer (some ⟨H.next + 5, 0, none⟩) ∧ s.t 14 = b ∧ s.t 15 = .int .i64 D.blocks.length ∧ ∃ i : Nat, i ≤ D.blocks.length ∧ s.t 16 = .int .i64 i ∧ ∃ v10 v11, NInv D b w (.slice (some ⟨H.next + 7, 0, none⟩) 5 5) A0 (H.next + 5) s.H (fun _ => False) v10 v11 (spotsTo D.blocks i) ((known0 D).take i)) (fun s => D.blocks.length - (intOf (s.t 16)).toNat) ?_ ?_
  · refine ⟨rfl, by simp, by simp, by simp, by simp, 0, by simp, by simp, .slice none 0 0, .slice none 0 0, Nat.le_refl _, fun _ _ _ => rfl, c5, .inl ⟨rfl, by simp [spotsTo], by simp [spotsTo, alone]⟩, RowsG.nil rfl, fun m hx => hx.elim⟩
  rintro ⟨t, _, A⟩ ⟨rfl, t2, t3, t14, t15, i, hi, t16, v10, v11, hI⟩
  dsimp only at t2 t3 t14 t15 t16 hI
  simp [t15, t16]
  refine fcond_intro (fun hc => ?_) (fun hc => ?_)
  case refine_2 =>
    have : i = D.blocks.length := by simp at hc; omega
    subst this
    have hG := geOf hI
    have hnx := hI.next
    have e1 : A.get (H.next + 1) = _ := (hI.keep (H.next + 1) (by omega) (by omega)).trans c1
    simp [t2, t3, hI.box, e1, hb, hw, hI.own.one, hI.rows.one]
    refine ⟨v10, v11, _, ⟨rfl, rfl, rfl⟩, ?_, hG.setNew (by omega) _⟩
    intro B hBn hBk
    simp only [Heap.set_next] at hBn hBk
    have hkA : ∀ m, A0.next ≤ m → m < A.next → B.get m = A.get m := fun m h1 h2 => by rw [hBk m (by omega) h2, Heap.set_get, if_neg (by omega)]
    refine ⟨⟨?_, ?_⟩, ?_, ?_, ?_⟩
    · rw [segPs, alone_length]
      exact (hI.own.keep hBn fun m hm => hkA m (hI.own.names hm).1 (hI.own.names hm).2).slr
    · rw [segPs, alone_length, spotsTo_length (Nat.le_refl _), List.take_length]; have := hV.segs; omega
    · have hrows := hI.rows.keep (B := B) (X' := fun _ => False) hBn (fun n h1 h2 _ => hkA n h1 h2) (fun _ _ hx => hx.elim)
      have hfull : (known0 D).take D.blocks.length = known0 D := by rw [List.take_of_length_le]; simp [known0]
      rw [hfull] at hrows
      refine hrows.rows (R := EndsAt) ?_ ?_
      · simp [known0]; omega
      · intro u r hr ho
        refine ⟨ho.slr, ?_⟩
        simp only [known0, List.mem_map] at hr
        obtain ⟨x, hx, rfl⟩ := hr
        have := hV.blen hx
        simp; omega
    · have e7 : A.get (H.next + 7) = _ := (hI.keep (H.next + 7) (by omega) (by omega)).trans c7
      have e8 : B.get (H.next + 7) = _ := ((hBk (H.next + 7) (by omega) (by omega)).trans (by rw [Heap.set_get, if_neg (by omega)])).trans e7
      simp [slCells, e8, questVs]
    · intro a n c e; simp at e; rw [← e.1]; simp; omega
  have hi' : i < D.blocks.length := by simpa using hc
  obtain ⟨p, u, e1, e2, e3⟩ := h.blocks.atGe (geOf hI) hi'
  have hl := hV.blen (List.getElem_mem hi')
  simp [t14, t16, e1, e2, e3.lenV]
  refine floop_intro (fun s => s.d = [] ∧ s.t 2 = .pointer (some ⟨H.next + 1, 0, none⟩) ∧ s.t 3 = .pointer (some ⟨H.next + 5, 0, none⟩) ∧ s.t 14 = b ∧ s.t 15 = .int .i64 D.blocks.length ∧ s.t 16 = .int .i64 i ∧ s.t 4 = .int .i64 i ∧ s.t 21 = u ∧ s.t 22 = .int .i64 D.blocks[i].length ∧ ∃ j : Nat, j ≤ D.blocks[i].length ∧ s.t 23 = .int .i64 j ∧ ∃ v6 v10 v11, s.t 6 = v6 ∧ OwnS s.H A0.next 2 v6 j (((D.blocks[i].take j).map fun r => (r.lo, r.hi)).flatMap endCells) ∧ NInv D b w (.slice (some ⟨H.next + 7, 0, none⟩) 5 5) A0 (H.next + 5) s.H (fun m => slName v6 = some m) v10 v11 (spotsTo D.blocks i ++ (List.range (j - 1)).map fun n => (i, n)) ((known0 D).take i)) (fun s => D.blocks[i].length - (intOf (s.t 23)).toNat) ?_ ?_
  · refine ⟨rfl, by simp [t2], by simp [t3], by simp [t14], by simp [t15], by simp [t16], by simp, by simp, by simp, 0, by simp, by simp, .slice none 0 0, v10, v11, by simp, .inl ⟨rfl, rfl, by simp⟩, ?_⟩
    simpa using hI.move (X' := fun m => slName (.slice none 0 0) = some m) (by omega) (Nat.le_refl _) (fun _ _ _ => rfl) (fun m hm => by cases hm)
  have t16o := t16
  clear t2 t3 t14 t15 t16 hI e1 e2 hc
  rintro ⟨t, _, A⟩ ⟨rfl, t2, t3, t14, t15, t16, t4, t21, t22, j, hj, t23, v6, v10, v11, t6, o6, hI⟩
  dsimp only at t2 t3 t14 t15 t16 t4 t21 t22 t23 t6 o6 hI
  simp [t22, t23]
  refine fcond_intro (fun hc => ?_) (fun hc => ?_)
  case refine_2 =>
    have : j = D.blocks[i].length := by simp at hc; omega
    subst this
    have hv6 := o6.one
    have hnx := hI.next
    have ne5 : H.next + 5 ≠ A.next := by omega
    simp [t3, t6, hI.box, hv6, one_cells, ne5]
    have hI1 := hI.move (B := A.new (.cells true [v6] 1)) (X' := fun m => slName v6 = some m) (by omega) (by simp) (fun n hn _ => by simp [Nat.ne_of_lt hn]) (fun m hm => .inl hm)
    have o61 := o6.ge (Ge.new A (.cells true [v6] 1))
    have hlrow : (((D.blocks[i].take D.blocks[i].length).map fun r => (r.lo, r.hi))).length = D.blocks[i].length := by simp
    refine hI1.rows.push (r := (D.blocks[i].take D.blocks[i].length).map fun r => (r.lo, r.hi)) (x := v6) (X' := fun m => slName v10 = some m) (by rw [hlrow]; exact o61) (fun m hm => ⟨fun e => hI1.rows.own m e (.inr hm), (hI1.apart m hm).1⟩) (fun m hm => ⟨.inl hm, (hI1.own.names hm).2⟩) (slCells_new (H := A.new (.cells true [v6] 1)) (rw := true) (c := 1) (by simp)) ?_ (by simp) (by omega) (by simp; omega) fun u' B k1 k2 k3 k4 => ?_
    · rw [List.length_take]; simp [known0]; omega
    have hq11 : slName v11 ≠ some (H.next + 5) := fun e => by have := (hI.rows.names e).1; omega
    have kq : B.get (H.next + 5) = _ := k4 (H.next + 5) (by simp; omega) hq11
    simp [ne5, hI.box] at kq
    have hu1 : one u' = true := k1.one
    simp [t3, kq, hu1, one_cells, t16, add_in (x := i) (y := 1) (by omega) (by omega)]
    refine ⟨⟨t2, t14, t15, i + 1, by omega, by omega, v10, u', ?_⟩, by rw [t16o]; simp; omega⟩
    have hfin := hI1.row (q := H.next + 5) (c := .cells true [.int .i64 D.law.piece, .int .i64 D.law.drive, .int .i64 D.law.spread, .int .i64 D.law.brk, .int .i64 D.law.on, .int .i64 D.law.off, .int .i64 D.law.least, .int .i64 D.law.pieces, b, w, v10, u', .slice (some ⟨H.next + 7, 0, none⟩) 5 5] 13) (by omega) (n := A.next + 1) (by simp) (by omega) k2 k1 k4 rfl
    rw [← spotsTo_succ hi'] at hfin
    have hrows : (known0 D).take i ++ [(D.blocks[i].take D.blocks[i].length).map fun r => (r.lo, r.hi)] = (known0 D).take (i + 1) := by
      rw [List.take_succ_eq_append_getElem (by simp [known0]; exact hi')]
      simp [known0]
    rw [hrows] at hfin
    exact hfin
  have hj' : j < D.blocks[i].length := by simpa using hc
  have hu : RelsAt A u D.blocks[i] := e3.ge (geOf hI)
  obtain ⟨n, o, e1, l1, e2, _, e4⟩ := hu.at hj'
  simp [t21, t23, t6, e1, e2, Rl.val]
  have hnx := hI.next
  have ne5 : H.next + 5 ≠ A.next := by omega
  have g1 : Ge A (((A.new (.cells true [.int .i64 0, .int .i64 0, .int .i64 0] 3)).set A.next (.cells true [.int .i64 D.blocks[i][j].place, .int .i64 D.blocks[i][j].lo, .int .i64 D.blocks[i][j].hi] 3)).new (.cells true [.int .i64 D.blocks[i][j].lo, .int .i64 D.blocks[i][j].hi] 2)) := ((Ge.new _ _).setNew (Nat.le_refl _) _).newOf _
  refine fapp_ownS (lo := A0.next) (xs := [.int .i64 D.blocks[i][j].lo, .int .i64 D.blocks[i][j].hi]) (o6.ge g1) (by simp [slCells, rdL]) rfl (by simp) (by omega) (by omega) (by simp) (by omega) (by simp; omega) fun u6 B k1 k2 k3 k4 => ?_
  have hcs : (((D.blocks[i].take j).map fun r => (r.lo, r.hi)).flatMap endCells) ++ [.int .i64 D.blocks[i][j].lo, .int .i64 D.blocks[i][j].hi] = (((D.blocks[i].take (j + 1)).map fun r => (r.lo, r.hi)).flatMap endCells) := by
    rw [List.take_succ_eq_append_getElem hj', List.map_append, List.flatMap_append]; rfl
  rw [hcs] at k1
  have hX6 : ∀ m, slName v6 = some m → A0.next ≤ m ∧ m < A.next := fun m hm => o6.names hm
  have hB : ∀ m, m < A.next → slName v6 ≠ some m → B.get m = A.get m := fun m hm hne => by
    rw [k4 m (by omega) hne]; exact g1.get m hm
  have hIB := hI.move (B := B) (X' := fun m => slName u6 = some m) (by omega) (by omega) (fun m hm hx => hB m hm hx) (fun m hm => .inr (by rw [k2] at hm; cases hm; omega))
  clear k4 hB hX6 hcs g1
  by_cases hj0 : (0 : Int) < j
  case neg =>
    have hj00 : j = 0 := by omega
    have hjn : ¬ 0 < j := by omega
    simp [hj0, hjn, t23, add_in (x := j) (y := 1) (by omega) (by omega)]
    refine ⟨⟨t2, t3, t14, t15, t16, t4, t21, t22, j + 1, by omega, by simp, by simpa using k1, v10, v11, ?_⟩, by omega⟩
    have e0 : j + 1 - 1 = j - 1 := by omega
    rw [e0]; exact hIB
  have hjn : 0 < j := by omega
  have hsp : (spotsTo D.blocks i ++ (List.range (j - 1)).map fun n => (i, n)).length ≤ 10 := by
    have h1 := spotsTo_length (bs := D.blocks) (i := i) (by omega)
    have h2 := segsOf_take hi'
    have h3 := hV.segs
    have h4 : segsOf (D.blocks.take (i + 1)) ≤ segsOf D.blocks := by
      have : ∀ (bs : List (List Rl)) k, segsOf (bs.take k) ≤ segsOf bs := fun bs => by
        induction bs with
        | nil => intro k; simp [segsOf]
        | cons c bs ih =>
          intro k
          cases k with
          | zero => simp [segsOf]
          | succ k => rw [List.take_succ_cons, segsOf_cons, segsOf_cons]; have := ih k; omega
      exact this _ _
    rw [List.length_append, List.length_map, List.length_range, h1]
    omega
  generalize hspn : (spotsTo D.blocks i ++ (List.range (j - 1)).map fun n => (i, n)) = sp at hIB hsp
  simp [hj0, hjn, t3, hIB.box, hIB.own.slr.lenV]
  refine fcall_fun (setOf_spec sp.length (by omega) _) ?_
  rintro _ B2 ⟨rfl, rfl⟩
  generalize hpw : 2 ^ sp.length = pw
  have ne6 : H.next + 5 ≠ B2.next := by omega
  have ne7 : H.next + 5 ≠ B2.next + 1 := by omega
  simp [t4, sub_in (x := j) (y := 1) (by omega) (by omega), t3, hIB.box, ne6, ne7]
  have g2 : Ge B2 (((B2.new (.cells true [.int .u64 0, .int .i64 0, .int .i64 0, .int .i64 0, .int .i64 0] 5)).set B2.next (.cells true [.int .u64 pw, .int .i64 i, .int .i64 ((j : Int) - 1), .int .i64 i, .int .i64 j] 5)).new (.cells true [.int .u64 pw, .int .i64 i, .int .i64 ((j : Int) - 1), .int .i64 i, .int .i64 j] 5)) := ((Ge.new _ _).setNew (Nat.le_refl _) _).newOf _
  have hIC := hIB.move (X' := fun m => slName u6 = some m) (by omega) g2.next (fun m hm _ => g2.get m hm) (fun m hm => .inl hm)
  have kC := k1.ge g2
  have nC : Heap.next (((B2.new (.cells true [.int .u64 0, .int .i64 0, .int .i64 0, .int .i64 0, .int .i64 0] 5)).set B2.next (.cells true [.int .u64 pw, .int .i64 i, .int .i64 ((j : Int) - 1), .int .i64 i, .int .i64 j] 5)).new (.cells true [.int .u64 pw, .int .i64 i, .int .i64 ((j : Int) - 1), .int .i64 i, .int .i64 j] 5)) = B2.next + 2 := by simp
  have yC : slCells (((B2.new (.cells true [.int .u64 0, .int .i64 0, .int .i64 0, .int .i64 0, .int .i64 0] 5)).set B2.next (.cells true [.int .u64 pw, .int .i64 i, .int .i64 ((j : Int) - 1), .int .i64 i, .int .i64 j] 5)).new (.cells true [.int .u64 pw, .int .i64 i, .int .i64 ((j : Int) - 1), .int .i64 i, .int .i64 j] 5)) 5 (.slice (some ⟨B2.next + 1, 0, none⟩) 1 1) = some (1, [.int .u64 pw, .int .i64 i, .int .i64 ((j : Int) - 1), .int .i64 i, .int .i64 j]) := by simp [slCells, rdL]
  generalize ((B2.new (.cells true [.int .u64 0, .int .i64 0, .int .i64 0, .int .i64 0, .int .i64 0] 5)).set B2.next (.cells true [.int .u64 pw, .int .i64 i, .int .i64 ((j : Int) - 1), .int .i64 i, .int .i64 j] 5)).new (.cells true [.int .u64 pw, .int .i64 i, .int .i64 ((j : Int) - 1), .int .i64 i, .int .i64 j] 5) = C at hIC kC nC yC g2
  refine fapp_ownS (lo := A0.next) (xs := [.int .u64 pw, .int .i64 i, .int .i64 ((j : Int) - 1), .int .i64 i, .int .i64 j]) hIC.own yC rfl (by simp) (by omega) (by omega) (by omega) (by omega) (by omega) fun u10 B3 l1' l2 l3 l4 => ?_
  have q10 : slName v10 ≠ some (H.next + 5) := fun e => by have := (hIC.own.names e).1; omega
  have kq : B3.get (H.next + 5) = _ := (l4 (H.next + 5) (by omega) q10).trans hIC.box
  have hu1 : one u10 = true := l1'.one
  simp [t3, kq, hu1, one_cells, t23, add_in (x := j) (y := 1) (by omega) (by omega)]
  have hcell : (⟨2 ^ sp.length, (i, j - 1).1, (i, j - 1).2, (i, j - 1).1, (i, j - 1).2 + 1⟩ : Pc).cells = [.int .u64 pw, .int .i64 i, .int .i64 ((j : Int) - 1), .int .i64 i, .int .i64 j] := by
    have e1 : ((j - 1 : Nat) : Int) = (j : Int) - 1 := by omega
    have e2 : ((j - 1 + 1 : Nat) : Int) = (j : Int) := by omega
    simp only [Pc.cells, hpw, e1, e2]
  have hspot := hIC.spot (u10 := u10) (B := B3) (n := C.next) (x := (i, j - 1)) (c := .cells true [.int .i64 D.law.piece, .int .i64 D.law.drive, .int .i64 D.law.spread, .int .i64 D.law.brk, .int .i64 D.law.on, .int .i64 D.law.off, .int .i64 D.law.least, .int .i64 D.law.pieces, b, w, u10, v11, .slice (some ⟨H.next + 7, 0, none⟩) 5 5] 13) (by omega) (Nat.le_refl _) (by omega) (by rw [nC]; exact l2) (by rw [hcell]; exact l1') (fun m h1 h2 _ => l4 m (by omega) h2) rfl
  have hsp2 : sp ++ [(i, j - 1)] = spotsTo D.blocks i ++ (List.range (j + 1 - 1)).map fun n => (i, n) := by
    have e1 : j + 1 - 1 = (j - 1) + 1 := by omega
    rw [← hspn, e1, List.range_succ, List.map_append, List.append_assoc]; rfl
  rw [hsp2] at hspot
  refine ⟨⟨t2, t14, t15, t16, t4, t21, t22, j + 1, by omega, by simp, ?_, u10, v11, hspot⟩, by omega⟩
  have hk6 := kC.keep (B := B3.set (H.next + 5) (.cells true [.int .i64 D.law.piece, .int .i64 D.law.drive, .int .i64 D.law.spread, .int .i64 D.law.brk, .int .i64 D.law.on, .int .i64 D.law.off, .int .i64 D.law.least, .int .i64 D.law.pieces, b, w, u10, v11, .slice (some ⟨H.next + 7, 0, none⟩) 5 5] 13)) (by simp; omega) fun m hm => by
    have h6 := kC.names hm
    have h7 := (hIC.apart m hm).1
    have e2 : m ≠ H.next + 5 := by omega
    rw [Heap.set_get, if_neg e2]
    exact l4 m (by omega) h7
  simpa using hk6

end Go.Proofs.YtjbbcpeidnkjlaaDoor


namespace Go.Proofs.YtjbbcpeidnkjlaaDoor
open Go Go.Ab

def maskL (xs : List Int) : Nat := xs.foldl (fun m x => m ||| 2 ^ x.toNat) 0
theorem maskL_append {xs : List Int} {x : Int} : maskL (xs ++ [x]) = maskL xs ||| 2 ^ x.toNat := by simp [maskL]
theorem mask_aux (xs : List Int) : ∀ (m s : Nat), (xs.foldl (fun m x => m ||| 2 ^ x.toNat) m).testBit s = (m.testBit s || xs.any fun x => decide (x.toNat = s)) := by
  induction xs with
  | nil => intro m s; simp
  | cons x xs ih =>
    intro m s
    rw [List.foldl_cons, ih, Nat.testBit_or, Nat.testBit_two_pow, List.any_cons, Bool.or_assoc]
theorem maskL_bit (xs : List Int) (s : Nat) : (maskL xs).testBit s = xs.any fun x => decide (x.toNat = s) := by
  rw [maskL, mask_aux]; simp
theorem maskL_lt {xs : List Int} {n : Nat} (h : ∀ x ∈ xs, x.toNat < n) : maskL xs < 2 ^ n := by
  unfold maskL
  have : ∀ (xs : List Int) m, m < 2 ^ n → (∀ x ∈ xs, x.toNat < n) → xs.foldl (fun m x => m ||| 2 ^ x.toNat) m < 2 ^ n := fun xs => by
    induction xs with
    | nil => intro m hm _; exact hm
    | cons x xs ih =>
      intro m hm hx
      rw [List.foldl_cons]
      exact ih _ (Nat.or_lt_two_pow hm (Nat.pow_lt_pow_right (by omega) (hx x (by simp)))) fun y hy => hx y (by simp [hy])
  exact this xs 0 (Nat.two_pow_pos n) h
theorem maskL_zero {xs : List Int} : maskL xs = 0 ↔ xs = [] := by
  constructor
  · intro h
    cases xs with
    | nil => rfl
    | cons x xs =>
      have := maskL_bit (x :: xs) x.toNat
      rw [h] at this; simp at this
  · rintro rfl; rfl

def lastAt (xs : List Int) (j : Nat) : Int := if j = 0 then -1 else xs[j - 1]?.getD 0
def riseAt (n : Nat) (xs : List Int) (j : Nat) : Bool := decide (lastAt xs j + 1 ≤ xs[j]?.getD 0) && decide (xs[j]?.getD 0 ≤ (n : Int) - 1)
def riseB (n : Nat) (xs : List Int) : Bool := (List.range xs.length).all (riseAt n xs)
def isDutyB (n : Nat) (xs : List Int) : Bool := riseB n xs && decide (0 < xs.length)

theorem riseB_bounds {n : Nat} {xs : List Int} {k : Nat} (h : ∀ j, j < k → riseAt n xs j = true) (hk : k ≤ xs.length) : ∀ j (hj : j < k), (0 : Int) ≤ xs[j]'(by omega) ∧ xs[j]'(by omega) ≤ (n : Int) - 1 := by
  intro j
  induction j with
  | zero =>
    intro hj
    have := h 0 hj
    simp [riseAt, lastAt, (by omega : 0 < xs.length)] at this
    omega
  | succ j ih =>
    intro hj
    have h1 := ih (by omega)
    have := h (j + 1) hj
    simp [riseAt, lastAt, (by omega : j + 1 < xs.length), (by omega : j < xs.length)] at this
    omega

theorem segmentsOf_spec {D : Dy} {K : List (List (Int × Int))} {b w s k q v : Value} {H : Heap} {xs : List Int} (h : PlanAt H b w s k q D K) (hV : Valid D) (hv : IntsAt H v xs) (hlen : xs.length < 2 ^ 31) :
    AFun Tryd.prog 90 [planV D b w s k q, v] H (fun r B => ∃ m, r = .tuple #[bitsV m, .bool (isDutyB (segsOf D.blocks) xs)] ∧ m < 2 ^ 10 ∧ (riseB (segsOf D.blocks) xs = true → m = maskL xs) ∧ Ge H B) := by
  refine AFun.mk ok90 hm (Nat.le_of_ble_eq_true rfl) ?_
  have hb := h.day.blocks.one
  have hw := h.day.walk.one
  have hs := h.segs.one
  have hk := h.known.one
  have hq : one q = true := SlR.one h.quest
  have hsn : (segPs D).length = segsOf D.blocks := by rw [segPs, alone_length, spotsTo_length (Nat.le_refl _), List.take_length]
  have h10 := hV.segs
  simp [a90, r90]
  have ge0 : ∀ A : Heap, H.next + 3 ≤ A.next → (∀ n, n < H.next → A.get n = H.get n) → Ge H A := fun A h1 h2 => ⟨by omega, h2⟩
  refine fcall_fun (every_int_inv (xs := xs) (I := fun i A => H.next + 3 ≤ A.next ∧ (∀ n, n < H.next → A.get n = H.get n) ∧ A.get H.next = .cells true (planV D b w s k q).cells.toList 13 ∧ A.get (H.next + 1) = .cells true [bitsV (maskL (xs.take i))] 1 ∧ A.get (H.next + 2) = .cells true [.int .i64 (lastAt xs i)] 1 ∧ ∀ j, j < i → riseAt (segsOf D.blocks) xs j = true)
    (F := fun A => Ge H A ∧ riseB (segsOf D.blocks) xs = false ∧ ∃ m, m < 2 ^ 10 ∧ A.get (H.next + 1) = .cells true [bitsV m] 1) ?_ ?_ ?_) ?_
  · refine ⟨by simp, fun n hn => ?_, by simp [Value.cells], by simp [maskL], by simp [lastAt], fun j hj => by omega⟩
    have e1 : n ≠ H.next + 1 := by omega
    have e2 : n ≠ H.next + 2 := by omega
    simp [e1, e2, Nat.ne_of_lt hn]
  · exact fun i A hI => hv.ge (ge0 A hI.1 hI.2.1)
  · rintro i A hi ⟨k1, k2, k3, k4, k5, k6⟩
    have hbound := riseB_bounds k6 (by omega)
    have hm10 : maskL (xs.take i) < 2 ^ 10 := maskL_lt fun x hx => by
      obtain ⟨j, hj, rfl⟩ := List.mem_iff_getElem.1 hx
      have hj' : j < i := by simp at hj; omega
      have := hbound j hj'
      simp; omega
    have hlast : -1 ≤ lastAt xs i ∧ lastAt xs i ≤ 10 := by
      unfold lastAt
      split
      · omega
      · have := hbound (i - 1) (by omega)
        rw [List.getElem?_eq_getElem (by omega)]; simp; omega
    refine ACall.of_fun ?_
    refine AFun.mk ok109 hm (Nat.le_of_ble_eq_true rfl) ?_
    simp [Value.cells] at k3
    simp [a109, r109, k3, k5]
    rw [add_in (by omega) (by omega)]
    simp [k3, h.segs.lenV]
    rw [hsn, sub_in (by omega) (by omega)]
    simp
    refine fcall_fun (within_spec _ _ _ _) ?_
    rintro _ _ ⟨rfl, rfl⟩
    have hat : riseAt (segsOf D.blocks) xs i = (decide (lastAt xs i + 1 ≤ xs[i]) && decide (xs[i] ≤ (segsOf D.blocks : Int) - 1)) := by simp [riseAt, hi]
    rw [← hat]
    cases hr : riseAt (segsOf D.blocks) xs i
    · simp
      refine ⟨ge0 _ k1 k2, ?_, _, hm10, k4⟩
      unfold riseB
      rw [List.all_eq_false]; exact ⟨i, by simpa using hi, by simp [hr]⟩
    · have h0 := riseB_bounds (n := segsOf D.blocks) (xs := xs) (k := i + 1) (fun j hj => by
        by_cases e : j = i
        · rw [e]; exact hr
        · exact k6 j (by omega)) (by omega) i (by omega)
      obtain ⟨x, hx⟩ : ∃ x : Nat, xs[i] = x := ⟨xs[i].toNat, by omega⟩
      have hx10 : x < 10 := by omega
      have hnext : maskL (xs.take (i + 1)) = maskL (xs.take i) ||| 2 ^ x := by
        rw [List.take_succ_eq_append_getElem hi, maskL_append, hx]; simp
      have hl1 : lastAt xs (i + 1) = x := by simp [lastAt, hi, hx]
      have e12 : H.next + 1 ≠ H.next + 2 := by omega
      rw [hx]
      simp [k4]
      refine fcall_fun (setOf_spec x (by omega) _) ?_
      rintro _ A2 ⟨rfl, rfl⟩
      simp [k4]
      rw [aval_or (a := maskL (xs.take i)) (b := 2 ^ x) (by simp) (by simp) (by decide) (by decide) (Nat.lt_of_lt_of_le hm10 (by decide)) (pow_lt64 (by omega))]
      simp [k4, k5]
      refine ⟨by omega, fun n hn => ?_, k3, ?_, hl1.symm, fun j hj => ?_⟩
      · have e1 : n ≠ H.next + 1 := by omega
        have e2 : n ≠ H.next + 2 := by omega
        simp [e1, e2, k2 n hn]
      · rw [hnext]
      · by_cases e : j = i
        · rw [e]; exact hr
        · exact k6 j (by omega)
  · rintro v B ⟨c, rfl, k1, k2⟩
    cases c
    · obtain ⟨g, hf, m, hm10, hk1⟩ := k2 rfl
      simp [hk1]
      refine ⟨m, ⟨rfl, ?_⟩, hm10, ?_, g.grow 8⟩
      · simp [isDutyB, hf]
      · intro e; rw [hf] at e; cases e
    · obtain ⟨k3, k4, k5, k6, k7, k8⟩ := k1 rfl
      simp at k6
      have hrise : riseB (segsOf D.blocks) xs = true := by
        unfold riseB; rw [List.all_eq_true]; intro j hj; exact k8 j (by simpa using hj)
      have hbound := riseB_bounds k8 (Nat.le_refl _)
      have hm10 : maskL xs < 2 ^ 10 := maskL_lt fun x hx => by
        obtain ⟨j, hj, rfl⟩ := List.mem_iff_getElem.1 hx
        have := hbound j hj
        omega
      simp [k6]
      refine ⟨maskL xs, ⟨rfl, ?_⟩, hm10, fun _ => rfl, (ge0 B k3 k4).grow 8⟩
      have hz := @maskL_zero xs
      have hpos : (0 < xs.length) ↔ ¬ xs = [] := List.length_pos_iff
      simp only [isDutyB, hrise, Bool.true_and]
      by_cases hx : xs = []
      · subst hx; rfl
      · have h1 : ¬ maskL xs = 0 := fun e => hx (hz.1 e)
        have h2 : 0 < xs.length := hpos.2 hx
        simp [h1, h2]

end Go.Proofs.YtjbbcpeidnkjlaaDoor


namespace Go.Proofs.YtjbbcpeidnkjlaaDoor
open Go Go.Ab

def errD (D : Dy) (xs : List Int) : Int := if checkD D = 0 then (if isDutyB (segsOf D.blocks) xs then 0 else 2) else checkD D

theorem newPlannedDuty_spec {D : Dy} {b w v : Value} {H : Heap} {xs : List Int} (h : DayAt H b w D) (hT : D.Thin) (hv : IntsAt H v xs) (hlen : xs.length < 2 ^ 31) :
    AFun Tryd.prog 60 [dayV D b w, v] H (fun r B => ∃ pv m, r = .tuple #[.agg (List.toArray pv), bitsV m, .int .i64 (errD D xs)] ∧ (pv.length = 13 ∧ ∀ y ∈ pv, one y = true) ∧ Ge H B ∧ (errD D xs = 0 → Valid D ∧ isDutyB (segsOf D.blocks) xs = true ∧ ∃ s k q, Value.agg (List.toArray pv) = planV D b w s k q ∧ PlanAt B b w s k q D (known0 D) ∧ m = maskL xs)) := by
  refine AFun.mk ok60 hm (Nat.le_of_ble_eq_true rfl) ?_
  have hb := h.blocks.one
  have hw := h.walk.one
  simp [a60, r60, hb, hw]
  refine fcall_fun (checkDay_spec (h.ge (by simp)) hT) ?_
  rintro _ H1 ⟨rfl, g1⟩
  have G1 : Ge H H1 := Ge.trans (by simp) g1
  have n1 := g1.next
  have k0 := g1.got (n := H.next) (by simp) rfl
  have k1 := g1.got (n := H.next + 1) (by simp) rfl
  simp at k0 k1 n1
  unfold errD
  by_cases hc : checkD D = 0
  case neg =>
    simp [hc, k1]
    exact ⟨[.int .i64 0, .int .i64 0, .int .i64 0, .int .i64 0, .int .i64 0, .int .i64 0, .int .i64 0, .int .i64 0, .slice none 0 0, .slice none 0 0, .slice none 0 0, .slice none 0 0, .slice none 0 0], ⟨rfl, 0, rfl⟩, ⟨rfl, by simp⟩, G1.setNew (by omega) _⟩
  have hV := valid_of hc
  simp [hc, k0]
  refine fcall_fun (newPlanned_spec (h.ge G1) hV) ?_
  rintro _ H2 ⟨s, k, q, rfl, hO, g2⟩
  have G2 := G1.trans g2
  have hP := hO.at (h.ge G2)
  have n2 := g2.next
  have k12 := g2.got (n := H.next + 1) (by omega) k1
  have hs := hP.segs.one
  have hk := hP.known.one
  have hq : one q = true := SlR.one hP.quest
  have g3 : Ge H2 ((H2.new (.cells true [.int .i64 0, .int .i64 0, .int .i64 0, .int .i64 0, .int .i64 0, .int .i64 0, .int .i64 0, .int .i64 0, .slice none 0 0, .slice none 0 0, .slice none 0 0, .slice none 0 0, .slice none 0 0] 13)).set H2.next (.cells true [.int .i64 D.law.piece, .int .i64 D.law.drive, .int .i64 D.law.spread, .int .i64 D.law.brk, .int .i64 D.law.on, .int .i64 D.law.off, .int .i64 D.law.least, .int .i64 D.law.pieces, b, w, s, k, q] 13)) := (Ge.new _ _).setNew (Nat.le_refl _) _
  simp [hb, hw, hs, hk, hq]
  refine fcall_fun (segmentsOf_spec (hP.ge g3) hV ((hv.ge G2).ge g3) hlen) ?_
  rintro _ H3 ⟨m, rfl, hm10, hmask, g4⟩
  have G4 := g3.trans g4
  have ne2 : H2.next ≠ H.next + 1 := by omega
  have ne3 : H.next + 1 ≠ H2.next := by omega
  have k13 := G4.got (n := H.next + 1) (by omega) k12
  have k33 := g4.got (n := H2.next) (by simp) rfl
  simp at k33
  cases hd : isDutyB (segsOf D.blocks) xs
  · simp [k13, hc]
    exact ⟨[.int .i64 0, .int .i64 0, .int .i64 0, .int .i64 0, .int .i64 0, .int .i64 0, .int .i64 0, .int .i64 0, .slice none 0 0, .slice none 0 0, .slice none 0 0, .slice none 0 0, .slice none 0 0], ⟨rfl, 0, rfl⟩, ⟨rfl, by simp⟩, (G2.trans G4).setNew (by omega) _⟩
  · simp [k13, k33, hb, hw, hs, hk, hq]
    refine ⟨[.int .i64 D.law.piece, .int .i64 D.law.drive, .int .i64 D.law.spread, .int .i64 D.law.brk, .int .i64 D.law.on, .int .i64 D.law.off, .int .i64 D.law.least, .int .i64 D.law.pieces, b, w, s, k, q], m, ⟨rfl, rfl, fun e => absurd hc e⟩, ⟨rfl, by simp [hb, hw, hs, hk, hq]⟩, (G2.trans G4).setNew (by omega) _, fun _ => ⟨hV, s, k, q, rfl, ?_, ?_⟩⟩
    · refine PlanOwn.at (lo := H1.next) (hO.keep ?_ ?_) (h.ge ((G2.trans G4).setNew (by omega) _))
      · simp; have := G4.next; omega
      · intro n h1 h2
        rw [Heap.set_get, if_neg (by omega)]
        exact G4.get n h2
    · unfold isDutyB at hd
      rw [Bool.and_eq_true] at hd
      exact hmask hd.1

end Go.Proofs.YtjbbcpeidnkjlaaDoor

