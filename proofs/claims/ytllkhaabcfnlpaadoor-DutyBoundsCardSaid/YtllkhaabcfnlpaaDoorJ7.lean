/-
  Joined texts of a calculus of abstract memory, of the program's code in it, and of contracts.
-/
import Derived.Test.YtllkhaabcfnlpaaDoorJ6
import Derived.Test.YtllkhaabcfnlpaaDoorChecked
/-
  Days as the calculus sees them: reliefs, blocks, rows of minutes; sets as bits.
-/
namespace Go.Proofs.YtllkhaabcfnlpaaDoor
open Go Go.Ab

structure Rl where
  place : Int
  lo : Int
  hi : Int
deriving DecidableEq

def Rl.cells (x : Rl) : List Value := [.int .i64 x.place, .int .i64 x.lo, .int .i64 x.hi]
def Rl.val (x : Rl) : Value := .agg #[.int .i64 x.place, .int .i64 x.lo, .int .i64 x.hi]

structure Lw where
  piece : Int
  drive : Int
  spread : Int
  brk : Int
  on : Int
  off : Int
  least : Int
  pieces : Int

structure Dy where
  law : Lw
  blocks : List (List Rl)
  walk : List (List Int)

def Lw.list (l : Lw) : List Int := [l.piece, l.drive, l.spread, l.brk, l.on, l.off, l.least, l.pieces]
def Lw.cells (l : Lw) : List Value := l.list.map (Value.int .i64)
abbrev dayV (D : Dy) (b w : Value) : Value := .agg #[.int .i64 D.law.piece, .int .i64 D.law.drive, .int .i64 D.law.spread, .int .i64 D.law.brk, .int .i64 D.law.on, .int .i64 D.law.off, .int .i64 D.law.least, .int .i64 D.law.pieces, b, w]

theorem flatMap_at {α β : Type} {f : α → List β} {k : Nat} (hf : ∀ x, (f x).length = k) : ∀ (xs : List α) (i : Nat) (hi : i < xs.length), ((xs.flatMap f).drop (i * k)).take k = f xs[i]
  | [], i, hi => by simp at hi
  | x :: xs, 0, hi => by
    simp only [List.flatMap_cons, Nat.zero_mul, List.drop_zero, List.getElem_cons_zero]
    rw [← hf x, List.take_left]
  | x :: xs, i + 1, hi => by
    have := flatMap_at hf xs i (by simpa using hi)
    simp only [List.flatMap_cons, List.getElem_cons_succ]
    rw [← this, Nat.succ_mul, Nat.add_comm, ← hf x, ← List.drop_drop, List.drop_left]

def RelsAt (H : Heap) (v : Value) (xs : List Rl) : Prop := SlR H 3 v xs.length (xs.flatMap Rl.cells) ∧ xs.length < 2 ^ 63

theorem SlR.one {H : Heap} {sz len : Nat} {v : Value} {cs : List Value} (h : SlR H sz v len cs) : one v = true := by
  rcases h.cases with ⟨rfl | rfl, _⟩ | ⟨n, o, cap, rw, ds, c, rfl, _⟩ <;> rfl
theorem IntsAt.one {H : Heap} {v : Value} {xs : List Int} (h : IntsAt H v xs) : Go.Ab.one v = true := SlR.one h.1

section
variable {H H' : Heap} {v : Value} {xs : List Rl}
theorem RelsAt.lenV (h : RelsAt H v xs) : Go.Ab.lenV v = some (.int .i64 xs.length) := h.1.lenV
theorem RelsAt.ge (h : RelsAt H v xs) (g : Ge H H') : RelsAt H' v xs := ⟨h.1.ge g, h.2⟩
theorem RelsAt.one (h : RelsAt H v xs) : Go.Ab.one v = true := SlR.one h.1
theorem RelsAt.at (h : RelsAt H v xs) {i : Nat} (hi : i < xs.length) : ∃ n o, islV 3 v (.int .i64 i) = some (.pointer (some ⟨n, o, none⟩)) ∧ n < H.next ∧ ldA (H.get n) true 3 o = some xs[i].val ∧ (∀ f, f < 3 → ldA (H.get n) false 1 (o + f) = xs[i].cells[f]?) ∧ ldA (H.get n) true 2 (o + 1) = some (.agg #[.int .i64 xs[i].lo, .int .i64 xs[i].hi]) := by
  obtain ⟨n, o, rw', ds, c, h1, hn, h2, h3⟩ := h.1.isl (k := .i64) hi
  rw [flatMap_at (f := Rl.cells) (fun _ => rfl) xs i hi] at h3
  refine ⟨n, o, h1, hn, ?_, fun f hf => ?_, ?_⟩
  · rw [h2, ldA_agg, h3]; rfl
  · rw [h2, ldA_one]
    obtain ⟨h4, _⟩ := rdL_some h3
    rw [h4]
    simp [hf]
  · rw [h2, ldA_agg]
    obtain ⟨h4, h5, _⟩ := rdL_some h3
    have h6 : rdL ds (o + 1) 2 = some [.int .i64 xs[i].lo, .int .i64 xs[i].hi] := by
      unfold rdL
      rw [if_pos (by omega)]
      have : (ds.drop (o + 1)).take 2 = ((ds.drop o).take 3).drop 1 := by rw [List.drop_take, List.drop_drop]
      rw [this, ← h4]; rfl
    rw [h6]; rfl
end

/-- Rows of something. -/
def RowsOf {α : Type} (R : Heap → Value → α → Prop) (H : Heap) (v : Value) (xs : List α) : Prop := ∃ vs : List Value, SlR H 1 v xs.length vs ∧ xs.length < 2 ^ 63 ∧ ∀ i (h : i < xs.length), ∃ u, vs[i]? = some u ∧ R H u xs[i]
abbrev RowsAt := RowsOf IntsAt
abbrev BlksAt := RowsOf RelsAt

section
variable {α : Type} {R : Heap → Value → α → Prop} {H H' : Heap} {v : Value} {xs : List α}
theorem RowsOf.lt (h : RowsOf R H v xs) : xs.length < 2 ^ 63 := let ⟨_, _, k, _⟩ := h; k
theorem RowsOf.lenV (h : RowsOf R H v xs) : Go.Ab.lenV v = some (.int .i64 xs.length) := let ⟨_, k, _⟩ := h; k.lenV
theorem RowsOf.one (h : RowsOf R H v xs) : Go.Ab.one v = true := let ⟨_, k, _⟩ := h; SlR.one k
theorem RowsOf.geR (hR : ∀ u x, R H u x → R H' u x) (h : RowsOf R H v xs) (g : Ge H H') : RowsOf R H' v xs := by
  obtain ⟨vs, h1, h2, h3⟩ := h
  exact ⟨vs, h1.ge g, h2, fun i hi => let ⟨u, h4, h5⟩ := h3 i hi; ⟨u, h4, hR _ _ h5⟩⟩
theorem RowsOf.at (h : RowsOf R H v xs) {i : Nat} (hi : i < xs.length) : ∃ p u, islV 1 v (.int .i64 i) = some p ∧ ldV H false 1 p = some u ∧ R H u xs[i] := by
  obtain ⟨vs, h1, h2, h3⟩ := h
  obtain ⟨u, h4, h5⟩ := h3 i hi
  obtain ⟨p, h6, h7⟩ := h1.at1 (k := .i64) hi
  exact ⟨p, u, h6, h7.trans h4, h5⟩
theorem RowsOf.atI (h : RowsOf R H v xs) {i : Int} (h0 : 0 ≤ i) (hi : i.toNat < xs.length) : ∃ p u, islV 1 v (.int .i64 i) = some p ∧ ldV H false 1 p = some u ∧ R H u xs[i.toNat] := by
  obtain ⟨p, u, h1, h2, h3⟩ := h.at hi
  exact ⟨p, u, by rw [← h1]; congr 2; omega, h2, h3⟩
end
theorem RowsOf.ge {H H' : Heap} {v : Value} {xs : List (List Int)} (h : RowsAt H v xs) (g : Ge H H') : RowsAt H' v xs := RowsOf.geR (fun _ _ k => IntsAt.ge k g) h g
theorem RowsOf.geB {H H' : Heap} {v : Value} {xs : List (List Rl)} (h : BlksAt H v xs) (g : Ge H H') : BlksAt H' v xs := RowsOf.geR (fun _ _ k => RelsAt.ge k g) h g

theorem IntsAt.atI {H : Heap} {v : Value} {xs : List Int} (h : IntsAt H v xs) {i : Int} (h0 : 0 ≤ i) (hi : i.toNat < xs.length) : ∃ p, islV 1 v (.int .i64 i) = some p ∧ ldV H false 1 p = some (.int .i64 xs[i.toNat]) := by
  obtain ⟨p, h1, h2⟩ := h.at hi
  exact ⟨p, by rw [← h1]; congr 2; omega, h2⟩
theorem RelsAt.atI {H : Heap} {v : Value} {xs : List Rl} (h : RelsAt H v xs) {i : Int} (h0 : 0 ≤ i) (hi : i.toNat < xs.length) : ∃ n o, islV 3 v (.int .i64 i) = some (.pointer (some ⟨n, o, none⟩)) ∧ n < H.next ∧ ldA (H.get n) true 3 o = some xs[i.toNat].val ∧ (∀ f, f < 3 → ldA (H.get n) false 1 (o + f) = xs[i.toNat].cells[f]?) ∧ ldA (H.get n) true 2 (o + 1) = some (.agg #[.int .i64 xs[i.toNat].lo, .int .i64 xs[i.toNat].hi]) := by
  obtain ⟨n, o, h1, h2, h3, h4⟩ := h.at hi
  exact ⟨n, o, by rw [← h1]; congr 2; omega, h2, h3, h4⟩

/-- A day, by its cells. -/
structure DayAt (H : Heap) (b w : Value) (D : Dy) : Prop where
  blocks : BlksAt H b D.blocks
  walk : RowsAt H w D.walk
theorem DayAt.ge {H H' : Heap} {b w : Value} {D : Dy} (h : DayAt H b w D) (g : Ge H H') : DayAt H' b w D := ⟨h.blocks.geB g, h.walk.ge g⟩

theorem hm : Tryd.prog.follows .mixedOrders = true := by kernel_rfl

section
variable {P : Program} {t : Nat → Value} {H : Heap} {N x y : Nat} {k : IntKind} {m n : Int} {d : Option Tmp} {T U ty : TypeId} {pos : String} {af : Array Edge} {g : Option (Nat × Bool)}
theorem aval_maxC (hy : t y = .int k n) (h2 : y < N) :
    aval P t H (.gen N ⟨d, .call ⟨.builtin .max, #[.const (.int k m), .tmp y], #[T, U]⟩, ty, pos, af, g⟩) = some (.int k (max m n)) := by
  refine aval_gen ?_ rfl fun w => ?_
  · simp [Op.operands, Call.operands, flatO, hy, h2, flat, flat1]
  · simp [execOp, resolve, invoke, builtin, Builtin.max_, Builtin.max2, evO, hy]
    split <;> omega
theorem aval_maxD (hy : t y = .int k n) (h2 : y < N) :
    aval P t H (.gen N ⟨d, .call ⟨.builtin .max, #[.tmp y, .const (.int k m)], #[T, U]⟩, ty, pos, af, g⟩) = some (.int k (max n m)) := by
  refine aval_gen ?_ rfl fun w => ?_
  · simp [Op.operands, Call.operands, flatO, hy, h2, flat, flat1]
  · simp [execOp, resolve, invoke, builtin, Builtin.max_, Builtin.max2, evO, hy]
    split <;> omega

/-- A set of segments, as bits. -/
abbrev bitsV (m : Nat) : Value := .int .u64 m
/-- What is in the first set alone. -/
def diffN (a b : Nat) : Nat := a ^^^ (a &&& b)
theorem testBit_diff {a b i : Nat} : (diffN a b).testBit i = (a.testBit i && !b.testBit i) := by
  unfold diffN
  rw [Nat.testBit_xor, Nat.testBit_and]
  cases a.testBit i <;> cases b.testBit i <;> rfl
theorem diff_lt {a b n : Nat} (h : a < 2 ^ n) : diffN a b < 2 ^ n := Nat.xor_lt_two_pow h (Nat.lt_of_le_of_lt Nat.and_le_left h)
theorem wrap_u64 {m : Nat} (h : m < 2 ^ 64) : IntKind.u64.wrap (m : Int) = m := by
  simp [IntKind.wrap, IntKind.bits, IntKind.signed]
  omega

theorem aval_shl1 {s : Nat} (hx : t x = .int .i64 (s : Int)) (h1 : x < N) (hs : s < 64) :
    aval P t H (.gen N ⟨d, .binOp .shl T (.const (.int .u64 1)) (.tmp x) U, ty, pos, af, g⟩) = some (bitsV (2 ^ s)) := by
  refine aval_gen ?_ rfl fun w => ?_
  · simp [Op.operands, flatO, hx, h1, flat, flat1]
  · have e : IntKind.u64.wrap (2 ^ s : Int) = ((2 ^ s : Nat) : Int) := by
      have := wrap_u64 (m := 2 ^ s) (Nat.pow_lt_pow_right (by omega) hs)
      rw [← this]; push_cast; rfl
    have e2 : min s IntKind.u64.bits = s := by simp [IntKind.bits]; omega
    simp [execOp, evO, hx, eqGuard, binOp, Op.shift, e2, e]
theorem bv_and {a b : Nat} (ha : a < 2 ^ 64) (hb : b < 2 ^ 64) : (BitVec.ofNat 64 a &&& BitVec.ofNat 64 b).toNat = a &&& b := by
  simp [Nat.mod_eq_of_lt ha, Nat.mod_eq_of_lt hb]
theorem bv_or {a b : Nat} (ha : a < 2 ^ 64) (hb : b < 2 ^ 64) : (BitVec.ofNat 64 a ||| BitVec.ofNat 64 b).toNat = a ||| b := by
  simp [Nat.mod_eq_of_lt ha, Nat.mod_eq_of_lt hb]
theorem bv_diff {a b : Nat} (ha : a < 2 ^ 64) (_hb : b < 2 ^ 64) : (BitVec.ofNat 64 a &&& ~~~ BitVec.ofNat 64 b).toNat = diffN a b := by
  apply Nat.eq_of_testBit_eq
  intro i
  rw [testBit_diff]
  by_cases hi : i < 64
  · rw [BitVec.testBit_toNat, BitVec.getLsbD_and, BitVec.getLsbD_not, BitVec.getLsbD_ofNat, BitVec.getLsbD_ofNat]
    simp [hi]
  · have h3 : (BitVec.ofNat 64 a &&& ~~~ BitVec.ofNat 64 b).toNat < 2 ^ i := Nat.lt_of_lt_of_le (BitVec.isLt _) (Nat.pow_le_pow_right (by omega) (by omega))
    have h4 : a < 2 ^ i := Nat.lt_of_lt_of_le ha (Nat.pow_le_pow_right (by omega) (by omega))
    rw [Nat.testBit_lt_two_pow h3, Nat.testBit_lt_two_pow h4]
    rfl
theorem bits_and {a b : Nat} (ha : a < 2 ^ 64) (hb : b < 2 ^ 64) : Op.intBits .and .u64 (a : Int) (b : Int) = pure (bitsV (a &&& b)) := by
  show (pure (Value.int .u64 (IntKind.u64.wrap ((BitVec.ofNat 64 a &&& BitVec.ofNat 64 b).toNat : Int))) : Sem Value) = _
  rw [bv_and ha hb, wrap_u64 (Nat.lt_of_le_of_lt Nat.and_le_left ha)]
theorem bits_or {a b : Nat} (ha : a < 2 ^ 64) (hb : b < 2 ^ 64) : Op.intBits .or .u64 (a : Int) (b : Int) = pure (bitsV (a ||| b)) := by
  show (pure (Value.int .u64 (IntKind.u64.wrap ((BitVec.ofNat 64 a ||| BitVec.ofNat 64 b).toNat : Int))) : Sem Value) = _
  rw [bv_or ha hb, wrap_u64 (Nat.or_lt_two_pow ha hb)]
theorem bits_diff {a b : Nat} (ha : a < 2 ^ 64) (hb : b < 2 ^ 64) : Op.intBits .andNot .u64 (a : Int) (b : Int) = pure (bitsV (diffN a b)) := by
  show (pure (Value.int .u64 (IntKind.u64.wrap ((BitVec.ofNat 64 a &&& ~~~ BitVec.ofNat 64 b).toNat : Int))) : Sem Value) = _
  rw [bv_diff ha hb, wrap_u64 (diff_lt ha)]
theorem aval_and {a b : Nat} (hx : t x = bitsV a) (hy : t y = bitsV b) (h1 : x < N) (h2 : y < N) (ha : a < 2 ^ 64) (hb : b < 2 ^ 64) :
    aval P t H (.gen N ⟨d, .binOp .and T (.tmp x) (.tmp y) U, ty, pos, af, g⟩) = some (bitsV (a &&& b)) := by
  refine aval_gen ?_ rfl fun w => ?_
  · simp [Op.operands, flatO, hx, hy, h1, h2, flat, flat1]
  · simp [execOp, evO, hx, hy, eqGuard, binOp, bits_and ha hb]
theorem aval_or {a b : Nat} (hx : t x = bitsV a) (hy : t y = bitsV b) (h1 : x < N) (h2 : y < N) (ha : a < 2 ^ 64) (hb : b < 2 ^ 64) :
    aval P t H (.gen N ⟨d, .binOp .or T (.tmp x) (.tmp y) U, ty, pos, af, g⟩) = some (bitsV (a ||| b)) := by
  refine aval_gen ?_ rfl fun w => ?_
  · simp [Op.operands, flatO, hx, hy, h1, h2, flat, flat1]
  · simp [execOp, evO, hx, hy, eqGuard, binOp, bits_or ha hb]
theorem aval_diff {a b : Nat} (hx : t x = bitsV a) (hy : t y = bitsV b) (h1 : x < N) (h2 : y < N) (ha : a < 2 ^ 64) (hb : b < 2 ^ 64) :
    aval P t H (.gen N ⟨d, .binOp .andNot T (.tmp x) (.tmp y) U, ty, pos, af, g⟩) = some (bitsV (diffN a b)) := by
  refine aval_gen ?_ rfl fun w => ?_
  · simp [Op.operands, flatO, hx, hy, h1, h2, flat, flat1]
  · simp [execOp, evO, hx, hy, eqGuard, binOp, bits_diff ha hb]
end

end Go.Proofs.YtllkhaabcfnlpaaDoor
