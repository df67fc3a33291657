/-
  Joined texts of a calculus of abstract memory, and of contracts of the program's functions.
-/
import Derived.Test.YtohohnpjilinmaaJ3
import Derived.Laws.StructEq
/-
  Part 24 of a calculus of abstract memory: slices that are read.
-/
namespace Go.Ab

/-- The integer of a value. -/
def intOf : Value → Int
  | .int _ n => n
  | _ => 0
@[simp] theorem intOf_int {k : IntKind} {n : Int} : intOf (.int k n) = n := rfl

/-- What is known of a slice that is read: len elements of sz cells each. -/
def SlR (H : Heap) (sz : Nat) (v : Value) (len : Nat) (cs : List Value) : Prop := slCells H sz v = some (len, cs) ∧ ∀ a n c, v = .slice (some a) n c → a.block < H.next

section
variable {H H' : Heap} {sz len : Nat} {v : Value} {cs : List Value}

theorem SlR.cases (h : SlR H sz v len cs) : ((v = .slice none 0 0 ∨ v = .slice (some ⟨0, 0, some 0⟩) 0 0) ∧ len = 0 ∧ cs = []) ∨ ∃ n o cap rw ds c, v = .slice (some ⟨n, o, none⟩) len cap ∧ H.get n = .cells rw ds c ∧ rdL ds o (len * sz) = some cs := by
  replace h := h.1
  unfold slCells at h
  split at h
  · simp only [Option.some.injEq, Prod.mk.injEq] at h; exact Or.inl ⟨.inl rfl, h.1.symm, h.2.symm⟩
  · rename_i m o k cap
    split at h
    · rename_i rw ds c hg
      simp only [Option.map_eq_some_iff, Prod.mk.injEq] at h
      obtain ⟨l, h1, rfl, rfl⟩ := h
      exact Or.inr ⟨m, o, cap, rw, ds, c, rfl, hg, h1⟩
    · cases h
  · simp only [Option.some.injEq, Prod.mk.injEq] at h; exact Or.inl ⟨.inr rfl, h.1.symm, h.2.symm⟩
  · cases h

theorem SlR.ge (h : SlR H sz v len cs) (g : Ge H H') : SlR H' sz v len cs := by
  refine ⟨?_, fun a n c e => Nat.lt_of_lt_of_le (h.2 a n c e) g.next⟩
  rcases h.cases with ⟨rfl | rfl, rfl, rfl⟩ | ⟨n, o, cap, rw, ds, c, rfl, hg, hr⟩
  · rfl
  · rfl
  · have := h.2 _ _ _ rfl
    simp only [slCells, g.get n this, hg, hr, Option.map_some]

theorem SlR.lenV (h : SlR H sz v len cs) : lenV v = some (.int .i64 len) := by
  rcases h.cases with ⟨rfl | rfl, rfl, _⟩ | ⟨n, o, cap, rw, ds, c, rfl, _⟩ <;> rfl

/-- Nil, or not. -/
theorem SlR.cases2 (h : SlR H sz v len cs) : (v = .slice none 0 0 ∧ len = 0 ∧ cs = []) ∨ ∃ a cap, v = .slice (some a) len cap := by
  rcases h.cases with ⟨rfl | rfl, rfl, rfl⟩ | ⟨n, o, cap, rw, ds, c, rfl, hg, hr⟩
  · exact .inl ⟨rfl, rfl, rfl⟩
  · exact .inr ⟨_, _, rfl⟩
  · exact .inr ⟨_, _, rfl⟩

theorem rdL_some {ds : List Value} {o n : Nat} (h : rdL ds o n = some cs) : cs = (ds.drop o).take n ∧ o + n ≤ ds.length ∧ cs.length = n := by
  unfold rdL at h
  split at h
  · rename_i hl
    simp only [Option.some.injEq] at h
    refine ⟨h.symm, hl, ?_⟩
    rw [← h]; simp; omega
  · cases h

theorem SlR.length (h : SlR H sz v len cs) : cs.length = len * sz := by
  rcases h.cases with ⟨_, rfl, rfl⟩ | ⟨n, o, cap, rw, ds, c, _, _, hr⟩
  · simp
  · exact (rdL_some hr).2.2

/-- The place of an element. -/
theorem SlR.isl (h : SlR H sz v len cs) {i : Nat} {k : IntKind} (hi : i < len) : ∃ n o rw ds c, islV sz v (.int k i) = some (.pointer (some ⟨n, o, none⟩)) ∧ n < H.next ∧ H.get n = .cells rw ds c ∧ rdL ds o sz = some ((cs.drop (i * sz)).take sz) := by
  rcases h.cases with ⟨_, rfl, rfl⟩ | ⟨n, o, cap, rw, ds, c, rfl, hg, hr⟩
  · omega
  · obtain ⟨h1, h2, h3⟩ := rdL_some hr
    refine ⟨n, o + i * sz, rw, ds, c, ?_, h.2 _ _ _ rfl, hg, ?_⟩
    · rw [islV_in (by omega) (by omega)]; simp
    · have : i * sz + sz ≤ len * sz := by rw [← Nat.succ_mul]; exact Nat.mul_le_mul_right _ hi
      unfold rdL
      rw [if_pos (by omega), h1]
      simp only [List.drop_take, List.take_take, List.drop_drop]
      congr 2
      omega

/-- One cell of a slice whose elements are single cells. -/
theorem SlR.at1 (h : SlR H 1 v len cs) {i : Nat} {k : IntKind} (hi : i < len) : ∃ p, islV 1 v (.int k i) = some p ∧ ldV H false 1 p = cs[i]? := by
  obtain ⟨n, o, rw, ds, c, h1, _, h2, h3⟩ := h.isl (k := k) hi
  refine ⟨_, h1, ?_⟩
  rw [ldV_one h2]
  obtain ⟨h4, h5, h6⟩ := rdL_some h3
  have hl := h.length
  have : ((cs.drop (i * 1)).take 1)[0]? = ((ds.drop o).take 1)[0]? := by rw [h4]
  simpa using this.symm

end

/-- A slice of whole numbers. -/
def IntsAt (H : Heap) (v : Value) (xs : List Int) : Prop := SlR H 1 v xs.length (xs.map (Value.int .i64)) ∧ xs.length < 2 ^ 63

section
variable {H : Heap} {v : Value} {xs : List Int}
theorem IntsAt.lenV (h : IntsAt H v xs) : Go.Ab.lenV v = some (.int .i64 xs.length) := h.1.lenV
theorem IntsAt.ge {H' : Heap} (h : IntsAt H v xs) (g : Ge H H') : IntsAt H' v xs := ⟨h.1.ge g, h.2⟩
theorem IntsAt.at (h : IntsAt H v xs) {i : Nat} (hi : i < xs.length) : ∃ p, islV 1 v (.int .i64 i) = some p ∧ ldV H false 1 p = some (.int .i64 xs[i]) := by
  obtain ⟨p, h1, h2⟩ := h.1.at1 (k := .i64) hi
  exact ⟨p, h1, by rw [h2]; simp [hi]⟩
end

attribute [simp] Ge.refl Ge.more
@[simp] theorem Ge.more' (H : Heap) (k : Nat) : Ge H ⟨H.get, H.next + k⟩ := Ge.more H k
theorem Ge.grow {H H' : Heap} (h : Ge H H') (k : Nat) : Ge H ⟨H'.get, H'.next + k⟩ := h.trans (Ge.more H' k)

/-- What a block yields to a load. -/
def ldA (x : AObj) (agg : Bool) (sz off : Nat) : Option Value := match x with
  | .cells _ cs _ => if agg then (rdL cs off sz).map (fun l => .agg l.toArray) else cs[off]?
  | _ => none
@[simp] theorem ldV_ptr {H : Heap} {agg : Bool} {sz n off : Nat} : ldV H agg sz (.pointer (some ⟨n, off, none⟩)) = ldA (H.get n) agg sz off := by
  simp only [ldV, ldA]; cases H.get n <;> rfl
@[simp] theorem ldA_one {rw : Bool} {cs : List Value} {c sz off : Nat} : ldA (.cells rw cs c) false sz off = cs[off]? := rfl
@[simp] theorem ldA_agg {rw : Bool} {cs : List Value} {c sz off : Nat} : ldA (.cells rw cs c) true sz off = (rdL cs off sz).map fun l => .agg l.toArray := rfl
@[simp] theorem rdL_cons {a : Value} {l : List Value} {off n : Nat} : rdL (a :: l) off n = if off + n ≤ (a :: l).length then some (((a :: l).drop off).take n) else none := rfl

/-- What a block becomes by a store. -/
def stA (H : Heap) (n off sz : Nat) (v : Value) (x : AObj) : Option Heap := match x with
  | .cells true cs c => if v.cells.size = sz ∧ off + sz ≤ cs.length ∧ v.cells.toList.all one = true then some (H.set n (.cells true (wrL cs off v.cells.toList) c)) else none
  | _ => none
@[simp] theorem stV_ptr {H : Heap} {sz n off : Nat} {v : Value} : stV H sz (.pointer (some ⟨n, off, none⟩)) v = stA H n off sz v (H.get n) := by
  simp only [stV, stA]
  generalize H.get n = x
  cases x with
  | cells rw cs c => cases rw <;> rfl
  | _ => rfl
@[simp] theorem stA_cells {H : Heap} {n off sz c : Nat} {v : Value} {cs : List Value} : stA H n off sz v (.cells true cs c) = if v.cells.size = sz ∧ off + sz ≤ cs.length ∧ v.cells.toList.all one = true then some (H.set n (.cells true (wrL cs off v.cells.toList) c)) else none := rfl
@[simp] theorem wrL_cons {a : Value} {l vs : List Value} {off : Nat} : wrL (a :: l) off vs = (a :: l).take off ++ (vs ++ (a :: l).drop (off + vs.length)) := rfl
@[simp] theorem one_bool {b : Bool} : one (.bool b) = true := rfl
@[simp] theorem one_int {k : IntKind} {n : Int} : one (.int k n) = true := rfl
@[simp] theorem one_string {x : ByteArray} : one (.string x) = true := rfl
@[simp] theorem one_pointer {a : Option Addr} : one (.pointer a) = true := rfl
@[simp] theorem one_slice {a : Option Addr} {n c : Nat} : one (.slice a n c) = true := rfl
@[simp] theorem one_map {a : Option Nat} : one (.map a) = true := rfl
@[simp] theorem one_func {f : Fn} {a b : Array Value} : one (.func f a b) = true := rfl
@[simp] theorem one_nilFunc : one .nilFunc = true := rfl
@[simp] theorem one_nilIface : one .nilIface = true := rfl
@[simp] theorem one_iface {t : TypeId} {v : Value} : one (.iface t v) = true := rfl
@[simp] theorem one_agg {a : Array Value} : one (.agg a) = false := rfl
@[simp] theorem one_tuple {a : Array Value} : one (.tuple a) = false := rfl
/-- What make leaves. -/
def mksV (n sz bytes : Nat) (z : List Value) : Value → Value → Option (AObj × Value)
  | .int _ l, .int _ c => if 0 ≤ l ∧ l ≤ c ∧ (bytes : Int) * c ≤ 2 ^ 48 ∧ c < 2 ^ 62 then some (.cells true (zrep c.toNat z) (c.toNat * sz), .slice (some ⟨n, 0, none⟩) l.toNat c.toNat) else none
  | _, _ => none
@[simp] theorem amake_mks {t : Nat → Value} {n sz bytes : Nat} {z : List Value} {len cap : Opd} : amake t n (.mks sz bytes z len cap) = mksV n sz bytes z (len.ev t) (cap.ev t) := rfl
theorem mksV_at {n sz bytes : Nat} {z : List Value} {k j : IntKind} {m : Nat} (h : bytes * m ≤ 2 ^ 48) (h2 : m < 2 ^ 62) : mksV n sz bytes z (.int k m) (.int j m) = some (.cells true (zrep m z) (m * sz), .slice (some ⟨n, 0, none⟩) m m) := by
  simp only [mksV]
  rw [if_pos]
  · simp
  · refine ⟨by omega, by omega, ?_, by omega⟩
    exact_mod_cast h
theorem one_cells {v : Value} (h : one v = true) : v.cells = #[v] := by cases v <;> simp_all [one, Value.cells]

@[simp] theorem Ge.new_of {H H' : Heap} {x : AObj} (h : Ge H H') : Ge H (H'.new x) := h.newOf x
@[simp] theorem Ge.set_of {H H' : Heap} {n : Nat} {x : AObj} (hn : H.next ≤ n) (h : Ge H H') : Ge H (H'.set n x) := h.setNew hn x
@[simp] theorem Ge.grow_of {H H' : Heap} {k : Nat} (h : Ge H H') : Ge H ⟨H'.get, H'.next + k⟩ := h.grow k

theorem Ge.got {H H' : Heap} (g : Ge H H') {n : Nat} {x : AObj} (hn : n < H.next) (h : H.get n = x) : H'.get n = x := (g.get n hn).trans h

@[simp] theorem Ge.grow_le {H H' : Heap} {k : Nat} (hk : H.next ≤ k) (h : Ge H H') : Ge H ⟨H'.get, k⟩ := ⟨hk, h.get⟩

@[simp] theorem next_add (H : Heap) (a b : Nat) : H.next + a + b = H.next + (a + b) := Nat.add_assoc _ _ _

end Go.Ab

/-
  Part 25 of a calculus of abstract memory: the loops over functions that stand in a piece of code; operations that are left to the machine's own words.
-/
namespace Go.Ab

/-- The loops over functions, in their order, the inner ones left out. -/
def rfs : Code → List (Code × Code)
  | .seq a b => rfs a ++ rfs b
  | .cond _ a b => rfs a ++ rfs b
  | .block _ b => rfs b
  | .loop b => rfs b
  | .scope b => rfs b
  | .rangeFunc _ _ a b => [(a, b)]
  | _ => []
def rfN (c : Option Code) (k : Nat) : Code × Code := ((c.map rfs).getD [])[k]?.getD (.skip, .skip)

section
variable {P : Program} {t : Nat → Value} {H : Heap} {N x y a b : Nat} {k : IntKind} {m n : Int} {d : Option Tmp} {ty T U : TypeId} {pos : String} {af : Array Edge} {g : Option (Nat × Bool)}

theorem aval_gen {o : Oper} {v : Value} (h : o.op.operands.toList.all (flatO N t) = true) (hf : flat v = true) (hr : ∀ w : World, (execOp (evO t) o).run P w = .ok (.value v) w) : aval P t H (.gen N o) = some v := by
  simp only [aval, h, if_true]
  exact genV_of hf hr

theorem aval_max (hx : t x = .int k m) (hy : t y = .int k n) (h1 : x < N) (h2 : y < N) :
    aval P t H (.gen N ⟨d, .call ⟨.builtin .max, #[.tmp x, .tmp y], #[T, U]⟩, ty, pos, af, g⟩) = some (.int k (max m n)) := by
  refine aval_gen ?_ rfl fun w => ?_
  · simp [Op.operands, Call.operands, flatO, hx, hy, h1, h2, flat, flat1]
  · simp [execOp, resolve, invoke, builtin, Builtin.max_, Builtin.max2, evO, hx, hy]
    split <;> omega
theorem aval_min (hx : t x = .int k m) (hy : t y = .int k n) (h1 : x < N) (h2 : y < N) :
    aval P t H (.gen N ⟨d, .call ⟨.builtin .min, #[.tmp x, .tmp y], #[T, U]⟩, ty, pos, af, g⟩) = some (.int k (min m n)) := by
  refine aval_gen ?_ rfl fun w => ?_
  · simp [Op.operands, Call.operands, flatO, hx, hy, h1, h2, flat, flat1]
  · simp [execOp, resolve, invoke, builtin, Builtin.min_, Builtin.min2, evO, hx, hy]
    split <;> omega
end

@[simp ↓] theorem roundQ_normal {n : Nat} {R : Value → Heap → Prop} {s : St} : roundQ n R .normal s = ∃ r, s.H.get n = .loop r ∧ R (.bool true) (s.H.set n (.loop { r with state := .ready, pending := none })) := rfl
@[simp ↓] theorem roundQ_ret {n : Nat} {R : Value → Heap → Prop} {s : St} : roundQ n R .ret s = ∃ r, s.H.get n = .loop r ∧ R (.bool false) (s.H.set n (.loop { r with state := .done, pending := some .ret })) := rfl
@[simp ↓] theorem roundQ_exit {n i : Nat} {R : Value → Heap → Prop} {s : St} : roundQ n R (.exit i) s = ∃ r, s.H.get n = .loop r ∧ R (.bool false) (s.H.set n (.loop { r with state := .done, pending := some (.exit i) })) := rfl

end Go.Ab

/-
  Part 26 of a calculus of abstract memory: slices of one's own that grow; arrays that are values.
-/
namespace Go.Ab

/-- An element of an array that is a value. -/
def idxV (agg : Bool) (len sz : Nat) : Value → Value → Option Value
  | .agg xs, .int _ n => if 0 ≤ n ∧ n < len then (if agg then some (.agg (xs.extract (n.toNat * sz) (n.toNat * sz + sz))) else xs[n.toNat * sz]?) else none
  | _, _ => none
@[simp] theorem aval_idx {P : Program} {t : Nat → Value} {H : Heap} {agg : Bool} {len sz : Nat} {x i : Opd} : aval P t H (.idx agg len sz x i) = idxV agg len sz (x.ev t) (i.ev t) := rfl
theorem idxV_at {len : Nat} {xs : Array Value} {k : IntKind} {i : Nat} (h : i < len) : idxV false len 1 (.agg xs) (.int k i) = xs[i]? := by
  simp only [idxV]
  rw [if_pos ⟨by omega, by omega⟩]
  simp

/-- A slice of one's own, of single cells. -/
def OwnSl (H : Heap) (lo : Nat) (v : Value) (cs : List Value) : Prop :=
  (v = .slice none 0 0 ∧ cs = []) ∨ ∃ n cap c, v = .slice (some ⟨n, 0, none⟩) cs.length cap ∧ lo ≤ n ∧ n < H.next ∧ H.get n = .cells true cs c ∧ cs.length ≤ cap ∧ cap ≤ c

/-- The name of a slice. -/
def slName : Value → Option Nat
  | .slice (some a) _ _ => some a.block
  | _ => none

section
variable {H A B : Heap} {lo : Nat} {v : Value} {cs : List Value}

theorem OwnSl.ge (h : OwnSl A lo v cs) (g : Ge A B) : OwnSl B lo v cs := by
  rcases h with h | ⟨n, cap, c, h1, h2, h3, h4, h5, h6⟩
  · exact .inl h
  · exact .inr ⟨n, cap, c, h1, h2, Nat.lt_of_lt_of_le h3 g.next, g.got h3 h4, h5, h6⟩

/-- Where a name is left alone. -/
theorem OwnSl.keep (h : OwnSl A lo v cs) (hn : A.next ≤ B.next) (hk : ∀ n, slName v = some n → B.get n = A.get n) : OwnSl B lo v cs := by
  rcases h with h | ⟨n, cap, c, h1, h2, h3, h4, h5, h6⟩
  · exact .inl h
  · exact .inr ⟨n, cap, c, h1, h2, Nat.lt_of_lt_of_le h3 hn, by rw [hk n (by rw [h1]; rfl)]; exact h4, h5, h6⟩

theorem OwnSl.names (h : OwnSl A lo v cs) {n : Nat} (hn : slName v = some n) : lo ≤ n ∧ n < A.next := by
  rcases h with ⟨rfl, _⟩ | ⟨m, cap, c, rfl, h2, h3, _⟩
  · cases hn
  · simp [slName] at hn; subst hn; exact ⟨h2, h3⟩

theorem OwnSl.slr (h : OwnSl A lo v cs) : SlR A 1 v cs.length cs := by
  rcases h with ⟨rfl, rfl⟩ | ⟨n, cap, c, rfl, h2, h3, h4, h5, h6⟩
  · exact ⟨rfl, fun a n c e => by cases e⟩
  · refine ⟨?_, ?_⟩
    · simp only [slCells, h4]
      simp [rdL]
    · intro a n' c' e; simp at e; rw [← e.1]; exact h3
theorem OwnSl.lenV (h : OwnSl A lo v cs) : lenV v = some (.int .i64 cs.length) := h.slr.lenV
theorem OwnSl.one (h : OwnSl A lo v cs) : one v = true := by
  rcases h with ⟨rfl, rfl⟩ | ⟨n, cap, c, rfl, _⟩ <;> rfl

/-- One value more. -/
theorem fapp_own' {x y : Value} {bytes n nx : Nat} {R : Value → Heap → Prop} (h : OwnSl A lo v cs) (hy : slCells A 1 y = some (1, [x])) (hx : Go.Ab.one x = true) (hlen : cs.length ≤ 2 ^ 20) (hb : bytes ≤ 48)
    (hlo : lo ≤ n) (hnx : n < nx)
    (K : ∀ u B, OwnSl B lo u (cs ++ [x]) → slName u = some n → B.next = nx → (∀ m, m ≠ n → slName v ≠ some m → B.get m = A.get m) → R u B) : @fapp (baseOf A 1 v) (slCells A 1 y) 1 bytes A n nx ⟨R⟩ := by
  have hsz : (4 * (cs.length + 1) + 4096) * bytes ≤ 2 ^ 48 := by
    have : (4 * (cs.length + 1) + 4096) * bytes ≤ (4 * (2 ^ 20 + 1) + 4096) * 48 := Nat.mul_le_mul (by omega) hb
    omega
  rcases h with ⟨rfl, rfl⟩ | ⟨m, cap, c, rfl, h2, h3, h4, h5, h6⟩
  · refine fapp_intro (len := 0) (cs := []) (old := none) (cap := 0) rfl hy (by omega) (by simp [hx]) hsz ?_
    intro cap' hcap
    refine K _ _ (.inr ⟨n, cap', cap', ?_, by omega, ?_, ?_, ?_, Nat.le_refl _⟩) rfl rfl ?_
    · simp
    · simpa [appHeap] using hnx
    · simp [appHeap]
    · simp; omega
    · intro m hm _; simp [appHeap, hm]
  · refine fapp_intro (len := cs.length) (cs := cs) (old := some m) (cap := cap) ?_ hy (by omega) (by simp [hx]) hsz ?_
    · simp [baseOf, h4, h5, h6]
    intro cap' hcap
    refine K _ _ (.inr ⟨n, cap', cap', ?_, by omega, ?_, ?_, ?_, Nat.le_refl _⟩) rfl rfl ?_
    · simp
    · simpa [appHeap] using hnx
    · simp [appHeap]
    · simp; omega
    · intro p hp hq
      have : p ≠ m := fun e => hq (by rw [e]; rfl)
      simp [appHeap, hp, this]
theorem fapp_own {x y : Value} {bytes n nx : Nat} {R : Value → Heap → Prop} (h : OwnSl A lo v cs) (hy : slCells A 1 y = some (1, [x])) (hx : Go.Ab.one x = true) (hlen : cs.length ≤ 2 ^ 20) (hb : bytes ≤ 48)
    (hn : A.next ≤ n) (hnx : n < nx) (hlo : lo ≤ A.next)
    (K : ∀ u B, OwnSl B lo u (cs ++ [x]) → slName u = some n → B.next = nx → (∀ m, m ≠ n → slName v ≠ some m → B.get m = A.get m) → R u B) : @fapp (baseOf A 1 v) (slCells A 1 y) 1 bytes A n nx ⟨R⟩ :=
  fapp_own' h hy hx hlen hb (by omega) hnx K
end

/-- A slice of one cell that was just made. -/
theorem slCells_new {H : Heap} {n c : Nat} {x : Value} {rw : Bool} (h : H.get n = .cells rw [x] c) {cap : Nat} : slCells H 1 (.slice (some ⟨n, 0, none⟩) 1 cap) = some (1, [x]) := by
  simp [slCells, h]

/-- Is a slice nil? -/
def isnV (neg : Bool) : Value → Option Value
  | .slice a _ _ => some (.bool (if neg then a.isSome else a.isNone))
  | _ => none
@[simp] theorem isnV_slice {neg : Bool} {a : Option Addr} {n c : Nat} : isnV neg (.slice a n c) = some (.bool (if neg then a.isSome else a.isNone)) := rfl
/-- A lookup, by the map's value. -/
noncomputable def lkpH (P : Program) (T : TypeId) (z : Value) (H : Heap) (k : Value) : Value → Option Value
  | .map (some n) => match H.get n with
    | .map es _ => lkpV P T z k es
    | _ => none
  | _ => none
theorem lkpH_at {P : Program} {T : TypeId} {z k : Value} {H : Heap} {n : Nat} {es : List (Value × Value × Nat)} {c : Nat} (h : H.get n = .map es c) : lkpH P T z H k (.map (some n)) = lkpV P T z k es := by simp [lkpH, h]
/-- A map's update. -/
noncomputable def mupH (P : Program) (T : TypeId) (H : Heap) (k v : Value) : Value → Option Heap
  | .map (some n) => match H.get n with
    | .map es clock => if flat k = true ∧ (es.map (·.1)).all flat = true ∧ keyV P T k (es.map (·.1)) = some none then some (H.set n (.map (es ++ [(k, v, clock)]) (clock + 1))) else none
    | _ => none
  | _ => none
theorem mupH_at {P : Program} {T : TypeId} {k v : Value} {H : Heap} {n : Nat} {es : List (Value × Value × Nat)} {c : Nat} (h : H.get n = .map es c) (h1 : flat k = true) (h2 : (es.map (·.1)).all flat = true) (h3 : keyV P T k (es.map (·.1)) = some none) :
    mupH P T H k v (.map (some n)) = some (H.set n (.map (es ++ [(k, v, c)]) (c + 1))) := by
  simp only [mupH, h]; rw [if_pos ⟨h1, h2, h3⟩]

theorem keyV_of {P : Program} {T : TypeId} {k : Value} {keys : List Value} {r : Option Nat}
    (h : ∀ (w : World) (es : List MapEntry), es.map (·.key) = keys → (∀ b, (Instr.checkKey b 10000 T k).run P w = .ok () w) ∧ (Instr.findKey T k es).run P w = .ok (r.bind fun i => es[i]?.map fun e => (i, e.val)) w) (hr : ∀ i, r = some i → i < keys.length) :
    keyV P T k keys = some r := by
  have hx : ∃ r : Option Nat, (∀ i, r = some i → i < keys.length) ∧ ∀ (w : World) (es : List MapEntry), es.map (·.key) = keys → (∀ b, (Instr.checkKey b 10000 T k).run P w = .ok () w) ∧ (Instr.findKey T k es).run P w = .ok (r.bind fun i => es[i]?.map fun e => (i, e.val)) w := ⟨r, hr, h⟩
  unfold keyV
  rw [dif_pos hx]
  congr 1
  have e1 : (keys.map fun k => ({ key := k, val := .bool true, born := 0 } : MapEntry)).map (·.key) = keys := by simp [Function.comp_def]
  have h1 := (hx.choose_spec.2 default _ e1).2
  have hlt := hx.choose_spec.1
  have h2 := (h default _ e1).2
  rw [h1] at h2
  simp only [Result.ok.injEq, and_true] at h2
  generalize hx.choose = r' at h2 hlt
  cases r with
  | none =>
    cases r' with
    | none => rfl
    | some j =>
      have hj := hlt j rfl
      simp [hj] at h2
  | some i =>
    have hi := hr i rfl
    cases r' with
    | none => simp [hi] at h2
    | some j =>
      have hj := hlt j rfl
      simp [hi, hj] at h2
      rw [h2]

section
variable {P : Program} {t : Nat → Value} {dd : List Nat} {H : Heap} {K : St → Prop} {base i : Nat} {ch : Bool} {lo : List Nat} {rest : List DStep} {recs : Recs}
@[simp] theorem aval_isn {neg : Bool} {x : Opd} : aval P t H (.isn neg x) = isnV neg (x.ev t) := rfl
@[simp] theorem aval_lkp {T : TypeId} {z : Value} {x k : Opd} : aval P t H (.lkp T z x k) = lkpH P T z H (k.ev t) (x.ev t) := by
  simp only [aval, lkpH]; rfl
@[simp ↓] theorem vopers_isn {d : Nat} {neg : Bool} {x : Opd} {l : List AOper} : vopers P (⟨some d, .isn neg x, none⟩ :: l) ⟨t, dd, H⟩ K = @oval _ (isnV neg (x.ev t)) ⟨fun v => vopers P l ⟨upd t d v, dd, H⟩ K⟩ := rfl
@[simp ↓] theorem vdraw_isn {d : Nat} {neg : Bool} {x : Opd} : vdraw P base (⟨⟨some d, .isn neg x, none⟩, i, ch, lo⟩ :: rest) recs ⟨t, dd, H⟩ K = @oval _ (isnV neg (x.ev t)) ⟨fun v => vdraw P base rest ((i, fun H => aval P t H (.isn neg x) = some v) :: recs) ⟨upd t d v, dd, H⟩ K⟩ := rfl
@[simp ↓] theorem vopers_lkp {d : Nat} {T : TypeId} {z : Value} {x k : Opd} {l : List AOper} : vopers P (⟨some d, .lkp T z x k, none⟩ :: l) ⟨t, dd, H⟩ K = @oval _ (lkpH P T z H (k.ev t) (x.ev t)) ⟨fun v => vopers P l ⟨upd t d v, dd, H⟩ K⟩ := by
  rw [← aval_lkp (P := P)]; rfl
@[simp ↓] theorem vdraw_lkp {d : Nat} {T : TypeId} {z : Value} {x k : Opd} : vdraw P base (⟨⟨some d, .lkp T z x k, none⟩, i, ch, lo⟩ :: rest) recs ⟨t, dd, H⟩ K = @oval _ (lkpH P T z H (k.ev t) (x.ev t)) ⟨fun v => vdraw P base rest ((i, fun H => aval P t H (.lkp T z x k) = some v) :: recs) ⟨upd t d v, dd, H⟩ K⟩ := by
  rw [← aval_lkp (P := P)]; rfl
theorem astore_mup {T : TypeId} {x k v : Opd} : astore P t H (.mup T x k v) = mupH P T H (k.ev t) (v.ev t) (x.ev t) := by
  simp only [astore, mupH]; rfl
@[simp ↓] theorem vopers_mup {T : TypeId} {x k v : Opd} {l : List AOper} : vopers P (⟨none, .mup T x k v, none⟩ :: l) ⟨t, dd, H⟩ K = @oval _ (mupH P T H (k.ev t) (v.ev t) (x.ev t)) ⟨fun H' => vopers P l ⟨t, dd, H'⟩ K⟩ := by
  rw [← astore_mup (P := P)]; rfl
@[simp ↓] theorem vdraw_mup {T : TypeId} {x k v : Opd} : vdraw P base (⟨⟨none, .mup T x k v, none⟩, i, ch, lo⟩ :: rest) recs ⟨t, dd, H⟩ K = @oval _ (mupH P T H (k.ev t) (v.ev t) (x.ev t)) ⟨fun H' => @fand (stabs recs lo H') ⟨vdraw P base rest recs ⟨t, dd, H'⟩ K⟩⟩ := by
  rw [← astore_mup (P := P)]; rfl
end

end Go.Ab

/-
  Part 27 of a calculus of abstract memory: slices of one's own, of elements of several cells.
-/
namespace Go.Ab

def OwnS (H : Heap) (lo sz : Nat) (v : Value) (len : Nat) (cs : List Value) : Prop :=
  (v = .slice none 0 0 ∧ len = 0 ∧ cs = []) ∨ ∃ n cap c, v = .slice (some ⟨n, 0, none⟩) len cap ∧ lo ≤ n ∧ n < H.next ∧ H.get n = .cells true cs c ∧ len * sz = cs.length ∧ len ≤ cap ∧ cap * sz ≤ c

section
variable {H A B : Heap} {lo sz len : Nat} {v : Value} {cs : List Value}

theorem OwnS.keep (h : OwnS A lo sz v len cs) (hn : A.next ≤ B.next) (hk : ∀ n, slName v = some n → B.get n = A.get n) : OwnS B lo sz v len cs := by
  rcases h with h | ⟨n, cap, c, h1, h2, h3, h4, h5⟩
  · exact .inl h
  · exact .inr ⟨n, cap, c, h1, h2, Nat.lt_of_lt_of_le h3 hn, by rw [hk n (by rw [h1]; rfl)]; exact h4, h5⟩
theorem OwnS.ge (h : OwnS A lo sz v len cs) (g : Ge A B) : OwnS B lo sz v len cs := by
  rcases h with h | ⟨n, cap, c, h1, h2, h3, h4, h5⟩
  · exact .inl h
  · exact .inr ⟨n, cap, c, h1, h2, Nat.lt_of_lt_of_le h3 g.next, g.got h3 h4, h5⟩
theorem OwnS.names (h : OwnS A lo sz v len cs) {n : Nat} (hn : slName v = some n) : lo ≤ n ∧ n < A.next := by
  rcases h with ⟨rfl, _⟩ | ⟨m, cap, c, rfl, h2, h3, _⟩
  · cases hn
  · simp [slName] at hn; subst hn; exact ⟨h2, h3⟩
theorem OwnS.slr (h : OwnS A lo sz v len cs) : SlR A sz v len cs := by
  rcases h with ⟨rfl, rfl, rfl⟩ | ⟨n, cap, c, rfl, h2, h3, h4, h5, h6⟩
  · exact ⟨rfl, fun a n c e => by cases e⟩
  · refine ⟨?_, ?_⟩
    · simp only [slCells, h4]
      simp [rdL, h5]
    · intro a n' c e; simp at e; rw [← e.1]; exact h3
theorem OwnS.one (h : OwnS A lo sz v len cs) : one v = true := by
  rcases h with ⟨rfl, _⟩ | ⟨n, cap, c, rfl, _⟩ <;> rfl

/-- One element more. -/
theorem fapp_ownS' {xs : List Value} {y : Value} {bytes n nx : Nat} {R : Value → Heap → Prop} (h : OwnS A lo sz v len cs) (hy : slCells A sz y = some (1, xs)) (hxs : xs.length = sz) (hx : xs.all one = true) (hlen : len ≤ 2 ^ 20) (hb : bytes ≤ 48)
    (hlo : lo ≤ n) (hnx : n < nx)
    (K : ∀ u B, OwnS B lo sz u (len + 1) (cs ++ xs) → slName u = some n → B.next = nx → (∀ m, m ≠ n → slName v ≠ some m → B.get m = A.get m) → R u B) : @fapp (baseOf A sz v) (slCells A sz y) sz bytes A n nx ⟨R⟩ := by
  have hsz : (4 * (len + 1) + 4096) * bytes ≤ 2 ^ 48 := by
    have : (4 * (len + 1) + 4096) * bytes ≤ (4 * (2 ^ 20 + 1) + 4096) * 48 := Nat.mul_le_mul (by omega) hb
    omega
  rcases h with ⟨rfl, rfl, rfl⟩ | ⟨m, cap, c, rfl, h2, h3, h4, h5, h6, h7⟩
  · refine fapp_intro (len := 0) (cs := []) (old := none) (cap := 0) rfl hy (by omega) (by simpa using hx) hsz ?_
    intro cap' hcap
    refine K _ _ (.inr ⟨n, cap', cap' * sz, ?_, by omega, ?_, ?_, ?_, by omega, Nat.le_refl _⟩) rfl rfl ?_
    · simp
    · simpa [appHeap] using hnx
    · simp [appHeap]
    · simp [hxs]
    · intro m hm _; simp [appHeap, hm]
  · refine fapp_intro (len := len) (cs := cs) (old := some m) (cap := cap) ?_ hy (by omega) (by simpa using hx) hsz ?_
    · simp [baseOf, h4, h5, h6, h7]
    intro cap' hcap
    refine K _ _ (.inr ⟨n, cap', cap' * sz, ?_, by omega, ?_, ?_, ?_, by omega, Nat.le_refl _⟩) rfl rfl ?_
    · simp
    · simpa [appHeap] using hnx
    · simp [appHeap]
    · simp [hxs, ← h5, Nat.succ_mul]
    · intro p hp hq
      have : p ≠ m := fun e => hq (by rw [e]; rfl)
      simp [appHeap, hp, this]
theorem fapp_ownS {xs : List Value} {y : Value} {bytes n nx : Nat} {R : Value → Heap → Prop} (h : OwnS A lo sz v len cs) (hy : slCells A sz y = some (1, xs)) (hxs : xs.length = sz) (hx : xs.all one = true) (hlen : len ≤ 2 ^ 20) (hb : bytes ≤ 48)
    (hn : A.next ≤ n) (hnx : n < nx) (hlo : lo ≤ A.next)
    (K : ∀ u B, OwnS B lo sz u (len + 1) (cs ++ xs) → slName u = some n → B.next = nx → (∀ m, m ≠ n → slName v ≠ some m → B.get m = A.get m) → R u B) : @fapp (baseOf A sz v) (slCells A sz y) sz bytes A n nx ⟨R⟩ :=
  fapp_ownS' h hy hxs hx hlen hb (by omega) hnx K
end

end Go.Ab
