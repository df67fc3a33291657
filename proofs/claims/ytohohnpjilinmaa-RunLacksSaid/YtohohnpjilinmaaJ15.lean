/-
  Joined texts of a calculus of abstract memory, and of contracts of the program's functions.
-/
import Derived.Test.YtohohnpjilinmaaJ14
import Derived.Deep.Slices
import Derived.OpenShut
import Derived.Carry
/-
  Part 28 of a calculus of abstract memory: the memory that a statement's arguments lie in, as a heap of names: a name for each place of each block.
-/
namespace Go.Ab
open Go.RowKit Go.Deep

def objSize : Obj → Nat
  | .cells a _ _ => a.size
  | _ => 0
def capM (hp : Array Obj) : Nat := (hp.toList.map objSize).sum

theorem le_sum : ∀ {l : List Nat} {x : Nat}, x ∈ l → x ≤ l.sum
  | y :: l, x, h => by
    rcases List.mem_cons.1 h with rfl | h
    · simp
    · have := le_sum h; simp; omega
theorem le_capM {hp : Array Obj} {b : Nat} {arr : Array Value} {el : TypeId} {fr : Nat × Nat} (h : hp[b]? = some (.cells arr el fr)) : arr.size ≤ capM hp := by
  have hm : Obj.cells arr el fr ∈ hp.toList := by
    obtain ⟨h1, h2⟩ := Array.getElem?_eq_some_iff.1 h
    rw [← h2]; simp
  exact le_sum (List.mem_map.2 ⟨_, hm, rfl⟩)

abbrev voidV : Value := .slice (some ⟨0, 0, some 0⟩) 0 0

/-- What stands for one of the machine's values. -/
def absV (S : Nat) : Value → Value
  | .slice (some a) len cap => if cap = 0 then voidV else .slice (some ⟨a.off * S + a.block, 0, none⟩) len cap
  | v => v

def goodV (S M : Nat) : Value → Bool
  | .bool _ | .int _ _ | .string _ | .pointer none | .slice none 0 0 => true
  | .slice (some a) len cap => if cap = 0 then len == 0 else a.spot.isNone && decide (a.block < S) && decide (a.off ≤ M)
  | _ => false

def absO (hp : Array Obj) (n : Nat) : AObj :=
  match hp[n % hp.size]? with
  | some (.cells arr _ _) => if n / hp.size ≤ arr.size then .cells false (((arr.toList.drop (n / hp.size)).takeWhile (goodV hp.size (capM hp))).map (absV hp.size)) ((arr.toList.drop (n / hp.size)).takeWhile (goodV hp.size (capM hp))).length else .gone
  | _ => .gone

def absH (hp : Array Obj) : Heap := { get := fun n => if n < hp.size * (capM hp + 1) then absO hp n else .gone, next := hp.size * (capM hp + 1) + 1 }
def absB (hp : Array Obj) : Places := fun n => if n < hp.size * (capM hp + 1) then some ⟨n % hp.size, n / hp.size⟩ else none

theorem name_lt {S M o b : Nat} (ho : o ≤ M) (hb : b < S) : o * S + b < S * (M + 1) := by
  have : o * S ≤ M * S := Nat.mul_le_mul_right _ ho
  rw [Nat.mul_succ, Nat.mul_comm S M]; omega
theorem name_mod {S o b : Nat} (hb : b < S) : (o * S + b) % S = b := by
  rw [Nat.add_comm, Nat.add_mul_mod_self_right, Nat.mod_eq_of_lt hb]
theorem name_div {S o b : Nat} (hb : b < S) : (o * S + b) / S = o := by
  rw [Nat.add_comm, Nat.add_mul_div_right _ _ (by omega), Nat.div_eq_of_lt hb]; omega

theorem good_VR {hp : Array Obj} {v : Value} (h : goodV hp.size (capM hp) v = true) : VR (absB hp) (absV hp.size v) v := by
  cases v with
  | bool b => exact .bool b
  | int k n => exact .int k n
  | string s => exact .string s
  | pointer a => cases a with
    | none => exact .pnil
    | some a => simp [goodV] at h
  | slice a len cap => cases a with
    | none =>
      unfold goodV at h
      split at h <;> simp_all
      exact .snil
    | some a =>
      obtain ⟨b, o, s⟩ := a
      simp only [goodV] at h
      by_cases hc : cap = 0
      · subst hc
        simp at h
        subst h
        simp only [absV, if_true]
        exact .void _
      · simp only [hc, if_false, Bool.and_eq_true, decide_eq_true_eq, Option.isNone_iff_eq_none] at h
        obtain ⟨⟨rfl, h1⟩, h2⟩ := h
        simp only [absV, hc, if_false]
        have hp1 : absB hp (o * hp.size + b) = some ⟨b, o⟩ := by
          simp only [absB, if_pos (name_lt h2 h1), name_mod h1, name_div h1]
        have := VR.slice (off := 0) (len := len) (cap := cap) hp1
        simpa using this
  | _ => simp [goodV] at h

theorem good_VL {hp : Array Obj} : ∀ {vs : List Value}, (∀ v ∈ vs, goodV hp.size (capM hp) v = true) → VL (absB hp) (vs.map (absV hp.size)) vs
  | [], _ => trivial
  | v :: _vs, h => ⟨good_VR (h v (List.mem_cons_self)), good_VL fun u hu => h u (List.mem_cons_of_mem _ hu)⟩

theorem takeWhile_take {α : Type} {p : α → Bool} (l : List α) : l.take (l.takeWhile p).length = l.takeWhile p := by
  induction l with
  | nil => rfl
  | cons x l ih =>
    simp only [List.takeWhile_cons]
    split
    · simp [ih]
    · simp

theorem abs_WR (hp : Array Obj) : WR (absB hp) (absH hp) hp where
  obj n l hn := by
    unfold absB at hn
    split at hn
    · rename_i hlt
      cases hn
      simp only [absH, if_pos hlt, absO]
      split
      · rename_i arr el fr he
        split
        · rename_i hle
          refine ⟨by simp, arr, el, fr, he, ?_, by simp, ?_⟩
          · have := (List.takeWhile_prefix (p := goodV hp.size (capM hp)) (l := arr.toList.drop (n / hp.size))).length_le
            simp at this
            show n / hp.size + _ ≤ _
            omega
          · rw [List.length_map]
            show VL _ _ ((arr.toList.drop (n / hp.size)).take _)
            rw [takeWhile_take]
            refine good_VL fun v hv => ?_
            have := List.all_takeWhile (p := goodV hp.size (capM hp)) (l := arr.toList.drop (n / hp.size))
            exact List.all_eq_true.1 this v hv
        · trivial
      · trivial
    · cases hn
  apart n m k l hn hm ho := by
    have : ((absH hp).get n).owns = false := by
      simp only [absH]
      split
      · unfold absO; split
        · split <;> rfl
        · rfl
      · rfl
    rw [this] at ho; cases ho
  fresh n hn := by
    simp only [absH] at hn
    simp only [absB]
    rw [if_neg (by omega)]
  clean n hn := by
    simp only [absH] at hn
    simp only [absH]
    rw [if_neg (by omega)]

theorem abs_owns (hp : Array Obj) (n : Nat) : ((absH hp).get n).owns = false := by
  simp only [absH]
  split
  · unfold absO; split
    · split <;> rfl
    · rfl
  · rfl

/-- A row of cells that are good. -/
theorem abs_row {w : World} {a : Addr} {vs : List Value} (h0 : vs ≠ []) (hc : ∀ i (h : i < vs.length), w.cell? (a.add i) = some vs[i]) (hg : ∀ v ∈ vs, goodV w.heap.size (capM w.heap) v = true) :
    a.spot = none ∧ a.block < w.heap.size ∧ a.off ≤ capM w.heap ∧ ∃ ds c, (absH w.heap).get (a.off * w.heap.size + a.block) = .cells false ds c ∧ vs.length ≤ ds.length ∧ ds.take vs.length = vs.map (absV w.heap.size) := by
  have hpos : 0 < vs.length := List.length_pos_iff.2 h0
  obtain ⟨b, o, s⟩ := a
  have hfirst := hc 0 hpos
  simp only [Addr.add, if_true] at hfirst
  unfold World.cell? at hfirst
  simp only at hfirst
  split at hfirst
  case h_2 => cases hfirst
  rename_i arr el fr he
  split at hfirst
  · cases hfirst
  rename_i hs
  have hs' : s = none := by simpa using hs
  subst hs'
  have hb : b < w.heap.size := (Array.getElem?_eq_some_iff.1 he).1
  have hall : ∀ i (h : i < vs.length), arr[o + i]? = some vs[i] := by
    intro i hi
    have := hc i hi
    by_cases hi0 : i = 0
    · subst hi0; simpa using hfirst
    · simp only [Addr.add, hi0, if_false] at this
      unfold World.cell? at this
      simp only [he] at this
      simpa using this
  have ho : o < arr.size := by
    have := hall 0 hpos
    exact (Array.getElem?_eq_some_iff.1 (by simpa using this)).1
  have hM := le_capM he
  refine ⟨rfl, hb, by simp only; omega, ?_⟩
  have hpre : (arr.toList.drop o).take vs.length = vs := by
    have hlast := hall (vs.length - 1) (by omega)
    have hl := (Array.getElem?_eq_some_iff.1 hlast).1
    apply List.ext_getElem
    · simp; omega
    · intro i h1 h2
      simp only [List.getElem_take, List.getElem_drop]
      have := hall i h2
      obtain ⟨h3, h4⟩ := Array.getElem?_eq_some_iff.1 this
      simpa using h4
  have htw : vs <+: (arr.toList.drop o).takeWhile (goodV w.heap.size (capM w.heap)) := by
    have e : arr.toList.drop o = vs ++ (arr.toList.drop o).drop vs.length := by
      conv => lhs; rw [← List.take_append_drop vs.length (arr.toList.drop o), hpre]
    rw [e, List.takeWhile_append_of_pos hg]
    exact List.prefix_append _ _
  refine ⟨((arr.toList.drop o).takeWhile (goodV w.heap.size (capM w.heap))).map (absV w.heap.size), ((arr.toList.drop o).takeWhile (goodV w.heap.size (capM w.heap))).length, ?_, ?_, ?_⟩
  · simp only [absH, if_pos (name_lt (by omega : o ≤ capM w.heap) hb), absO, name_mod hb, name_div hb, he]
    rw [if_pos (by omega)]
  · simpa using htw.length_le
  · rw [← List.map_take]
    congr 1
    exact (List.prefix_iff_eq_take.1 htw).symm

theorem abs_next (hp : Array Obj) : 0 < (absH hp).next := by simp [absH]

/-- A slice whose cells are good. -/
theorem abs_SlR {w : World} {a : Addr} {len cap sz : Nat} {vs : List Value} (hsz : 0 < sz) (hl : len ≤ cap) (hv : vs.length = cap * sz) (hc : ∀ i (h : i < vs.length), w.cell? (a.add i) = some vs[i]) (hg : ∀ v ∈ vs, goodV w.heap.size (capM w.heap) v = true) :
    goodV w.heap.size (capM w.heap) (.slice (some a) len cap) = true ∧ SlR (absH w.heap) sz (absV w.heap.size (.slice (some a) len cap)) len ((vs.take (len * sz)).map (absV w.heap.size)) := by
  by_cases h0 : cap = 0
  · subst h0
    have : len = 0 := by omega
    subst this
    refine ⟨by simp [goodV], ?_⟩
    simp only [absV, if_true, Nat.zero_mul, List.take_zero, List.map_nil]
    refine ⟨rfl, fun b n c e => ?_⟩
    cases e
    exact abs_next _
  · have hne : vs ≠ [] := by
      intro e
      rw [e] at hv
      have := Nat.mul_pos (Nat.pos_of_ne_zero h0) hsz
      simp at hv
      omega
    obtain ⟨h1, h2, h3, ds, c, h4, h5, h6⟩ := abs_row hne hc hg
    refine ⟨by simp [goodV, h0, h1, h2, h3], ?_⟩
    simp only [absV, h0, if_false]
    have hle : len * sz ≤ vs.length := by rw [hv]; exact Nat.mul_le_mul_right _ hl
    refine ⟨?_, fun b n c e => ?_⟩
    · simp only [slCells, h4, rdL, List.drop_zero]
      rw [if_pos (by omega)]
      simp only [Option.map_some, Option.some.injEq, Prod.mk.injEq, true_and]
      rw [List.map_take, ← h6, List.take_take, Nat.min_eq_left hle]
    · cases e
      have := name_lt h3 h2
      simp only [absH]
      omega

end Go.Ab

/-
  Part 29 of a calculus of abstract memory: arguments that read as data are slices of the heap of names; what a law's contract gives of its call.
-/
namespace Go.Ab
open Go.RowKit Go.Deep Go.ChangeShapes Go.WideShapes

section
variable {H : Type} {enc : TypeId × Value → H} {P : Program} {w : World} {held : Bool} {α : Type}

/-- Rows of one length, laid end to end. -/
theorem flat_length {k : Nat} : ∀ {css : List (List Value)}, (∀ c ∈ css, c.length = k) → css.flatten.length = css.length * k
  | [], _ => by simp
  | c :: css, h => by
    simp only [List.flatten_cons, List.length_append, List.length_cons]
    rw [flat_length fun c hc => h c (List.mem_cons_of_mem _ hc), h c (List.mem_cons_self), Nat.succ_mul, Nat.add_comm]
theorem flat_get {k : Nat} : ∀ {css : List (List Value)}, (∀ c ∈ css, c.length = k) → ∀ (q r : Nat), r < k → css.flatten[q * k + r]? = (css[q]?).bind (·[r]?)
  | [], _, q, r, _ => by simp
  | c :: css, h, 0, r, hr => by
    have := h c (List.mem_cons_self)
    simp [List.getElem?_append_left (by omega : r < c.length)]
  | c :: css, h, q + 1, r, hr => by
    have h1 := h c (List.mem_cons_self)
    have := flat_get (fun c hc => h c (List.mem_cons_of_mem _ hc)) q r hr
    rw [List.flatten_cons, List.getElem?_append_right (by rw [h1, Nat.succ_mul]; omega), h1]
    have e : (q + 1) * k + r - k = q * k + r := by rw [Nat.succ_mul]; omega
    rw [e, this]
    simp
theorem flat_take {k : Nat} : ∀ {css : List (List Value)}, (∀ c ∈ css, c.length = k) → ∀ n, css.flatten.take (n * k) = (css.take n).flatten
  | [], _, n => by simp
  | c :: css, h, 0 => by simp
  | c :: css, h, n + 1 => by
    have h1 := h c (List.mem_cons_self)
    rw [List.take_succ_cons, List.flatten_cons, List.flatten_cons, ← flat_take (fun c hc => h c (List.mem_cons_of_mem _ hc)) n]
    rw [List.take_append, h1, List.take_of_length_le (by rw [h1, Nat.succ_mul]; omega), Nat.succ_mul, Nat.add_sub_cancel]

theorem flat_split {S : Nat} {f : α → List Value} {Q : α → Prop} : ∀ {css : List (List Value)}, (∀ c ∈ css, ∃ x, c.map (absV S) = f x ∧ Q x) → ∃ xs : List α, xs.length = css.length ∧ css.flatten.map (absV S) = xs.flatMap f ∧ ∀ x ∈ xs, Q x
  | [], _ => ⟨[], rfl, rfl, by simp⟩
  | c :: css, h => by
    obtain ⟨x, h1, h2⟩ := h c (List.mem_cons_self)
    obtain ⟨xs, h3, h4, h5⟩ := flat_split (css := css) fun c hc => h c (List.mem_cons_of_mem _ hc)
    refine ⟨x :: xs, by simp [h3], ?_, ?_⟩
    · simp only [List.flatten_cons, List.map_append, List.flatMap_cons, h1, h4]
    · intro y hy
      rcases List.mem_cons.1 hy with rfl | hy
      · exact h2
      · exact h5 y hy

/-- A slice that reads as data, its elements by what is known of them. -/
theorem read_slice {t e : TypeId} {fuel : Nat} {v : Value} {x : DataW H × List MemPlace} {f : α → List Value} {Q : α → Prop} (ht : P.underlying t = some (.slice e)) (hsz : 0 < P.cellsOf e)
    (he : ∀ n cs y, DataW.trod enc P w 0 (fun _ => true) held n e cs = some y → (∀ u ∈ cs, goodV w.heap.size (capM w.heap) u = true) ∧ ∃ x, cs.map (absV w.heap.size) = f x ∧ Q x)
    (h : DataW.trod enc P w 0 (fun _ => true) held fuel t [v] = some x) :
    goodV w.heap.size (capM w.heap) v = true ∧ ∃ xs : List α, SlR (absH w.heap) (P.cellsOf e) (absV w.heap.size v) xs.length (xs.flatMap f) ∧ xs.length ≤ maxLen ∧ ∀ x ∈ xs, Q x := by
  rcases open_slice ht h with ⟨hv, _⟩ | ⟨a, len, cap, m, n, D, Pl, hv, _, hl, hm, hmm, _, hx⟩
  · simp only [List.cons.injEq, and_true] at hv
    subst hv
    exact ⟨rfl, [], ⟨rfl, fun a n c e => by cases e⟩, Nat.zero_le _, by simp⟩
  · simp only [List.cons.injEq, and_true] at hv
    subst hv
    simp only [if_true] at hmm
    subst hmm
    obtain ⟨C, hC⟩ := choose_lt (α := List Value) hx
    have hlen : ∀ c ∈ (List.range m).map C, c.length = P.cellsOf e := by
      intro c hc
      obtain ⟨i, hi, rfl⟩ := List.mem_map.1 hc
      obtain ⟨_, h2, _⟩ := World.cells?_some (hC i (List.mem_range.1 hi)).1
      exact h2
    have hfl : ((List.range m).map C).flatten.length = m * P.cellsOf e := by
      have := flat_length hlen
      rwa [List.length_map, List.length_range] at this
    have hg : ∀ u ∈ ((List.range m).map C).flatten, goodV w.heap.size (capM w.heap) u = true := by
      intro u hu
      obtain ⟨c, hc, huc⟩ := List.mem_flatten.1 hu
      obtain ⟨i, hi, rfl⟩ := List.mem_map.1 hc
      exact (he _ _ _ (hC i (List.mem_range.1 hi)).2).1 u huc
    have hcell : ∀ i (hi : i < ((List.range m).map C).flatten.length), w.cell? (a.add i) = some ((List.range m).map C).flatten[i] := by
      intro i hi
      have hi' : i < m * P.cellsOf e := by rw [← hfl]; exact hi
      have hq : i / P.cellsOf e < m := Nat.div_lt_of_lt_mul (by rw [Nat.mul_comm]; exact hi')
      have hr : i % P.cellsOf e < P.cellsOf e := Nat.mod_lt _ hsz
      have hi2 : i / P.cellsOf e * P.cellsOf e + i % P.cellsOf e = i := by rw [Nat.mul_comm]; exact Nat.div_add_mod i _
      obtain ⟨_, h2, h3⟩ := World.cells?_some (hC _ hq).1
      have h4 := h3 _ hr
      rw [Deep.add_add, hi2] at h4
      have h5 := flat_get hlen (i / P.cellsOf e) _ hr
      rw [hi2] at h5
      rw [h4, ← List.getElem?_eq_getElem hi, h5]
      simp [hq]
    obtain ⟨k1, k2⟩ := abs_SlR (w := w) (a := a) (len := len) (cap := m) hsz hl hfl hcell hg
    refine ⟨k1, ?_⟩
    rw [flat_take hlen] at k2
    obtain ⟨xs, h6, h7, h8⟩ := flat_split (S := w.heap.size) (f := f) (Q := Q) (css := ((List.range m).map C).take len) (fun c hc => by
      obtain ⟨i, hi, rfl⟩ := List.mem_map.1 (List.mem_of_mem_take hc)
      exact (he _ _ _ (hC i (List.mem_range.1 hi)).2).2)
    have hxl : xs.length = len := by rw [h6]; simp; omega
    refine ⟨xs, ?_, by omega, h8⟩
    rw [← h7, hxl]
    exact k2

theorem read_int {t : TypeId} {k : IntKind} (ht : P.underlying t = some (.int k)) {n : Nat} {cs : List Value} {y : DataW H × List MemPlace} (h : DataW.trod enc P w 0 (fun _ => true) held n t cs = some y) :
    (∀ u ∈ cs, goodV w.heap.size (capM w.heap) u = true) ∧ ∃ x : Int, cs.map (absV w.heap.size) = [.int k x] ∧ (Lit.int k x).wf = true := by
  obtain ⟨z, rfl, _, hw⟩ := DataW.trod_int ht h
  exact ⟨by simp [goodV], z, rfl, hw⟩

theorem read_ints {t e : TypeId} {k : IntKind} {fuel : Nat} {v : Value} {x : DataW H × List MemPlace} (ht : P.underlying t = some (.slice e)) (he : P.underlying e = some (.int k)) (hc : P.cellsOf e = 1) (h : DataW.trod enc P w 0 (fun _ => true) held fuel t [v] = some x) :
    goodV w.heap.size (capM w.heap) v = true ∧ ∃ xs : List Int, SlR (absH w.heap) 1 (absV w.heap.size v) xs.length (xs.map (.int k)) ∧ xs.length ≤ maxLen ∧ ∀ x ∈ xs, (Lit.int k x).wf = true := by
  obtain ⟨h1, xs, h2, h3⟩ := read_slice (α := Int) (f := fun x => [.int k x]) (Q := fun x => (Lit.int k x).wf = true) ht (by omega) (fun n cs y hy => read_int he hy) h
  refine ⟨h1, xs, ?_, h3⟩
  rw [hc] at h2
  have : xs.flatMap (fun x => [Value.int k x]) = xs.map (.int k) := by
    clear h2 h3
    induction xs with
    | nil => rfl
    | cons x xs ih => simp [ih]
  rw [← this]; exact h2

/-- A law's contract, in the machine. -/
theorem law_calls {f : FuncId} {args : Array Value} {vs : List Value} (hA : AFun P f vs (absH w.heap) (fun v _ => v = .bool true)) (hv : VL (absB w.heap) vs args.toList) :
    Calls P f args w fun e w' => e = .returned (.bool true) ∧ Below w.heap.size w w' := by
  have h := callsIn_wide.1 (hA.2 _ w args.toList (abs_WR w.heap) hv)
  rw [Array.toArray_toList] at h
  refine h.mono fun e w' he => ?_
  cases e with
  | returned u =>
    obtain ⟨v, H', β', rfl, h1, _, h2⟩ := he
    rw [h1.of_bool]
    exact ⟨rfl, h2.below (abs_owns _)⟩
  | _ => exact he.elim

theorem trodAll_stays {W W' : World} {sp : Nat → Bool} (hl : laidOutB P = true) (hb : Below W.heap.size W W') : ∀ {ts : List TypeId} {vs : List Value} {ds : List (DataW H)} {ps : List MemPlace}, (∀ t ∈ ts, P.readableRec t = true ∧ t < P.types.size) →
    DataW.TrodAll enc P W 0 (fun _ => true) true ts vs ds ps → (∀ x ∈ ps, x.block < W.heap.size) → (∀ x ∈ ps, sp x.block = true) → DataW.TrodAll enc P W' 0 sp true ts vs ds ps
  | [], [], [], _, _, h, _, _ => h
  | t :: ts, v :: vs, d :: ds, _, ht, ⟨p, q, h1, h2, e⟩, hlt, hs => by
    subst e
    refine ⟨p, q, WideElems.Trod_stays hl (ht t (List.mem_cons_self)).1 (ht t (List.mem_cons_self)).2 h1 (fun x hx => hb.same (hlt x (List.mem_append_left _ hx))) (fun x hx => hs x (List.mem_append_left _ hx)), ?_, rfl⟩
    exact trodAll_stays hl hb (fun t ht' => ht t (List.mem_cons_of_mem _ ht')) h2 (fun x hx => hlt x (List.mem_append_right _ hx)) (fun x hx => hs x (List.mem_append_right _ hx))

/-- What the statement of a law asks behind the call. -/
theorem post_true {fn : Func} {s : ChangeSpec} {W W' : World} {args : Array Value} {ds gs : List (DataW H)} {before : List MemPlace} (hl : laidOutB P = true) (hr : ∀ t ∈ fn.params.toList, P.readableRec t = true ∧ t < P.types.size) {tb : TypeId} (hres : fn.resultTypes = #[tb]) (hb : P.underlying tb = some .bool) (hvars : s.vars = [])
    (hW : DataW.Whole enc P fn.params.toList s.vars false W args.toList ds gs before) (hs : s.fn H (ds ++ gs) = { results := [.lit (.bool true)], args := ds }) (hB : Below W.heap.size W W') : s.post enc P fn false true false false W args (.bool true) W' := by
  have hlt := fun p (hp : p ∈ before) => hW.lt p hp
  have hW' := hW
  obtain ⟨p, q, hA, hV, rfl, _, _⟩ := hW
  rw [hvars] at hV
  have hq : q = [] ∧ gs = [] := by
    cases gs with
    | nil => exact ⟨hV, rfl⟩
    | cons _ _ => exact hV.elim
  obtain ⟨rfl, rfl⟩ := hq
  refine ⟨ds, [], p ++ [], [], p, [], hW', ?_, ?_, ?_, hB.frame _, fun h => by cases h⟩
  · rw [hs, hres]
    exact ⟨[], [], shut_bool hb true, rfl, rfl⟩
  · rw [hs]
    refine trodAll_stays hl hB hr hA (fun x hx => hlt x (by simpa using hx)) (fun x hx => ?_)
    have := hlt x (by simpa using hx)
    simpa using this
  · rw [hs, hvars]
    rfl
end

end Go.Ab
