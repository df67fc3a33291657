/-
  Joined texts of a calculus of abstract memory, of the program's code in it, and of contracts.
-/
import Derived.Test.YtjbbcpeidnkjlaaDoorJ6
import Derived.Test.YtjbbcpeidnkjlaaDoorJ9
import Derived.Tactics
import Derived.Tactics2
import Derived.Laws.StructEq
import Derived.KernelRfl
import Derived.Test.YtjbbcpeidnkjlaaDoorChecked
namespace Go.Proofs.YtjbbcpeidnkjlaaDoor
open Go Go.Ab

theorem RowsOf.atAll {α : Type} {R : Heap → Value → α → Prop} {H : Heap} {v : Value} {xs : List α} (h : RowsOf R H v xs) {i : Nat} (hi : i < xs.length) : ∃ p u, islV 1 v (.int .i64 i) = some p ∧ (∀ A, Ge H A → ldV A false 1 p = some u) ∧ R H u xs[i] := by
  obtain ⟨vs, h1, h2, h3⟩ := h
  obtain ⟨u, h4, h5⟩ := h3 i hi
  obtain ⟨p, h6, h7⟩ := h1.at1 (k := .i64) hi
  refine ⟨p, u, h6, fun A g => ?_, h5⟩
  obtain ⟨p', h8, h9⟩ := (h1.ge g).at1 (k := .i64) hi
  rw [h6] at h8; cases h8
  exact h9.trans h4

def Dy.rel (D : Dy) (b n : Nat) : Rl := ((D.blocks[b]?).bind fun x => x[n]?).getD ⟨0, 0, 0⟩
def kAt (K : List (List (Int × Int))) (b n : Nat) : Int × Int := ((K[b]?).bind fun x => x[n]?).getD (0, 0)
def Dy.has (D : Dy) (b n : Nat) : Prop := ∃ x, D.blocks[b]? = some x ∧ n < x.length
structure KOk (D : Dy) (K : List (List (Int × Int))) : Prop where
  spots : ∀ b n, D.has b n → ∃ x, K[b]? = some x ∧ n < x.length
  bound : ∀ x ∈ K, ∀ y ∈ x, (0 ≤ y.1 ∧ y.1 ≤ 3000) ∧ (0 ≤ y.2 ∧ y.2 ≤ 3000)

abbrev spotV (b n : Nat) : Value := .agg #[.int .i64 b, .int .i64 n]

theorem KOk.at {D : Dy} {K : List (List (Int × Int))} (h : KOk D K) {b n : Nat} (hs : D.has b n) : (0 ≤ (kAt K b n).1 ∧ (kAt K b n).1 ≤ 3000) ∧ (0 ≤ (kAt K b n).2 ∧ (kAt K b n).2 ≤ 3000) := by
  obtain ⟨x, h1, h2⟩ := h.spots b n hs
  have : kAt K b n = x[n] := by simp [kAt, h1, h2]
  rw [this]
  exact h.bound x (List.mem_of_getElem? h1) _ (List.getElem_mem h2)
theorem known0_ok {D : Dy} (hV : Valid D) : KOk D (known0 D) := by
  refine ⟨?_, ?_⟩
  · rintro b n ⟨x, h1, h2⟩
    exact ⟨x.map fun r => (r.lo, r.hi), by simp [known0, h1], by simpa using h2⟩
  · intro x hx y hy
    simp only [known0, List.mem_map] at hx
    obtain ⟨z, hz, rfl⟩ := hx
    simp only [List.mem_map] at hy
    obtain ⟨r, hr, rfl⟩ := hy
    have := hV.rel hz hr
    simp only
    omega
theorem rel_valid {D : Dy} (hV : Valid D) {b n : Nat} (hs : D.has b n) : 0 ≤ (D.rel b n).place ∧ (D.rel b n).place.toNat < D.walk.length ∧ 0 ≤ (D.rel b n).lo ∧ (D.rel b n).lo ≤ (D.rel b n).hi ∧ (D.rel b n).hi ≤ 3000 := by
  obtain ⟨x, h1, h2⟩ := hs
  have : D.rel b n = x[n] := by simp [Dy.rel, h1, h2]
  rw [this]
  exact hV.rel (List.mem_of_getElem? h1) (List.getElem_mem h2)

section
variable {D : Dy} {K : List (List (Int × Int))} {b w s k q : Value} {H : Heap}

theorem relief_spec {x y : Nat} (h : PlanAt H b w s k q D K) (hs : D.has x y) : AFun Tryd.prog 126 [planV D b w s k q, spotV x y] H (fun r B => r = (D.rel x y).val ∧ Ge H B) := by
  refine AFun.mk ok126 hm (Nat.le_of_ble_eq_true rfl) ?_
  obtain ⟨bl, h1, h2⟩ := hs
  obtain ⟨hx, rfl⟩ := List.getElem?_eq_some_iff.1 h1
  have g1 : Ge H ({ get := (((H.new (.cells true (planV D b w s k q).cells.toList 13)).new (.cells true (spotV x y).cells.toList 2)).new (.cells true [.int .i64 0, .int .i64 0, .int .i64 0] 3)).get, next := H.next + 15 } : Heap) := Ge.grow_le (by omega) (((Ge.new _ _).newOf _).newOf _)
  obtain ⟨p, u, e1, e2, e3⟩ := h.day.blocks.atGe g1 hx
  obtain ⟨n, o, f1, f2, f3, _⟩ := e3.at h2
  simp [Value.cells] at e2
  have n0 : n ≠ H.next := by omega
  have n1 : ∀ j, n ≠ H.next + j := fun j => by omega
  have hrel : D.rel x y = D.blocks[x][y] := by simp [Dy.rel, hx, h2]
  rw [hrel]
  simp [a126, r126, Value.cells, e1, e2, f1, f3, n0, n1, Rl.val]
  exact Ge.setNew (Ge.grow_le (by omega) (((Ge.new _ _).newOf _).newOf _)) (by omega) _

theorem minute_spec {x y : Nat} {e : Int} (h : PlanAt H b w s k q D K) (hK : KOk D K) (hs : D.has x y) (he : e = 0 ∨ e = 1) : AFun Tryd.prog 111 [planV D b w s k q, spotV x y, .int .i64 e] H (fun r B => r = .int .i64 (if e = 0 then (kAt K x y).1 else (kAt K x y).2) ∧ Ge H B) := by
  refine AFun.mk ok111 hm (Nat.le_of_ble_eq_true rfl) ?_
  obtain ⟨row, h1, h2⟩ := hK.spots x y hs
  obtain ⟨hx, rfl⟩ := List.getElem?_eq_some_iff.1 h1
  have g1 : Ge H ({ get := ((H.new (.cells true (planV D b w s k q).cells.toList 13)).new (.cells true (spotV x y).cells.toList 2)).get, next := H.next + 15 } : Heap) := Ge.grow_le (by omega) ((Ge.new _ _).newOf _)
  obtain ⟨p, u, e1, e2, e3⟩ := h.known.atGe g1 hx
  obtain ⟨n, o, f1, f2, _, f4, f5⟩ := EndsAt.at e3 h2
  simp [Value.cells] at e2
  have n0 : n ≠ H.next := by omega
  have n1 : ∀ j, n ≠ H.next + j := fun j => by omega
  have hk : kAt K x y = K[x][y] := by simp [kAt, hx, h2]
  rw [hk]
  rcases he with rfl | rfl
  · have i0 : iarV 2 1 (.pointer (some ⟨n, o, none⟩)) (.int .i64 0) = some (.pointer (some ⟨n, o, none⟩)) := by rw [iarV_in (by omega) (by omega)]; simp
    simp [a111, r111, Value.cells, e1, e2, f1, i0, f4, n0, n1]
    exact Ge.grow_le (by omega) ((Ge.new _ _).newOf _)
  · have i0 : iarV 2 1 (.pointer (some ⟨n, o, none⟩)) (.int .i64 1) = some (.pointer (some ⟨n, o + 1, none⟩)) := by rw [iarV_in (by omega) (by omega)]; simp
    simp [a111, r111, Value.cells, e1, e2, f1, i0, f5, n0, n1]
    exact Ge.grow_le (by omega) ((Ge.new _ _).newOf _)

theorem lasts_spec {x y x' y' : Nat} (h : PlanAt H b w s k q D K) (hK : KOk D K) (hs : D.has x y) (hs' : D.has x' y') : AFun Tryd.prog 113 [planV D b w s k q, spotV x y, spotV x' y'] H (fun r B => r = .int .i64 ((kAt K x' y').2 - (kAt K x y).1) ∧ Ge H B) := by
  refine AFun.mk ok113 hm (Nat.le_of_ble_eq_true rfl) ?_
  have b1 := hK.at hs
  have b2 := hK.at hs'
  simp [a113, r113, Value.cells]
  refine fcall_fun (minute_spec (e := 1) (h.ge (Ge.grow_le (by omega) (((Ge.new _ _).newOf _).newOf _))) hK hs' (.inr rfl)) ?_
  rintro _ H1 ⟨rfl, g1⟩
  have n1 := g1.next
  have k0 := g1.got (n := H.next) (by simp) rfl
  have k1 := g1.got (n := H.next + 1) (by simp) rfl
  have k2 := g1.got (n := H.next + 2) (by simp) rfl
  have G1 : Ge H H1 := Ge.trans (Ge.grow_le (by omega) (((Ge.new _ _).newOf _).newOf _)) g1
  simp at k0 k1 k2 n1
  simp [k0, k1]
  refine fcall_fun (minute_spec (e := 0) (h.ge G1) hK hs (.inl rfl)) ?_
  rintro _ H2 ⟨rfl, g2⟩
  simp
  rw [sub_in (by omega) (by omega)]
  simp [G1.trans g2]

theorem walk_at {D : Dy} (hV : Valid D) {x y x' y' : Nat} (hs : D.has x y) (hs' : D.has x' y') : ∃ row, D.walk[(D.rel x y).place.toNat]? = some row ∧ (D.rel x' y').place.toNat < row.length := by
  have h1 := rel_valid hV hs
  have h2 := rel_valid hV hs'
  have hr := (hV.row _ (List.getElem_mem h1.2.1)).1
  exact ⟨_, List.getElem?_eq_getElem h1.2.1, by omega⟩
def Dy.walkOf (D : Dy) (x y x' y' : Nat) : Int := ((D.walk[(D.rel x y).place.toNat]?).bind fun r => r[(D.rel x' y').place.toNat]?).getD 0
theorem walkOf_bound {D : Dy} (hV : Valid D) {x y x' y' : Nat} (hs : D.has x y) (hs' : D.has x' y') : 0 ≤ D.walkOf x y x' y' ∧ D.walkOf x y x' y' ≤ 3000 := by
  obtain ⟨row, h1, h2⟩ := walk_at hV hs hs'
  have : D.walkOf x y x' y' = row[(D.rel x' y').place.toNat] := by simp [Dy.walkOf, h1, h2]
  rw [this]
  exact (hV.row row (List.mem_of_getElem? h1)).2 _ (List.getElem_mem h2)

theorem walkOf_spec {x y x' y' : Nat} (h : PlanAt H b w s k q D K) (hV : Valid D) (hs : D.has x y) (hs' : D.has x' y') : AFun Tryd.prog 112 [planV D b w s k q, spotV x y, spotV x' y'] H (fun r B => r = .int .i64 (D.walkOf x y x' y') ∧ Ge H B) := by
  refine AFun.mk ok112 hm (Nat.le_of_ble_eq_true rfl) ?_
  obtain ⟨row, h1, h2⟩ := walk_at hV hs hs'
  obtain ⟨hx, rfl⟩ := List.getElem?_eq_some_iff.1 h1
  have p1 := rel_valid hV hs
  have p2 := rel_valid hV hs'
  have hwk : D.walkOf x y x' y' = D.walk[(D.rel x y).place.toNat][(D.rel x' y').place.toNat] := by simp [Dy.walkOf, hx, h2]
  rw [hwk]
  simp [a112, r112, Value.cells]
  refine fcall_fun (relief_spec (h.ge (Ge.grow_le (by omega) (((Ge.new _ _).newOf _).newOf _))) hs) ?_
  rintro _ H1 ⟨rfl, g1⟩
  have n1 := g1.next
  have k0 := g1.got (n := H.next) (by simp) rfl
  have k1 := g1.got (n := H.next + 1) (by simp) rfl
  have k2 := g1.got (n := H.next + 2) (by simp) rfl
  have G1 : Ge H H1 := Ge.trans (Ge.grow_le (by omega) (((Ge.new _ _).newOf _).newOf _)) g1
  simp at k0 k1 k2 n1
  obtain ⟨p, u, e1, e2, e3⟩ := h.day.walk.atAll hx
  have hpl : (((D.rel x y).place.toNat : Nat) : Int) = (D.rel x y).place := by omega
  have hpl2 : (((D.rel x' y').place.toNat : Nat) : Int) = (D.rel x' y').place := by omega
  rw [hpl] at e1
  have e21 := e2 H1 G1
  simp [k0, k2, Rl.val, e1, e21]
  refine fcall_fun (relief_spec (h.ge G1) hs') ?_
  rintro _ H2 ⟨rfl, g2⟩
  obtain ⟨p', f1, f2⟩ := (e3.ge (G1.trans g2)).at h2
  rw [hpl2] at f1
  have e2' := e2 H2 (G1.trans g2)
  have k02 := g2.got (n := H.next) (by omega) k0
  simp [Rl.val, k02, e1, e2', f1, f2, G1.trans g2]
end

end Go.Proofs.YtjbbcpeidnkjlaaDoor


namespace Go.Proofs.YtjbbcpeidnkjlaaDoor
open Go Go.Ab

noncomputable def eqKs (ks : List Nat) : List Value → List Value → Option Bool :=
  List.rec (motive := fun _ => List Value → List Value → Option Bool)
    (fun xs ys => List.rec (motive := fun _ => Option Bool) (List.rec (motive := fun _ => Option Bool) (some true) (fun _ _ _ => none) ys) (fun _ _ _ => none) xs)
    (fun k _ ih xs ys => List.rec (motive := fun _ => Option Bool) none (fun x xs _ => List.rec (motive := fun _ => Option Bool) none (fun y ys _ =>
      Option.rec (motive := fun _ => Option Bool) none (fun p => Option.rec (motive := fun _ => Option Bool) none (fun q =>
        Bool.rec (motive := fun _ => Option Bool) none (Option.rec (motive := fun _ => Option Bool) none (fun b => Bool.rec (motive := fun _ => Option Bool) (some false) (some b) (eqZ p.2 q.2)) (ih xs ys)) (Nat.beq (kIx p.1) k && Nat.beq (kIx q.1) k)) (dInt y)) (dInt x)) ys) xs) ks
noncomputable def eqFst (k : Nat) (xs ys : List Value) (all : Option Bool) : Option Bool :=
  List.rec (motive := fun _ => Option Bool) none (fun x _ _ => List.rec (motive := fun _ => Option Bool) none (fun y _ _ => Option.rec (motive := fun _ => Option Bool) none (fun p => Option.rec (motive := fun _ => Option Bool) none (fun q =>
    Bool.rec (motive := fun _ => Option Bool) none (Bool.rec (motive := fun _ => Option Bool) (some false) all (eqZ p.2 q.2)) (Nat.beq (kIx p.1) k && Nat.beq (kIx q.1) k)) (dInt y)) (dInt x)) ys) xs
noncomputable def eo : EqO := fun T xs ys => Bool.rec (motive := fun _ => Option Bool) (Bool.rec (motive := fun _ => Option Bool) none (eqFst 7 xs ys (eqKs [7, 3, 3, 3, 3] xs ys)) (Nat.beq T 149)) (eqFst 3 xs ys (eqKs [3, 3] xs ys)) (Nat.beq T 147)

def kOf (n : Nat) : IntKind := match n with | 0 => .i8 | 1 => .i16 | 2 => .i32 | 3 => .i64 | 4 => .u8 | 5 => .u16 | 6 => .u32 | _ => .u64
theorem kIx_of {j : IntKind} {n : Nat} (h : Nat.beq (kIx j) n = true) : j = kOf n := by
  have := Nat.eq_of_beq_eq_true h
  subst this
  cases j <;> rfl
theorem eqKs_nil {xs ys : List Value} {b : Bool} (h : eqKs [] xs ys = some b) : xs = [] ∧ ys = [] ∧ b = true := by
  cases xs with
  | nil => cases ys with
    | nil => cases h; exact ⟨rfl, rfl, rfl⟩
    | cons _ _ => cases h
  | cons _ _ => cases h
theorem eqKs_cons {k : Nat} {ks : List Nat} {xs ys : List Value} {b : Bool} (h : eqKs (k :: ks) xs ys = some b) : ∃ a c xs' ys' b', xs = .int (kOf k) a :: xs' ∧ ys = .int (kOf k) c :: ys' ∧ eqKs ks xs' ys' = some b' ∧ b = (a == c && b') := by
  cases xs with
  | nil => cases h
  | cons x xs => cases ys with
    | nil => cases h
    | cons y ys =>
      have h' : Option.rec (motive := fun _ => Option Bool) none (fun p => Option.rec (motive := fun _ => Option Bool) none (fun q =>
        Bool.rec (motive := fun _ => Option Bool) none (Option.rec (motive := fun _ => Option Bool) none (fun b => Bool.rec (motive := fun _ => Option Bool) (some false) (some b) (eqZ p.2 q.2)) (eqKs ks xs ys)) (Nat.beq (kIx p.1) k && Nat.beq (kIx q.1) k)) (dInt y)) (dInt x) = some b := h
      clear h
      cases h1 : dInt x with
      | none => rw [h1] at h'; cases h'
      | some p => cases h2 : dInt y with
        | none => rw [h1, h2] at h'; cases h'
        | some q =>
          rw [h1, h2] at h'
          simp only at h'
          cases hc : (Nat.beq (kIx p.1) k && Nat.beq (kIx q.1) k) with
          | false => rw [hc] at h'; cases h'
          | true =>
            rw [hc] at h'
            simp only at h'
            rw [Bool.and_eq_true] at hc
            cases h3 : eqKs ks xs ys with
            | none => rw [h3] at h'; cases h'
            | some b' =>
              rw [h3] at h'
              simp only at h'
              obtain ⟨k1, a⟩ := p
              obtain ⟨k2, c⟩ := q
              have e1 := kIx_of hc.1
              have e2 := kIx_of hc.2
              simp only at e1 e2 h'
              subst e1; subst e2
              refine ⟨a, c, xs, ys, b', by rw [dInt_ok h1], by rw [dInt_ok h2], h3, ?_⟩
              rw [eqZ_eq] at h'
              by_cases e : a = c
              · rw [decide_eq_true e] at h'
                rw [beq_iff_eq.2 e]
                exact (Option.some.inj h').symm
              · rw [decide_eq_false e] at h'
                have : (a == c) = false := by simpa using e
                rw [this]
                exact (Option.some.inj h').symm
theorem eqFst_ok {k : Nat} {xs ys : List Value} {all : Option Bool} {b : Bool} (h : eqFst k xs ys all = some b) : ∃ a c xs' ys', xs = .int (kOf k) a :: xs' ∧ ys = .int (kOf k) c :: ys' ∧ ((a ≠ c ∧ b = false) ∨ (a = c ∧ all = some b)) := by
  cases xs with
  | nil => cases h
  | cons x xs => cases ys with
    | nil => cases h
    | cons y ys =>
      have h' : Option.rec (motive := fun _ => Option Bool) none (fun p => Option.rec (motive := fun _ => Option Bool) none (fun q =>
        Bool.rec (motive := fun _ => Option Bool) none (Bool.rec (motive := fun _ => Option Bool) (some false) all (eqZ p.2 q.2)) (Nat.beq (kIx p.1) k && Nat.beq (kIx q.1) k)) (dInt y)) (dInt x) = some b := h
      clear h
      cases h1 : dInt x with
      | none => rw [h1] at h'; cases h'
      | some p => cases h2 : dInt y with
        | none => rw [h1, h2] at h'; cases h'
        | some q =>
          rw [h1, h2] at h'
          simp only at h'
          cases hc : (Nat.beq (kIx p.1) k && Nat.beq (kIx q.1) k) with
          | false => rw [hc] at h'; cases h'
          | true =>
            rw [hc] at h'
            simp only at h'
            rw [Bool.and_eq_true] at hc
            obtain ⟨k1, a⟩ := p
            obtain ⟨k2, c⟩ := q
            have e1 := kIx_of hc.1
            have e2 := kIx_of hc.2
            simp only at e1 e2 h'
            subst e1; subst e2
            refine ⟨a, c, xs, ys, by rw [dInt_ok h1], by rw [dInt_ok h2], ?_⟩
            rw [eqZ_eq] at h'
            by_cases e : a = c
            · rw [decide_eq_true e] at h'
              exact .inr ⟨e, h'⟩
            · rw [decide_eq_false e] at h'
              exact .inl ⟨e, (Option.some.inj h').symm⟩

theorem run_eq147 (n : Nat) (a b c d : Int) (w : World) : (Op.equalIn (n + 2) 147 (.agg ⟨[.int .i64 a, .int .i64 b]⟩) (.agg ⟨[.int .i64 c, .int .i64 d]⟩)).run Tryd.prog w = .ok (a == c && b == d) w := by
  have hS : Tryd.prog.underlying 147 = some (.struct (Tryd.prog.fieldsOf 147)) := by kernel_rfl
  rw [run_equalIn_agg w (n + 1) 147 _ _ hS (by kernel_rfl)]
  simp only [Program.fieldsOf, Tryd.underlying147]
  have ha : ∀ w, (isAgg 3).run Tryd.prog w = .ok false w := fun w => run_isAgg Tryd.underlying3 w
  have he : ∀ (a b : Int) w, (Op.equalIn (n + 1) 3 (.int .i64 a) (.int .i64 b)).run Tryd.prog w = .ok (a == b) w := fun a b w => run_equalIn_int w n 3 .i64 .i64 a b Tryd.underlying3
  simp [Op.eqFields, part, ha, he]
  by_cases h1 : a = c <;> by_cases h2 : b = d <;> simp [h1, h2]

theorem run_eq149 (n : Nat) (s a b c d s' a' b' c' d' : Int) (w : World) : (Op.equalIn (n + 3) 149 (.agg ⟨[.int .u64 s, .int .i64 a, .int .i64 b, .int .i64 c, .int .i64 d]⟩) (.agg ⟨[.int .u64 s', .int .i64 a', .int .i64 b', .int .i64 c', .int .i64 d']⟩)).run Tryd.prog w
    = .ok (s == s' && (a == a' && (b == b' && (c == c' && d == d')))) w := by
  have hS : Tryd.prog.underlying 149 = some (.struct (Tryd.prog.fieldsOf 149)) := by kernel_rfl
  rw [run_equalIn_agg w (n + 2) 149 _ _ hS (by kernel_rfl)]
  simp only [Program.fieldsOf, Tryd.underlying149]
  have ha : ∀ w, (isAgg 102).run Tryd.prog w = .ok false w := fun w => run_isAgg Tryd.underlying102 w
  have hb : ∀ w, (isAgg 147).run Tryd.prog w = .ok true w := fun w => run_isAgg Tryd.underlying147 w
  have he : ∀ (a b : Int) w, (Op.equalIn (n + 2) 102 (.int .u64 a) (.int .u64 b)).run Tryd.prog w = .ok (a == b) w := fun a b w => run_equalIn_int w (n + 1) 102 .u64 _ a b Tryd.underlying102
  have hz0 : (Tryd.prog.info? 147).map (·.size) = some 2 := by kernel_rfl
  have hz : ∀ w, (sizeOf 147).run Tryd.prog w = .ok 2 w := fun w => by
    obtain ⟨j, h1, h2⟩ := Option.map_eq_some_iff.1 hz0
    rw [Go.Ab.run_sizeOf h1, h2]
  have hq := fun a b c d w => run_eq147 n a b c d w
  simp [Op.eqFields, part, ha, hb, he, hz, hq]
  by_cases h1 : s = s' <;> by_cases h2 : a = a' <;> by_cases h3 : b = b' <;> by_cases h4 : c = c' <;> by_cases h5 : d = d' <;> simp [h1, h2, h3, h4, h5]

theorem run_ne147 (n : Nat) (a c : Int) (xs ys : List Value) (w : World) (h : a ≠ c) : (Op.equalIn (n + 2) 147 (.agg ⟨.int .i64 a :: xs⟩) (.agg ⟨.int .i64 c :: ys⟩)).run Tryd.prog w = .ok false w := by
  have hS : Tryd.prog.underlying 147 = some (.struct (Tryd.prog.fieldsOf 147)) := by kernel_rfl
  rw [run_equalIn_agg w (n + 1) 147 _ _ hS (by kernel_rfl)]
  simp only [Program.fieldsOf, Tryd.underlying147]
  have ha : ∀ w, (isAgg 3).run Tryd.prog w = .ok false w := fun w => run_isAgg Tryd.underlying3 w
  have he : ∀ (a b : Int) w, (Op.equalIn (n + 1) 3 (.int .i64 a) (.int .i64 b)).run Tryd.prog w = .ok (a == b) w := fun a b w => run_equalIn_int w n 3 .i64 .i64 a b Tryd.underlying3
  simp [Op.eqFields, part, ha, he, h]
theorem run_ne149 (n : Nat) (a c : Int) (xs ys : List Value) (w : World) (h : a ≠ c) : (Op.equalIn (n + 3) 149 (.agg ⟨.int .u64 a :: xs⟩) (.agg ⟨.int .u64 c :: ys⟩)).run Tryd.prog w = .ok false w := by
  have hS : Tryd.prog.underlying 149 = some (.struct (Tryd.prog.fieldsOf 149)) := by kernel_rfl
  rw [run_equalIn_agg w (n + 2) 149 _ _ hS (by kernel_rfl)]
  simp only [Program.fieldsOf, Tryd.underlying149]
  have ha : ∀ w, (isAgg 102).run Tryd.prog w = .ok false w := fun w => run_isAgg Tryd.underlying102 w
  have he : ∀ (a b : Int) w, (Op.equalIn (n + 2) 102 (.int .u64 a) (.int .u64 b)).run Tryd.prog w = .ok (a == b) w := fun a b w => run_equalIn_int w (n + 1) 102 .u64 _ a b Tryd.underlying102
  simp [Op.eqFields, part, ha, he, h]

theorem eoOk : EqOk Tryd.prog eo := by
  intro T xs ys b h
  unfold eo at h
  cases h1 : Nat.beq T 147 with
  | true =>
    have := Nat.eq_of_beq_eq_true h1; subst this
    rw [h1] at h
    refine ⟨by kernel_rfl, fun w => ?_⟩
    obtain ⟨a, c, xs', ys', rfl, rfl, ⟨hne, rfl⟩ | ⟨he, g⟩⟩ := eqFst_ok (show eqFst 3 xs ys (eqKs [3, 3] xs ys) = some b from h)
    · exact run_ne147 9998 a c xs' ys' w hne
    · obtain ⟨a, c, _, _, _, q1, q2, g1, rfl⟩ := eqKs_cons g
      obtain ⟨a', c', _, _, _, rfl, rfl, g2, rfl⟩ := eqKs_cons g1
      obtain ⟨rfl, rfl, rfl⟩ := eqKs_nil g2
      rw [q1, q2]
      have := run_eq147 9998 a a' c c' w
      rw [Bool.and_true]; exact this
  | false =>
    rw [h1] at h
    cases h2 : Nat.beq T 149 with
    | true =>
      have := Nat.eq_of_beq_eq_true h2; subst this
      rw [h2] at h
      refine ⟨by kernel_rfl, fun w => ?_⟩
      obtain ⟨a, c, xs', ys', rfl, rfl, ⟨hne, rfl⟩ | ⟨he, g⟩⟩ := eqFst_ok (show eqFst 7 xs ys (eqKs [7, 3, 3, 3, 3] xs ys) = some b from h)
      · exact run_ne149 9997 a c xs' ys' w hne
      · obtain ⟨a, c, _, _, _, q1, q2, g0, rfl⟩ := eqKs_cons g
        obtain ⟨a1, c1, _, _, _, rfl, rfl, g1, rfl⟩ := eqKs_cons g0
        obtain ⟨a2, c2, _, _, _, rfl, rfl, g2, rfl⟩ := eqKs_cons g1
        obtain ⟨a3, c3, _, _, _, rfl, rfl, g3, rfl⟩ := eqKs_cons g2
        obtain ⟨a4, c4, _, _, _, rfl, rfl, g4, rfl⟩ := eqKs_cons g3
        obtain ⟨rfl, rfl, rfl⟩ := eqKs_nil g4
        rw [q1, q2]
        have := run_eq149 9997 a a1 a2 a3 a4 c c1 c2 c3 c4 w
        rw [Bool.and_true]; exact this
    | false => rw [h2] at h; cases h

def gl0 : CObj := some (false, [.int .u8 0, .int .u8 1, .int .u8 28, .int .u8 2, .int .u8 29, .int .u8 14, .int .u8 24, .int .u8 3, .int .u8 30, .int .u8 22, .int .u8 20, .int .u8 15, .int .u8 25, .int .u8 17, .int .u8 4, .int .u8 8, .int .u8 31, .int .u8 27, .int .u8 13, .int .u8 23, .int .u8 21, .int .u8 19, .int .u8 16, .int .u8 7, .int .u8 26, .int .u8 12, .int .u8 18, .int .u8 6, .int .u8 11, .int .u8 5, .int .u8 10, .int .u8 9], 32)
def gl1 : CObj := some (false, [.int .u8 0, .int .u8 1, .int .u8 56, .int .u8 2, .int .u8 57, .int .u8 49, .int .u8 28, .int .u8 3, .int .u8 61, .int .u8 58, .int .u8 42, .int .u8 50, .int .u8 38, .int .u8 29, .int .u8 17, .int .u8 4, .int .u8 62, .int .u8 47, .int .u8 59, .int .u8 36, .int .u8 45, .int .u8 43, .int .u8 51, .int .u8 22, .int .u8 53, .int .u8 39, .int .u8 33, .int .u8 30, .int .u8 24, .int .u8 18, .int .u8 12, .int .u8 5, .int .u8 63, .int .u8 55, .int .u8 48, .int .u8 27, .int .u8 60, .int .u8 41, .int .u8 37, .int .u8 16, .int .u8 46, .int .u8 35, .int .u8 44, .int .u8 21, .int .u8 52, .int .u8 32, .int .u8 23, .int .u8 11, .int .u8 54, .int .u8 26, .int .u8 40, .int .u8 15, .int .u8 34, .int .u8 20, .int .u8 31, .int .u8 10, .int .u8 25, .int .u8 14, .int .u8 19, .int .u8 9, .int .u8 13, .int .u8 8, .int .u8 7, .int .u8 6], 64)
theorem mixed : Tryd.prog.follows .mixedOrders = true := by kernel_rfl

end Go.Proofs.YtjbbcpeidnkjlaaDoor


namespace Go.Proofs.YtjbbcpeidnkjlaaDoor
open Go Go.Ab

section
variable {t : Nat → Value} {H : Heap} {N x y : Nat} {d : Option Tmp} {ty U : TypeId} {pos : String} {af : Array Edge} {g : Option (Nat × Bool)}
theorem aval_eq149 {a c : Pc} (hx : t x = a.val) (hy : t y = c.val) (h1 : x < N) (h2 : y < N) :
    aval Tryd.prog t H (.gen N ⟨d, .binOp .eql 149 (.tmp x) (.tmp y) U, ty, pos, af, g⟩) = some (.bool (decide (a = c))) := by
  refine aval_gen ?_ rfl fun w => ?_
  · simp [Op.operands, flatO, hx, hy, h1, h2, flat, flat1]
  · have hg : Tryd.prog.eqGuardType Tryd.prog.depth 149 = false := by kernel_rfl
    simp only [execOp, evO, hx, hy, Sem.run_bind]
    rw [run_eqGuard_agg w .eql 149 _ _ _ _ hg]
    simp only [Result.andThen_ok, run_eql_struct]
    have := run_eq149 9997 a.s a.b a.f a.e a.t c.s c.b c.f c.e c.t w
    rw [show ((#[bitsV a.s, .int .i64 a.b, .int .i64 a.f, .int .i64 a.e, .int .i64 a.t] : Array Value)) = ⟨[.int .u64 a.s, .int .i64 a.b, .int .i64 a.f, .int .i64 a.e, .int .i64 a.t]⟩ from rfl]
    rw [show ((#[bitsV c.s, .int .i64 c.b, .int .i64 c.f, .int .i64 c.e, .int .i64 c.t] : Array Value)) = ⟨[.int .u64 c.s, .int .i64 c.b, .int .i64 c.f, .int .i64 c.e, .int .i64 c.t]⟩ from rfl, this]
    have : decide (a = c) = ((a.s : Int) == c.s && ((a.b : Int) == c.b && ((a.f : Int) == c.f && ((a.e : Int) == c.e && (a.t : Int) == c.t)))) := by
      rw [Bool.eq_iff_iff]
      simp only [decide_eq_true_eq, Bool.and_eq_true, beq_iff_eq, Int.ofNat_inj]
      constructor
      · rintro rfl; simp
      · rintro ⟨e1, e2, e3, e4, e5⟩; cases a; cases c; simp_all
    rw [this]; rfl
theorem aval_ne147 {a b a' b' : Nat} (hx : t x = spotV a b) (hy : t y = spotV a' b') (h1 : x < N) (h2 : y < N) :
    aval Tryd.prog t H (.gen N ⟨d, .binOp .neq 147 (.tmp x) (.tmp y) U, ty, pos, af, g⟩) = some (.bool (decide (¬ (a = a' ∧ b = b')))) := by
  refine aval_gen ?_ rfl fun w => ?_
  · simp [Op.operands, flatO, hx, hy, h1, h2, flat, flat1]
  · have hg : Tryd.prog.eqGuardType Tryd.prog.depth 147 = false := by kernel_rfl
    simp only [execOp, evO, hx, hy, Sem.run_bind]
    rw [run_eqGuard_agg w .neq 147 _ _ _ _ hg]
    have := run_eq147 9998 a b a' b' w
    have e0 : binOp BinOp.neq 147 (spotV a b) (spotV a' b') = (do pure (.bool (!(← Op.equal 147 (spotV a b) (spotV a' b')))) : Sem Value) := rfl
    have e1 : (Op.equal 147 (spotV a b) (spotV a' b')).run Tryd.prog w = .ok ((a : Int) == a' && (b : Int) == b') w := this
    rw [e0]
    simp only [Result.andThen_ok, Sem.run_bind, e1, Sem.run_pure]
    have e2 : decide (¬ (a = a' ∧ b = b')) = !((a : Int) == a' && (b : Int) == b') := by
      rw [Bool.eq_iff_iff]
      simp [Int.ofNat_inj]
    rw [e2]
end

def fz : Pc := ⟨0, 0, 0, 0, 0⟩
def stepF (m i : Nat) (fo x : Pc) : Option Pc :=
  if m.testBit i = false then some fo else if fo = fz then some x else if ¬ (fo.e = x.b ∧ fo.t = x.f) then none else some ⟨fo.s ||| x.s, fo.b, fo.f, x.e, x.t⟩
def firstGo (m : Nat) : List Pc → Nat → Pc → Pc
  | [], _, fo => fo
  | x :: l, i, fo => match stepF m i fo x with
    | none => fo
    | some fo' => firstGo m l (i + 1) fo'

theorem firstGo_cons {m i : Nat} {x fo : Pc} {l : List Pc} : firstGo m (x :: l) i fo = match stepF m i fo x with | none => fo | some fo' => firstGo m l (i + 1) fo' := rfl
theorem alone_get {l : List (Nat × Nat)} {i : Nat} (hi : i < (alone l).length) : (alone l)[i].s = 2 ^ i := by
  simp [alone]
theorem firstGo_lt {m n : Nat} : ∀ (l : List Pc) (i : Nat) (fo : Pc), fo.s < 2 ^ n → (∀ x ∈ l, x.s < 2 ^ n) → (firstGo m l i fo).s < 2 ^ n
  | [], _, fo, h, _ => h
  | x :: l, i, fo, h, hx => by
    unfold firstGo
    split
    · exact h
    · rename_i fo' hs
      refine firstGo_lt l (i + 1) fo' ?_ fun y hy => hx y (by simp [hy])
      unfold stepF at hs
      split at hs
      · cases hs; exact h
      · split at hs
        · cases hs; exact hx _ (by simp)
        · split at hs
          · cases hs
          · cases hs; exact Nat.or_lt_two_pow h (hx _ (by simp))

section
variable {D : Dy} {K : List (List (Int × Int))} {b w s k q : Value} {H : Heap}

theorem firstPiece_spec {m : Nat} (h : PlanAt H b w s k q D K) (hV : Valid D) (hm10 : m < 2 ^ 10) : AFun Tryd.prog 123 [planV D b w s k q, bitsV m] H (fun r B => r = (firstGo m (segPs D) 0 fz).val ∧ Ge H B) := by
  refine AFun.mk ok123 hm (Nat.le_of_ble_eq_true rfl) ?_
  have hb := h.day.blocks.one
  have hw := h.day.walk.one
  have hs := h.segs.one
  have hk := h.known.one
  have hq : one q = true := SlR.one h.quest
  have hsn : (segPs D).length = segsOf D.blocks := by rw [segPs, alone_length, spotsTo_length (Nat.le_refl _), List.take_length]
  have h10 := hV.segs
  have hm64 : m < 2 ^ 64 := Nat.lt_of_lt_of_le hm10 (by decide)
  simp [a123, r123, h.segs.lenV]
  refine floop_intro (fun z => z.d = [] ∧ Ge H z.H ∧ H.next + 2 < z.H.next ∧ z.t 1 = bitsV m ∧ z.t 4 = .pointer (some ⟨H.next + 1, 0, none⟩) ∧ z.t 5 = .pointer (some ⟨H.next + 2, 0, none⟩) ∧ z.t 9 = s ∧ z.t 10 = .int .i64 (segPs D).length ∧ z.H.get (H.next + 1) = .cells true [.int .u64 0, .int .i64 0, .int .i64 0, .int .i64 0, .int .i64 0] 5 ∧ ∃ i : Nat, i ≤ (segPs D).length ∧ z.t 11 = .int .i64 i ∧ ∃ fo : Pc, fo.s < 2 ^ 10 ∧ z.H.get (H.next + 2) = .cells true fo.cells 5 ∧ firstGo m (segPs D) 0 fz = firstGo m ((segPs D).drop i) i fo) (fun z => (segPs D).length - (intOf (z.t 11)).toNat) ?_ ?_
  · exact ⟨rfl, ((Ge.new _ _).newOf _).newOf _, by simp, by simp, by simp, by simp, by simp, by simp, by simp, 0, by simp, by simp, fz, by decide, by simp [fz, Pc.cells], by simp⟩
  rintro ⟨t, _, A⟩ ⟨rfl, g, hn, t1, t4, t5, t9, t10, kr, i, hi, t11, fo, hfo, kf, hgo⟩
  dsimp only at g hn t1 t4 t5 t9 t10 kr t11 kf
  simp [Pc.cells] at kf
  simp [t10, t11]
  refine fcond_intro (fun hc => ?_) (fun hc => ?_)
  case refine_2 =>
    have : i = (segPs D).length := by simp at hc; omega
    subst this
    rw [hgo, List.drop_of_length_le (Nat.le_refl _)]
    simp [t4, t5, kf, kr, firstGo]
    exact g.setNew (by omega) _
  have hi' : i < (segPs D).length := by simpa using hc
  obtain ⟨n, o, e1, e2, e3⟩ := (h.segs.ge g).at hi'
  have hdrop : (segPs D).drop i = (segPs D)[i] :: (segPs D).drop (i + 1) := List.drop_eq_getElem_cons hi'
  rw [hdrop] at hgo
  have hxs : (segPs D)[i].s = 2 ^ i := alone_get hi'
  generalize (segPs D)[i] = x at *
  have ne1 : H.next + 1 ≠ A.next := by omega
  have ne2 : H.next + 2 ≠ A.next := by omega
  have ne3 : A.next ≠ H.next + 2 := by omega
  simp [t9, t11, e1, e3, t1]
  refine fcall_fun (hasB_spec m i (by omega) hm64 _) ?_
  rintro _ A1 ⟨rfl, rfl⟩
  have gA : Ge H ((A.new (.cells true [.int .u64 0, .int .i64 0, .int .i64 0, .int .i64 0, .int .i64 0] 5)).set A.next (.cells true [.int .u64 x.s, .int .i64 x.b, .int .i64 x.f, .int .i64 x.e, .int .i64 x.t] 5)) := (g.newOf _).setNew (by omega) _
  have step : ∀ fo', stepF m i fo x = some fo' → firstGo m (segPs D) 0 fz = firstGo m ((segPs D).drop (i + 1)) (i + 1) fo' := fun fo' hs => by
    rw [hgo, firstGo_cons, hs]
  cases hbit : m.testBit i
  · simp [t11, add_in (x := i) (y := 1) (by omega) (by omega)]
    refine ⟨⟨gA, by omega, t1, t4, t5, t9, t10, by simp [ne1, kr], i + 1, by omega, by omega, fo, hfo, by simp [ne2, kf, Pc.cells], ?_⟩, by omega⟩
    exact step fo (by simp [stepF, hbit])
  simp [t5, ne2, kf]
  rw [aval_eq149 (a := fo) (c := fz) (by simp) (by simp [fz]) (by decide) (by decide)]
  by_cases hz : fo = fz
  · simp [hz, t5, ne2, kf, t11, add_in (x := i) (y := 1) (by omega) (by omega)]
    refine ⟨⟨gA.setNew (n := H.next + 2) (by omega) _, by omega, t1, t4, t9, t10, by simp [ne1, kr], i + 1, by omega, by omega, x, ?_, by simp [Pc.cells], ?_⟩, by omega⟩
    · rw [hxs]; show 2 ^ i < 2 ^ 10; exact Nat.pow_lt_pow_right (by omega) (by omega)
    · exact step x (by simp [stepF, hbit, hz])
  simp [hz, t5, ne2, kf]
  rw [aval_ne147 (a := fo.e) (b := fo.t) (a' := x.b) (b' := x.f) (by simp) (by simp) (by decide) (by decide)]
  by_cases hj : fo.e = x.b ∧ fo.t = x.f
  case neg =>
    have hnone : stepF m i fo x = none := by simp [stepF, hbit, hz]; simpa using hj
    rw [hgo, firstGo_cons, hnone]
    simp only [hj, not_false_eq_true, decide_true]
    simp [t4, t5, ne1, ne2, kf, kr]
    exact gA.setNew (by omega) _
  obtain ⟨hj1, hj2⟩ := hj
  simp [hj1, hj2, t5, ne2, kf]
  rw [aval_or (a := fo.s) (b := x.s) (by simp) (by simp) (by decide) (by decide) (Nat.lt_of_lt_of_le hfo (by decide)) (by rw [hxs]; exact pow_lt64 (by omega))]
  simp [t5, ne2, ne3, kf, t11, add_in (x := i) (y := 1) (by omega) (by omega)]
  refine ⟨⟨(gA.setNew (n := H.next + 2) (by omega) _).setNew (n := H.next + 2) (by omega) _, by omega, t1, t4, t9, t10, by simp [ne1, kr], i + 1, by omega, by omega, ⟨fo.s ||| x.s, fo.b, fo.f, x.e, x.t⟩, ?_, by simp [Pc.cells], ?_⟩, by omega⟩
  · exact Nat.or_lt_two_pow (n := 10) hfo (by rw [hxs]; exact Nat.pow_lt_pow_right (by omega) (by omega))
  · exact step _ (by simp [stepF, hbit, hz, hj1, hj2])
end

end Go.Proofs.YtjbbcpeidnkjlaaDoor


namespace Go.Proofs.YtjbbcpeidnkjlaaDoor
open Go Go.Ab

section
variable {α : Type}
def swapL (l : List α) (j : Nat) : List α := match l[j]?, l[j + 1]? with
  | some x, some y => (l.set (j + 1) x).set j y
  | _, _ => l
def sink (lt : α → α → Bool) (l : List α) : Nat → List α
  | 0 => l
  | j + 1 => match l[j]?, l[j + 1]? with
    | some x, some y => if lt y x then sink lt (swapL l j) j else l
    | _, _ => l
def insTo (lt : α → α → Bool) (l : List α) : Nat → List α
  | 0 => l
  | i + 1 => sink lt (insTo lt l i) i
def insSort (lt : α → α → Bool) (l : List α) : List α := insTo lt l l.length

theorem swapL_length (l : List α) (j : Nat) : (swapL l j).length = l.length := by
  unfold swapL; split <;> simp
theorem swapL_eq {l : List α} {j : Nat} (hj : j + 1 < l.length) : swapL l j = (l.set (j + 1) l[j]).set j l[j + 1] := by
  simp [swapL, (by omega : j < l.length), hj]
theorem sink_length (lt : α → α → Bool) : ∀ (j : Nat) (l : List α), (sink lt l j).length = l.length
  | 0, _ => rfl
  | j + 1, l => by
    unfold sink
    split
    · split
      · rw [sink_length lt j, swapL_length]
      · rfl
    · rfl
theorem insTo_length (lt : α → α → Bool) (l : List α) : ∀ i, (insTo lt l i).length = l.length
  | 0 => rfl
  | i + 1 => by rw [insTo, sink_length, insTo_length lt l i]
theorem swapL_mem {l : List α} {j : Nat} {x : α} (h : x ∈ swapL l j) : x ∈ l := by
  unfold swapL at h
  split at h
  · rename_i a b h1 h2
    rcases List.mem_or_eq_of_mem_set h with h | rfl
    · rcases List.mem_or_eq_of_mem_set h with h | rfl
      · exact h
      · exact List.mem_of_getElem? h1
    · exact List.mem_of_getElem? h2
  · exact h
theorem sink_mem (lt : α → α → Bool) : ∀ (j : Nat) (l : List α) {x : α}, x ∈ sink lt l j → x ∈ l
  | 0, _, _, h => h
  | j + 1, l, x, h => by
    unfold sink at h
    split at h
    · split at h
      · exact swapL_mem (sink_mem lt j _ h)
      · exact h
    · exact h
theorem insTo_mem (lt : α → α → Bool) (l : List α) : ∀ i {x : α}, x ∈ insTo lt l i → x ∈ l
  | 0, _, h => h
  | i + 1, _, h => insTo_mem lt l i (sink_mem lt i _ h)
end

theorem flat_len (l : List Pc) : (l.flatMap Pc.cells).length = l.length * 5 := by
  induction l with
  | nil => rfl
  | cons x l ih => rw [List.flatMap_cons, List.length_append, ih, List.length_cons, Nat.succ_mul, Nat.add_comm]; rfl
theorem wr_flat {l : List Pc} {j : Nat} (hj : j < l.length) (y : Pc) : wrL (l.flatMap Pc.cells) (j * 5) y.cells = (l.set j y).flatMap Pc.cells := by
  have hs : l = l.take j ++ l[j] :: l.drop (j + 1) := by rw [← List.drop_eq_getElem_cons hj, List.take_append_drop]
  have hset : l.set j y = l.take j ++ y :: l.drop (j + 1) := by rw [List.set_eq_take_append_cons_drop, if_pos hj]
  have hl : ((l.take j).flatMap Pc.cells).length = j * 5 := by rw [flat_len]; simp; omega
  rw [hset]
  conv => lhs; rw [hs]
  rw [List.flatMap_append, List.flatMap_append, List.flatMap_cons, List.flatMap_cons]
  generalize (l.take j).flatMap Pc.cells = A at hl
  unfold wrL
  have h1 : (A ++ (l[j].cells ++ (l.drop (j + 1)).flatMap Pc.cells)).take (j * 5) = A := by rw [← hl, List.take_left]
  have h2 : (A ++ (l[j].cells ++ (l.drop (j + 1)).flatMap Pc.cells)).drop (j * 5 + y.cells.length) = (l.drop (j + 1)).flatMap Pc.cells := by
    rw [← hl, ← List.drop_drop, List.drop_left]
    exact List.drop_left' rfl
  rw [h1, h2]
theorem rd_flat {l : List Pc} {j : Nat} (hj : j < l.length) : rdL (l.flatMap Pc.cells) (j * 5) 5 = some l[j].cells := by
  unfold rdL
  have : j * 5 + 5 ≤ (l.flatMap Pc.cells).length := by rw [flat_len]; omega
  rw [if_pos this, flatMap_at (f := Pc.cells) (fun _ => rfl) l j hj]

theorem st_flat {H' : Heap} {n c : Nat} {m : List Pc} {j : Nat} (hj : j < m.length) (y : Pc) : stA H' n (j * 5) 5 y.val (.cells true (m.flatMap Pc.cells) c) = some (H'.set n (.cells true ((m.set j y).flatMap Pc.cells) c)) := by
  rw [stA_cells, ← wr_flat hj]
  have : j * 5 + 5 ≤ (m.flatMap Pc.cells).length := by rw [flat_len]; omega
  rw [if_pos ⟨rfl, this, rfl⟩]
  rfl

theorem sink_stop {lt : Pc → Pc → Bool} {m : List Pc} {j : Nat} (hj : j + 1 < m.length) (h : lt m[j + 1] m[j] = false) : sink lt m (j + 1) = m := by
  simp [sink, hj, (by omega : j < m.length), h]
theorem sink_go {lt : Pc → Pc → Bool} {m : List Pc} {j : Nat} (hj : j + 1 < m.length) (h : lt m[j + 1] m[j] = true) : sink lt m (j + 1) = sink lt (swapL m j) j := by
  simp [sink, hj, (by omega : j < m.length), h]

theorem insertion_spec {A : Heap} {lo : Nat} {v cmp : Value} {l : List Pc} {key : Pc → Int}
    (hv : OwnS A lo 5 v l.length (l.flatMap Pc.cells)) (hl : l.length ≤ 16) (hk : ∀ x ∈ l, 0 ≤ key x ∧ key x ≤ 3000)
    (hcmp : ∀ B x y, A.next ≤ B.next → (∀ n, n < A.next → slName v ≠ some n → B.get n = A.get n) → x ∈ l → y ∈ l → ACall Tryd.prog cmp [x.val, y.val] B (fun r C => r = .int .i64 (key x - key y) ∧ Ge B C)) :
    AFun Tryd.prog 130 [v, .int .i64 0, .int .i64 l.length, cmp] A (fun _ B => OwnS B lo 5 v l.length ((insSort (fun x y => decide (key x < key y)) l).flatMap Pc.cells) ∧ A.next ≤ B.next ∧ ∀ n, n < A.next → slName v ≠ some n → B.get n = A.get n) := by
  refine AFun.mk ok130 hm (Nat.le_of_ble_eq_true rfl) ?_
  generalize hlt : (fun x y : Pc => decide (key x < key y)) = lt
  have hlt' : ∀ x y, lt x y = decide (key x < key y) := fun x y => by rw [← hlt]
  simp [a130, r130, add_in (x := 0) (y := 1) (by omega) (by omega)]
  refine floop_intro (fun z => z.d = [] ∧ z.t 0 = v ∧ z.t 1 = .int .i64 0 ∧ z.t 2 = .int .i64 l.length ∧ z.t 3 = cmp ∧ A.next ≤ z.H.next ∧ (∀ n, n < A.next → slName v ≠ some n → z.H.get n = A.get n) ∧ ∃ i : Nat, 1 ≤ i ∧ i ≤ max 1 l.length ∧ z.t 8 = .int .i64 i ∧ OwnS z.H lo 5 v l.length ((insTo lt l i).flatMap Pc.cells)) (fun z => l.length - (intOf (z.t 8)).toNat) ?_ ?_
  · refine ⟨rfl, by simp, by simp, by simp, by simp, by simp, fun _ _ _ => by simp, 1, by omega, by omega, by simp, ?_⟩
    simpa [insTo, sink] using hv
  rintro ⟨t, _, B⟩ ⟨rfl, t0, t1, t2, t3, hn, hkeep, i, hi1, hi2, t8, hown⟩
  dsimp only at t0 t1 t2 t3 hn hkeep t8 hown
  simp [t8, t2]
  refine fcond_intro (fun hc => ?_) (fun hc => ?_)
  case refine_2 =>
    have hle : l.length ≤ i := by simp at hc; omega
    have hfin : insSort lt l = insTo lt l i := by
      unfold insSort
      by_cases h0 : l.length = 0
      · have : l = [] := List.length_eq_zero_iff.1 h0
        subst this
        have : ∀ k, insTo lt ([] : List Pc) k = [] := fun k => List.length_eq_zero_iff.1 (by rw [insTo_length]; rfl)
        rw [this, this]
      · have : i = l.length := by omega
        rw [this]
    simp [hfin]
    exact ⟨hown, hn, hkeep⟩
  have hi' : i < l.length := by simpa using hc
  have hil : (insTo lt l i).length = l.length := insTo_length lt l i
  simp [t8]
  refine floop_intro (fun z => z.d = [] ∧ z.t 0 = v ∧ z.t 1 = .int .i64 0 ∧ z.t 2 = .int .i64 l.length ∧ z.t 3 = cmp ∧ z.t 8 = .int .i64 i ∧ A.next ≤ z.H.next ∧ (∀ n, n < A.next → slName v ≠ some n → z.H.get n = A.get n) ∧ ∃ j : Nat, j ≤ i ∧ z.t 9 = .int .i64 j ∧ ∃ m : List Pc, m.length = l.length ∧ (∀ x ∈ m, x ∈ l) ∧ sink lt m j = sink lt (insTo lt l i) i ∧ OwnS z.H lo 5 v l.length (m.flatMap Pc.cells)) (fun z => (intOf (z.t 9)).toNat) ?_ ?_
  · exact ⟨rfl, by simp [t0], by simp [t1], by simp [t2], by simp [t3], by simp [t8], hn, hkeep, i, Nat.le_refl _, by simp, insTo lt l i, hil, fun x hx => insTo_mem lt l i hx, rfl, hown⟩
  have t8o := t8
  clear t0 t1 t2 t3 hn hkeep t8 hown hc
  rintro ⟨t, _, B⟩ ⟨rfl, t0, t1, t2, t3, t8, hn, hkeep, j, hj, t9, m, hml, hmm, hsink, hown⟩
  dsimp only at t0 t1 t2 t3 t8 hn hkeep t9 hown
  have hstop : sink lt m j = m → OwnS B lo 5 v l.length ((insTo lt l (i + 1)).flatMap Pc.cells) := fun e => by
    rw [insTo, ← hsink, e]; exact hown
  by_cases hj0 : j = 0
  · have hjn : ¬ (0 : Int) < j := by omega
    have hjn2 : ¬ 0 < j := by omega
    have hs0 := hstop (by rw [hj0]; rfl)
    simp [t9, t1, hjn, hjn2, t8, add_in (x := i) (y := 1) (by omega) (by omega)]
    exact ⟨⟨t0, t2, t3, by omega, hkeep, i + 1, by omega, by omega, by simp, hs0.keep (by simp) fun _ _ => rfl⟩, by rw [t8o]; simp; omega⟩
  obtain ⟨j', rfl⟩ : ∃ j', j = j' + 1 := ⟨j - 1, by omega⟩
  rcases hown with ⟨_, h0, _⟩ | ⟨n, cap, c, rfl, h2, h3, h4, h5, h6, h7⟩
  · omega
  have i1 : islV 5 (.slice (some ⟨n, 0, none⟩) l.length cap) (.int .i64 ((j' : Int) + 1)) = some (.pointer (some ⟨n, (j' + 1) * 5, none⟩)) := by
    rw [islV_in (by omega) (by omega)]; simp
  have i0 : islV 5 (.slice (some ⟨n, 0, none⟩) l.length cap) (.int .i64 (j' : Int)) = some (.pointer (some ⟨n, j' * 5, none⟩)) := by
    rw [islV_in (by omega) (by omega)]; simp
  have hm1 : j' + 1 < m.length := by omega
  have hm0 : j' < m.length := by omega
  have l1 : ∀ B' : Heap, B'.get n = .cells true (m.flatMap Pc.cells) c → ldA (B'.get n) true 5 ((j' + 1) * 5) = some m[j' + 1].val := fun B' e => by
    rw [e, ldA_agg, rd_flat hm1]; rfl
  have l0 : ∀ B' : Heap, B'.get n = .cells true (m.flatMap Pc.cells) c → ldA (B'.get n) true 5 (j' * 5) = some m[j'].val := fun B' e => by
    rw [e, ldA_agg, rd_flat hm0]; rfl
  have b1 := hk _ (hmm _ (List.getElem_mem hm1))
  have b0 := hk _ (hmm _ (List.getElem_mem hm0))
  have hjn2 : (0 : Int) < (j' : Int) + 1 := by omega
  simp [t9, t1, hjn2, t0, t3, i1, i0, l1 B h4, l0 B h4, sub_in (x := (j' : Int) + 1) (y := 1) (by omega) (by omega)]
  refine fcall_intro ((hcmp _ m[j' + 1] m[j'] ?_ ?_ (hmm _ (List.getElem_mem hm1)) (hmm _ (List.getElem_mem hm0))).mono ?_)
  · simp; omega
  · intro k hk1 hk2; simpa using hkeep k hk1 hk2
  rintro _ C ⟨rfl, gC⟩
  have h4C : C.get n = .cells true (m.flatMap Pc.cells) c := gC.got (by simp; omega) (by simpa using h4)
  have nC := gC.next
  simp at nC
  have hkC : ∀ k, k < A.next → n ≠ k → C.get k = A.get k := fun k h1 h2 => by
    rw [gC.get k (by simp; omega)]; exact hkeep k h1 (by simpa [slName] using h2)
  by_cases hlt2 : key m[j' + 1] - key m[j'] < 0
  case neg =>
    have hs1 : sink lt m (j' + 1) = m := sink_stop hm1 (by rw [hlt']; simp; omega)
    simp [hlt2, hjn2, t8, add_in (x := i) (y := 1) (by omega) (by omega)]
    have hC : OwnS C lo 5 (.slice (some ⟨n, 0, none⟩) l.length cap) l.length ((insTo lt l (i + 1)).flatMap Pc.cells) := by
      rw [insTo, ← hsink, hs1]; exact .inr ⟨n, cap, c, rfl, h2, by omega, h4C, h5, h6, h7⟩
    exact ⟨⟨t0, t1, t2, t3, by omega, fun k h1 h2 => hkC k h1 (by simpa [slName] using h2), i + 1, by omega, by omega, by simp, hC⟩, by rw [t8o]; simp; omega⟩
  simp [hlt2, hjn2, t9, t0, i1, i0, l1 C h4C, l0 C h4C, sub_in (x := (j' : Int) + 1) (y := 1) (by omega) (by omega)]
  rw [h4C, st_flat hm1]
  simp [i0, t0, -stA_cells]
  rw [st_flat (by simp; omega)]
  have hsw : (m.set (j' + 1) m[j']).set j' m[j' + 1] = swapL m j' := (swapL_eq hm1).symm
  rw [hsw]
  simp [t9, sub_in (x := (j' : Int) + 1) (y := 1) (by omega) (by omega)]
  refine ⟨t0, t1, t2, t3, t8, by omega, fun k h1 h2 => ?_, j', by omega, rfl, swapL m j', by rw [swapL_length]; exact hml, fun x hx => hmm x (swapL_mem hx), ?_, .inr ⟨n, cap, c, rfl, h2, by simp; omega, by simp, ?_, h6, h7⟩⟩
  · have hkn : k ≠ n := fun e => h2 (by rw [e]; rfl)
    simp [hkn]
    exact hkC k h1 (Ne.symm hkn)
  · rw [← hsink, sink_go hm1]
    rw [hlt']; simp; omega
  · rw [flat_len, swapL_length, hml]

end Go.Proofs.YtjbbcpeidnkjlaaDoor


namespace Go.Proofs.YtjbbcpeidnkjlaaDoor
open Go Go.Ab

theorem stable_spec {A : Heap} {lo : Nat} {v cmp : Value} {l : List Pc} {key : Pc → Int}
    (hv : OwnS A lo 5 v l.length (l.flatMap Pc.cells)) (hl : l.length ≤ 16) (hk : ∀ x ∈ l, 0 ≤ key x ∧ key x ≤ 3000)
    (hcmp : ∀ B x y, A.next ≤ B.next → (∀ n, n < A.next → slName v ≠ some n → B.get n = A.get n) → x ∈ l → y ∈ l → ACall Tryd.prog cmp [x.val, y.val] B (fun r C => r = .int .i64 (key x - key y) ∧ Ge B C)) :
    AFun Tryd.prog 124 [v, cmp] A (fun _ B => OwnS B lo 5 v l.length ((insSort (fun x y => decide (key x < key y)) l).flatMap Pc.cells) ∧ A.next ≤ B.next ∧ ∀ n, n < A.next → slName v ≠ some n → B.get n = A.get n) := by
  refine AFun.mk ok124 hm (Nat.le_of_ble_eq_true rfl) ?_
  simp [a124, r124, hv.slr.lenV]
  refine fcall_fun (R' := fun _ B => OwnS B lo 5 v l.length ((insSort (fun x y => decide (key x < key y)) l).flatMap Pc.cells) ∧ A.next ≤ B.next ∧ ∀ n, n < A.next → slName v ≠ some n → B.get n = A.get n) ?_ ?_
  · refine AFun.mk ok129 hm (Nat.le_of_ble_eq_true rfl) ?_
    simp [a129, r129]
    refine floop_intro (fun z => z.d = [] ∧ z.H = A ∧ z.t 0 = v ∧ z.t 1 = .int .i64 l.length ∧ z.t 2 = cmp ∧ z.t 6 = .int .i64 20 ∧ z.t 7 = .int .i64 0 ∧ z.t 8 = .int .i64 20) (fun _ => 0) ?_ ?_
    · exact ⟨rfl, rfl, by simp, by simp, by simp, by simp, by simp, by simp⟩
    rintro ⟨t, _, _⟩ ⟨rfl, rfl, t0, t1, t2, t6, t7, t8⟩
    dsimp only at t0 t1 t2 t6 t7 t8 hv hcmp
    have h20 : ¬ (20 : Int) ≤ l.length := by omega
    simp [t8, t1, h20, t0, t7, t2]
    refine fcall_fun (insertion_spec hv hl hk hcmp) ?_
    rintro _ B ⟨k1, k2, k3⟩
    simp
    refine floop_intro (fun z => z.d = [] ∧ z.H = B ∧ z.t 1 = .int .i64 l.length ∧ z.t 6 = .int .i64 20) (fun _ => 0) ?_ ?_
    · exact ⟨rfl, rfl, by simp [t1], by simp [t6]⟩
    rintro ⟨t', _, _⟩ ⟨rfl, rfl, t1', t6'⟩
    dsimp only at t1' t6' k1 k2 k3
    have h20 : ¬ (20 : Int) < l.length := by omega
    simp [t1', t6', h20]
    exact ⟨k1, k2, k3⟩
  · rintro _ B ⟨k1, k2, k3⟩
    simp
    exact ⟨k1, k2, k3⟩

structure PcOk (D : Dy) (m : Nat) (p : Pc) : Prop where
  some : p.s ≠ 0
  sub : ∀ i, p.s.testBit i = true → m.testBit i = true
  same : p.e = p.b
  lt : p.f < p.t
  fst : D.has p.b p.f
  lst : D.has p.b p.t

theorem spots_has {D : Dy} {i : Nat} (hi : i < (segPs D).length) : ∃ b n, (segPs D)[i] = ⟨2 ^ i, b, n, b, n + 1⟩ ∧ D.has b n ∧ D.has b (n + 1) := by
  have hsp : (spotsTo D.blocks D.blocks.length).length = (segPs D).length := by rw [segPs, alone_length]
  have hi2 : i < (spotsTo D.blocks D.blocks.length).length := by omega
  have he : (segPs D)[i] = ⟨2 ^ i, (spotsTo D.blocks D.blocks.length)[i].1, (spotsTo D.blocks D.blocks.length)[i].2, (spotsTo D.blocks D.blocks.length)[i].1, (spotsTo D.blocks D.blocks.length)[i].2 + 1⟩ := by
    simp [segPs, alone]
  have hmem := List.getElem_mem hi2
  generalize (spotsTo D.blocks D.blocks.length)[i] = x at he hmem
  simp only [spotsTo, List.mem_flatMap, List.mem_range, List.mem_map] at hmem
  obtain ⟨bb, hb, n, hn, rfl⟩ := hmem
  simp [hb] at hn
  exact ⟨bb, n, he, ⟨_, List.getElem?_eq_getElem hb, by omega⟩, ⟨_, List.getElem?_eq_getElem hb, by omega⟩⟩

theorem firstGo_ok {D : Dy} {m : Nat} : ∀ (k i : Nat) (fo : Pc), i + k = (segPs D).length → (fo = fz ∨ PcOk D m fo) → (fo = fz → ∃ j, i ≤ j ∧ j < (segPs D).length ∧ m.testBit j = true) → PcOk D m (firstGo m ((segPs D).drop i) i fo)
  | 0, i, fo, hik, hfo, hex => by
    rw [List.drop_of_length_le (by omega)]
    rcases hfo with h | h
    · obtain ⟨j, h1, h2, _⟩ := hex h; omega
    · exact h
  | k + 1, i, fo, hik, hfo, hex => by
    have hi : i < (segPs D).length := by omega
    rw [List.drop_eq_getElem_cons hi, firstGo_cons]
    obtain ⟨b, n, hx, h1, h2⟩ := spots_has hi
    cases hs : stepF m i fo (segPs D)[i] with
    | none =>
      rcases hfo with h | h
      · subst h; unfold stepF at hs; split at hs
        · cases hs
        · simp at hs
      · exact h
    | some fo' =>
      refine firstGo_ok k (i + 1) fo' (by omega) ?_ ?_
      · unfold stepF at hs
        split at hs
        · cases hs; exact hfo
        · rename_i hbit
          have hbit' : m.testBit i = true := by simpa using hbit
          split at hs
          · cases hs
            right
            rw [hx]
            refine ⟨by simp, fun j hj => ?_, rfl, by simp, h1, h2⟩
            simp only [Nat.testBit_two_pow, decide_eq_true_eq] at hj
            subst hj; exact hbit'
          · rename_i hz
            split at hs
            · cases hs
            · rename_i hj
              cases hs
              have hp := hfo.resolve_left hz
              have hj' : fo.e = (segPs D)[i].b ∧ fo.t = (segPs D)[i].f := by simpa using hj
              rw [hx] at hj'
              simp only at hj'
              right
              rw [hx]
              refine ⟨?_, fun j hj2 => ?_, ?_, ?_, hp.fst, ?_⟩
              · intro e
                have := hp.some
                have h0 : fo.s = 0 := by
                  apply Nat.eq_of_testBit_eq
                  intro q
                  have e' : fo.s ||| 2 ^ i = 0 := e
                  have : (fo.s ||| 2 ^ i).testBit q = false := by rw [e']; simp
                  rw [Nat.testBit_or] at this
                  simp at this ⊢
                  exact this.1
                exact this h0
              · rw [Nat.testBit_or, Bool.or_eq_true] at hj2
                rcases hj2 with hj2 | hj2
                · exact hp.sub j hj2
                · simp only [Nat.testBit_two_pow, decide_eq_true_eq] at hj2
                  subst hj2; exact hbit'
              · simp only; rw [← hj'.1]; exact hp.same
              · simp only; have := hp.lt; omega
              · simp only; rw [← hp.same, hj'.1]; exact h2
      · intro e
        subst e
        unfold stepF at hs
        split at hs
        · rename_i hbit
          cases hs
          obtain ⟨j, k1, k2, k3⟩ := hex rfl
          refine ⟨j, ?_, k2, k3⟩
          have : j ≠ i := fun e => by rw [e, hbit] at k3; cases k3
          omega
        · split at hs
          · simp only [Option.some.injEq] at hs
            rw [hx] at hs
            have := congrArg Pc.s hs
            simp [fz] at this
          · rename_i hz
            split at hs
            · cases hs
            · simp only [Option.some.injEq] at hs
              have h0 := congrArg Pc.s hs
              simp only [fz] at h0
              exfalso
              have hp := hfo.resolve_left hz
              have : fo.s = 0 := by
                apply Nat.eq_of_testBit_eq
                intro q
                have : (fo.s ||| (segPs D)[i].s).testBit q = false := by rw [h0]; simp
                rw [Nat.testBit_or] at this
                simp at this ⊢
                exact this.1
              exact hp.some this

def runsK (D : Dy) : Nat → Nat → List Pc
  | 0, _ => []
  | k + 1, m => if m = 0 then [] else firstGo m (segPs D) 0 fz :: runsK D k (diffN m (firstGo m (segPs D) 0 fz).s)
def loOf (D : Dy) (p : Pc) : Int := (D.rel p.b p.f).lo
def piecesL (D : Dy) (m : Nat) : List Pc := insSort (fun x y => decide (loOf D x < loOf D y)) (runsK D 16 m)

theorem first_ok {D : Dy} {m : Nat} (h0 : m ≠ 0) (hlt : m < 2 ^ (segPs D).length) : PcOk D m (firstGo m (segPs D) 0 fz) := by
  have := firstGo_ok (D := D) (m := m) (segPs D).length 0 fz (by omega) (.inl rfl) fun _ => ?_
  · simpa using this
  · obtain ⟨j, hj⟩ := Nat.exists_testBit_of_ne_zero h0
    refine ⟨j, by omega, ?_, hj⟩
    apply Decidable.byContradiction
    intro hn
    have : m.testBit j = false := Nat.testBit_lt_two_pow (Nat.lt_of_lt_of_le hlt (Nat.pow_le_pow_right (by omega) (by omega)))
    rw [this] at hj; cases hj
theorem diff_less {D : Dy} {m : Nat} {p : Pc} (h : PcOk D m p) : diffN m p.s < m := by
  have hle : ∀ i, (diffN m p.s).testBit i = true → m.testBit i = true := fun i hi => by
    rw [testBit_diff] at hi; simp at hi; exact hi.1
  have hne : diffN m p.s ≠ m := by
    intro e
    obtain ⟨j, hj⟩ := Nat.exists_testBit_of_ne_zero h.some
    have h1 := h.sub j hj
    have h2 : (diffN m p.s).testBit j = false := by rw [testBit_diff, hj]; simp
    rw [e, h1] at h2; cases h2
  have hle2 : diffN m p.s ≤ m := by
    have e : diffN m p.s &&& m = diffN m p.s := by
      apply Nat.eq_of_testBit_eq
      intro i
      rw [Nat.testBit_and]
      cases hb : (diffN m p.s).testBit i
      · rfl
      · rw [hle i hb]; rfl
    rw [← e]; exact Nat.and_le_right
  omega
def bitsN (n m : Nat) : Nat := ((List.range n).filter fun i => m.testBit i).length
theorem bitsN_diff {D : Dy} {n m : Nat} {p : Pc} (h : PcOk D m p) (hlt : m < 2 ^ n) : bitsN n (diffN m p.s) < bitsN n m := by
  obtain ⟨j, hj⟩ := Nat.exists_testBit_of_ne_zero h.some
  have h1 := h.sub j hj
  have hjn : j < n := by
    apply Decidable.byContradiction
    intro hn
    have : m.testBit j = false := Nat.testBit_lt_two_pow (Nat.lt_of_lt_of_le hlt (Nat.pow_le_pow_right (by omega) (by omega)))
    rw [this] at h1; cases h1
  have hsub : (List.range n).filter (fun i => (diffN m p.s).testBit i) = ((List.range n).filter fun i => m.testBit i).filter fun i => !p.s.testBit i := by
    rw [List.filter_filter]
    congr 1; funext i
    rw [testBit_diff, Bool.and_comm]
  unfold bitsN
  rw [hsub]
  have hmem : j ∈ (List.range n).filter fun i => m.testBit i := by simp [hjn, h1]
  generalize (List.range n).filter (fun i => m.testBit i) = l at hmem
  have : (l.filter fun i => !p.s.testBit i).length ≠ l.length := fun e => by
    have := List.length_filter_eq_length_iff.1 e j hmem
    rw [hj] at this; cases this
  have := List.length_filter_le (fun i => !p.s.testBit i) l
  omega
theorem runsK_ok {D : Dy} : ∀ (k m : Nat), m < 2 ^ (segPs D).length → ∀ p ∈ runsK D k m, PcOk D m p
  | 0, _, _, _, hp => by cases hp
  | k + 1, m, hlt, p, hp => by
    unfold runsK at hp
    split at hp
    · cases hp
    · rename_i h0
      have hf := first_ok h0 hlt
      rcases List.mem_cons.1 hp with rfl | hp
      · exact hf
      · have h2 := runsK_ok k _ (Nat.lt_trans (diff_less hf) hlt) p hp
        exact ⟨h2.some, fun i hi => by have := h2.sub i hi; rw [testBit_diff] at this; simp at this; exact this.1, h2.same, h2.lt, h2.fst, h2.lst⟩
theorem runsK_length {D : Dy} : ∀ (k m : Nat), (runsK D k m).length ≤ k
  | 0, _ => Nat.le_refl _
  | k + 1, m => by
    unfold runsK
    split
    · simp
    · simp [runsK_length k]
theorem piecesL_mem {D : Dy} {m : Nat} (hlt : m < 2 ^ (segPs D).length) {p : Pc} (hp : p ∈ piecesL D m) : PcOk D m p := runsK_ok 16 m hlt p (insTo_mem _ _ _ hp)
theorem piecesL_length {D : Dy} {m : Nat} : (piecesL D m).length ≤ 16 := by
  unfold piecesL insSort
  rw [insTo_length]; exact runsK_length 16 m

end Go.Proofs.YtjbbcpeidnkjlaaDoor


namespace Go.Proofs.YtjbbcpeidnkjlaaDoor
open Go Go.Ab

section
variable {D : Dy} {K : List (List (Int × Int))} {b w s k q : Value} {H : Heap}

abbrev planCells (D : Dy) (b w s k q : Value) : List Value := [.int .i64 D.law.piece, .int .i64 D.law.drive, .int .i64 D.law.spread, .int .i64 D.law.brk, .int .i64 D.law.on, .int .i64 D.law.off, .int .i64 D.law.least, .int .i64 D.law.pieces, b, w, s, k, q]

theorem cmp_spec {nb c : Nat} {rw' : Bool} {x y : Pc} (h : PlanAt H b w s k q D K) (hV : Valid D) (hbx : H.get nb = .cells rw' (planCells D b w s k q) c) (hnb : nb < H.next) (hx : D.has x.b x.f) (hy : D.has y.b y.f) :
    AFun Tryd.prog 125 [x.val, y.val, .pointer (some ⟨nb, 0, none⟩)] H (fun r B => r = .int .i64 (loOf D x - loOf D y) ∧ Ge H B) := by
  refine AFun.mk ok125 hm (Nat.le_of_ble_eq_true rfl) ?_
  have p1 := rel_valid hV hx
  have p2 := rel_valid hV hy
  have n0 : nb ≠ H.next := by omega
  have n1 : ∀ j, nb ≠ H.next + j := fun j => by omega
  simp [planCells] at hbx
  simp [a125, r125, Value.cells, n0, n1, hbx]
  have G0 : Ge H ({ get := ((H.new (.cells true x.cells 5)).new (.cells true y.cells 5)).get, next := H.next + 16 } : Heap) := Ge.grow_le (by omega) ((Ge.new _ _).newOf _)
  refine fcall_fun (relief_spec (h.ge (Ge.grow_le (by omega) ((Ge.new _ _).newOf _))) hx) ?_
  rintro _ H1 ⟨rfl, g1⟩
  have m1 := g1.next
  have k0 := g1.got (n := H.next) (by simp) rfl
  have k1 := g1.got (n := H.next + 1) (by simp) rfl
  have kb := g1.got (n := nb) (by simp; omega) rfl
  have G1 : Ge H H1 := Ge.trans (Ge.grow_le (by omega) ((Ge.new _ _).newOf _)) g1
  simp [n0, n1, hbx] at k0 k1 kb m1
  simp [Rl.val, k1, kb]
  refine fcall_fun (relief_spec (h.ge G1) hy) ?_
  rintro _ H2 ⟨rfl, g2⟩
  simp [Rl.val]
  have e1 : (D.rel x.b x.f).lo = loOf D x := rfl
  have e2 : (D.rel y.b y.f).lo = loOf D y := rfl
  rw [sub_in (by omega) (by omega)]
  simp [loOf, G1.trans g2]
end

theorem bitsN_le (n m : Nat) : bitsN n m ≤ n := by
  unfold bitsN
  exact Nat.le_trans (List.length_filter_le _ _) (by simp)

theorem pieces_spec {D : Dy} {K : List (List (Int × Int))} {b w s k q yv : Value} {H : Heap} {nm nb c cm m : Nat} {rw' rm : Bool} {I : Nat → Nat → Heap → Prop} {F : Heap → Prop}
    (h : PlanAt H b w s k q D K) (hV : Valid D) (hbx : H.get nb = .cells rw' (planCells D b w s k q) c) (hnb : nb < H.next) (hmx : H.get nm = .cells rm [bitsV m] cm) (_hnm : nm < H.next) (hlt : m < 2 ^ (segPs D).length)
    (h0 : ∀ A, Ge H A → I A.next 0 A) (hge : ∀ L i A B, I L i A → Ge A B → I L i B)
    (hy : ∀ L i A (h : i < (piecesL D m).length), H.next ≤ L → L ≤ A.next → I L i A → ACall Tryd.prog yv [(piecesL D m)[i].val] A (fun r B => ∃ bb, r = .bool bb ∧ A.next ≤ B.next ∧ (∀ n, H.next ≤ n → n < L → B.get n = A.get n) ∧ (bb = true → I L (i + 1) B) ∧ (bb = false → F B))) :
    AFun Tryd.prog 122 [yv, .pointer (some ⟨nm, 0, none⟩), .pointer (some ⟨nb, 0, none⟩)] H (fun _ B => (∃ L, I L (piecesL D m).length B) ∨ F B) := by
  refine AFun.mk ok122 hm (Nat.le_of_ble_eq_true rfl) ?_
  have hsn : (segPs D).length = segsOf D.blocks := by rw [segPs, alone_length, spotsTo_length (Nat.le_refl _), List.take_length]
  have h10 := hV.segs
  have hpow : ∀ x, x < 2 ^ (segPs D).length → x < 2 ^ 10 := fun x hx => Nat.lt_of_lt_of_le hx (Nat.pow_le_pow_right (by omega) (by omega))
  simp [a122, r122, hmx]
  refine floop_intro (fun z => z.d = [] ∧ Ge H z.H ∧ z.t 0 = yv ∧ z.t 2 = .pointer (some ⟨nb, 0, none⟩) ∧ ∃ (v4 : Value) (left : Nat) (done : List Pc), z.t 4 = v4 ∧ z.t 5 = bitsV left ∧ OwnS z.H H.next 5 v4 done.length (done.flatMap Pc.cells) ∧ left < 2 ^ (segPs D).length ∧ done.length + bitsN (segPs D).length left ≤ (segPs D).length ∧ done ++ runsK D (16 - done.length) left = runsK D 16 m) (fun z => (intOf (z.t 5)).toNat) ?_ ?_
  · exact ⟨rfl, by simp, by simp, by simp, .slice none 0 0, m, [], by simp, by simp, .inl ⟨rfl, rfl, rfl⟩, hlt, by simpa using bitsN_le _ _, rfl⟩
  rintro ⟨t, _, A⟩ ⟨rfl, g, t0, t2, v4, left, done, t4, t5, hown, hl, hcnt, hruns⟩
  dsimp only at g t0 t2 t4 t5 hown
  have kb : A.get nb = _ := g.got hnb hbx
  by_cases hz : left = 0
  · subst hz
    have hdone : done = runsK D 16 m := by
      rw [← hruns]
      have : runsK D (16 - done.length) 0 = [] := by
        cases 16 - done.length with
        | zero => rfl
        | succ n => simp [runsK]
      rw [this, List.append_nil]
    have hlen16 : done.length ≤ 16 := by rw [hdone]; exact runsK_length 16 m
    have hok : ∀ x ∈ done, PcOk D m x := fun x hx => runsK_ok 16 m hlt x (by rw [← hdone]; exact hx)
    simp [t5, t4, t2]
    refine fcall_fun (stable_spec (key := loOf D) hown hlen16 (fun x hx => by have := rel_valid hV (hok x hx).fst; unfold loOf; omega) fun B x y hB1 hB2 hx hy => ?_) ?_
    · have gB : Ge H B := ⟨by have := g.next; omega, fun n hn => by
        rw [hB2 n (by have := g.next; omega) (fun e => by have := (hown.names e).1; omega)]; exact g.get n hn⟩
      exact ACall.of_fun (cmp_spec (h.ge gB) hV (gB.got hnb hbx) (by have := gB.next; omega) (hok x hx).fst (hok y hy).fst)
    rintro _ B ⟨k1, k2, k3⟩
    have hps : insSort (fun x y => decide (loOf D x < loOf D y)) done = piecesL D m := by rw [hdone]; rfl
    have hlen : done.length = (piecesL D m).length := by rw [← hps]; unfold insSort; rw [insTo_length]
    rw [hps, hlen] at k1
    have gB : Ge H B := ⟨by have := g.next; omega, fun n hn => by
        rw [k3 n (by have := g.next; omega) (fun e => by have := (hown.names e).1; omega)]; exact g.get n hn⟩
    simp [t4, k1.slr.lenV]
    have hp16 := piecesL_length (D := D) (m := m)
    refine floop_intro (fun z => z.d = [] ∧ z.t 0 = yv ∧ z.t 26 = v4 ∧ z.t 27 = .int .i64 (piecesL D m).length ∧ B.next ≤ z.H.next ∧ OwnS z.H H.next 5 v4 (piecesL D m).length ((piecesL D m).flatMap Pc.cells) ∧ ∃ i : Nat, i ≤ (piecesL D m).length ∧ z.t 28 = .int .i64 i ∧ I B.next i z.H) (fun z => (piecesL D m).length - (intOf (z.t 28)).toNat) ?_ ?_
    · exact ⟨rfl, by simp [t0], by simp, by simp, Nat.le_refl _, k1, 0, by simp, by simp, h0 B gB⟩
    rintro ⟨t', _, C⟩ ⟨rfl, t0', t26, t27, hBC, o4, i, hi, t28, hI⟩
    dsimp only at t0' t26 t27 hBC o4 t28 hI
    simp [t27, t28]
    refine fcond_intro (fun hc => ?_) (fun hc => ?_)
    case refine_2 =>
      have : i = (piecesL D m).length := by simp at hc; omega
      subst this
      simp
      exact .inl ⟨_, hI⟩
    have hi' : i < (piecesL D m).length := by simpa using hc
    obtain ⟨n, o, e1, e2, e3⟩ := PcsAt.at (H := C) (v := v4) (xs := piecesL D m) ⟨o4.slr, by omega⟩ hi'
    simp [t26, t28, e1, e3, t0']
    have gC := ((Ge.new C (.cells true [.int .u64 0, .int .i64 0, .int .i64 0, .int .i64 0, .int .i64 0] 5)).setNew (Nat.le_refl _) (.cells true (piecesL D m)[i].cells 5))
    refine fcall_intro ((hy B.next i _ hi' gB.next (by simp; omega) (hge _ _ _ _ hI gC)).mono ?_)
    rintro _ E ⟨bb, rfl, q1, q2, q3, q4⟩
    simp at q1
    cases bb
    · simp
      exact .inr (q4 rfl)
    simp [t28, add_in (x := i) (y := 1) (by omega) (by omega)]
    refine ⟨⟨t0', t26, t27, by omega, ?_, i + 1, by omega, by omega, q3 rfl⟩, by omega⟩
    refine o4.keep (by omega) fun m' hm' => ?_
    have h4 : ∀ n', slName v4 = some n' → n' < B.next := fun n' hn' => (k1.names hn').2
    have e5 : m' ≠ C.next := by have := (o4.names hm').2; omega
    rw [q2 m' (o4.names hm').1 (h4 m' hm')]
    simp [e5]
  have hzi : ¬ (left : Int) = 0 := by omega
  simp [planCells] at kb
  simp [t5, hz, t2, kb]
  refine fcall_fun (firstPiece_spec (h.ge g) hV (hpow _ hl)) ?_
  rintro _ A1 ⟨rfl, g1⟩
  have hp := first_ok hz hl
  have hplt := bitsN_diff hp hl
  generalize hpe : firstGo left (segPs D) 0 fz = p at hp hplt
  have hps : p.s < 2 ^ 64 := by
    rw [← hpe]
    refine firstGo_lt (n := 64) _ _ _ (by decide) fun y hy => ?_
    obtain ⟨j, hj, rfl⟩ := List.mem_iff_getElem.1 hy
    have : (segPs D)[j].s = 2 ^ j := alone_get hj
    rw [this]; exact Nat.pow_lt_pow_right (by omega) (by omega)
  simp [t4, t5]
  have g2 : Ge A1 (((A1.new (.cells true [.int .u64 0, .int .i64 0, .int .i64 0, .int .i64 0, .int .i64 0] 5)).set A1.next (.cells true [bitsV p.s, .int .i64 p.b, .int .i64 p.f, .int .i64 p.e, .int .i64 p.t] 5)).new (.cells true [bitsV p.s, .int .i64 p.b, .int .i64 p.f, .int .i64 p.e, .int .i64 p.t] 5)) := ((Ge.new _ _).setNew (Nat.le_refl _) _).newOf _
  have o2 := (hown.ge g1).ge g2
  have nC : Heap.next (((A1.new (.cells true [.int .u64 0, .int .i64 0, .int .i64 0, .int .i64 0, .int .i64 0] 5)).set A1.next (.cells true [bitsV p.s, .int .i64 p.b, .int .i64 p.f, .int .i64 p.e, .int .i64 p.t] 5)).new (.cells true [bitsV p.s, .int .i64 p.b, .int .i64 p.f, .int .i64 p.e, .int .i64 p.t] 5)) = A1.next + 2 := by simp
  have yC : slCells (((A1.new (.cells true [.int .u64 0, .int .i64 0, .int .i64 0, .int .i64 0, .int .i64 0] 5)).set A1.next (.cells true [bitsV p.s, .int .i64 p.b, .int .i64 p.f, .int .i64 p.e, .int .i64 p.t] 5)).new (.cells true [bitsV p.s, .int .i64 p.b, .int .i64 p.f, .int .i64 p.e, .int .i64 p.t] 5)) 5 (.slice (some ⟨A1.next + 1, 0, none⟩) 1 1) = some (1, [bitsV p.s, .int .i64 p.b, .int .i64 p.f, .int .i64 p.e, .int .i64 p.t]) := by simp [slCells, rdL]
  have xC : Heap.get (((A1.new (.cells true [.int .u64 0, .int .i64 0, .int .i64 0, .int .i64 0, .int .i64 0] 5)).set A1.next (.cells true [bitsV p.s, .int .i64 p.b, .int .i64 p.f, .int .i64 p.e, .int .i64 p.t] 5)).new (.cells true [bitsV p.s, .int .i64 p.b, .int .i64 p.f, .int .i64 p.e, .int .i64 p.t] 5)) A1.next = .cells true [bitsV p.s, .int .i64 p.b, .int .i64 p.f, .int .i64 p.e, .int .i64 p.t] 5 := by simp
  generalize ((A1.new (.cells true [.int .u64 0, .int .i64 0, .int .i64 0, .int .i64 0, .int .i64 0] 5)).set A1.next (.cells true [bitsV p.s, .int .i64 p.b, .int .i64 p.f, .int .i64 p.e, .int .i64 p.t] 5)).new (.cells true [bitsV p.s, .int .i64 p.b, .int .i64 p.f, .int .i64 p.e, .int .i64 p.t] 5) = C at g2 o2 nC yC xC
  have n0 := g.next
  have n1 := g1.next
  refine fapp_ownS (lo := H.next) (xs := p.cells) o2 yC rfl rfl (by omega) (by omega) (by omega) (by omega) (by omega) fun u4 B k1 k2 k3 k4 => ?_
  have gC : Ge H C := (g.trans g1).trans g2
  have h4 : ∀ n, slName v4 = some n → H.next ≤ n ∧ n < A1.next := fun n hn => by have := (hown.ge g1).names hn; exact this
  have gB : Ge H B := ⟨by omega, fun n hn => by rw [k4 n (by omega) (fun e => by have := (h4 n e).1; omega)]; exact gC.get n hn⟩
  have xB : B.get A1.next = _ := (k4 A1.next (by omega) (fun e => by have := (h4 _ e).2; omega)).trans xC
  simp [t5, xB]
  rw [aval_diff (a := left) (b := p.s) (by simp [t5]) (by simp) (by decide) (by decide) (Nat.lt_trans (hpow _ hl) (by decide)) hps]
  simp
  have hless := diff_less hp
  refine ⟨⟨gB, t0, t2, diffN left p.s, rfl, done ++ [p], by simpa using k1, by omega, by simp; omega, ?_⟩, by rw [t5]; simp; omega⟩
  have hk : 16 - done.length = (16 - (done ++ [p]).length) + 1 := by simp; omega
  rw [← hruns, hk, List.append_assoc]
  simp only [runsK, hz, if_false, hpe, List.singleton_append]

end Go.Proofs.YtjbbcpeidnkjlaaDoor


namespace Go.Proofs.YtjbbcpeidnkjlaaDoor
open Go Go.Ab

def lastOf (K : List (List (Int × Int))) (p : Pc) : Int := (kAt K p.e p.t).2 - (kAt K p.b p.f).1
def restOf (K : List (List (Int × Int))) (x y : Pc) : Int := (kAt K y.b y.f).1 - (kAt K x.e x.t).2
def freeOf (D : Dy) (K : List (List (Int × Int))) (x y : Pc) : Int := restOf K x y - D.walkOf x.e x.t y.b y.f
def bTo (f : Pc → Pc → Int) (ps : List Pc) (i : Nat) : List Int := (List.range (i - 1)).map fun j => f (ps[j]?.getD fz) (ps[j + 1]?.getD fz)
def lTo (K : List (List (Int × Int))) (ps : List Pc) (i : Nat) : List Int := (ps.take i).map (lastOf K)
theorem bTo_succ {f : Pc → Pc → Int} {ps : List Pc} {i : Nat} (h0 : 0 < i) (hi : i < ps.length) : bTo f ps (i + 1) = bTo f ps i ++ [f (ps[i - 1]'(by omega)) ps[i]] := by
  have e : i + 1 - 1 = (i - 1) + 1 := by omega
  unfold bTo
  rw [e, List.range_succ, List.map_append]
  have e2 : i - 1 + 1 = i := by omega
  simp [e2, hi, (by omega : i - 1 < ps.length)]
theorem lTo_succ {K : List (List (Int × Int))} {ps : List Pc} {i : Nat} (hi : i < ps.length) : lTo K ps (i + 1) = lTo K ps i ++ [lastOf K ps[i]] := by
  unfold lTo
  rw [List.take_succ_eq_append_getElem hi, List.map_append]; rfl
theorem sum_bound {l : List Int} (h : ∀ x ∈ l, -3000 ≤ x ∧ x ≤ 3000) : -(3000 * (l.length : Int)) ≤ l.sum ∧ l.sum ≤ 3000 * (l.length : Int) := by
  induction l with
  | nil => simp
  | cons x l ih =>
    have h1 := h x (by simp)
    have h2 := ih fun y hy => h y (by simp [hy])
    simp only [List.sum_cons, List.length_cons]
    omega

structure ShI (A0 : Heap) (L : Nat) (r : ALoop) (q5 q6 q7 : Nat) (A : Heap) (dr : Int) (vB : Value) (bl : List Int) (vL : Value) (ll : List Int) (vR : Value) (rl : List Int) (fst lst : Pc) : Prop where
  next : A0.next + 2 ≤ A.next
  low : A0.next + 2 ≤ L ∧ L ≤ A.next
  keep : ∀ n, n < A0.next → n ≠ q5 → n ≠ q6 → n ≠ q7 → A.get n = A0.get n
  dfr : A.get A0.next = .dfr
  loop : A.get (A0.next + 1) = .loop r
  b5 : A.get q5 = .cells true [.int .i64 dr, .int .i64 0, vB, .bool false, vL, vR] 6
  b6 : A.get q6 = .cells true fst.cells 5
  b7 : A.get q7 = .cells true lst.cells 5
  oB : OwnSl A L vB (bl.map (Value.int .i64))
  oL : OwnSl A L vL (ll.map (Value.int .i64))
  oR : OwnSl A L vR (rl.map (Value.int .i64))
  dBL : ∀ m, slName vB = some m → slName vL ≠ some m ∧ slName vR ≠ some m
  dLR : ∀ m, slName vL = some m → slName vR ≠ some m

structure Three (A0 : Heap) (q5 q6 q7 : Nat) : Prop where
  l5 : q5 < A0.next
  l6 : q6 < A0.next
  l7 : q7 < A0.next
  n56 : q5 ≠ q6
  n57 : q5 ≠ q7
  n67 : q6 ≠ q7

section
variable {A0 A B : Heap} {L : Nat} {r : ALoop} {q5 q6 q7 : Nat} {dr : Int} {vB vL vR : Value} {bl ll rl : List Int} {fst lst : Pc}

theorem ShI.ge (h : ShI A0 L r q5 q6 q7 A dr vB bl vL ll vR rl fst lst) (hq : Three A0 q5 q6 q7) (g : Ge A B) : ShI A0 L r q5 q6 q7 B dr vB bl vL ll vR rl fst lst := by
  have hn := h.next
  have gn := g.next
  have := hq.l5; have := hq.l6; have := hq.l7; have := h.low
  exact ⟨by omega, ⟨by omega, by omega⟩, fun n h1 h2 h3 h4 => (g.get n (by omega)).trans (h.keep n h1 h2 h3 h4), g.got (by omega) h.dfr, g.got (by omega) h.loop, g.got (by omega) h.b5, g.got (by omega) h.b6, g.got (by omega) h.b7, h.oB.ge g, h.oL.ge g, h.oR.ge g, h.dBL, h.dLR⟩
theorem ShI.names (h : ShI A0 L r q5 q6 q7 A dr vB bl vL ll vR rl fst lst) {v : Value} (hv : v = vB ∨ v = vL ∨ v = vR) {m : Nat} (hm : slName v = some m) : A0.next + 2 ≤ m ∧ L ≤ m ∧ m < A.next := by
  have := h.low
  rcases hv with rfl | rfl | rfl
  · have := h.oB.names hm; omega
  · have := h.oL.names hm; omega
  · have := h.oR.names hm; omega
theorem ShI.set6 (h : ShI A0 L r q5 q6 q7 A dr vB bl vL ll vR rl fst lst) (hq : Three A0 q5 q6 q7) (p : Pc) : ShI A0 L r q5 q6 q7 (A.set q6 (.cells true p.cells 5)) dr vB bl vL ll vR rl p lst := by
  have hn := h.next
  have := hq.l6
  have e : ∀ n, n ≠ q6 → (A.set q6 (.cells true p.cells 5)).get n = A.get n := fun n hne => by simp [hne]
  refine ⟨h.next, h.low, fun n h1 h2 h3 h4 => (e n h3).trans (h.keep n h1 h2 h3 h4), (e _ (by omega)).trans h.dfr, (e _ (by omega)).trans h.loop, (e _ hq.n56).trans h.b5, by simp, (e _ hq.n67.symm).trans h.b7, ?_, ?_, ?_, h.dBL, h.dLR⟩
  · exact h.oB.keep (Nat.le_refl _) fun m hm => e m (by have := h.names (.inl rfl) hm; omega)
  · exact h.oL.keep (Nat.le_refl _) fun m hm => e m (by have := h.names (.inr (.inl rfl)) hm; omega)
  · exact h.oR.keep (Nat.le_refl _) fun m hm => e m (by have := h.names (.inr (.inr rfl)) hm; omega)
theorem ShI.set7 (h : ShI A0 L r q5 q6 q7 A dr vB bl vL ll vR rl fst lst) (hq : Three A0 q5 q6 q7) (p : Pc) : ShI A0 L r q5 q6 q7 (A.set q7 (.cells true p.cells 5)) dr vB bl vL ll vR rl fst p := by
  have hn := h.next
  have := hq.l7
  have e : ∀ n, n ≠ q7 → (A.set q7 (.cells true p.cells 5)).get n = A.get n := fun n hne => by simp [hne]
  refine ⟨h.next, h.low, fun n h1 h2 h3 h4 => (e n h4).trans (h.keep n h1 h2 h3 h4), (e _ (by omega)).trans h.dfr, (e _ (by omega)).trans h.loop, (e _ hq.n57).trans h.b5, (e _ hq.n67).trans h.b6, by simp, ?_, ?_, ?_, h.dBL, h.dLR⟩
  · exact h.oB.keep (Nat.le_refl _) fun m hm => e m (by have := h.names (.inl rfl) hm; omega)
  · exact h.oL.keep (Nat.le_refl _) fun m hm => e m (by have := h.names (.inr (.inl rfl)) hm; omega)
  · exact h.oR.keep (Nat.le_refl _) fun m hm => e m (by have := h.names (.inr (.inr rfl)) hm; omega)
theorem ShI.setD (h : ShI A0 L r q5 q6 q7 A dr vB bl vL ll vR rl fst lst) (hq : Three A0 q5 q6 q7) (d : Int) : ShI A0 L r q5 q6 q7 (A.set q5 (.cells true [.int .i64 d, .int .i64 0, vB, .bool false, vL, vR] 6)) d vB bl vL ll vR rl fst lst := by
  have hn := h.next
  have := hq.l5
  have e : ∀ n, n ≠ q5 → (A.set q5 (.cells true [.int .i64 d, .int .i64 0, vB, .bool false, vL, vR] 6)).get n = A.get n := fun n hne => by simp [hne]
  refine ⟨h.next, h.low, fun n h1 h2 h3 h4 => (e n h2).trans (h.keep n h1 h2 h3 h4), (e _ (by omega)).trans h.dfr, (e _ (by omega)).trans h.loop, by simp, (e _ hq.n56.symm).trans h.b6, (e _ hq.n57.symm).trans h.b7, ?_, ?_, ?_, h.dBL, h.dLR⟩
  · exact h.oB.keep (Nat.le_refl _) fun m hm => e m (by have := h.names (.inl rfl) hm; omega)
  · exact h.oL.keep (Nat.le_refl _) fun m hm => e m (by have := h.names (.inr (.inl rfl)) hm; omega)
  · exact h.oR.keep (Nat.le_refl _) fun m hm => e m (by have := h.names (.inr (.inr rfl)) hm; omega)

theorem ShI.appB {u : Value} {n : Nat} {x : Int} (h : ShI A0 L r q5 q6 q7 A dr vB bl vL ll vR rl fst lst) (hq : Three A0 q5 q6 q7) (hn : A.next ≤ n) (hB : n < B.next) (hu : slName u = some n) (ho : OwnSl B L u ((bl ++ [x]).map (Value.int .i64)))
    (hk : ∀ m, m < A.next → slName vB ≠ some m → B.get m = A.get m) : ShI A0 L r q5 q6 q7 (B.set q5 (.cells true [.int .i64 dr, .int .i64 0, u, .bool false, vL, vR] 6)) dr u (bl ++ [x]) vL ll vR rl fst lst := by
  have hnx := h.next
  have := hq.l5; have := hq.l6; have := hq.l7; have hlow := h.low
  have e : ∀ m, m < A.next → slName vB ≠ some m → m ≠ q5 → (B.set q5 (.cells true [.int .i64 dr, .int .i64 0, u, .bool false, vL, vR] 6)).get m = A.get m := fun m h1 h2 h3 => by simp [h3, hk m h1 h2]
  have lowB : ∀ m, m < A0.next + 2 → slName vB ≠ some m := fun m h1 h2 => by have := h.names (.inl rfl) h2; omega
  refine ⟨by simp; omega, ⟨hlow.1, by simp; omega⟩, fun m h1 h2 h3 h4 => (e m (by omega) (lowB m (by omega)) h2).trans (h.keep m h1 h2 h3 h4), (e _ (by omega) (lowB _ (by omega)) (by omega)).trans h.dfr, (e _ (by omega) (lowB _ (by omega)) (by omega)).trans h.loop, by simp, (e _ (by omega) (lowB _ (by omega)) hq.n56.symm).trans h.b6, (e _ (by omega) (lowB _ (by omega)) hq.n57.symm).trans h.b7, ?_, ?_, ?_, ?_, h.dLR⟩
  · exact ho.keep (Nat.le_refl _) fun m hm => by
      rw [hu] at hm; cases hm
      have : n ≠ q5 := by omega
      simp [this]
  · exact h.oL.keep (by simp; omega) fun m hm => by have := h.names (.inr (.inl rfl)) hm; exact e m (by omega) (fun e2 => (h.dBL m e2).1 hm) (by omega)
  · exact h.oR.keep (by simp; omega) fun m hm => by have := h.names (.inr (.inr rfl)) hm; exact e m (by omega) (fun e2 => (h.dBL m e2).2 hm) (by omega)
  · intro m hm
    rw [hu] at hm; cases hm
    exact ⟨fun e2 => by have := h.names (.inr (.inl rfl)) e2; omega, fun e2 => by have := h.names (.inr (.inr rfl)) e2; omega⟩
theorem ShI.appL {u : Value} {n : Nat} {x : Int} (h : ShI A0 L r q5 q6 q7 A dr vB bl vL ll vR rl fst lst) (hq : Three A0 q5 q6 q7) (hn : A.next ≤ n) (hB : n < B.next) (hu : slName u = some n) (ho : OwnSl B L u ((ll ++ [x]).map (Value.int .i64)))
    (hk : ∀ m, m < A.next → slName vL ≠ some m → B.get m = A.get m) : ShI A0 L r q5 q6 q7 (B.set q5 (.cells true [.int .i64 dr, .int .i64 0, vB, .bool false, u, vR] 6)) dr vB bl u (ll ++ [x]) vR rl fst lst := by
  have hnx := h.next
  have := hq.l5; have := hq.l6; have := hq.l7; have hlow := h.low
  have e : ∀ m, m < A.next → slName vL ≠ some m → m ≠ q5 → (B.set q5 (.cells true [.int .i64 dr, .int .i64 0, vB, .bool false, u, vR] 6)).get m = A.get m := fun m h1 h2 h3 => by simp [h3, hk m h1 h2]
  have lowB : ∀ m, m < A0.next + 2 → slName vL ≠ some m := fun m h1 h2 => by have := h.names (.inr (.inl rfl)) h2; omega
  refine ⟨by simp; omega, ⟨hlow.1, by simp; omega⟩, fun m h1 h2 h3 h4 => (e m (by omega) (lowB m (by omega)) h2).trans (h.keep m h1 h2 h3 h4), (e _ (by omega) (lowB _ (by omega)) (by omega)).trans h.dfr, (e _ (by omega) (lowB _ (by omega)) (by omega)).trans h.loop, by simp, (e _ (by omega) (lowB _ (by omega)) hq.n56.symm).trans h.b6, (e _ (by omega) (lowB _ (by omega)) hq.n57.symm).trans h.b7, ?_, ?_, ?_, ?_, ?_⟩
  · exact h.oB.keep (by simp; omega) fun m hm => by have := h.names (.inl rfl) hm; exact e m (by omega) (h.dBL m hm).1 (by omega)
  · exact ho.keep (Nat.le_refl _) fun m hm => by
      rw [hu] at hm; cases hm
      have : n ≠ q5 := by omega
      simp [this]
  · exact h.oR.keep (by simp; omega) fun m hm => by have := h.names (.inr (.inr rfl)) hm; exact e m (by omega) (fun e2 => h.dLR m e2 hm) (by omega)
  · intro m hm
    refine ⟨fun e2 => ?_, (h.dBL m hm).2⟩
    rw [hu] at e2; cases e2
    have := h.names (.inl rfl) hm; omega
  · intro m hm e2
    rw [hu] at hm; cases hm
    have := h.names (.inr (.inr rfl)) e2; omega
theorem ShI.appR {u : Value} {n : Nat} {x : Int} (h : ShI A0 L r q5 q6 q7 A dr vB bl vL ll vR rl fst lst) (hq : Three A0 q5 q6 q7) (hn : A.next ≤ n) (hB : n < B.next) (hu : slName u = some n) (ho : OwnSl B L u ((rl ++ [x]).map (Value.int .i64)))
    (hk : ∀ m, m < A.next → slName vR ≠ some m → B.get m = A.get m) : ShI A0 L r q5 q6 q7 (B.set q5 (.cells true [.int .i64 dr, .int .i64 0, vB, .bool false, vL, u] 6)) dr vB bl vL ll u (rl ++ [x]) fst lst := by
  have hnx := h.next
  have := hq.l5; have := hq.l6; have := hq.l7; have hlow := h.low
  have e : ∀ m, m < A.next → slName vR ≠ some m → m ≠ q5 → (B.set q5 (.cells true [.int .i64 dr, .int .i64 0, vB, .bool false, vL, u] 6)).get m = A.get m := fun m h1 h2 h3 => by simp [h3, hk m h1 h2]
  have lowB : ∀ m, m < A0.next + 2 → slName vR ≠ some m := fun m h1 h2 => by have := h.names (.inr (.inr rfl)) h2; omega
  refine ⟨by simp; omega, ⟨hlow.1, by simp; omega⟩, fun m h1 h2 h3 h4 => (e m (by omega) (lowB m (by omega)) h2).trans (h.keep m h1 h2 h3 h4), (e _ (by omega) (lowB _ (by omega)) (by omega)).trans h.dfr, (e _ (by omega) (lowB _ (by omega)) (by omega)).trans h.loop, by simp, (e _ (by omega) (lowB _ (by omega)) hq.n56.symm).trans h.b6, (e _ (by omega) (lowB _ (by omega)) hq.n57.symm).trans h.b7, ?_, ?_, ?_, ?_, ?_⟩
  · exact h.oB.keep (by simp; omega) fun m hm => by have := h.names (.inl rfl) hm; exact e m (by omega) (h.dBL m hm).2 (by omega)
  · exact h.oL.keep (by simp; omega) fun m hm => by have := h.names (.inr (.inl rfl)) hm; exact e m (by omega) (h.dLR m hm) (by omega)
  · exact ho.keep (Nat.le_refl _) fun m hm => by
      rw [hu] at hm; cases hm
      have : n ≠ q5 := by omega
      simp [this]
  · intro m hm
    refine ⟨(h.dBL m hm).1, fun e2 => ?_⟩
    rw [hu] at e2; cases e2
    have := h.names (.inl rfl) hm; omega
  · intro m hm e2
    rw [hu] at e2; cases e2
    have := h.names (.inr (.inl rfl)) hm; omega
end

end Go.Proofs.YtjbbcpeidnkjlaaDoor


namespace Go.Proofs.YtjbbcpeidnkjlaaDoor
open Go Go.Ab

section
variable {A0 A : Heap} {L : Nat} {r r' : ALoop} {q5 q6 q7 : Nat} {dr : Int} {vB vL vR : Value} {bl ll rl : List Int} {fst lst : Pc}
theorem ShI.setLoop (h : ShI A0 L r q5 q6 q7 A dr vB bl vL ll vR rl fst lst) (hq : Three A0 q5 q6 q7) : ShI A0 L r' q5 q6 q7 (A.set (A0.next + 1) (.loop r')) dr vB bl vL ll vR rl fst lst := by
  have hn := h.next
  have := hq.l5; have := hq.l6; have := hq.l7
  have e : ∀ n, n ≠ A0.next + 1 → (A.set (A0.next + 1) (.loop r')).get n = A.get n := fun n hne => by simp [hne]
  refine ⟨h.next, h.low, fun n h1 h2 h3 h4 => (e n (by omega)).trans (h.keep n h1 h2 h3 h4), (e _ (by omega)).trans h.dfr, by simp, (e _ (by omega)).trans h.b5, (e _ (by omega)).trans h.b6, (e _ (by omega)).trans h.b7, ?_, ?_, ?_, h.dBL, h.dLR⟩
  · exact h.oB.keep (Nat.le_refl _) fun m hm => e m (by have := h.names (.inl rfl) hm; omega)
  · exact h.oL.keep (Nat.le_refl _) fun m hm => e m (by have := h.names (.inr (.inl rfl)) hm; omega)
  · exact h.oR.keep (Nat.le_refl _) fun m hm => e m (by have := h.names (.inr (.inr rfl)) hm; omega)
theorem ShI.plan {D : Dy} {K : List (List (Int × Int))} {b w s k q : Value} {H : Heap} (h : ShI A0 L r q5 q6 q7 A dr vB bl vL ll vR rl fst lst) (hP : PlanAt H b w s k q D K) (g : Ge H A0) (h5 : H.next ≤ q5) (h6 : H.next ≤ q6) (h7 : H.next ≤ q7) : PlanAt A b w s k q D K := by
  refine hP.ge ⟨by have := h.next; have := g.next; omega, fun n hn => ?_⟩
  have := g.next
  rw [h.keep n (by omega) (by omega) (by omega) (by omega)]; exact g.get n hn
end

def fstTo (ps : List Pc) (i : Nat) : Pc := if i = 0 then fz else ps[0]?.getD fz
def lstTo (ps : List Pc) (i : Nat) : Pc := if i = 0 then fz else ps[i - 1]?.getD fz

theorem lastOf_bound {D : Dy} {K : List (List (Int × Int))} (hK : KOk D K) {m : Nat} {p : Pc} (h : PcOk D m p) : -3000 ≤ lastOf K p ∧ lastOf K p ≤ 3000 := by
  have h1 := hK.at h.fst
  have h2 := hK.at h.lst
  unfold lastOf
  rw [h.same]
  omega
theorem restOf_bound {D : Dy} {K : List (List (Int × Int))} (hK : KOk D K) {m : Nat} {x y : Pc} (hx : PcOk D m x) (hy : PcOk D m y) : -3000 ≤ restOf K x y ∧ restOf K x y ≤ 3000 := by
  have h1 := hK.at hy.fst
  have h2 := hK.at hx.lst
  unfold restOf
  rw [hx.same]
  omega
theorem PcOk.nz {D : Dy} {m : Nat} {p : Pc} (h : PcOk D m p) : p ≠ fz := fun e => h.some (by rw [e]; rfl)

def headOf : ACode → ACode
  | .block _ (.seq a _) => a
  | _ => .skip
def tailOf : ACode → ACode
  | .block _ (.seq _ c) => c
  | _ => .skip
noncomputable def y93b : ACode := tailOf a93y0
theorem y93 : a93y0 = .block 1 (.seq (headOf a93y0) y93b) := rfl

theorem shift_round {D : Dy} {K : List (List (Int × Int))} {b w s k q : Value} {H A0 A : Heap} {L nb q5 q6 q7 i m dn cb : Nat} {rb : Bool} {r : ALoop} {t : Nat → Value} {fn : FuncId} {vB vL vR : Value}
    (hP : PlanAt H b w s k q D K) (hV : Valid D) (hK : KOk D K) (g : Ge H A0) (hlt : m < 2 ^ (segPs D).length)
    (hr : r = { state := .ready, pending := none, fn, t, N := 88, params := #[14], assign := c93x0, body := c93y0, defers := dn })
    (h2 : t 2 = .pointer (some ⟨nb, 0, none⟩)) (h5 : t 5 = .pointer (some ⟨q5, 0, none⟩)) (h6 : t 6 = .pointer (some ⟨q6, 0, none⟩)) (h7 : t 7 = .pointer (some ⟨q7, 0, none⟩))
    (hq : Three A0 q5 q6 q7) (e5 : H.next ≤ q5) (e6 : H.next ≤ q6) (e7 : H.next ≤ q7) (hnb : nb < A0.next) (n5 : nb ≠ q5) (n6 : nb ≠ q6) (n7 : nb ≠ q7) (hbx : A0.get nb = .cells rb (planCells D b w s k q) cb)
    (hi : i < (piecesL D m).length)
    (hI : ShI A0 L r q5 q6 q7 A (lTo K (piecesL D m) i).sum vB (bTo (restOf K) (piecesL D m) i) vL (lTo K (piecesL D m) i) vR (bTo (freeOf D K) (piecesL D m) i) (fstTo (piecesL D m) i) (lstTo (piecesL D m) i)) :
    ACall Tryd.prog (.func (.yield (A0.next + 1)) #[] #[]) [(piecesL D m)[i].val] A (fun v B => v = .bool true ∧ A.next ≤ B.next ∧ (∀ n, A0.next + 2 ≤ n → n < L → B.get n = A.get n) ∧
      ∃ vB vL vR, ShI A0 L r q5 q6 q7 B (lTo K (piecesL D m) (i + 1)).sum vB (bTo (restOf K) (piecesL D m) (i + 1)) vL (lTo K (piecesL D m) (i + 1)) vR (bTo (freeOf D K) (piecesL D m) (i + 1)) (fstTo (piecesL D m) (i + 1)) (lstTo (piecesL D m) (i + 1))) := by
  have hps := piecesL_length (D := D) (m := m)
  have hok : PcOk D m (piecesL D m)[i] := piecesL_mem hlt (List.getElem_mem hi)
  have hnx := hI.next
  refine ACall.of_yield (P := Tryd.prog) (D := vdrawD Tryd.prog) (CD := cdraw Tryd.prog 88) hI.loop (by rw [hr]; rfl) (by rw [hr]; intro p hp; simp at hp; subst hp; simp) (by rw [hr]; exact ok93x0) (by rw [hr]; exact ok93y0) (by rw [hr]; exact draw_sound hm) ?_
  subst hr
  have hne : A0.next + 1 ≠ A.next := by omega
  simp [a93x0, tround, hI.loop, hne]
  generalize hp : (piecesL D m)[i] = p at hok
  generalize hps' : piecesL D m = ps at hi hI hp hps
  generalize hr' : ({ state := LoopState.busy, pending := none, fn := fn, t := t, N := 88, params := #[14], assign := c93x0, body := c93y0, defers := dn } : ALoop) = r'
  have gN : Ge A ((A.new (.cells true [.int .u64 0, .int .i64 0, .int .i64 0, .int .i64 0, .int .i64 0] 5)).set A.next (.cells true [bitsV p.s, .int .i64 p.b, .int .i64 p.f, .int .i64 p.e, .int .i64 p.t] 5)) := (Ge.new _ _).setNew (Nat.le_refl _) _
  have hC := (hI.ge hq gN).setLoop (r' := r') hq
  have xC : Heap.get (((A.new (.cells true [.int .u64 0, .int .i64 0, .int .i64 0, .int .i64 0, .int .i64 0] 5)).set A.next (.cells true [bitsV p.s, .int .i64 p.b, .int .i64 p.f, .int .i64 p.e, .int .i64 p.t] 5)).set (A0.next + 1) (.loop r')) A.next = .cells true [bitsV p.s, .int .i64 p.b, .int .i64 p.f, .int .i64 p.e, .int .i64 p.t] 5 := by simp [Ne.symm hne]
  have nC : Heap.next (((A.new (.cells true [.int .u64 0, .int .i64 0, .int .i64 0, .int .i64 0, .int .i64 0] 5)).set A.next (.cells true [bitsV p.s, .int .i64 p.b, .int .i64 p.f, .int .i64 p.e, .int .i64 p.t] 5)).set (A0.next + 1) (.loop r')) = A.next + 1 := by simp
  have kC : ∀ n, A0.next + 2 ≤ n → n < L → Heap.get (((A.new (.cells true [.int .u64 0, .int .i64 0, .int .i64 0, .int .i64 0, .int .i64 0] 5)).set A.next (.cells true [bitsV p.s, .int .i64 p.b, .int .i64 p.f, .int .i64 p.e, .int .i64 p.t] 5)).set (A0.next + 1) (.loop r')) n = A.get n := fun n h1 h2 => by
    have := hI.low
    have e1 : n ≠ A0.next + 1 := by omega
    have e2 : n ≠ A.next := by omega
    simp [e1, e2]
  generalize ((A.new (.cells true [.int .u64 0, .int .i64 0, .int .i64 0, .int .i64 0, .int .i64 0] 5)).set A.next (.cells true [bitsV p.s, .int .i64 p.b, .int .i64 p.f, .int .i64 p.e, .int .i64 p.t] 5)).set (A0.next + 1) (.loop r') = C at hC xC nC kC
  have hlow := hI.low
  rw [y93]
  have tail : ∀ (C' : Heap) (t' : Nat → Value) (vB' vR' : Value), t' 2 = .pointer (some ⟨nb, 0, none⟩) → t' 5 = .pointer (some ⟨q5, 0, none⟩) → t' 7 = .pointer (some ⟨q7, 0, none⟩) → t' 8 = .pointer (some ⟨A.next, 0, none⟩) →
      ShI A0 L r' q5 q6 q7 C' (lTo K ps i).sum vB' (bTo (restOf K) ps (i + 1)) vL (lTo K ps i) vR' (bTo (freeOf D K) ps (i + 1)) (fstTo ps (i + 1)) (lstTo ps i) → C'.get A.next = .cells true [bitsV p.s, .int .i64 p.b, .int .i64 p.f, .int .i64 p.e, .int .i64 p.t] 5 → A.next < C'.next → (∀ n, A0.next + 2 ≤ n → n < L → C'.get n = A.get n) →
      vc Tryd.prog 88 (some (A0.next + 1)) (vdrawD Tryd.prog) y93b (blockQ 1 (roundQ (A0.next + 1) fun v B => v = .bool true ∧ A.next ≤ B.next ∧ (∀ n, A0.next + 2 ≤ n → n < L → B.get n = A.get n) ∧
        ∃ vB vL vR, ShI A0 L { state := .ready, pending := none, fn, t, N := 88, params := #[14], assign := c93x0, body := c93y0, defers := dn } q5 q6 q7 B (lTo K ps (i + 1)).sum vB (bTo (restOf K) ps (i + 1)) vL (lTo K ps (i + 1)) vR (bTo (freeOf D K) ps (i + 1)) (fstTo ps (i + 1)) (lstTo ps (i + 1)))) ⟨t', [], C'⟩ := by
    intro C' t' vB' vR' u2 u5 u7 u8 hS x8 nS kS
    have kb : C'.get nb = _ := (hS.keep nb hnb n5 n6 n7).trans hbx
    simp [planCells] at kb
    simp [y93b, tailOf, a93y0, u2, u5, u7, u8, kb, x8]
    refine fcall_fun (lasts_spec (hS.plan hP g e5 e6 e7) hK hok.fst (by rw [hok.same]; exact hok.lst)) ?_
    rintro _ C1 ⟨rfl, g1⟩
    have hlo : (kAt K p.e p.t).2 - (kAt K p.b p.f).1 = lastOf K p := rfl
    rw [hlo]
    have hlb := lastOf_bound hK hok
    generalize hlv : lastOf K p = lv at hlb
    have hS1 := hS.ge hq g1
    have x81 := g1.got nS x8
    have hsum := sum_bound (l := lTo K ps i) fun x hx => by
      simp only [lTo, List.mem_map] at hx
      obtain ⟨y, hy, rfl⟩ := hx
      exact lastOf_bound hK (piecesL_mem hlt (by rw [hps']; exact List.mem_of_mem_take hy))
    have hll : (lTo K ps i).length ≤ 16 := by simp [lTo]; omega
    simp [u5, hS1.b5]
    rw [add_in (by omega) (by omega)]
    simp [u5, hS1.b5, hS1.oB.one, hS1.oL.one, hS1.oR.one]
    have hS2 := hS1.setD hq ((lTo K ps i).sum + lv)
    have g3 := Ge.new (C1.set q5 (.cells true [.int .i64 ((lTo K ps i).sum + lv), .int .i64 0, vB', .bool false, vL, vR'] 6)) (.cells true [.int .i64 lv] 1)
    have hS3 := hS2.ge hq g3
    have yS : slCells ((C1.set q5 (.cells true [.int .i64 ((lTo K ps i).sum + lv), .int .i64 0, vB', .bool false, vL, vR'] 6)).new (.cells true [.int .i64 lv] 1)) 1 (.slice (some ⟨C1.next, 0, none⟩) 1 1) = some (1, [.int .i64 lv]) := slCells_new (rw := true) (c := 1) (by simp)
    have nS3 : Heap.next ((C1.set q5 (.cells true [.int .i64 ((lTo K ps i).sum + lv), .int .i64 0, vB', .bool false, vL, vR'] 6)).new (.cells true [.int .i64 lv] 1)) = C1.next + 1 := by simp
    have ne8 : A.next ≠ q5 := by have := hq.l5; omega
    have n1 := g1.next
    have x83 : Heap.get ((C1.set q5 (.cells true [.int .i64 ((lTo K ps i).sum + lv), .int .i64 0, vB', .bool false, vL, vR'] 6)).new (.cells true [.int .i64 lv] 1)) A.next = .cells true [bitsV p.s, .int .i64 p.b, .int .i64 p.f, .int .i64 p.e, .int .i64 p.t] 5 := by
      have e1 : A.next ≠ C1.next := by omega
      simp [e1, ne8, x81]
    have k83 : ∀ n, A0.next + 2 ≤ n → n < L → Heap.get ((C1.set q5 (.cells true [.int .i64 ((lTo K ps i).sum + lv), .int .i64 0, vB', .bool false, vL, vR'] 6)).new (.cells true [.int .i64 lv] 1)) n = A.get n := fun n h1 h2 => by
      have e1 : n ≠ C1.next := by omega
      have e2 : n ≠ q5 := by have := hq.l5; omega
      simp [e1, e2]
      rw [g1.get n (by omega)]; exact kS n h1 h2
    generalize (C1.set q5 (.cells true [.int .i64 ((lTo K ps i).sum + lv), .int .i64 0, vB', .bool false, vL, vR'] 6)).new (.cells true [.int .i64 lv] 1) = C3 at hS3 yS nS3 x83 k83
    refine fapp_own (lo := L) hS3.oL yS rfl (by simp [lTo]; omega) (by omega) (by omega) (by omega) (by omega) fun u B k1 k2 k3 k4 => ?_
    have hS4 := hS3.appL (x := lv) (u := u) (n := C1.next + 1) (B := B) hq (by omega) (by omega) k2 (by simpa using k1) (fun n h1 h2 => k4 n (by omega) h2)
    have lowL : ∀ n, n < L → slName vL ≠ some n := fun n h1 h2 => by have := hS3.names (.inr (.inl rfl)) h2; omega
    have kq : B.get q5 = _ := (k4 q5 (by have := hq.l5; omega) (lowL q5 (by have := hq.l5; omega))).trans hS3.b5
    have ol : lTo K ps (i + 1) = lTo K ps i ++ [lv] := by rw [lTo_succ hi, hp, hlv]
    have osum : (lTo K ps (i + 1)).sum = (lTo K ps i).sum + lv := by rw [ol, List.sum_append]; simp
    have hu1 : one u = true := k1.one
    have x8B : B.get A.next = _ := (k4 A.next (by omega) (fun e => by have := hI.names (.inr (.inl rfl)) e; omega)).trans x83
    have q75 : q7 ≠ q5 := hq.n57.symm
    have kq7 : B.get q7 = .cells true (lstTo ps i).cells 5 := by have := hS4.b7; simpa [q75] using this
    have hS5 := hS4.set7 hq p
    have hlp := hS5.loop
    have hlst : lstTo ps (i + 1) = p := by simp [lstTo, hi, hp]
    simp [u5, u7, u8, kq, hS3.oB.one, hu1, hS3.oR.one, one_cells, ne8, x8B, q75, kq7, Pc.cells]
    have e57 : A0.next + 1 ≠ q7 := by have := hq.l7; omega
    have e55 : A0.next + 1 ≠ q5 := by have := hq.l5; omega
    have hBl : B.get (A0.next + 1) = .loop r' := by simpa [e57, e55] using hlp
    have hS6 := hS5.setLoop (r' := { state := .ready, pending := none, fn, t, N := 88, params := #[14], assign := c93x0, body := c93y0, defers := dn }) hq
    refine ⟨r', by simp [e57, e55, hBl], by omega, fun n h1 h2 => ?_, vB', u, vR', ?_⟩
    · have f1 : n ≠ A0.next + 1 := by omega
      have f2 : n ≠ q7 := by have := hq.l7; omega
      have f3 : n ≠ q5 := by have := hq.l5; omega
      simp [f1, f2, f3]
      rw [k4 n (by omega) (lowL n h2)]; exact k83 n h1 h2
    · subst hr'
      rw [osum, ol, hlst]
      exact hS6
  have kb : C.get nb = _ := (hC.keep nb hnb n5 n6 n7).trans hbx
  simp [planCells] at kb
  have ne6 : A.next ≠ q6 := by have := hq.l6; omega
  have ne5 : A.next ≠ q5 := by have := hq.l5; omega
  have ne7 : A.next ≠ q7 := by have := hq.l7; omega
  have b7 := hC.b7
  have b6 := hC.b6
  simp [Pc.cells] at b7 b6
  simp [headOf, a93y0, h7, b7]
  rw [aval_eq149 (a := lstTo ps i) (c := fz) (by simp) (by simp [fz]) (by decide) (by decide)]
  by_cases hi0 : i = 0
  · have hl0 : lstTo ps i = fz := by simp [lstTo, hi0]
    simp [hl0, h6, xC, b6]
    refine tail (C.set q6 (.cells true p.cells 5)) _ vB vR (by simp [h2]) (by simp [h5]) (by simp [h7]) (by simp) ?_ (by simp [ne6, xC]) (by simp; omega) (fun n h1 h2 => by have : n ≠ q6 := by have := hq.l6; omega
                                                                                                                                                                             simp [this]; exact kC n h1 h2)
    have hS := hC.set6 hq p
    have hf : fstTo ps (i + 1) = p := by subst hi0; simp [fstTo, hi, ← hp]
    have hb1 : ∀ f, bTo f ps (i + 1) = bTo f ps i := fun f => by subst hi0; rfl
    rw [hf, hb1, hb1]
    exact hS
  have hlp : lstTo ps i = ps[i - 1]'(by omega) := by simp [lstTo, hi0, (by omega : i - 1 < ps.length)]
  have hokl : PcOk D m (ps[i - 1]'(by omega)) := piecesL_mem hlt (by rw [hps']; exact List.getElem_mem _)
  generalize hle : ps[i - 1]'(by omega) = pl at hlp hokl
  have hnz : ¬ lstTo ps i = fz := by rw [hlp]; exact hokl.nz
  rw [hlp] at hnz b7
  simp [hlp, hnz, h2, kb, xC, h7, b7]
  have hokl2 : D.has pl.e pl.t := by rw [hokl.same]; exact hokl.lst
  have hC0 := hC.ge hq (Ge.more C 10)
  refine fcall_fun (minute_spec (e := 0) (hC0.plan hP g e5 e6 e7) hK hok.fst (.inl rfl)) ?_
  rintro _ C1 ⟨rfl, g1⟩
  have hC1 := hC0.ge hq g1
  have n1 := g1.next
  simp only at n1
  have xC1 := g1.got (n := A.next) (by simp; omega) xC
  have b71 := hC1.b7
  rw [hlp] at b71
  simp [Pc.cells] at b71
  have kb1 : C1.get nb = _ := (hC1.keep nb hnb n5 n6 n7).trans hbx
  simp [planCells] at kb1
  simp [h2, h7, kb1, b71]
  refine fcall_fun (minute_spec (e := 1) (hC1.plan hP g e5 e6 e7) hK hokl2 (.inr rfl)) ?_
  rintro _ C2 ⟨rfl, g2⟩
  have hC2 := hC1.ge hq g2
  have n2 := g2.next
  have xC2 := g2.got (n := A.next) (by omega) xC1
  have q1 := hK.at hok.fst
  have q2 := hK.at hokl2
  simp
  rw [sub_in (by omega) (by omega)]
  have hrv0 : (kAt K p.b p.f).1 - (kAt K pl.e pl.t).2 = restOf K pl p := rfl
  rw [hrv0]
  have hrb := restOf_bound hK hokl hok
  generalize hrv : restOf K pl p = rv at hrb
  simp [h5, hC2.b5]
  have kC2 : ∀ n, A0.next + 2 ≤ n → n < L → C2.get n = A.get n := fun n h1 h2 => by
    rw [g2.get n (by omega), g1.get n (by simp; omega)]; exact kC n h1 h2
  have hC3 := hC2.ge hq (Ge.new C2 (.cells true [.int .i64 rv] 1))
  have lowB : ∀ n, n < L → slName vB ≠ some n := fun n h1 h2 => by have := hC2.names (.inl rfl) h2; omega
  have lowR : ∀ n, n < L → slName vR ≠ some n := fun n h1 h2 => by have := hC2.names (.inr (.inr rfl)) h2; omega
  refine fapp_own (lo := L) (x := .int .i64 rv) hC3.oB (slCells_new (rw := true) (c := 1) (by simp)) rfl (by simp [bTo]; omega) (by omega) (by simp) (by omega) (by simp; omega) fun u B1 k1 k2 k3 k4 => ?_
  have hD1 := hC3.appB (x := rv) (u := u) (n := C2.next + 1) (B := B1) hq (by simp) (by omega) k2 (by simpa using k1) (fun n h1 h2 => k4 n (by simp at h1; omega) h2)
  have nvA : ∀ v, (v = vB ∨ v = vL ∨ v = vR) → slName v ≠ some A.next := fun v hv e => by have := hI.names hv e; omega
  have kq : B1.get q5 = _ := (k4 q5 (by have := hq.l5; omega) (lowB q5 (by have := hq.l5; omega))).trans hC3.b5
  have hu1 : one u = true := k1.one
  have e8 : A.next ≠ C2.next := by omega
  have xB1 : B1.get A.next = .cells true [bitsV p.s, .int .i64 p.b, .int .i64 p.f, .int .i64 p.e, .int .i64 p.t] 5 := (k4 A.next (by omega) (nvA _ (.inl rfl))).trans (by simp [e8, xC2])
  have kB1 : ∀ n, A0.next + 2 ≤ n → n < L → B1.get n = A.get n := fun n h1 h2 => by
    have f1 : n ≠ C2.next := by omega
    rw [k4 n (by omega) (lowB n h2)]; simp [f1, kC2 n h1 h2]
  have b7D := hD1.b7
  rw [hlp] at b7D
  simp [Pc.cells, hq.n57.symm] at b7D
  have kbD : B1.get nb = .cells rb (planCells D b w s k q) cb := by
    have := (hD1.keep nb hnb n5 n6 n7).trans hbx
    simpa [n5] using this
  simp [planCells] at kbD
  simp [h2, h5, h7, kq, hu1, hC3.oL.one, hC3.oR.one, one_cells, n5, hq.n57.symm, b7D, ne5, xB1, kbD]
  have hD2 := hD1.ge hq (Ge.more _ 14)
  refine fcall_fun (walkOf_spec (hD2.plan hP g e5 e6 e7) hV hokl2 hok.fst) ?_
  rintro _ C5 ⟨rfl, g5⟩
  have hD5 := hD2.ge hq g5
  have n5' := g5.next
  simp only [Heap.set_next] at n5'
  have wb := walkOf_bound hV hokl2 hok.fst
  have hfv : rv - D.walkOf pl.e pl.t p.b p.f = freeOf D K pl p := by rw [← hrv]; rfl
  simp [hD5.b5]
  rw [sub_in (by omega) (by omega), hfv]
  simp
  have oR5 : OwnSl (C5.set (B1.next + 10) (.cells true [.int .i64 (freeOf D K pl p)] 1)) L vR ((bTo (freeOf D K) ps i).map (Value.int .i64)) := hD5.oR.keep (by simp) fun n hn => by
    have := hD1.names (.inr (.inr rfl)) hn
    simp at this
    have f : n ≠ B1.next + 10 := by omega
    simp [f]
  refine fapp_own' (x := .int .i64 (freeOf D K pl p)) oR5 (slCells_new (rw := true) (c := 1) (by simp)) rfl (by simp [bTo]; omega) (by omega) (by omega) (by omega) fun u2 B2 m1 m2 m3 m4 => ?_
  have kE : ∀ n, n < B1.next → slName vR ≠ some n → B2.get n = (B1.set q5 (.cells true [.int .i64 (lTo K ps i).sum, .int .i64 0, u, .bool false, vL, vR] 6)).get n := fun n f1 f2 => by
    have f3 : n ≠ B1.next + 10 := by omega
    rw [m4 n (by omega) f2, Heap.set_get, if_neg f3]
    exact g5.get n (by simp; omega)
  have hE := hD1.appR (x := freeOf D K pl p) (u := u2) (n := B1.next + 11) (B := B2) hq (by simp) (by omega) m2 (by simpa using m1) (fun n f1 f2 => kE n (by simpa using f1) f2)
  have kq2 : B2.get q5 = .cells true [.int .i64 (lTo K ps i).sum, .int .i64 0, u, .bool false, vL, vR] 6 := (kE q5 (by have := hq.l5; omega) (lowR q5 (by have := hq.l5; omega))).trans (by simp)
  have hu2 : one u2 = true := m1.one
  simp [h5, kq2, hu1, hu2, hC3.oL.one, one_cells]
  have hE2 : ShI A0 L r' q5 q6 q7 (B2.set q5 (.cells true [.int .i64 (lTo K ps i).sum, .int .i64 0, u, .bool false, vL, u2] 6)) (lTo K ps i).sum u (bTo (restOf K) ps (i + 1)) vL (lTo K ps i) u2 (bTo (freeOf D K) ps (i + 1)) (fstTo ps (i + 1)) (lstTo ps i) := by
    have f0 : fstTo ps (i + 1) = fstTo ps i := by simp [fstTo, hi0]
    rw [bTo_succ (by omega) hi, bTo_succ (by omega) hi, hle, hp, hrv, f0]
    exact hE
  refine tail _ _ u u2 (by simp [h2]) (by simp [h5]) (by simp [h7]) (by simp) hE2 ?_ ?_ ?_
  · rw [Heap.set_get, if_neg ne5, kE A.next (by omega) (nvA _ (.inr (.inr rfl))), Heap.set_get, if_neg ne5]
    exact xB1
  · simp; omega
  · intro n f1 f2
    have f3 : n ≠ q5 := by have := hq.l5; omega
    rw [Heap.set_get, if_neg f3, kE n (by omega) (lowR n f2), Heap.set_get, if_neg f3]
    exact kB1 n f1 f2

end Go.Proofs.YtjbbcpeidnkjlaaDoor


namespace Go.Proofs.YtjbbcpeidnkjlaaDoor
open Go Go.Ab

theorem law_bounds {D : Dy} (hV : Valid D) : (0 ≤ D.law.piece ∧ D.law.piece ≤ 3000) ∧ (0 ≤ D.law.drive ∧ D.law.drive ≤ 3000) ∧ (0 ≤ D.law.spread ∧ D.law.spread ≤ 3000) ∧ (0 < D.law.brk ∧ D.law.brk ≤ 3000) ∧ (0 ≤ D.law.on ∧ D.law.on ≤ 3000) ∧ (0 ≤ D.law.off ∧ D.law.off ≤ 3000) ∧ (0 ≤ D.law.least ∧ D.law.least ≤ 3000) ∧ (1 ≤ D.law.pieces ∧ D.law.pieces ≤ 3) := by
  have := hV.law
  simp [okLaw, okTime] at this
  omega

theorem own_ints {A : Heap} {lo : Nat} {v : Value} {xs : List Int} (h : OwnSl A lo v (xs.map (Value.int .i64))) (hl : xs.length < 2 ^ 63) : IntsAt A v xs := by
  have := h.slr
  rw [List.length_map] at this
  exact ⟨this, hl⟩

theorem piecesFn_spec {x y : Value} {H : Heap} : AFun Tryd.prog 110 [x, y] H (fun v B => v = .func (.func 122) #[] #[.pointer (some ⟨H.next + 1, 0, none⟩), .pointer (some ⟨H.next, 0, none⟩)] ∧ B = (H.new (.cells true x.cells.toList x.cells.size)).new (.cells true y.cells.toList y.cells.size)) := by
  refine AFun.mk ok110 hm (Nat.le_of_ble_eq_true rfl) ?_
  simp [a110, r110]

def spreadOf (D : Dy) (K : List (List (Int × Int))) (ps : List Pc) : Int := D.law.on + ((kAt K (ps[ps.length - 1]?.getD fz).e (ps[ps.length - 1]?.getD fz).t).2 - (kAt K (ps[0]?.getD fz).b (ps[0]?.getD fz).f).1) + D.law.off

theorem _root_.Go.Ab.OwnSl.lower {A : Heap} {lo lo' : Nat} {v : Value} {cs : List Value} (h : OwnSl A lo v cs) (hl : lo' ≤ lo) : OwnSl A lo' v cs := by
  rcases h with h | ⟨n, cap, c, h1, h2, h3⟩
  · exact .inl h
  · exact .inr ⟨n, cap, c, h1, by omega, h3⟩

theorem shift_range {D : Dy} {K : List (List (Int × Int))} {b w s k q : Value} {H A0 : Heap} {nb nm q5 q6 q7 m cb cm : Nat} {rb rm : Bool} {t : Nat → Value} {Q : APost}
    (hP : PlanAt H b w s k q D K) (hV : Valid D) (hK : KOk D K) (g : Ge H A0) (hlt : m < 2 ^ (segPs D).length) (n2 nb2 : Nat)
    (h2 : t 2 = .pointer (some ⟨n2, 0, none⟩)) (h5 : t 5 = .pointer (some ⟨q5, 0, none⟩)) (h6 : t 6 = .pointer (some ⟨q6, 0, none⟩)) (h7 : t 7 = .pointer (some ⟨q7, 0, none⟩))
    (h13 : t 13 = .func (.func 122) #[] #[.pointer (some ⟨nm, 0, none⟩), .pointer (some ⟨nb, 0, none⟩)])
    (hq : Three A0 q5 q6 q7) (e5 : H.next ≤ q5) (e6 : H.next ≤ q6) (e7 : H.next ≤ q7) (hnb : nb < A0.next) (hnm : nm < A0.next) (hn2 : n2 < A0.next) (f5 : n2 ≠ q5) (f6 : n2 ≠ q6) (f7 : n2 ≠ q7)
    (hbx : A0.get nb = .cells rb (planCells D b w s k q) cb) (hb2 : A0.get n2 = .cells true (planCells D b w s k q) nb2) (hmx : A0.get nm = .cells rm [bitsV m] cm)
    (z5 : A0.get q5 = .cells true [.int .i64 0, .int .i64 0, .slice none 0 0, .bool false, .slice none 0 0, .slice none 0 0] 6) (z6 : A0.get q6 = .cells true fz.cells 5) (z7 : A0.get q7 = .cells true fz.cells 5)
    (hQ : ∀ B vB vL vR, A0.next + 2 ≤ B.next → (∀ n, n < A0.next → n ≠ q5 → n ≠ q6 → n ≠ q7 → B.get n = A0.get n) → B.get A0.next = .dfr →
      B.get q5 = .cells true [.int .i64 (lTo K (piecesL D m) (piecesL D m).length).sum, .int .i64 0, vB, .bool false, vL, vR] 6 → B.get q6 = .cells true (fstTo (piecesL D m) (piecesL D m).length).cells 5 → B.get q7 = .cells true (lstTo (piecesL D m) (piecesL D m).length).cells 5 →
      OwnSl B (A0.next + 2) vB ((bTo (restOf K) (piecesL D m) (piecesL D m).length).map (Value.int .i64)) → OwnSl B (A0.next + 2) vL ((lTo K (piecesL D m) (piecesL D m).length).map (Value.int .i64)) → OwnSl B (A0.next + 2) vR ((bTo (freeOf D K) (piecesL D m) (piecesL D m).length).map (Value.int .i64)) → Q .normal ⟨t, [A0.next], B⟩) :
    arange Tryd.prog 88 none (.t 13) #[14] c93x0 c93y0 Q ⟨t, [], A0⟩ := by
  refine ⟨122, #[], #[.pointer (some ⟨nm, 0, none⟩), .pointer (some ⟨nb, 0, none⟩)], h13, fun fn => ?_⟩
  have gA : Ge A0 ((A0.new .dfr).new (.loop { state := .ready, pending := none, fn, t, N := 88, params := #[14], assign := c93x0, body := c93y0, defers := A0.next })) := (Ge.new _ _).newOf _
  have hn5 := hq.l5; have hn6 := hq.l6; have hn7 := hq.l7
  refine (pieces_spec (D := D) (K := K) (m := m) (H := (A0.new .dfr).new (.loop { state := .ready, pending := none, fn, t, N := 88, params := #[14], assign := c93x0, body := c93y0, defers := A0.next })) (hP.ge (g.trans gA)) hV (gA.got hnb hbx) (by simp; omega) (gA.got hnm hmx) (by simp; omega) hlt
    (I := fun L i A => ∃ vB vL vR, ShI A0 L { state := .ready, pending := none, fn, t, N := 88, params := #[14], assign := c93x0, body := c93y0, defers := A0.next } q5 q6 q7 A (lTo K (piecesL D m) i).sum vB (bTo (restOf K) (piecesL D m) i) vL (lTo K (piecesL D m) i) vR (bTo (freeOf D K) (piecesL D m) i) (fstTo (piecesL D m) i) (lstTo (piecesL D m) i))
    (F := fun _ => False) ?_ ?_ ?_).mono ?_
  · intro A gg
    have hx := gg.next
    simp at hx
    refine ⟨.slice none 0 0, .slice none 0 0, .slice none 0 0, by omega, ⟨by omega, Nat.le_refl _⟩, fun n h1 h2 h3 h4 => ?_, ?_, ?_, ?_, ?_, ?_, .inl ⟨rfl, rfl⟩, .inl ⟨rfl, by simp [lTo]⟩, .inl ⟨rfl, rfl⟩, (fun m hm => by cases hm), (fun m hm => by cases hm)⟩
    · rw [gg.get n (by simp; omega)]
      exact gA.get n h1
    · exact gg.got (by simp) (by simp)
    · exact gg.got (by simp) (by simp)
    · exact gg.got (by simp; omega) (gA.got hn5 (by rw [z5]; simp [lTo]))
    · exact gg.got (by simp; omega) (gA.got hn6 z6)
    · exact gg.got (by simp; omega) (gA.got hn7 z7)
  · rintro L i A B ⟨vB, vL, vR, hI⟩ gg
    exact ⟨vB, vL, vR, hI.ge hq gg⟩
  · rintro L i A hi hL1 hL2 ⟨vB, vL, vR, hI⟩
    refine (shift_round hP hV hK g hlt rfl h2 h5 h6 h7 hq e5 e6 e7 hn2 f5 f6 f7 hb2 hi hI).mono ?_
    rintro v B ⟨rfl, k1, k2, k3⟩
    refine ⟨true, rfl, k1, fun n h1 h2 => k2 n (by simpa using h1) h2, fun _ => k3, fun e => by cases e⟩
  · rintro v B (⟨L, vB, vL, vR, hI⟩ | hF)
    case inr => exact hF.elim
    have hx := hI.next
    refine ⟨_, hI.loop, by simp, ?_⟩
    have e1 : ∀ n, n ≠ A0.next + 1 → ∀ x, (B.set (A0.next + 1) x).get n = B.get n := fun n hn x => by simp [hn]
    refine hQ _ vB vL vR (by simpa using hx) (fun n k1 k2 k3 k4 => by rw [e1 n (by omega)]; exact hI.keep n k1 k2 k3 k4) (by rw [e1 _ (by omega)]; exact hI.dfr) (by rw [e1 _ (by omega)]; exact hI.b5) (by rw [e1 _ (by omega)]; exact hI.b6) (by rw [e1 _ (by omega)]; exact hI.b7) ?_ ?_ ?_
    · refine OwnSl.keep (A := B) ?_ (Nat.le_refl _) fun n hn => e1 n (by have := hI.names (.inl rfl) hn; omega) _
      exact hI.oB.lower hI.low.1
    · refine OwnSl.keep (A := B) ?_ (Nat.le_refl _) fun n hn => e1 n (by have := hI.names (.inr (.inl rfl)) hn; omega) _
      exact hI.oL.lower hI.low.1
    · refine OwnSl.keep (A := B) ?_ (Nat.le_refl _) fun n hn => e1 n (by have := hI.names (.inr (.inr rfl)) hn; omega) _
      exact hI.oR.lower hI.low.1

theorem shift_spec {D : Dy} {K : List (List (Int × Int))} {b w s k q : Value} {H : Heap} {m : Nat} (hP : PlanAt H b w s k q D K) (hV : Valid D) (hK : KOk D K) (hlt : m < 2 ^ (segPs D).length) (hne : 0 < (piecesL D m).length) :
    AFun Tryd.prog 93 [planV D b w s k q, bitsV m] H (fun r B => ∃ vB vL vR, r = .agg #[.int .i64 (lTo K (piecesL D m) (piecesL D m).length).sum, .int .i64 (spreadOf D K (piecesL D m)), vB, .bool false, vL, vR] ∧
      OwnSl B H.next vB ((bTo (restOf K) (piecesL D m) (piecesL D m).length).map (Value.int .i64)) ∧ IntsAt B vL (lTo K (piecesL D m) (piecesL D m).length) ∧ IntsAt B vR (bTo (freeOf D K) (piecesL D m) (piecesL D m).length) ∧ Ge H B) := by
  refine AFun.mk ok93 hm (Nat.le_of_ble_eq_true rfl) ?_
  have hb := hP.day.blocks.one
  have hw := hP.day.walk.one
  have hs := hP.segs.one
  have hk := hP.known.one
  have hq : one q = true := SlR.one hP.quest
  have hp16 := piecesL_length (D := D) (m := m)
  simp [a93, r93]
  refine fcall_fun piecesFn_spec ?_
  rintro _ _ ⟨rfl, rfl⟩
  simp
  refine frange_intro ?_
  refine shift_range (q5 := H.next + 2) (q6 := H.next + 3) (q7 := H.next + 4) (nm := H.next + 6) (nb := H.next + 5) (rb := true) (cb := 13) (rm := true) (cm := 1) hP hV hK ?_ hlt H.next 13 (by simp) (by simp) (by simp) (by simp) (by simp) ⟨by simp, by simp, by simp, by omega, by omega, by omega⟩ (by omega) (by omega) (by omega) (by simp) (by simp) (by simp) (by omega) (by omega) (by omega) (by simp) (by simp) (by simp) (by simp) (by simp [fz, Pc.cells]) (by simp [fz, Pc.cells]) ?_
  · exact (((((((Ge.new _ _).newOf _).newOf _).newOf _).newOf _).newOf _).newOf _)
  intro B vB vL vR k1 k2 k3 b5 b6 b7 o1 o2 o3
  have n0 := k2 H.next (by simp) (by omega) (by omega) (by omega)
  have n1 := k2 (H.next + 1) (by simp) (by omega) (by omega) (by omega)
  simp at k1 k3 n0 n1
  have gB : Ge H B := ⟨by omega, fun n hn => by
    have e0 : n ≠ H.next := by omega
    have e1 : ∀ j, n ≠ H.next + j := fun j => by omega
    rw [k2 n (by simp; omega) (by omega) (by omega) (by omega)]; simp [e0, e1]⟩
  have hfst : fstTo (piecesL D m) (piecesL D m).length = (piecesL D m)[0]?.getD fz := by
    have hz : (piecesL D m).length ≠ 0 := by omega
    simp only [fstTo, hz, if_false]
  have hlst : lstTo (piecesL D m) (piecesL D m).length = (piecesL D m)[(piecesL D m).length - 1]?.getD fz := by
    have hz : (piecesL D m).length ≠ 0 := by omega
    simp only [lstTo, hz, if_false]
  rw [hfst] at b6
  rw [hlst] at b7
  simp [Pc.cells] at b6 b7
  simp [n0, b6, b7]
  have g0 : (piecesL D m)[0]?.getD fz = (piecesL D m)[0] := by simp [hne]
  have gn : (piecesL D m)[(piecesL D m).length - 1]?.getD fz = (piecesL D m)[(piecesL D m).length - 1] := by simp [(by omega : (piecesL D m).length - 1 < (piecesL D m).length)]
  have ok0 : PcOk D m ((piecesL D m)[0]?.getD fz) := by rw [g0]; exact piecesL_mem hlt (List.getElem_mem _)
  have okn : PcOk D m ((piecesL D m)[(piecesL D m).length - 1]?.getD fz) := by rw [gn]; exact piecesL_mem hlt (List.getElem_mem _)
  have hsn : D.has ((piecesL D m)[(piecesL D m).length - 1]?.getD fz).e ((piecesL D m)[(piecesL D m).length - 1]?.getD fz).t := by rw [okn.same]; exact okn.lst
  have bnd0 := hK.at ok0.fst
  have bndn := hK.at hsn
  have hlaw := law_bounds hV
  unfold spreadOf
  generalize (piecesL D m)[0]?.getD fz = p0 at *
  generalize (piecesL D m)[(piecesL D m).length - 1]?.getD fz = pn at *
  refine fcall_fun (lasts_spec ((hP.ge gB).ge (Ge.more B 19)) hK ok0.fst hsn) ?_
  rintro _ C ⟨rfl, gC⟩
  have nC := gC.next
  simp only at nC
  have c0 := gC.got (n := H.next) (by simp; omega) n0
  have c1 := gC.got (n := H.next + 1) (by simp; omega) n1
  have c5 := gC.got (n := H.next + 2) (by simp; omega) b5
  have c7 := gC.got (n := H.next + 7) (by simp; omega) k3
  simp [c0, c5]
  rw [add_in (by omega) (by omega)]
  simp
  rw [add_in (by omega) (by omega)]
  simp [c1, c5, c7, o1.one, o2.one, o3.one]
  have keepS : ∀ {v : Value} {xs : List Int} (y1 y2 : AObj), OwnSl B (H.next + 7 + 2) v (xs.map (Value.int .i64)) → OwnSl (((C.set (H.next + 2) y1).set (H.next + 1) y2).set (H.next + 7) .gone) H.next v (xs.map (Value.int .i64)) := fun {v xs} y1 y2 ho => by
    refine ((((ho.ge (Ge.more B 19)).ge gC).lower (lo' := H.next) (by omega))).keep (by simp) fun n hn => ?_
    have := ho.names hn
    have f1 : n ≠ H.next + 2 := by omega
    have f2 : n ≠ H.next + 1 := by omega
    have f3 : n ≠ H.next + 7 := by omega
    simp [f1, f2, f3]
  refine ⟨vB, vL, vR, ⟨rfl, rfl, rfl⟩, keepS _ _ o1, own_ints (keepS _ _ o2) (by simp [lTo]; omega), own_ints (keepS _ _ o3) (by simp [bTo]; omega), ?_⟩
  exact (((gB.trans (Ge.trans (Ge.more B 19) gC)).setNew (n := H.next + 2) (by omega) _).setNew (n := H.next + 1) (by omega) _).setNew (n := H.next + 7) (by omega) _

end Go.Proofs.YtjbbcpeidnkjlaaDoor

