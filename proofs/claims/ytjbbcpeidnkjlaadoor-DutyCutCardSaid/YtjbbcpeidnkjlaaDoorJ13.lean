/-
  Joined texts of a calculus of abstract memory, of the program's code in it, and of contracts.
-/
import Derived.Test.YtjbbcpeidnkjlaaDoorJ6
import Derived.Test.YtjbbcpeidnkjlaaDoorJ9
import Derived.Test.YtjbbcpeidnkjlaaDoorJ10
import Derived.Test.YtjbbcpeidnkjlaaDoorJ11
import Derived.Test.YtjbbcpeidnkjlaaDoorJ12
import Derived.WalkKit
import Derived.ProofKit
import Derived.OpenShut
import Derived.Deep.DeepHandedRow
import Derived.Test.YtjbbcpeidnkjlaaDoorCards
import Derived.Test.YtjbbcpeidnkjlaaDoorTie
namespace Go.Proofs.YtjbbcpeidnkjlaaDoor
open Go Go.Ab

def rowF (f : Nat → Int) (n : Nat) : List Int := (List.range n).map f
def tabF (D : Dy) (g : Nat → Nat → Int) : List (List Int) := (List.range D.blocks.length).map fun b => rowF (g b) ((D.blocks[b]?).getD []).length
def updG (g : Nat → Nat → Int) (b i : Nat) (x : Int) : Nat → Nat → Int := fun c j => if c = b ∧ j = i then x else g c j
@[simp] theorem rowF_length {f : Nat → Int} {n : Nat} : (rowF f n).length = n := by simp [rowF]
@[simp] theorem tabF_length {D : Dy} {g : Nat → Nat → Int} : (tabF D g).length = D.blocks.length := by simp [tabF]
theorem tabF_at {D : Dy} {g : Nat → Nat → Int} {b : Nat} {r : List Rl} (h : D.blocks[b]? = some r) : (tabF D g)[b]? = some (rowF (g b) r.length) := by
  obtain ⟨hb, rfl⟩ := List.getElem?_eq_some_iff.1 h
  simp [tabF, hb]
theorem rowF_set {f : Nat → Int} {n i : Nat} {x : Int} : (rowF f n).set i x = rowF (fun j => if j = i then x else f j) n := by
  refine List.ext_getElem (by simp) fun j h1 h2 => ?_
  simp [rowF, List.getElem_set]
  by_cases e : i = j
  · simp [e]
  · simp [e, Ne.symm e]
theorem rowF_upd {g : Nat → Nat → Int} {b i n : Nat} {x : Int} : rowF (updG g b i x b) n = (rowF (g b) n).set i x := by
  rw [rowF_set]; congr 1; funext j; simp [updG]

theorem RowsX.ge {A B : Heap} {lo : Nat} {v : Value} {rs : List (List Int)} {vs : List Value} (h : RowsX A lo v rs vs) (g : Ge A B) : RowsX B lo v rs vs :=
  h.keep g.next fun n _ hn => g.get n hn
theorem RowsX.lower {A : Heap} {lo lo' : Nat} {v : Value} {rs : List (List Int)} {vs : List Value} (h : RowsX A lo v rs vs) (hl : lo' ≤ lo) : RowsX A lo' v rs vs :=
  ⟨h.own.lower hl, h.len, fun k hk => let ⟨u, h1, h2, h3⟩ := h.row k hk; ⟨u, h1, h2.lower hl, h3⟩, h.apart⟩
theorem RowsX.names {A : Heap} {lo : Nat} {v : Value} {rs : List (List Int)} {vs : List Value} (h : RowsX A lo v rs vs) {k : Nat} {u : Value} (hk : vs[k]? = some u) {m : Nat} (hm : slName u = some m) : lo ≤ m ∧ m < A.next := by
  have hl := (List.getElem?_eq_some_iff.1 hk).1
  rw [h.len] at hl
  obtain ⟨u', h1, h2, _⟩ := h.row k hl
  rw [h1] at hk; cases hk
  exact h2.names hm

theorem RowsX.push {A : Heap} {lo n nx : Nat} {v x y : Value} {rs : List (List Int)} {vs : List Value} {r : List Int} {R : Value → Heap → Prop} (h : RowsX A lo v rs vs) (hx : OwnSl A lo x (r.map (.int .i64)))
    (hnm : ∀ m, slName x = some m → slName v ≠ some m ∧ ∀ (k : Nat) (u : Value), vs[k]? = some u → slName u ≠ some m) (hy : slCells A 1 y = some (1, [x])) (hlen : rs.length ≤ 2 ^ 20) (hn : A.next ≤ n) (hnx : n < nx) (hlo : lo ≤ A.next)
    (K : ∀ u B, RowsX B lo u (rs ++ [r]) (vs ++ [x]) → slName u = some n → B.next = nx → (∀ m, m ≠ n → slName v ≠ some m → B.get m = A.get m) → R u B) : @fapp (baseOf A 1 v) (slCells A 1 y) 1 24 A n nx ⟨R⟩ := by
  have hvl := h.len
  refine fapp_own h.own hy hx.one (by omega) (by omega) hn hnx hlo fun u B k1 k2 k3 k4 => ?_
  have keep : ∀ w cs, OwnSl A lo w cs → (∀ m, slName w = some m → slName v ≠ some m) → OwnSl B lo w cs := fun w cs hw hne =>
    hw.keep (by omega) fun m hm => k4 m (by have := (hw.names hm).2; omega) (hne m hm)
  refine K u B ⟨k1, by simp [hvl], fun k hk => ?_, fun i j w w' m hij hi hj hm => ?_⟩ k2 k3 k4
  · by_cases hk2 : k < rs.length
    · obtain ⟨w, h5, h6, h7⟩ := h.row k hk2
      refine ⟨w, by rw [List.getElem?_append_left (by omega)]; exact h5, ?_, fun m hm => ?_⟩
      · rw [List.getElem_append_left hk2]; exact keep _ _ h6 h7
      · rw [k2]; intro e; cases e; have := (h6.names hm).2; omega
    · have hke : k = rs.length := by simp at hk; omega
      subst hke
      refine ⟨x, by rw [List.getElem?_append_right (by omega)]; simp [hvl], ?_, fun m hm => ?_⟩
      · rw [List.getElem_append_right (by omega)]
        simp only [Nat.sub_self, List.getElem_cons_zero]
        exact keep _ _ hx fun m hm => (hnm m hm).1
      · rw [k2]; intro e; cases e; have := (hx.names hm).2; omega
  · have last : ∀ k z, ¬ k < vs.length → (vs ++ [x])[k]? = some z → k = vs.length ∧ z = x := fun k z hk hz => by
      have hl := (List.getElem?_eq_some_iff.1 hz).1
      simp at hl
      have : k = vs.length := by omega
      subst this
      simp at hz
      exact ⟨rfl, hz.symm⟩
    by_cases ei : i < vs.length
    · rw [List.getElem?_append_left ei] at hi
      by_cases ej : j < vs.length
      · rw [List.getElem?_append_left ej] at hj
        exact h.apart i j w w' m hij hi hj hm
      · obtain ⟨_, rfl⟩ := last j w' ej hj
        exact fun e => (hnm m e).2 i w hi hm
    · obtain ⟨e1, rfl⟩ := last i w ei hi
      by_cases ej : j < vs.length
      · rw [List.getElem?_append_left ej] at hj
        exact (hnm m hm).2 j w' hj
      · exact absurd ((last j w' ej hj).1.trans e1.symm) (Ne.symm hij)

theorem RowsX.store {D : Dy} {A : Heap} {lo : Nat} {v : Value} {g : Nat → Nat → Int} {vs : List Value} (h : RowsX A lo v (tabF D g) vs) {b i : Nat} {r : List Rl} (hb : D.blocks[b]? = some r) (hi : i < r.length) :
    ∃ q cap c, vs[b]? = some (.slice (some ⟨q, 0, none⟩) r.length cap) ∧ lo ≤ q ∧ q < A.next ∧ A.get q = .cells true ((rowF (g b) r.length).map (.int .i64)) c ∧ slName v ≠ some q ∧
      ∀ (x : Int) (B : Heap), A.next ≤ B.next → B.get q = .cells true (((rowF (g b) r.length).set i x).map (.int .i64)) c → (∀ m, lo ≤ m → m < A.next → m ≠ q → B.get m = A.get m) → RowsX B lo v (tabF D (updG g b i x)) vs := by
  have hbl := (List.getElem?_eq_some_iff.1 hb).1
  have hget : ∀ (g' : Nat → Nat → Int) (hh : b < (tabF D g').length), (tabF D g')[b] = rowF (g' b) r.length := fun g' hh => by
    have := tabF_at (g := g') hb
    rw [List.getElem?_eq_getElem hh] at this
    exact Option.some.inj this
  obtain ⟨u, f1, f2, f3⟩ := h.row b (by simpa using hbl)
  rw [hget g] at f2
  rcases f2 with ⟨_, h0⟩ | ⟨q, cap, c, hu0, q1, q2, q3, q4, q5⟩
  · have := congrArg List.length h0
    simp only [List.length_map, rowF_length, List.length_nil] at this; omega
  simp only [List.length_map, rowF_length] at hu0 q4
  subst hu0
  have hnq : slName (.slice (some ⟨q, 0, none⟩) r.length cap) = some q := rfl
  refine ⟨q, cap, c, f1, q1, q2, q3, f3 q hnq, fun x B hB hq hk => ⟨?_, ?_, fun k hk2 => ?_, h.apart⟩⟩
  · exact h.own.keep hB fun m hm => hk m (h.own.names hm).1 (h.own.names hm).2 fun e => f3 q hnq (by rw [← e]; exact hm)
  · have := h.len; simpa using this
  · have hk3 : k < D.blocks.length := by simpa using hk2
    by_cases e : k = b
    · subst e
      refine ⟨_, f1, ?_, fun m hm => f3 m hm⟩
      rw [hget _, rowF_upd]
      exact .inr ⟨q, cap, c, by simp, q1, by omega, hq, by simpa using q4, q5⟩
    · obtain ⟨u', m1, m2, m3⟩ := h.row k (by simpa using hk3)
      have hsame : (tabF D (updG g b i x))[k]'hk2 = (tabF D g)[k]'(by simpa using hk3) := by
        simp only [tabF, List.getElem_map, List.getElem_range]
        congr 1
        funext j
        simp [updG, e]
      refine ⟨u', m1, ?_, m3⟩
      rw [hsame]
      refine m2.keep hB fun m hm => hk m (m2.names hm).1 (m2.names hm).2 fun e2 => ?_
      exact h.apart k b u' _ m e m1 f1 hm (by rw [e2]; exact hnq)

end Go.Proofs.YtjbbcpeidnkjlaaDoor


namespace Go.Proofs.YtjbbcpeidnkjlaaDoor
open Go Go.Ab

end Go.Proofs.YtjbbcpeidnkjlaaDoor


namespace Go.Proofs.YtjbbcpeidnkjlaaDoor
open Go Go.Ab

def knownT (T : List (List Int)) : List (List (Int × Int)) := T.map fun l => l.map fun x => (x, x)
structure KInv (D : Dy) (b w s v12 : Value) (A0 : Heap) (q : Nat) (A : Heap) (X : Nat → Prop) (v11 : Value) (rows : List (List (Int × Int))) : Prop where
  next : A0.next ≤ A.next
  keep : ∀ n, n < A0.next → n ≠ q → A.get n = A0.get n
  box : A.get q = .cells true [.int .i64 D.law.piece, .int .i64 D.law.drive, .int .i64 D.law.spread, .int .i64 D.law.brk, .int .i64 D.law.on, .int .i64 D.law.off, .int .i64 D.law.least, .int .i64 D.law.pieces, b, w, s, v11, v12] 13
  rows : RowsG 2 endCells A A0.next X v11 rows
  apart : ∀ m, X m → A0.next ≤ m ∧ m < A.next

section
variable {D : Dy} {b w s v12 : Value} {A0 A B : Heap} {q : Nat} {X X' : Nat → Prop} {v11 : Value} {rows : List (List (Int × Int))}

theorem KInv.move (h : KInv D b w s v12 A0 q A X v11 rows) (hq : q < A0.next) (hn : A.next ≤ B.next) (hk : ∀ n, n < A.next → ¬ X n → B.get n = A.get n) (hX : ∀ m, X' m → X m ∨ (A.next ≤ m ∧ m < B.next)) : KInv D b w s v12 A0 q B X' v11 rows := by
  have hXq : ∀ n, n < A0.next → ¬ X n := fun n hn2 hx => by have := (h.apart n hx).1; omega
  have hnx := h.next
  refine ⟨by omega, fun n h1 h2 => by rw [hk n (by omega) (hXq n h1)]; exact h.keep n h1 h2, by rw [hk q (by omega) (hXq q hq)]; exact h.box, ?_, ?_⟩
  · refine h.rows.keep hn (fun n _ h2 h3 => hk n h2 h3) fun m hm hx => ?_
    rcases hX m hx with hx | hx
    · exact hx
    · omega
  · intro m hx
    rcases hX m hx with hx | hx
    · have := h.apart m hx; exact ⟨this.1, by omega⟩
    · exact ⟨by omega, hx.2⟩

theorem KInv.row {u : Value} {n : Nat} {c : AObj} {rows' : List (List (Int × Int))} (h : KInv D b w s v12 A0 q A X v11 rows) (hq : q < A0.next) (hn : A.next ≤ n) (hB : n < B.next) (hu : slName u = some n)
    (hr : RowsG 2 endCells B A0.next (fun _ => False) u rows') (hk : ∀ m, m ≠ n → slName v11 ≠ some m → B.get m = A.get m)
    (hc : c = .cells true [.int .i64 D.law.piece, .int .i64 D.law.drive, .int .i64 D.law.spread, .int .i64 D.law.brk, .int .i64 D.law.on, .int .i64 D.law.off, .int .i64 D.law.least, .int .i64 D.law.pieces, b, w, s, u, v12] 13) :
    KInv D b w s v12 A0 q (B.set q c) (fun _ => False) u rows' := by
  have hnx := h.next
  have h11 : ∀ m, m < A0.next → slName v11 ≠ some m := fun m hm e => by have := (h.rows.names e).1; omega
  refine ⟨by simp; omega, fun m h1 h2 => ?_, by simp [hc], ?_, fun m hx => hx.elim⟩
  · simp [h2]; rw [hk m (by omega) (h11 m h1)]; exact h.keep m h1 h2
  · refine hr.keep (by simp) (fun m h1 h2 h3 => ?_) fun m hm hx => hx.elim
    have e2 : m ≠ q := by omega
    simp [e2]
end

end Go.Proofs.YtjbbcpeidnkjlaaDoor


namespace Go.Proofs.YtjbbcpeidnkjlaaDoor
open Go Go.Ab

def doE (D : Dy) (xs : List Int) (T : List (List Int)) : Int := if errD D xs = 0 then (if truthD D T then 0 else 2) else errD D xs
def doDrive (D : Dy) (xs : List Int) (T : List (List Int)) : Int := (lTo (knownT T) (piecesL D (maskL xs)) (piecesL D (maskL xs)).length).sum
def doSpread (D : Dy) (xs : List Int) (T : List (List Int)) : Int := spreadOf D (knownT T) (piecesL D (maskL xs))
def doBreaks (D : Dy) (xs : List Int) (T : List (List Int)) : List Int := bTo (restOf (knownT T)) (piecesL D (maskL xs)) (piecesL D (maskL xs)).length
def doLegal (D : Dy) (xs : List Int) (T : List (List Int)) : Bool := legalB D (knownT T) (piecesL D (maskL xs))

structure DoR (D : Dy) (xs : List Int) (T : List (List Int)) (A : Heap) (vd vs vB vl : Value) : Prop where
  one : Go.Ab.one vB = true
  bad : doE D xs T ≠ 0 → vd = .int .i64 0 ∧ vs = .int .i64 0 ∧ vB = .slice none 0 0 ∧ vl = .bool false
  good : doE D xs T = 0 → vd = .int .i64 (doDrive D xs T) ∧ vs = .int .i64 (doSpread D xs T) ∧ IntsAt A vB (doBreaks D xs T) ∧ vl = .bool (doLegal D xs T)
theorem DoR.ge {D : Dy} {xs : List Int} {T : List (List Int)} {A B : Heap} {vd vs vB vl : Value} (h : DoR D xs T A vd vs vB vl) (g : Ge A B) : DoR D xs T B vd vs vB vl :=
  ⟨h.one, h.bad, fun e => let ⟨a, b, c, d⟩ := h.good e; ⟨a, b, c.ge g, d⟩⟩

end Go.Proofs.YtjbbcpeidnkjlaaDoor


namespace Go.Proofs.YtjbbcpeidnkjlaaDoor
open Go Go.Ab

theorem aval_eqTr {t : Nat → Value} {H : Heap} {N x y : Nat} {a b : Bool} {d : Option Tmp} {ty U : TypeId} {pos : String} {af : Array Edge} {g : Option (Nat × Bool)} (hx : t x = .bool a) (hy : t y = .bool b) (h1 : x < N) (h2 : y < N) :
    aval Tryd.prog t H (.gen N ⟨d, .binOp .eql 4 (.tmp x) (.tmp y) U, ty, pos, af, g⟩) = some (.bool (a == b)) := by
  refine aval_gen ?_ rfl fun w => ?_
  · simp [Op.operands, flatO, hx, hy, h1, h2, flat, flat1]
  · have hg : Tryd.prog.eqGuardType Tryd.prog.depth 4 = false := by kernel_rfl
    simp only [execOp, evO, hx, hy, Sem.run_bind]
    have he := run_equalIn_bool' (P := Tryd.prog) w 9999 4 a b Tryd.underlying4
    simp [eqGuard, binOp, Op.equal, Op.maxDepth, he]

end Go.Proofs.YtjbbcpeidnkjlaaDoor


namespace Go.Proofs.YtjbbcpeidnkjlaaDoor
open Go Go.Ab

theorem rel_ok {D : Dy} (hV : Valid D) {b j : Nat} (h : D.has b j) : 0 ≤ (D.rel b j).lo ∧ (D.rel b j).lo ≤ (D.rel b j).hi ∧ (D.rel b j).hi ≤ 3000 := by
  obtain ⟨x, hx, hj⟩ := h
  obtain ⟨hb, rfl⟩ := List.getElem?_eq_some_iff.1 hx
  have := hV.rel (List.getElem_mem hb) (List.getElem_mem hj)
  have hr : D.rel b j = D.blocks[b][j] := by simp [Dy.rel, hb, hj]
  rw [hr]; omega

end Go.Proofs.YtjbbcpeidnkjlaaDoor


namespace Go.Proofs.YtjbbcpeidnkjlaaDoor
open Go Go.Ab

end Go.Proofs.YtjbbcpeidnkjlaaDoor


namespace Go.Proofs.YtjbbcpeidnkjlaaDoor
open Go Go.Ab

end Go.Proofs.YtjbbcpeidnkjlaaDoor


namespace Go.Proofs.YtjbbcpeidnkjlaaDoor
open Go Go.Ab

def runM (f : Nat → Int) : Nat → Int
  | 0 => f 0
  | j + 1 => max (f (j + 1)) (runM f j)
def RunAt (D : Dy) (f g : Nat → Nat → Int) (b i : Nat) : Prop := ∀ c j, D.has c j → g c j = if c < b ∨ (c = b ∧ j < i) then runM (f c) j else f c j
theorem RunAt.one {D : Dy} {f g : Nat → Nat → Int} {b : Nat} (h : RunAt D f g b 0) : RunAt D f g b 1 := fun c j hs => by
  rw [h c j hs]
  by_cases e : c = b ∧ j = 0
  · obtain ⟨rfl, rfl⟩ := e
    rw [if_neg (by omega), if_pos (by omega)]; rfl
  · by_cases e2 : c < b
    · rw [if_pos (.inl e2), if_pos (.inl e2)]
    · rw [if_neg (by omega), if_neg (by omega)]
theorem RunAt.row {D : Dy} {f g : Nat → Nat → Int} {b : Nat} {r : List Rl} (hr : D.blocks[b]? = some r) (h : RunAt D f g b r.length) : RunAt D f g (b + 1) 0 := fun c j hs => by
  rw [h c j hs]
  by_cases e : c = b
  · subst e
    have : j < r.length := by obtain ⟨x, hx, hj⟩ := hs; rw [hr] at hx; cases hx; exact hj
    rw [if_pos (.inr ⟨rfl, this⟩), if_pos (.inl (by omega))]
  · by_cases e2 : c < b
    · rw [if_pos (.inl e2), if_pos (.inl (by omega))]
    · rw [if_neg (by omega), if_neg (by omega)]
theorem RunAt.step {D : Dy} {f g : Nat → Nat → Int} {b i : Nat} (h : RunAt D f g b i) (hi : 0 < i) (hb : D.has b i) : RunAt D f (updG g b i (max (g b i) (g b (i - 1)))) b (i + 1) := fun c j hs => by
  unfold updG
  by_cases e : c = b ∧ j = i
  · obtain ⟨rfl, rfl⟩ := e
    rw [if_pos ⟨rfl, rfl⟩, if_pos (.inr ⟨rfl, by omega⟩), h c j hb, h c (j - 1) (has_le hb (by omega)), if_neg (by omega), if_pos (.inr ⟨rfl, by omega⟩)]
    obtain ⟨k, rfl⟩ : ∃ k, j = k + 1 := ⟨j - 1, by omega⟩
    simp [runM]
  · rw [if_neg e, h c j hs]
    by_cases e2 : c < b ∨ (c = b ∧ j < i)
    · rw [if_pos e2, if_pos (by omega)]
    · rw [if_neg e2, if_neg]
      rintro (q | ⟨q1, q2⟩)
      · exact e2 (.inl q)
      · have : j ≠ i := fun q => e ⟨q1, q⟩
        exact e2 (.inr ⟨q1, by omega⟩)

end Go.Proofs.YtjbbcpeidnkjlaaDoor


namespace Go.Proofs.YtjbbcpeidnkjlaaDoor
open Go Go.Ab

end Go.Proofs.YtjbbcpeidnkjlaaDoor


namespace Go.Proofs.YtjbbcpeidnkjlaaDoor
open Go Go.Ab Go.ChangeShapes Go.WideShapes Go.ChangeAt Go.RowKit

theorem ownT : ownKnob Tryd.prog.godebug = none := by kernel_rfl
theorem gTab0 : Tryd.prog.globalNamed "math/bits.deBruijn32tab" = some 0 := by kernel_rfl
theorem gTab1 : Tryd.prog.globalNamed "math/bits.deBruijn64tab" = some 1 := by kernel_rfl
theorem gType0 : (Tryd.prog.globals[0]?).map (·.type) = some 180 := by kernel_rfl
theorem gType1 : (Tryd.prog.globals[1]?).map (·.type) = some 181 := by kernel_rfl
theorem cellsT180 : Tryd.prog.cellsOf 180 = 32 := by kernel_rfl
theorem cellsT181 : Tryd.prog.cellsOf 181 = 64 := by kernel_rfl
theorem cellsT5 : Tryd.prog.cellsOf 5 = 1 := by kernel_rfl

theorem laidT : laidOutB Tryd.prog = true := by kernel_rfl
theorem readT {l : List Nat} (h : l.all (fun t => Tryd.prog.readableRec t && decide (t < Tryd.prog.types.size)) = true) : ∀ t ∈ l, Tryd.prog.readableRec t = true ∧ t < Tryd.prog.types.size := by
  intro t ht
  have := List.all_eq_true.1 h t ht
  simpa using this

abbrev tabsL {H : Type} : List (String × DataW H) := [("math/bits.deBruijn32tab", Rows.laid_math_bits_deBruijn32tab), ("math/bits.deBruijn64tab", Rows.laid_math_bits_deBruijn64tab)]
theorem tables {W : World} (h : laidMetH Tryd.prog tabsL W) : gmax ≤ W.heap.size ∧ ∀ g, g < gmax → ∃ cs c, [gl0, gl1][g]? = some (some (false, cs, c)) ∧ cs.all flat1 = true ∧ (absH W.heap).get g = .cells false cs c := by
  have t0 := abs_tab (Lib.tabIs_of_head (k := .u8) (zs := [0, 1, 28, 2, 29, 14, 24, 3, 30, 22, 20, 15, 25, 17, 4, 8, 31, 27, 13, 23, 21, 19, 16, 7, 26, 12, 18, 6, 11, 5, 10, 9]) gTab0 gType0 Tryd.underlying180 Tryd.underlying5 cellsT5 cellsT180 h) gTab0
  have t1 := abs_tab (Lib.tabIs_of_head (k := .u8) (zs := [0, 1, 56, 2, 57, 49, 28, 3, 61, 58, 42, 50, 38, 29, 17, 4, 62, 47, 59, 36, 45, 43, 51, 22, 53, 39, 33, 30, 24, 18, 12, 5, 63, 55, 48, 27, 60, 41, 37, 16, 46, 35, 44, 21, 52, 32, 23, 11, 54, 26, 40, 15, 34, 20, 31, 10, 25, 14, 19, 9, 13, 8, 7, 6]) (rest := []) gTab1 gType1 Tryd.underlying181 Tryd.underlying5 cellsT5 cellsT181 (laidMet.tail h)) gTab1
  refine ⟨t1.1, fun g hg => ?_⟩
  match g, hg with
  | 0, _ => exact ⟨_, _, rfl, rfl, t0.2⟩
  | 1, _ => exact ⟨_, _, rfl, rfl, t1.2⟩

noncomputable def laidCells (l : Array Value) : Obj → Obj
  | .cells _ t frozen => .cells l t frozen
  | o => o
noncomputable def laidWorld (os : Os) (args : Array Value) : World :=
  { World.holding Tryd.prog os ⟨#[], args, []⟩ with heap := ((World.holding Tryd.prog os ⟨#[], args, []⟩).heap.modify 0 (laidCells #[.int .u8 0, .int .u8 1, .int .u8 28, .int .u8 2, .int .u8 29, .int .u8 14, .int .u8 24, .int .u8 3, .int .u8 30, .int .u8 22, .int .u8 20, .int .u8 15, .int .u8 25, .int .u8 17, .int .u8 4, .int .u8 8, .int .u8 31, .int .u8 27, .int .u8 13, .int .u8 23, .int .u8 21, .int .u8 19, .int .u8 16, .int .u8 7, .int .u8 26, .int .u8 12, .int .u8 18, .int .u8 6, .int .u8 11, .int .u8 5, .int .u8 10, .int .u8 9])).modify 1 (laidCells #[.int .u8 0, .int .u8 1, .int .u8 56, .int .u8 2, .int .u8 57, .int .u8 49, .int .u8 28, .int .u8 3, .int .u8 61, .int .u8 58, .int .u8 42, .int .u8 50, .int .u8 38, .int .u8 29, .int .u8 17, .int .u8 4, .int .u8 62, .int .u8 47, .int .u8 59, .int .u8 36, .int .u8 45, .int .u8 43, .int .u8 51, .int .u8 22, .int .u8 53, .int .u8 39, .int .u8 33, .int .u8 30, .int .u8 24, .int .u8 18, .int .u8 12, .int .u8 5, .int .u8 63, .int .u8 55, .int .u8 48, .int .u8 27, .int .u8 60, .int .u8 41, .int .u8 37, .int .u8 16, .int .u8 46, .int .u8 35, .int .u8 44, .int .u8 21, .int .u8 52, .int .u8 32, .int .u8 23, .int .u8 11, .int .u8 54, .int .u8 26, .int .u8 40, .int .u8 15, .int .u8 34, .int .u8 20, .int .u8 31, .int .u8 10, .int .u8 25, .int .u8 14, .int .u8 19, .int .u8 9, .int .u8 13, .int .u8 8, .int .u8 7, .int .u8 6]) }

end Go.Proofs.YtjbbcpeidnkjlaaDoor


namespace Go.Proofs.YtjbbcpeidnkjlaaDoor
open Go Go.Ab Go.RowKit Go.ChangeShapes Go.WideShapes

theorem cells3 : Tryd.prog.cellsOf 3 = 1 := by kernel_rfl
theorem cells28 : Tryd.prog.cellsOf 28 = 1 := by kernel_rfl
theorem cells80 : Tryd.prog.cellsOf 80 = 1 := by kernel_rfl
theorem cells24 : Tryd.prog.cellsOf 24 = 1 := by kernel_rfl
theorem cells25 : Tryd.prog.cellsOf 25 = 1 := by kernel_rfl
theorem cells82 : Tryd.prog.cellsOf 82 = 2 := by kernel_rfl
theorem cells84 : Tryd.prog.cellsOf 84 = 3 := by kernel_rfl
theorem cells23 : Tryd.prog.cellsOf 23 = 8 := by kernel_rfl
theorem cells27 : Tryd.prog.cellsOf 27 = 10 := by kernel_rfl
theorem abs_size (hp : Array Obj) : hp.size ≤ (absH hp).next := Nat.le_succ_of_le (Nat.le_mul_of_pos_right _ (Nat.succ_pos _))

theorem list3 {l : List Value} (h : l.length = 3) : ∃ a b c, l = [a, b, c] := by
  match l, h with
  | [a, b, c], _ => exact ⟨a, b, c, rfl⟩
theorem list10 {l : List Value} (h : l.length = 10) : ∃ a b c d e f g i j k, l = [a, b, c, d, e, f, g, i, j, k] := by
  match l, h with
  | [a, b, c, d, e, f, g, i, j, k], _ => exact ⟨a, b, c, d, e, f, g, i, j, k, rfl⟩

section
variable {H : Type} {enc : TypeId × Value → H} {w : World} {fuel : Nat} {v : Value} {x : DataW H × List MemPlace}

theorem maxLen_lt {n : Nat} (h : n ≤ maxLen) : n < 2 ^ 63 := by
  have : maxLen = 9223372036854775807 := rfl
  omega

theorem read_list (h : DataW.trod enc Tryd.prog w 0 (fun _ => true) true fuel 28 [v] = some x) : goodV w.heap.size (capM w.heap) v = true ∧ ∃ xs : List Int, IntsAt (absH w.heap) (absV w.heap.size v) xs := by
  obtain ⟨h1, xs, h2, h3, _⟩ := read_ints Tryd.underlying28 Tryd.underlying3 cells3 h
  exact ⟨h1, xs, h2, maxLen_lt h3⟩

theorem read_of {t e : TypeId} {α : Type} {R : Heap → Value → α → Prop} (ht : Tryd.prog.underlying t = some (.slice e)) (hc : Tryd.prog.cellsOf e = 1)
    (hs : ∀ n cs y, DataW.trod enc Tryd.prog w 0 (fun _ => true) true n e cs = some y → ∃ u, cs = [u])
    (hr : ∀ n u y, DataW.trod enc Tryd.prog w 0 (fun _ => true) true n e [u] = some y → goodV w.heap.size (capM w.heap) u = true ∧ ∃ x : α, R (absH w.heap) (absV w.heap.size u) x)
    (h : DataW.trod enc Tryd.prog w 0 (fun _ => true) true fuel t [v] = some x) : goodV w.heap.size (capM w.heap) v = true ∧ ∃ xs : List α, RowsOf R (absH w.heap) (absV w.heap.size v) xs := by
  obtain ⟨h1, l, h2, h3, h4⟩ := read_slice (α := α × Value) (f := fun x => [x.2]) (Q := fun x => R (absH w.heap) x.2 x.1) ht (by rw [hc]; omega) (fun n cs y hy => by
    obtain ⟨u, rfl⟩ := hs _ _ _ hy
    obtain ⟨k1, xs, k2⟩ := hr _ _ _ hy
    exact ⟨by simpa using k1, (xs, absV w.heap.size u), rfl, k2⟩) h
  refine ⟨h1, l.map (·.1), l.map (·.2), ?_, by simpa using maxLen_lt h3, fun i hi => ?_⟩
  · rw [hc] at h2
    have e : l.flatMap (fun x => [x.2]) = l.map (·.2) := by
      clear h2 h3 h4
      induction l with
      | nil => rfl
      | cons x l ih => simp [ih]
    rw [← e, List.length_map]
    exact h2
  · simp at hi
    exact ⟨l[i].2, by simp [hi], by simpa using h4 _ (List.getElem_mem hi)⟩

theorem one_slice {t e : TypeId} (ht : Tryd.prog.underlying t = some (.slice e)) {n : Nat} {cs : List Value} {y : DataW H × List MemPlace} (hy : DataW.trod enc Tryd.prog w 0 (fun _ => true) true n t cs = some y) : ∃ u, cs = [u] := by
  rcases Deep.open_slice ht hy with ⟨hv, _⟩ | ⟨a, len, cap, m, n, D, Pl, hv, _⟩ <;> exact ⟨_, hv⟩

theorem read_rows (h : DataW.trod enc Tryd.prog w 0 (fun _ => true) true fuel 25 [v] = some x) : goodV w.heap.size (capM w.heap) v = true ∧ ∃ xs : List (List Int), RowsAt (absH w.heap) (absV w.heap.size v) xs :=
  read_of Tryd.underlying25 cells28 (fun _ _ _ hy => one_slice Tryd.underlying28 hy) (fun _ _ _ hy => read_list hy) h

theorem read_relief {cs : List Value} (h : DataW.trod enc Tryd.prog w 0 (fun _ => true) true fuel 84 cs = some x) : (∀ u ∈ cs, goodV w.heap.size (capM w.heap) u = true) ∧ ∃ t : Rl, cs.map (absV w.heap.size) = t.cells ∧ True := by
  obtain ⟨ys, n, _, _, hl, hyl, hf⟩ := DataW.trod_struct Tryd.underlying84 h
  rw [cells84] at hl
  obtain ⟨c0, c1, c2, rfl⟩ := list3 hl
  have hy2 : ys.length = 2 := by simpa using hyl
  have e0 := hf 0 _ rfl
  have e1 := hf 1 _ rfl
  simp [cells3, cells82, hy2] at e0 e1
  obtain ⟨zs, m, _, _, hl', hyl', hf'⟩ := DataW.trod_struct Tryd.underlying82 e1
  have hz2 : zs.length = 2 := by simpa using hyl'
  have e2 := hf' 0 _ rfl
  have e3 := hf' 1 _ rfl
  simp [cells3, hz2] at e2 e3
  obtain ⟨z0, hz0, _⟩ := DataW.trod_int Tryd.underlying3 e0
  obtain ⟨z1, hz1, _⟩ := DataW.trod_int Tryd.underlying3 e2
  obtain ⟨z2, hz2, _⟩ := DataW.trod_int Tryd.underlying3 e3
  simp at hz0 hz1 hz2
  subst hz0 hz1 hz2
  exact ⟨by simp [goodV], ⟨z0, z1, z2⟩, rfl, trivial⟩

theorem read_rels (h : DataW.trod enc Tryd.prog w 0 (fun _ => true) true fuel 80 [v] = some x) : goodV w.heap.size (capM w.heap) v = true ∧ ∃ xs : List Rl, RelsAt (absH w.heap) (absV w.heap.size v) xs := by
  obtain ⟨h1, xs, h2, h3, _⟩ := read_slice (α := Rl) (f := Rl.cells) (Q := fun _ => True) Tryd.underlying80 (by rw [cells84]; omega) (fun n cs y hy => read_relief hy) h
  rw [cells84] at h2
  exact ⟨h1, xs, h2, maxLen_lt h3⟩

theorem read_blks (h : DataW.trod enc Tryd.prog w 0 (fun _ => true) true fuel 24 [v] = some x) : goodV w.heap.size (capM w.heap) v = true ∧ ∃ xs : List (List Rl), BlksAt (absH w.heap) (absV w.heap.size v) xs :=
  read_of Tryd.underlying24 cells80 (fun _ _ _ hy => one_slice Tryd.underlying80 hy) (fun _ _ _ hy => read_rels hy) h
end

section
variable {H : Type} {enc : TypeId × Value → H} {w : World} {base : Nat} {v : Value} {d : DataW H} {p : List MemPlace}

set_option maxRecDepth 100000 in
theorem read_dayV (hval : Value.okWide Tryd.prog w .any base 27 v) (h : DataW.Trod enc Tryd.prog w 0 (fun _ => true) true 27 v d p) :
    ∃ D b u, VR (absB w.heap) (dayV D b u) v ∧ DayAt (absH w.heap) b u D := by
  obtain ⟨cs, rfl, hsz⟩ := okWide_struct Tryd.underlying27 hval
  obtain ⟨fuel, h⟩ := h
  simp only [Value.cells] at h
  obtain ⟨ys, n, _, _, hl, hyl, hf⟩ := DataW.trod_struct Tryd.underlying27 h
  rw [cells27] at hl
  obtain ⟨l, rfl⟩ : ∃ l : List Value, cs = l.toArray := ⟨cs.toList, by simp⟩
  simp only at hl hf
  obtain ⟨c0, c1, c2, c3, c4, c5, c6, c7, c8, c9, rfl⟩ := list10 hl
  have hy3 : ys.length = 3 := by simpa using hyl
  have e0 := hf 0 _ rfl
  have e1 := hf 1 _ rfl
  have e2 := hf 2 _ rfl
  simp [cells23, cells24, cells25, hy3] at e0 e1 e2
  obtain ⟨zs, m, _, _, hl', hyl', hf'⟩ := DataW.trod_struct Tryd.underlying23 e0
  have hz8 : zs.length = 8 := by simpa using hyl'
  have f0 := hf' 0 _ rfl
  have f1 := hf' 1 _ rfl
  have f2 := hf' 2 _ rfl
  have f3 := hf' 3 _ rfl
  have f4 := hf' 4 _ rfl
  have f5 := hf' 5 _ rfl
  have f6 := hf' 6 _ rfl
  have f7 := hf' 7 _ rfl
  simp [cells3, hz8] at f0 f1 f2 f3 f4 f5 f6 f7
  obtain ⟨z0, h0, _⟩ := DataW.trod_int Tryd.underlying3 f0
  obtain ⟨z1, h1, _⟩ := DataW.trod_int Tryd.underlying3 f1
  obtain ⟨z2, h2, _⟩ := DataW.trod_int Tryd.underlying3 f2
  obtain ⟨z3, h3, _⟩ := DataW.trod_int Tryd.underlying3 f3
  obtain ⟨z4, h4, _⟩ := DataW.trod_int Tryd.underlying3 f4
  obtain ⟨z5, h5, _⟩ := DataW.trod_int Tryd.underlying3 f5
  obtain ⟨z6, h6, _⟩ := DataW.trod_int Tryd.underlying3 f6
  obtain ⟨z7, h7, _⟩ := DataW.trod_int Tryd.underlying3 f7
  obtain ⟨g8, xs, k8⟩ := read_blks e1
  obtain ⟨g9, us, k9⟩ := read_rows e2
  simp at h0 h1 h2 h3 h4 h5 h6 h7
  subst h0 h1 h2 h3 h4 h5 h6 h7
  refine ⟨⟨⟨z0, z1, z2, z3, z4, z5, z6, z7⟩, xs, us⟩, absV w.heap.size c8, absV w.heap.size c9, VR.mk_agg ?_, ⟨k8, k9⟩⟩
  exact ⟨.int _ _, .int _ _, .int _ _, .int _ _, .int _ _, .int _ _, .int _ _, .int _ _, good_VR g8, good_VR g9, trivial⟩

set_option maxRecDepth 100000 in
theorem read_u16V (hval : Value.okWide Tryd.prog w .any base 71 v) (h : DataW.Trod enc Tryd.prog w 0 (fun _ => true) true 71 v d p) : ∃ x : Int, VR (absB w.heap) (.int .u16 x) v ∧ (0 ≤ x ∧ x < 65536) := by
  obtain ⟨x, rfl⟩ := okWide_int Tryd.underlying71 hval
  obtain ⟨fuel, h⟩ := h
  obtain ⟨z, hz, _, hw⟩ := DataW.trod_int Tryd.underlying71 h
  simp [Value.cells] at hz
  subst hz
  simp [Lit.wf, IntKind.min, IntKind.max, IntKind.signed, IntKind.bits] at hw
  exact ⟨x, .int _ _, by omega⟩
set_option maxRecDepth 100000 in
theorem read_u8V (hval : Value.okWide Tryd.prog w .any base 5 v) (h : DataW.Trod enc Tryd.prog w 0 (fun _ => true) true 5 v d p) : ∃ x : Int, VR (absB w.heap) (.int .u8 x) v ∧ (0 ≤ x ∧ x < 256) := by
  obtain ⟨x, rfl⟩ := okWide_int Tryd.underlying5 hval
  obtain ⟨fuel, h⟩ := h
  obtain ⟨z, hz, _, hw⟩ := DataW.trod_int Tryd.underlying5 h
  simp [Value.cells] at hz
  subst hz
  simp [Lit.wf, IntKind.min, IntKind.max, IntKind.signed, IntKind.bits] at hw
  exact ⟨x, .int _ _, by omega⟩
end

end Go.Proofs.YtjbbcpeidnkjlaaDoor


namespace Go.Proofs.YtjbbcpeidnkjlaaDoor
open Go Go.Ab

def RowOk (D : Dy) (x : Nat) (ts : List Int) : Prop := ∀ k, k < ts.length → (D.rel x k).lo ≤ ts[k]?.getD 0 ∧ ts[k]?.getD 0 ≤ (D.rel x k).hi ∧ (0 < k → ts[k - 1]?.getD 0 ≤ ts[k]?.getD 0)
theorem RowOk.push {D : Dy} (hV : Valid D) {x : Nat} {ts : List Int} {n : Int} (h : RowOk D x ts) (hs : D.has x ts.length) (h1 : (D.rel x ts.length).lo ≤ n) (h2 : n ≤ (D.rel x ts.length).hi) :
    RowOk D x (ts ++ [if 0 < ts.length then max n (ts[ts.length - 1]?.getD 0) else n]) := fun k hk => by
  rw [List.length_append, List.length_singleton] at hk
  by_cases e : k < ts.length
  · rw [List.getElem?_append_left e, List.getElem?_append_left (by omega : k - 1 < ts.length)]
    exact h k e
  · have : k = ts.length := by omega
    subst this
    rw [List.getElem?_append_right (Nat.le_refl _), Nat.sub_self]
    simp only [List.getElem?_cons_zero, Option.getD_some]
    by_cases hz : 0 < ts.length
    · rw [if_pos hz, List.getElem?_append_left (by omega)]
      have := h (ts.length - 1) (by omega)
      have hm := blk_le hV hs (by omega : ts.length - 1 ≤ ts.length)
      omega
    · rw [if_neg hz]
      exact ⟨h1, h2, fun hh => by omega⟩
end Go.Proofs.YtjbbcpeidnkjlaaDoor


namespace Go.Proofs.YtjbbcpeidnkjlaaDoor
open Go Go.Ab

section
variable {D : Dy} {m : Nat} {ps : List Pc}
end

end Go.Proofs.YtjbbcpeidnkjlaaDoor


namespace Go.Proofs.YtjbbcpeidnkjlaaDoor
open Go Go.Ab

theorem fapp_ownK {A : Heap} {lo k : Nat} {v y : Value} {cs new : List Value} {bytes n nx : Nat} {R : Value → Heap → Prop} (h : OwnSl A lo v cs) (hy : slCells A 1 y = some (k, new)) (hk : 0 < k) (hnl : new.length = k) (hx : new.all Go.Ab.one = true) (hlen : cs.length + k ≤ 2 ^ 20) (hb : bytes ≤ 48)
    (hlo : lo ≤ n) (hnx : n < nx)
    (K : ∀ u B, OwnSl B lo u (cs ++ new) → slName u = some n → B.next = nx → (∀ m, m ≠ n → slName v ≠ some m → B.get m = A.get m) → R u B) : @fapp (baseOf A 1 v) (slCells A 1 y) 1 bytes A n nx ⟨R⟩ := by
  have hsz : (4 * (cs.length + k) + 4096) * bytes ≤ 2 ^ 48 := by
    have : (4 * (cs.length + k) + 4096) * bytes ≤ (4 * (2 ^ 20 + 1) + 4096) * 48 := Nat.mul_le_mul (by omega) hb
    omega
  rcases h with ⟨rfl, rfl⟩ | ⟨m, cap, c, rfl, h2, h3, h4, h5, h6⟩
  · refine fapp_intro (len := 0) (cs := []) (old := none) (cap := 0) rfl hy hk hx hsz ?_
    intro cap' hcap
    refine K _ _ (.inr ⟨n, cap', cap', ?_, by omega, ?_, ?_, ?_, Nat.le_refl _⟩) rfl rfl ?_
    · simp [hnl]
    · simpa [appHeap] using hnx
    · simp [appHeap]
    · simp [hnl]; omega
    · intro m hm _; simp [appHeap, hm]
  · refine fapp_intro (len := cs.length) (cs := cs) (old := some m) (cap := cap) ?_ hy hk hx hsz ?_
    · simp [baseOf, h4, h5, h6]
    intro cap' hcap
    refine K _ _ (.inr ⟨n, cap', cap', ?_, by omega, ?_, ?_, ?_, Nat.le_refl _⟩) rfl rfl ?_
    · simp [hnl]
    · simpa [appHeap] using hnx
    · simp [appHeap]
    · simp [hnl]; omega
    · intro p hp hq
      have : p ≠ m := fun e => hq (by rw [e]; rfl)
      simp [appHeap, hp, this]

theorem RowsX.keepX {A B : Heap} {lo : Nat} {v : Value} {rs : List (List Int)} {vs : List Value} (X : Nat → Prop) (h : RowsX A lo v rs vs) (hX : ∀ m, X m → slName v ≠ some m ∧ ∀ (j : Nat) (w : Value), vs[j]? = some w → slName w ≠ some m) (hn : A.next ≤ B.next) (hk : ∀ n, lo ≤ n → n < A.next → ¬ X n → B.get n = A.get n) : RowsX B lo v rs vs := by
  refine ⟨h.own.keep hn fun n hs => hk n (h.own.names hs).1 (h.own.names hs).2 fun hx => (hX n hx).1 hs, h.len, fun k hk2 => ?_, h.apart⟩
  obtain ⟨u, h1, h2, h3⟩ := h.row k hk2
  exact ⟨u, h1, h2.keep hn fun n hs => hk n (h2.names hs).1 (h2.names hs).2 fun hx => (hX n hx).2 k u h1 hs, h3⟩

def TabAt (A : Heap) (lo : Nat) (X : Nat → Prop) (u : Value) (T : List (List Int)) : Prop := ∃ vs, RowsX A lo u T vs ∧ ∀ m, X m → slName u ≠ some m ∧ ∀ (j : Nat) (w : Value), vs[j]? = some w → slName w ≠ some m
theorem TabAt.keep {A B : Heap} {lo : Nat} {X Y : Nat → Prop} {u : Value} {T : List (List Int)} (h : TabAt A lo X u T) (hn : A.next ≤ B.next) (hk : ∀ n, lo ≤ n → n < A.next → ¬ X n → B.get n = A.get n) (hY : ∀ m, Y m → m < A.next → X m) : TabAt B lo Y u T := by
  obtain ⟨vs, h1, h2⟩ := h
  refine ⟨vs, h1.keepX X h2 hn hk, fun m hm => ⟨fun e => ?_, fun j w hj e => ?_⟩⟩
  · exact (h2 m (hY m hm (h1.own.names e).2)).1 e
  · exact (h2 m (hY m hm (h1.names hj e).2)).2 j w hj e
theorem TabAt.new {A : Heap} {lo lo' : Nat} {X : Nat → Prop} {u : Value} {T : List (List Int)} {vs : List Value} (h : RowsX A lo u T vs) (hl : lo' ≤ lo) (hX : ∀ m, X m → m < lo) : TabAt A lo' X u T :=
  ⟨vs, h.lower hl, fun m hm => ⟨fun e => by have := hX m hm; have := (h.own.names e).1; omega, fun j w hj e => by have := hX m hm; have := (h.names hj e).1; omega⟩⟩

def Tries (A : Heap) (lo : Nat) (v : Value) (Ts : List (List (List Int))) : Prop := ∃ us : List Value, OwnSl A lo v us ∧ us.length = Ts.length ∧ ∀ k (h : k < Ts.length), ∃ u, us[k]? = some u ∧ TabAt A lo (fun m => slName v = some m) u Ts[k]
theorem Tries.ge {A B : Heap} {lo : Nat} {v : Value} {Ts : List (List (List Int))} (h : Tries A lo v Ts) (g : Ge A B) : Tries B lo v Ts := by
  obtain ⟨us, h1, h2, h3⟩ := h
  refine ⟨us, h1.ge g, h2, fun k hk => ?_⟩
  obtain ⟨u, h4, h5⟩ := h3 k hk
  exact ⟨u, h4, h5.keep g.next (fun n _ hn _ => g.get n hn) fun m hm _ => hm⟩
theorem Tries.names {A : Heap} {lo : Nat} {v : Value} {Ts : List (List (List Int))} (h : Tries A lo v Ts) {m : Nat} (hm : slName v = some m) : lo ≤ m ∧ m < A.next := let ⟨_, h1, _⟩ := h; h1.names hm
theorem Tries.one {A : Heap} {lo : Nat} {v : Value} {Ts : List (List (List Int))} (h : Tries A lo v Ts) : Go.Ab.one v = true := let ⟨_, h1, _⟩ := h; h1.one
theorem Tries.lenV {A : Heap} {lo : Nat} {v : Value} {Ts : List (List (List Int))} (h : Tries A lo v Ts) : Go.Ab.lenV v = some (.int .i64 Ts.length) := let ⟨_, h1, h2, _⟩ := h; by rw [← h2]; exact h1.lenV
theorem TabAt.rows {A : Heap} {lo : Nat} {X : Nat → Prop} {u : Value} {T : List (List Int)} (h : TabAt A lo X u T) (hl : T.length ≤ 20) (hll : ∀ r ∈ T, r.length ≤ 20) : RowsAt A u T := let ⟨_, h1, _⟩ := h; h1.rows (by omega) fun r hr => by have := hll r hr; omega
theorem TabAt.one {A : Heap} {lo : Nat} {X : Nat → Prop} {u : Value} {T : List (List Int)} (h : TabAt A lo X u T) : Go.Ab.one u = true := let ⟨_, h1, _⟩ := h; h1.own.one
theorem Tries.at {A : Heap} {lo : Nat} {v : Value} {Ts : List (List (List Int))} (h : Tries A lo v Ts) {k : Nat} (hk : k < Ts.length) : ∃ p u, islV 1 v (.int .i64 k) = some p ∧ ldV A false 1 p = some u ∧ TabAt A lo (fun m => slName v = some m) u Ts[k] := by
  obtain ⟨us, h1, h2, h3⟩ := h
  obtain ⟨u, h4, h5⟩ := h3 k hk
  obtain ⟨p, e1, e2⟩ := h1.slr.at1 (k := .i64) (i := k) (by omega)
  rw [h4] at e2
  exact ⟨p, u, e1, e2, h5⟩

theorem Tries.atAll {A : Heap} {lo : Nat} {v : Value} {Ts : List (List (List Int))} (h : Tries A lo v Ts) {k : Nat} (hk : k < Ts.length) : ∃ p u, islV 1 v (.int .i64 k) = some p ∧ (∀ B, Ge A B → ldV B false 1 p = some u) ∧ ∀ B, Ge A B → TabAt B lo (fun m => slName v = some m) u Ts[k] := by
  obtain ⟨us, h1, h2, h3⟩ := h
  obtain ⟨u, h4, h5⟩ := h3 k hk
  obtain ⟨p, e1, e2⟩ := h1.slr.at1 (k := .i64) (i := k) (by omega)
  refine ⟨p, u, e1, fun B g => ?_, fun B g => h5.keep g.next (fun n _ hn _ => g.get n hn) fun m hm _ => hm⟩
  obtain ⟨p', e3, e4⟩ := (h1.ge g).slr.at1 (k := .i64) (i := k) (by omega)
  rw [e1] at e3; cases e3
  rw [e4]; exact h4

end Go.Proofs.YtjbbcpeidnkjlaaDoor


namespace Go.Proofs.YtjbbcpeidnkjlaaDoor
open Go Go.Ab

def tail13 : ACode :=
 (.seq
 (.region [⟨some 184, .ld true 10 (.t 6), none⟩, ⟨some 185, .call (.c (.func (.func 18) #[] #[])) [(.t 184)], none⟩, ⟨some 186, .mov (.t 20), none⟩, ⟨some 187, .call (.c (.func (.func 20) #[] #[])) [(.t 186)], none⟩, ⟨some 188, .call (.c (.func (.func 19) #[] #[])) [(.t 185), (.t 187)], none⟩, ⟨some 183, .mov (.t 188), none⟩, ⟨some 189, .ext (.t 183) 0, none⟩, ⟨some 190, .ext (.t 183) 1, none⟩, ⟨some 23, .mov (.t 189), none⟩, ⟨some 24, .mov (.t 190), none⟩])
 (.seq
 (.region [⟨some 192, .ld true 10 (.t 19), none⟩, ⟨some 193, .call (.c (.func (.func 18) #[] #[])) [(.t 192)], none⟩, ⟨some 194, .mov (.t 21), none⟩, ⟨some 195, .call (.c (.func (.func 19) #[] #[])) [(.t 193), (.t 194)], none⟩, ⟨some 191, .mov (.t 195), none⟩, ⟨some 196, .ext (.t 191) 0, none⟩, ⟨some 197, .ext (.t 191) 1, none⟩, ⟨some 25, .mov (.t 196), none⟩, ⟨some 26, .mov (.t 197), none⟩])
 (.seq
 (.draw 22 [⟨⟨some 198, .mov (.t 24), none⟩, 0, false, []⟩, ⟨⟨some 199, .bin .eql (.t 198) (.c (.int .i64 0)), none⟩, 1, false, []⟩, ⟨⟨some 200, .mov (.t 199), none⟩, 2, false, []⟩, ⟨⟨some 201, .mov (.t 26), (some (200, true))⟩, 3, false, []⟩, ⟨⟨some 202, .bin .eql (.t 201) (.c (.int .i64 0)), (some (200, true))⟩, 4, false, []⟩, ⟨⟨some 203, .pick (.t 200) (.t 202) (.c (.bool false)), none⟩, 5, false, []⟩, ⟨⟨some 204, .mov (.t 203), none⟩, 6, false, []⟩, ⟨⟨some 205, .mov (.t 23), (some (204, true))⟩, 7, false, []⟩, ⟨⟨some 206, .mov (.t 25), (some (204, true))⟩, 8, false, []⟩, ⟨⟨some 207, .gen 219 ⟨some 207, (.binOp .eql 4 (.tmp 205) (.tmp 206) 4), 4, "outright.go:402", #[{ on := 7, ground := Go.Ground.data }, { on := 8, ground := Go.Ground.data }, { on := 6, ground := Go.Ground.guard }], (some (6, true))⟩, (some (204, true))⟩, 9, false, []⟩, ⟨⟨some 208, .pick (.t 204) (.t 207) (.c (.bool false)), none⟩, 10, false, []⟩, ⟨⟨some 209, .mov (.t 208), none⟩, 11, false, []⟩, ⟨⟨some 210, .ld true 10 (.t 19), (some (209, true))⟩, 12, false, []⟩, ⟨⟨some 212, .ld true 10 (.t 6), (some (209, true))⟩, 14, false, []⟩, ⟨⟨some 211, .call (.c (.func (.func 53) #[] #[])) [(.t 210)], (some (209, true))⟩, 13, true, [14]⟩, ⟨⟨some 213, .call (.c (.func (.func 53) #[] #[])) [(.t 212)], (some (209, true))⟩, 15, true, []⟩, ⟨⟨some 214, .bin .leq (.t 211) (.t 213), (some (209, true))⟩, 16, false, []⟩, ⟨⟨some 215, .pick (.t 209) (.t 214) (.c (.bool false)), none⟩, 17, false, []⟩, ⟨⟨some 216, .mov (.t 215), none⟩, 18, false, []⟩, ⟨⟨some 217, .call (.c (.func (.func 16) #[] #[])) [], (some (216, true))⟩, 19, true, []⟩, ⟨⟨some 218, .pick (.t 216) (.t 217) (.c (.bool false)), none⟩, 20, false, []⟩, ⟨⟨some 12, .mov (.t 218), none⟩, 21, false, []⟩])
 .ret)))
def loop13 : ACode :=
 (.seq
 (.region [⟨some 22, .mov (.c (.int .i64 0)), none⟩])
 (.block 0
 (.loop
 (.seq
 (.seq
 (.region [⟨some 142, .mov (.t 22), none⟩, ⟨some 143, .mov (.t 20), none⟩, ⟨some 144, .len (.t 143), none⟩, ⟨some 145, .bin .lss (.t 142) (.t 144), none⟩])
 (.cond (.t 145)
 .skip
 (.exit 0)))
 (.seq
 (.block 1
 (.block 2
 (.seq
 (.region [⟨some 157, .mov (.t 20), none⟩, ⟨some 158, .mov (.t 22), none⟩, ⟨some 159, .isl 1 (.t 157) (.t 158), none⟩, ⟨some 160, .ld false 1 (.t 159), none⟩, ⟨some 161, .mov (.t 13), none⟩, ⟨some 162, .bin .lss (.t 160) (.t 161), none⟩, ⟨some 156, .mov (.t 162), none⟩])
 (.cond (.t 156)
 (.region [⟨some 163, .mov (.t 21), none⟩, ⟨some 164, .mov (.t 20), none⟩, ⟨some 165, .mov (.t 22), none⟩, ⟨some 166, .isl 1 (.t 164) (.t 165), none⟩, ⟨some 167, .ld false 1 (.t 166), none⟩, ⟨some 168, .bsl 1 [(.int .i64 0)] [(0, 1, (.t 167))], none⟩, ⟨some 169, .app 1 8 (.t 163) (.t 168), none⟩, ⟨some 21, .mov (.t 169), none⟩])
 (.seq
 (.region [⟨some 171, .mov (.t 20), none⟩, ⟨some 172, .mov (.t 22), none⟩, ⟨some 173, .isl 1 (.t 171) (.t 172), none⟩, ⟨some 174, .ld false 1 (.t 173), none⟩, ⟨some 175, .mov (.t 13), none⟩, ⟨some 176, .bin .eql (.t 174) (.t 175), none⟩, ⟨some 170, .mov (.t 176), none⟩])
 (.cond (.t 170)
 (.region [⟨some 177, .mov (.t 21), none⟩, ⟨some 178, .mov (.t 13), none⟩, ⟨some 179, .mov (.t 13), none⟩, ⟨some 180, .bin .add (.t 179) (.c (.int .i64 1)), none⟩, ⟨some 181, .bsl 2 [(.int .i64 0), (.int .i64 0)] [(0, 1, (.t 178)), (1, 1, (.t 180))], none⟩, ⟨some 182, .app 1 8 (.t 177) (.t 181), none⟩, ⟨some 21, .mov (.t 182), none⟩])
 (.region [⟨some 148, .mov (.t 21), none⟩, ⟨some 149, .mov (.t 20), none⟩, ⟨some 150, .mov (.t 22), none⟩, ⟨some 151, .isl 1 (.t 149) (.t 150), none⟩, ⟨some 152, .ld false 1 (.t 151), none⟩, ⟨some 153, .bin .add (.t 152) (.c (.int .i64 1)), none⟩, ⟨some 154, .bsl 1 [(.int .i64 0)] [(0, 1, (.t 153))], none⟩, ⟨some 155, .app 1 8 (.t 148) (.t 154), none⟩, ⟨some 21, .mov (.t 155), none⟩])))))))
 (.region [⟨some 146, .mov (.t 22), none⟩, ⟨some 147, .bin .add (.t 146) (.c (.int .i64 1)), none⟩, ⟨some 22, .mov (.t 147), none⟩]))))))
def rest13 : ACode :=
 (.seq
 (.seq
 (.region [⟨some 135, .ld true 10 (.t 19), none⟩, ⟨some 136, .call (.c (.func (.func 36) #[] #[])) [(.t 135)], none⟩, ⟨some 137, .bin .neq (.t 136) (.c (.int .i64 0)), none⟩])
 (.cond (.t 137)
 (.seq
 (.region [⟨some 138, .call (.c (.func (.func 16) #[] #[])) [], none⟩, ⟨some 12, .mov (.t 138), none⟩])
 .ret)
 .skip))
 (.seq
 (.region [⟨some 139, .ld true 10 (.t 6), none⟩, ⟨some 140, .mov (.t 5), none⟩, ⟨some 141, .call (.c (.func (.func 49) #[] #[])) [(.t 139), (.t 140)], none⟩, ⟨some 20, .mov (.t 141), none⟩])
 (.seq
 (.region [⟨some 21, .mov (.c (.slice none 0 0)), none⟩])
 (.seq
 loop13
 tail13))))
theorem bitsI_append {a b : List Nat} : bitsI (a ++ b) = bitsI a ++ bitsI b := by simp [bitsI]
theorem upL_one {s q : Nat} : upL s [q] = if q < s then [q] else if q = s then [s, s + 1] else [q + 1] := rfl

theorem loop13_spec {A : Heap} {N s : Nat} {t : Nat → Value} {v20 : Value} {L : List Nat} {Q : APost} (hL : ∀ q ∈ L, q < 10) (hl : L.length ≤ 10) (hs : s < 10) (hv : IntsAt A v20 (bitsI L)) (t13 : t 13 = .int .i64 (s : Int)) (t20 : t 20 = v20) (t21 : t 21 = .slice none 0 0)
    (K : ∀ t' B, (∀ k, k < 20 → t' k = t k) → t' 20 = v20 → Ge A B → OwnSl B A.next (t' 21) ((bitsI (upL s L)).map (.int .i64)) → Q .normal ⟨t', [], B⟩) :
    vc Tryd.prog N none (vdrawD Tryd.prog) loop13 Q ⟨t, [], A⟩ := by
  have hbl : (bitsI L).length = L.length := by simp [bitsI]
  simp [loop13]
  refine floop_intro (fun z => z.d = [] ∧ Ge A z.H ∧ (∀ k, k < 20 → z.t k = t k) ∧ z.t 20 = v20 ∧ ∃ k : Nat, k ≤ L.length ∧ z.t 22 = .int .i64 k ∧ OwnSl z.H A.next (z.t 21) ((bitsI (upL s (L.take k))).map (.int .i64))) (fun z => L.length - (intOf (z.t 22)).toNat) ?_ ?_
  · exact ⟨rfl, by simp, fun k hk => by simp only [upd]; rw [if_neg (by omega)], by simp [t20], 0, by omega, by simp, .inl ⟨by simp [t21], rfl⟩⟩
  rintro ⟨t', _, B⟩ ⟨rfl, g, hk0, s20, k, hk, s22, o⟩
  dsimp only at g hk0 s20 s22 o
  have s13 : t' 13 = .int .i64 (s : Int) := by rw [hk0 13 (by omega)]; exact t13
  generalize s21 : t' 21 = v21 at o
  have hlv := hv.lenV
  rw [hbl] at hlv
  by_cases hkL : k < L.length
  case neg =>
    have : k = L.length := by omega
    subst this
    rw [List.take_length] at o
    simp [s20, s22, hlv]
    refine K _ _ (fun k hk => ?_) (by simp [s20]) g (by simpa [s21] using o)
    simp only [upd]; repeat rw [if_neg (by omega)]
    exact hk0 k hk
  obtain ⟨p, e1, e2⟩ := (hv.ge g).at (i := k) (by omega)
  have hq : (bitsI L)[k]'(by omega) = ((L[k] : Nat) : Int) := by simp [bitsI]
  rw [hq] at e2
  have hq10 := hL _ (List.getElem_mem hkL)
  have ho1 := o.one
  have gn := g.next
  have app : ∀ (ys : List Int) (nx : Nat) (R : Value → Heap → Prop), B.next + 1 < nx → ys = bitsI (upL s [L[k]]) → 0 < ys.length →
      (∀ u C, OwnSl C A.next u ((bitsI (upL s (L.take (k + 1)))).map (.int .i64)) → Ge A C → R u C) →
      @fapp (baseOf (B.new (.cells true (ys.map (.int .i64)) ys.length)) 1 v21) (slCells (B.new (.cells true (ys.map (.int .i64)) ys.length)) 1 (.slice (some ⟨B.next, 0, none⟩) ys.length ys.length)) 1 8 (B.new (.cells true (ys.map (.int .i64)) ys.length)) (B.next + 1) nx ⟨R⟩ := fun ys nx R hnx hy hy0 K' => by
    have gN := Ge.new B (.cells true (ys.map (.int .i64)) ys.length)
    have hyl : ys.length ≤ 2 := by
      have := upL_length (s := s) (a := [L[k]])
      rw [hy]; simpa [bitsI] using this
    have hol : ((bitsI (upL s (L.take k))).map (Value.int .i64)).length ≤ 20 := by
      have := upL_length (s := s) (a := L.take k)
      rw [List.length_take] at this
      simp [bitsI]; omega
    refine fapp_ownK (lo := A.next) (k := ys.length) (new := ys.map (.int .i64)) (o.ge gN) (by simp [slCells, rdL]; exact List.take_of_length_le (by simp)) hy0 (by simp) ?_ (by omega) (by omega) (by omega) hnx fun u C k1 k2 k3 k4 => ?_
    · rw [List.all_eq_true]
      intro y hy'
      obtain ⟨z, _, rfl⟩ := List.mem_map.1 hy'
      rfl
    have h5n : ∀ m, slName v21 = some m → A.next ≤ m := fun m hm => (o.names hm).1
    refine K' _ _ ?_ ⟨by omega, fun m hm => ?_⟩
    · rw [List.take_succ_eq_append_getElem hkL, upL_append, bitsI_append, List.map_append, ← hy]; exact k1
    · have f1 : m ≠ B.next := by omega
      rw [k4 m (by omega) (fun e => by have := h5n m e; omega)]; simp [f1]
      exact g.get m hm
  have keep : ∀ t2 : Nat → Value, (∀ k, k < 20 → t2 k = t' k) → ∀ k, k < 20 → t2 k = t k := fun t2 h k hk => by rw [h k hk, hk0 k hk]
  by_cases c1 : L[k] < s
  · have c1' : ((L[k] : Nat) : Int) < (s : Int) := by omega
    simp [s13, s20, s21, s22, hlv, hkL, e1, e2, c1, ho1]
    refine app [((L[k] : Nat) : Int)] _ _ (by omega) (by rw [upL_one, if_pos c1]; rfl) (by simp) fun u C k1 k2 => ?_
    simp [s20, s22, add_in (x := k) (y := 1) (by omega) (by omega)]
    refine ⟨⟨k2, keep _ fun j hj => ?_, k + 1, by omega, by omega, by simpa using k1⟩, by omega⟩
    try simp only [upd]
    repeat rw [if_neg (by omega)]
  · by_cases c2 : L[k] = s
    · simp [s13, s20, s21, s22, hlv, hkL, e1, e2, c2, ho1, add_in (x := s) (y := 1) (by omega) (by omega)]
      refine app [(s : Int), (s : Int) + 1] _ _ (by omega) (by rw [upL_one, if_neg c1, if_pos c2]; simp [bitsI]) (by simp) fun u C k1 k2 => ?_
      simp [s20, s22, add_in (x := k) (y := 1) (by omega) (by omega)]
      refine ⟨⟨k2, keep _ fun j hj => ?_, k + 1, by omega, by omega, by simpa using k1⟩, by omega⟩
      try simp only [upd]
      repeat rw [if_neg (by omega)]
    · have c2' : ¬ ((L[k] : Nat) : Int) = (s : Int) := by omega
      simp [s13, s20, s21, s22, hlv, hkL, e1, e2, c1, c2, c2', ho1, add_in (x := ((L[k] : Nat) : Int)) (y := 1) (by omega) (by omega)]
      refine app [((L[k] : Nat) : Int) + 1] _ _ (by omega) (by rw [upL_one, if_neg c1, if_neg c2]; simp [bitsI]) (by simp) fun u C k1 k2 => ?_
      simp [s20, s22, add_in (x := k) (y := 1) (by omega) (by omega)]
      refine ⟨⟨k2, keep _ fun j hj => ?_, k + 1, by omega, by omega, by simpa using k1⟩, by omega⟩
      try simp only [upd]
      repeat rw [if_neg (by omega)]

end Go.Proofs.YtjbbcpeidnkjlaaDoor


namespace Go.Proofs.YtjbbcpeidnkjlaaDoor
open Go Go.Ab

theorem bestLen_cut {D D' : Dy} {s b0 i0 : Nat} (hc : checkD D = 0) (hc' : checkD D' = 0) (h : CutR D D' s b0 i0) (hn : segN D ≤ 7) : bestLen D' ≤ bestLen D := by
  have hV := valid_of hc
  have hV' := valid_of hc'
  have hE : ∀ D : Dy, checkD D = 0 → (bestE D = 0 ↔ (bestC D).ok = true) := fun D hc => by
    unfold bestE
    rw [if_pos hc]
    cases (bestC D).ok <;> simp
  unfold bestLen
  by_cases h1 : bestE D = 0
  · obtain ⟨k1, k2⟩ := up_best hV hV' h ((hE D hc).1 h1)
    rw [if_pos h1, if_pos ((hE D' hc').2 k1)]
    omega
  · rw [if_neg h1]
    split
    · have hb := (choose_bounds (pay := payN D') (LL_ok hV') (fun d _ => payN_bounds hV' d) (2 ^ segN D' - 1)).1
      have hn' : segN D' ≤ 8 := by rw [h.seg]; omega
      have hp : 2 ^ segN D' ≤ 2 ^ 8 := Nat.pow_le_pow_right (by omega) hn'
      have : (bestC D').n ≤ 2 ^ segN D' - 1 := hb
      omega
    · omega

set_option maxHeartbeats 8000000 in
theorem rest13_spec {D D' : Dy} {b w v8 w' : Value} {H A : Heap} {m n1 n2 s b0 i0 N : Nat} {t : Nat → Value} (h : DayAt H b w D) (hT : D.Thin) (hc : checkD D = 0) (h7 : segN D ≤ 7) (hpos : 0 < segN D) (hG : Gl H) (hwk : ∀ A, Ge H A → AFun Tryd.prog 16 [] A (fun r B => r = .bool true ∧ Ge A B))
    (GA : Ge H A) (hn1 : n1 < A.next) (hn2 : n2 < A.next) (kA : A.get n1 = .cells true [.int .i64 D.law.piece, .int .i64 D.law.drive, .int .i64 D.law.spread, .int .i64 D.law.brk, .int .i64 D.law.on, .int .i64 D.law.off, .int .i64 D.law.least, .int .i64 D.law.pieces, b, w] 10)
    (kx : A.get n2 = .cells true [.int .i64 D'.law.piece, .int .i64 D'.law.drive, .int .i64 D'.law.spread, .int .i64 D'.law.brk, .int .i64 D'.law.on, .int .i64 D'.law.off, .int .i64 D'.law.least, .int .i64 D'.law.pieces, v8, w'] 10)
    (hDA : DayAt A v8 w' D') (hT' : D'.Thin) (hcut : CutR D D' s b0 i0) (t5 : t 5 = .int .u16 (m : Int)) (t6 : t 6 = .pointer (some ⟨n1, 0, none⟩)) (t13 : t 13 = .int .i64 (s : Int)) (t19 : t 19 = .pointer (some ⟨n2, 0, none⟩)) :
    vc Tryd.prog N none (vdrawD Tryd.prog) rest13 (bodyQ Tryd.prog r13 fun r _ => r = .bool true) ⟨t, [], A⟩ := by
  have hV := valid_of hc
  have hb := h.blocks.one
  have hw := h.walk.one
  have hv8 := hDA.blocks.one
  have hw' := hDA.walk.one
  have hseg : segsOf D.blocks = segN D := segPs_length.symm
  have hsegD' : segsOf D'.blocks = segN D' := segPs_length.symm
  have h10 := segN_le hV
  simp [rest13, t19, kx]
  refine fcall_fun (fault36_spec (D := D') hDA hT') ?_
  rintro _ B1 ⟨rfl, gB1⟩
  have GB1 := GA.trans gB1
  by_cases hc' : checkD D' = 0
  case neg =>
    simp [hc']
    refine fcall_fun (hwk _ GB1) ?_
    rintro _ _ ⟨rfl, _⟩
    simp [r13]
  have hV' := valid_of hc'
  have kB1 := gB1.got hn1 kA
  have xB1 := gB1.got hn2 kx
  have nB1 := gB1.next
  simp [hc', t5, t6, kB1]
  refine fcall_fun (set_spec (h.ge GB1) hT hV) ?_
  rintro vs C1 ⟨os, gC1⟩
  have GC1 := GB1.trans gC1
  have kC1 := gC1.got (by omega) kB1
  have xC1 := gC1.got (by omega) xB1
  have nC1 := gC1.next
  have hDC1 : DayAt C1 v8 w' D' := hDA.ge (gB1.trans gC1)
  obtain ⟨M, hM0, hMl, hMe⟩ := setB_set (n := segN D) (m := m) hpos
  have hsl := setB_length (n := segN D) (m := m) h10
  rw [hMe] at os hsl
  have hd : isDutyB (segN D) (setR (segN D) M) = true := setR_duty hM0 hMl
  have hMl' : upS s M < 2 ^ segN D' := by rw [hcut.seg]; exact upS_lt hMl hcut.hs
  have hd' : isDutyB (segN D') (setR (segN D') (upS s M)) = true := setR_duty (upS_ne hM0) hMl'
  have hleg := cut_legal hV hV' hcut hM0 hMl
  have hup := up_set hcut.toCutD (M := M)
  obtain ⟨L, hL⟩ : ∃ L, bitsFrom (segN D) M 0 = L := ⟨_, rfl⟩
  have hRL : setR (segN D) M = bitsI L := by unfold setR; rw [hL]
  rw [hL] at hup
  rw [hRL] at os hsl hd hleg
  rw [hup] at hd' hleg
  have hL10 : ∀ q ∈ L, q < 10 := fun q hq => by
    rw [← hL, bitsFrom_mem] at hq; omega
  have hLl : L.length ≤ 10 := by simpa [bitsI] using hsl
  have hbl : (bitsI L).length ≤ 10 := hsl
  have hbl' : (bitsI (upL s L)).length ≤ 20 := by
    have := upL_length (s := s) (a := L)
    simp [bitsI]; omega
  have is1 : IntsAt C1 vs (bitsI L) := own_ints os (by omega)
  have iv := os.one
  simp
  have hs10 : s < 10 := by have := hcut.hs; omega
  refine loop13_spec (L := L) (s := s) (v20 := vs) hL10 hLl hs10 is1 (by simp [t13]) (by simp) (by simp) fun t' C2 hk0 s20 g2 o21 => ?_
  have s6 : t' 6 = .pointer (some ⟨n1, 0, none⟩) := by rw [hk0 6 (by omega)]; simp [t6]
  have s19 : t' 19 = .pointer (some ⟨n2, 0, none⟩) := by rw [hk0 19 (by omega)]; simp [t19]
  generalize s21 : t' 21 = v21 at o21
  have GC2 := GC1.trans g2
  have kC2 := g2.got (by omega) kC1
  have xC2 := g2.got (by omega) xC1
  have nC2 := g2.next
  have is2 : IntsAt C2 v21 (bitsI (upL s L)) := own_ints o21 (by omega)
  simp [tail13, s6, kC2, s20]
  refine fcall_fun (day18_spec (h.ge GC2) hT) ?_
  rintro _ C3 ⟨b2, w2, rfl, hd2, gC3⟩
  simp [s20]
  refine fcall_fun (list_spec (xs := bitsI L) (IntsAt.ge is1 (g2.trans gC3)) (by omega)) ?_
  rintro v3 C4 ⟨o3, gC4⟩
  simp
  refine fcall_fun (legal_spec (xs := bitsI L) (hd2.ge gC4) hT (own_ints o3 (by omega)) (by omega)) ?_
  rintro _ C5 ⟨rfl, gC5⟩
  have g25 := gC3.trans (gC4.trans gC5)
  have GC5 := GC2.trans g25
  have n25 := g25.next
  have kC5 := g25.got (by omega) kC2
  have xC5 := g25.got (by omega) xC2
  simp [s19, s21, xC5]
  refine fcall_fun (day18_spec (D := D') (hDC1.ge (g2.trans g25)) hT') ?_
  rintro _ C6 ⟨b5, w5, rfl, hd5, gC6⟩
  simp [s21]
  refine fcall_fun (legal_spec (xs := bitsI (upL s L)) hd5 hT' (IntsAt.ge is2 (g25.trans gC6)) (by omega)) ?_
  rintro _ C7 ⟨rfl, gC7⟩
  have g27 := g25.trans (gC6.trans gC7)
  have GC7 := GC2.trans g27
  have n27 := g27.next
  have kC7 := g27.got (by omega) kC2
  have xC7 := g27.got (by omega) xC2
  have hem : errD D (bitsI L) = 0 := by simp [errD, hc, hseg, hd]
  have hem' : errD D' (bitsI (upL s L)) = 0 := by simp [errD, hc', hsegD', hd']
  have hbest := bestLen_cut hc hc' hcut h7
  rw [hem, hem', hleg]
  simp
  rw [aval_eqTr (a := legalD D (bitsI L)) (b := legalD D (bitsI L)) (by simp) (by simp) (by decide) (by decide)]
  have g22 : Ge C7 (⟨C7.get, C7.next + 22⟩ : Heap) := Ge.grow_le (by omega) (Ge.refl _)
  simp [s6, s19, kC7, xC7]
  refine fcall_fun (best53_spec (D := D') (hDC1.ge ((g2.trans g27).trans g22)) hT' (hG.ge (GC7.trans g22))) ?_
  rintro _ M1 ⟨rfl, gM1⟩
  have gEM := g22.trans gM1
  have kM1 := gEM.got (n := n1) (by omega) kC7
  simp [s6, kM1]
  refine fcall_fun (best53_spec (h.ge (GC7.trans gEM)) hT (hG.ge (GC7.trans gEM))) ?_
  rintro _ M2 ⟨rfl, gM2⟩
  simp [hbest]
  refine fcall_fun (hwk _ (GC7.trans (gEM.trans gM2))) ?_
  rintro _ _ ⟨rfl, _⟩
  simp [hbest, r13]

end Go.Proofs.YtjbbcpeidnkjlaaDoor


namespace Go.Proofs.YtjbbcpeidnkjlaaDoor
open Go Go.Ab

theorem cut_thin {D : Dy} {b i : Nat} {x : Rl} (hT : D.Thin) (hV : Valid D) : (cutDay D b i x).Thin := by
  refine ⟨by simp only [cutDay, List.length_set]; exact hT.few, fun r hr => ?_, hT.places, hT.rows⟩
  simp only [cutDay] at hr
  rcases List.mem_or_eq_of_mem_set hr with hr | rfl
  · exact hT.short r hr
  · rw [List.length_append, List.length_cons, List.length_take, List.length_drop]
    by_cases hb : b < D.blocks.length
    · rw [List.getElem?_eq_getElem hb, Option.getD_some]
      have := hV.blen (List.getElem_mem hb)
      omega
    · rw [List.getElem?_eq_none (by omega)]
      simp

end Go.Proofs.YtjbbcpeidnkjlaaDoor


namespace Go.Proofs.YtjbbcpeidnkjlaaDoor
open Go Go.Ab

def partB13 : ACode :=
 (.seq
 (.region [⟨some 103, .ld true 10 (.t 6), none⟩, ⟨some 19, .new [(.int .i64 0), (.int .i64 0), (.int .i64 0), (.int .i64 0), (.int .i64 0), (.int .i64 0), (.int .i64 0), (.int .i64 0), (.slice none 0 0), (.slice none 0 0)], none⟩, ⟨none, .st 10 (.t 19) (.t 103), none⟩])
 (.seq
 (.region [⟨some 104, .bsl 0 [] [], none⟩, ⟨some 105, .fa 8 (.t 6), none⟩, ⟨some 106, .ld false 1 (.t 105), none⟩, ⟨some 107, .app 1 24 (.t 104) (.t 106), none⟩, ⟨some 108, .fa 8 (.t 19), none⟩, ⟨none, .st 1 (.t 108) (.t 107), none⟩])
 (.seq
 (.draw 27 [⟨⟨some 109, .fa 8 (.t 19), none⟩, 0, false, []⟩, ⟨⟨some 110, .ld false 1 (.t 109), none⟩, 1, false, []⟩, ⟨⟨some 111, .mov (.t 14), none⟩, 2, false, []⟩, ⟨⟨some 112, .bsl 0 [] [], none⟩, 3, false, []⟩, ⟨⟨some 113, .fa 8 (.t 6), none⟩, 4, false, []⟩, ⟨⟨some 114, .ld false 1 (.t 113), none⟩, 5, false, []⟩, ⟨⟨some 115, .mov (.t 14), none⟩, 6, false, []⟩, ⟨⟨some 116, .isl 1 (.t 114) (.t 115), none⟩, 7, false, []⟩, ⟨⟨some 117, .ld false 1 (.t 116), none⟩, 8, false, []⟩, ⟨⟨some 118, .mov (.t 15), none⟩, 9, false, []⟩, ⟨⟨some 119, .bin .add (.t 118) (.c (.int .i64 1)), none⟩, 10, false, []⟩, ⟨⟨some 120, .sl 3 (.t 117) none (some (.t 119)), none⟩, 11, false, []⟩, ⟨⟨some 122, .ld true 3 (.t 18), none⟩, 13, false, []⟩, ⟨⟨some 123, .bsl 1 [(.int .i64 0), (.int .i64 0), (.int .i64 0)] [(0, 3, (.t 122))], none⟩, 14, false, []⟩, ⟨⟨some 125, .fa 8 (.t 6), none⟩, 16, false, []⟩, ⟨⟨some 126, .ld false 1 (.t 125), none⟩, 17, false, []⟩, ⟨⟨some 127, .mov (.t 14), none⟩, 18, false, []⟩, ⟨⟨some 128, .isl 1 (.t 126) (.t 127), none⟩, 19, false, []⟩, ⟨⟨some 129, .ld false 1 (.t 128), none⟩, 20, false, []⟩, ⟨⟨some 130, .mov (.t 15), none⟩, 21, false, []⟩, ⟨⟨some 131, .bin .add (.t 130) (.c (.int .i64 1)), none⟩, 22, false, []⟩, ⟨⟨some 132, .sl 3 (.t 129) (some (.t 131)) none, none⟩, 23, false, []⟩, ⟨⟨some 121, .app 3 24 (.t 112) (.t 120), none⟩, 12, true, [20, 17, 13, 1]⟩, ⟨⟨some 124, .app 3 24 (.t 121) (.t 123), none⟩, 15, true, [20, 17, 1]⟩, ⟨⟨some 133, .app 3 24 (.t 124) (.t 132), none⟩, 24, true, [1]⟩, ⟨⟨some 134, .isl 1 (.t 110) (.t 111), none⟩, 25, false, []⟩, ⟨⟨none, .st 1 (.t 134) (.t 133), none⟩, 26, true, []⟩])
 rest13)))
def partR13 : ACode :=
 (.seq
 (.draw 23 [⟨⟨some 52, .fa 8 (.t 6), none⟩, 0, false, []⟩, ⟨⟨some 53, .ld false 1 (.t 52), none⟩, 1, false, []⟩, ⟨⟨some 54, .mov (.t 14), none⟩, 2, false, []⟩, ⟨⟨some 55, .isl 1 (.t 53) (.t 54), none⟩, 3, false, []⟩, ⟨⟨some 56, .ld false 1 (.t 55), none⟩, 4, false, []⟩, ⟨⟨some 57, .mov (.t 15), none⟩, 5, false, []⟩, ⟨⟨some 58, .isl 3 (.t 56) (.t 57), none⟩, 6, false, []⟩, ⟨⟨some 59, .fa 1 (.t 58), none⟩, 7, false, []⟩, ⟨⟨some 60, .ld true 2 (.t 59), none⟩, 8, false, []⟩, ⟨⟨some 61, .fa 8 (.t 6), none⟩, 9, false, []⟩, ⟨⟨some 62, .ld false 1 (.t 61), none⟩, 10, false, []⟩, ⟨⟨some 63, .mov (.t 14), none⟩, 11, false, []⟩, ⟨⟨some 64, .isl 1 (.t 62) (.t 63), none⟩, 12, false, []⟩, ⟨⟨some 65, .ld false 1 (.t 64), none⟩, 13, false, []⟩, ⟨⟨some 66, .mov (.t 15), none⟩, 14, false, []⟩, ⟨⟨some 67, .bin .add (.t 66) (.c (.int .i64 1)), none⟩, 15, false, []⟩, ⟨⟨some 68, .isl 3 (.t 65) (.t 67), none⟩, 16, false, []⟩, ⟨⟨some 69, .fa 1 (.t 68), none⟩, 17, false, []⟩, ⟨⟨some 70, .ld true 2 (.t 69), none⟩, 18, false, []⟩, ⟨⟨some 16, .new [(.int .i64 0), (.int .i64 0)], none⟩, 19, false, []⟩, ⟨⟨some 17, .new [(.int .i64 0), (.int .i64 0)], none⟩, 20, false, []⟩, ⟨⟨none, .st 2 (.t 16) (.t 60), none⟩, 21, true, [18, 13, 10]⟩, ⟨⟨none, .st 2 (.t 17) (.t 70), none⟩, 22, true, []⟩])
 (.seq
 (.draw 34 [⟨⟨some 71, .mov (.t 2), none⟩, 0, false, []⟩, ⟨⟨some 72, .cvi .i64 (.t 71), none⟩, 1, false, []⟩, ⟨⟨some 73, .fa 9 (.t 6), none⟩, 2, false, []⟩, ⟨⟨some 74, .ld false 1 (.t 73), none⟩, 3, false, []⟩, ⟨⟨some 75, .len (.t 74), none⟩, 4, false, []⟩, ⟨⟨some 76, .bin .rem (.t 72) (.t 75), none⟩, 5, false, []⟩, ⟨⟨some 77, .fa 0 (.t 16), none⟩, 6, false, []⟩, ⟨⟨some 78, .ld false 1 (.t 77), none⟩, 7, false, []⟩, ⟨⟨some 79, .mov (.t 3), none⟩, 8, false, []⟩, ⟨⟨some 80, .cvi .i64 (.t 79), none⟩, 9, false, []⟩, ⟨⟨some 81, .fa 0 (.t 17), none⟩, 10, false, []⟩, ⟨⟨some 82, .ld false 1 (.t 81), none⟩, 11, false, []⟩, ⟨⟨some 83, .fa 0 (.t 16), none⟩, 12, false, []⟩, ⟨⟨some 84, .ld false 1 (.t 83), none⟩, 13, false, []⟩, ⟨⟨some 85, .bin .sub (.t 82) (.t 84), none⟩, 14, false, []⟩, ⟨⟨some 86, .bin .add (.t 85) (.c (.int .i64 1)), none⟩, 15, false, []⟩, ⟨⟨some 87, .bin .rem (.t 80) (.t 86), none⟩, 16, false, []⟩, ⟨⟨some 88, .bin .add (.t 78) (.t 87), none⟩, 17, false, []⟩, ⟨⟨some 89, .fa 1 (.t 16), none⟩, 18, false, []⟩, ⟨⟨some 90, .ld false 1 (.t 89), none⟩, 19, false, []⟩, ⟨⟨some 91, .mov (.t 4), none⟩, 20, false, []⟩, ⟨⟨some 92, .cvi .i64 (.t 91), none⟩, 21, false, []⟩, ⟨⟨some 93, .fa 1 (.t 17), none⟩, 22, false, []⟩, ⟨⟨some 94, .ld false 1 (.t 93), none⟩, 23, false, []⟩, ⟨⟨some 95, .fa 1 (.t 16), none⟩, 24, false, []⟩, ⟨⟨some 96, .ld false 1 (.t 95), none⟩, 25, false, []⟩, ⟨⟨some 97, .bin .sub (.t 94) (.t 96), none⟩, 26, false, []⟩, ⟨⟨some 98, .bin .add (.t 97) (.c (.int .i64 1)), none⟩, 27, false, []⟩, ⟨⟨some 99, .bin .rem (.t 92) (.t 98), none⟩, 28, false, []⟩, ⟨⟨some 100, .bin .add (.t 90) (.t 99), none⟩, 29, false, []⟩, ⟨⟨some 101, .bld [(.int .i64 0), (.int .i64 0)] [(0, 1, (.t 88)), (1, 1, (.t 100))], none⟩, 30, false, []⟩, ⟨⟨some 102, .bld [(.int .i64 0), (.int .i64 0), (.int .i64 0)] [(0, 1, (.t 76)), (1, 2, (.t 101))], none⟩, 31, false, []⟩, ⟨⟨some 18, .new [(.int .i64 0), (.int .i64 0), (.int .i64 0)], none⟩, 32, false, []⟩, ⟨⟨none, .st 3 (.t 18) (.t 102), none⟩, 33, true, []⟩])
 partB13))
theorem a13_eqR : a13 =
  (.seq
   (.region [⟨(some 6), (.box (.t 0)), none⟩, ⟨(some 12), (.mov (.c (.bool false))), none⟩])
   (.seq
    (.seq
     (.region [⟨(some 27), (.ld true 10 (.t 6)), none⟩, ⟨(some 28), (.call (.c (.func (.func 52) #[] #[])) [(.t 27)]), none⟩, ⟨(some 29), (.not (.t 28)), none⟩, ⟨(some 30), (.mov (.t 29)), none⟩, ⟨(some 31), (.ld true 10 (.t 6)), (some (30, false))⟩, ⟨(some 32), (.call (.c (.func (.func 37) #[] #[])) [(.t 31)]), (some (30, false))⟩, ⟨(some 33), (.bin .eql (.t 32) (.c (.int .i64 0))), (some (30, false))⟩, ⟨(some 34), (.pick (.t 30) (.c (.bool true)) (.t 33)), none⟩, ⟨(some 35), (.mov (.t 34)), none⟩, ⟨(some 36), (.ld true 10 (.t 6)), (some (35, false))⟩, ⟨(some 37), (.call (.c (.func (.func 37) #[] #[])) [(.t 36)]), (some (35, false))⟩, ⟨(some 38), (.bin .gtr (.t 37) (.c (.int .i64 7))), (some (35, false))⟩, ⟨(some 39), (.pick (.t 35) (.c (.bool true)) (.t 38)), none⟩])
     (.cond (.t 39)
      (.seq
       (.region [⟨(some 40), (.call (.c (.func (.func 16) #[] #[])) []), none⟩, ⟨(some 12), (.mov (.t 40)), none⟩])
       .ret)
      .skip))
    (.seq
     (.region [⟨(some 41), (.mov (.t 1)), none⟩, ⟨(some 42), (.cvi .i64 (.t 41)), none⟩, ⟨(some 43), (.ld true 10 (.t 6)), none⟩, ⟨(some 44), (.call (.c (.func (.func 37) #[] #[])) [(.t 43)]), none⟩, ⟨(some 45), (.bin .rem (.t 42) (.t 44)), none⟩, ⟨(some 13), (.mov (.t 45)), none⟩])
     (.seq
      (.region [⟨(some 47), (.ld true 10 (.t 6)), none⟩, ⟨(some 48), (.mov (.t 13)), none⟩, ⟨(some 49), (.call (.c (.func (.func 54) #[] #[])) [(.t 47), (.t 48)]), none⟩, ⟨(some 46), (.mov (.t 49)), none⟩, ⟨(some 50), (.ext (.t 46) 0), none⟩, ⟨(some 51), (.ext (.t 46) 1), none⟩, ⟨(some 14), (.mov (.t 50)), none⟩, ⟨(some 15), (.mov (.t 51)), none⟩])
      partR13)))) := rfl

set_option maxHeartbeats 8000000 in
theorem partR13_spec {D : Dy} {b w : Value} {H A : Heap} {n1 b0 i0 N u2 u3 u4 : Nat} {t : Nat → Value} {r : List Rl} {Q : APost} (h : DayAt H b w D) (hV : Valid D) (GA : Ge H A) (hn1 : n1 < A.next) (kA : A.get n1 = .cells true [.int .i64 D.law.piece, .int .i64 D.law.drive, .int .i64 D.law.spread, .int .i64 D.law.brk, .int .i64 D.law.on, .int .i64 D.law.off, .int .i64 D.law.least, .int .i64 D.law.pieces, b, w] 10)
    (hr : D.blocks[b0]? = some r) (hi : i0 + 1 < r.length) (hu2 : u2 < 256) (hu3 : u3 < 65536) (hu4 : u4 < 65536) (t2 : t 2 = .int .u8 (u2 : Int)) (t3 : t 3 = .int .u16 (u3 : Int)) (t4 : t 4 = .int .u16 (u4 : Int)) (t6 : t 6 = .pointer (some ⟨n1, 0, none⟩)) (t14 : t 14 = .int .i64 (b0 : Int)) (t15 : t 15 = .int .i64 (i0 : Int))
    (K : ∀ t' B n x, (∀ k, k < 16 → t' k = t k) → t' 18 = .pointer (some ⟨n, 0, none⟩) → Ge A B → A.next ≤ n → n < B.next → B.get n = .cells true (Rl.cells x) 3 → vc Tryd.prog N none (vdrawD Tryd.prog) partB13 Q ⟨t', [], B⟩) :
    vc Tryd.prog N none (vdrawD Tryd.prog) partR13 Q ⟨t, [], A⟩ := by
  obtain ⟨hb, hrr⟩ := List.getElem?_eq_some_iff.1 hr
  have hrl := hV.blen (List.getElem_mem hb)
  have hfew := hV.few
  rw [hrr] at hrl
  have w23 : Ge A (⟨A.get, A.next + 23⟩ : Heap) := Ge.grow_le (by omega) (Ge.refl _)
  obtain ⟨p, u, e1, e2, e3⟩ := h.blocks.atAll hb
  rw [hrr] at e3
  have e2' := e2 _ (GA.trans w23)
  obtain ⟨n, o, p1, p2, _, p3, p4⟩ := (e3.ge GA).at (i := i0) (by omega)
  obtain ⟨n', o', q1, q2, _, q3, q4⟩ := (e3.ge GA).at (i := i0 + 1) hi
  have hc1 : ((i0 + 1 : Nat) : Int) = (i0 : Int) + 1 := by omega
  rw [hc1] at q1
  simp [partR13, t6, t14, t15, kA, e1, e2', p1, p4, q1, q4, add_in (x := (i0 : Int)) (y := 1) (by omega) (by omega)]
  have x1 : n' ≠ A.next + 19 := by omega
  have x2 : n' ≠ A.next + 20 := by omega
  have x3 : n1 ≠ A.next + 19 := by omega
  have x4 : n1 ≠ A.next + 20 := by omega
  have w3 : Ge A ((((⟨A.get, A.next + 23⟩ : Heap).set (A.next + 19) (.cells true [.int .i64 0, .int .i64 0] 2)).set (A.next + 20) (.cells true [.int .i64 0, .int .i64 0] 2)).set (A.next + 19) (.cells true [.int .i64 r[i0].lo, .int .i64 r[i0].hi] 2)) := ((w23.setNew (by omega) _).setNew (by omega) _).setNew (by omega) _
  have e2'' := e2 _ (GA.trans w3)
  simp [x1, x2, x3, x4, kA, q4, e2'']
  have hm := blk_mono hV (b := b0) (j := i0) ⟨r, hr, hi⟩
  have hr0 : D.rel b0 i0 = r[i0] := by simp [Dy.rel, hr, (by omega : i0 < r.length)]
  have hr1 : D.rel b0 (i0 + 1) = r[i0 + 1] := by simp [Dy.rel, hr, hi]
  have ok0 := rel_ok hV (b := b0) (j := i0) ⟨r, hr, by omega⟩
  have ok1 := rel_ok hV (b := b0) (j := i0 + 1) ⟨r, hr, hi⟩
  rw [hr0, hr1] at hm
  rw [hr0] at ok0
  rw [hr1] at ok1
  obtain ⟨qa, hqa⟩ : ∃ q : Nat, r[i0 + 1].lo - r[i0].lo + 1 = (q : Int) := ⟨(r[i0 + 1].lo - r[i0].lo + 1).toNat, by omega⟩
  obtain ⟨qb, hqb⟩ : ∃ q : Nat, r[i0 + 1].hi - r[i0].hi + 1 = (q : Int) := ⟨(r[i0 + 1].hi - r[i0].hi + 1).toNat, by omega⟩
  have hpl := hV.places
  have rm2 := rem_int (a := u2) (c := D.walk.length) (by omega)
  have rm3 := rem_int (a := u3) (c := qa) (by omega)
  have rm4 := rem_int (a := u4) (c := qb) (by omega)
  have l3 : u3 % qa < qa := Nat.mod_lt _ (by omega)
  have l4 : u4 % qb < qb := Nat.mod_lt _ (by omega)
  obtain ⟨y2, hy2⟩ : ∃ y, u2 % D.walk.length = y := ⟨_, rfl⟩
  obtain ⟨y3, hy3⟩ : ∃ y, u3 % qa = y := ⟨_, rfl⟩
  obtain ⟨y4, hy4⟩ : ∃ y, u4 % qb = y := ⟨_, rfl⟩
  rw [hy2] at rm2
  rw [hy3] at rm3 l3
  rw [hy4] at rm4 l4
  have wr2 : IntKind.i64.wrap (u2 : Int) = (u2 : Int) := wrap_i64n (by omega)
  have wr3 : IntKind.i64.wrap (u3 : Int) = (u3 : Int) := wrap_i64n (by omega)
  have wr4 : IntKind.i64.wrap (u4 : Int) = (u4 : Int) := wrap_i64n (by omega)
  simp [t2, t3, t4, t6, x3, x4, kA, wr2, wr3, wr4, h.walk.lenV, rm2, rm3, rm4, sub_in (x := r[i0 + 1].lo) (y := r[i0].lo) (by omega) (by omega), sub_in (x := r[i0 + 1].hi) (y := r[i0].hi) (by omega) (by omega), add_in (x := r[i0 + 1].lo - r[i0].lo) (y := 1) (by omega) (by omega), add_in (x := r[i0 + 1].hi - r[i0].hi) (y := 1) (by omega) (by omega), hqa, hqb, add_in (x := r[i0].lo) (y := (y3 : Int)) (by omega) (by omega), add_in (x := r[i0].hi) (y := (y4 : Int)) (by omega) (by omega)]
  have w4 := w3.setNew (n := A.next + 20) (by omega) (.cells true [.int .i64 r[i0 + 1].lo, .int .i64 r[i0 + 1].hi] 2)
  generalize hX : (((⟨A.get, A.next + 23⟩ : Heap).set (A.next + 19) (.cells true [.int .i64 0, .int .i64 0] 2)).set (A.next + 20) (.cells true [.int .i64 0, .int .i64 0] 2)).set (A.next + 19) (.cells true [.int .i64 r[i0].lo, .int .i64 r[i0].hi] 2) = X at w4
  have nX : X.next = A.next + 23 := by rw [← hX]; simp
  have w5 : Ge A (⟨(X.set (A.next + 20) (.cells true [.int .i64 r[i0 + 1].lo, .int .i64 r[i0 + 1].hi] 2)).get, A.next + 57⟩ : Heap) := Ge.grow_le (by first | (simp; done) | (simp; omega)) w4
  refine K _ _ (A.next + 55) ⟨y2, r[i0].lo + y3, r[i0].hi + y4⟩ (fun k hk => ?_) (by simp) ((w5.setNew (by omega) _).setNew (by omega) _) (by omega) (by simp) (by simp [Rl.cells])
  simp only [upd]
  repeat rw [if_neg (by omega)]

end Go.Proofs.YtjbbcpeidnkjlaaDoor

