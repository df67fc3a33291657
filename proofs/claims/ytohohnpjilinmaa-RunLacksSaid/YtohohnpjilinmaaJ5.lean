/-
  Joined texts of a calculus of abstract memory, and of contracts of the program's functions.
-/
import Derived.Test.YtohohnpjilinmaaJ4
import Derived.Test.YtohohnpjilinmaaChecked
import Derived.KernelRfl
import Derived.Tactics
import Derived.Tactics2
/-
  The code of functions of the package, as the calculus has it.
-/
namespace Go.Proofs.Ytohohnpjilinmaa
open Go Go.Ab

/-- layover/layoverlaw01.ints -/
def a22 : ACode :=
  (.seq
   (.region [⟨(some 4), (.mov (.c (.bool false))), none⟩])
   (.seq
    (.seq
     (.region [⟨(some 6), (.mov (.t 0)), none⟩, ⟨(some 7), (.len (.t 6)), none⟩, ⟨(some 8), (.mov (.t 1)), none⟩, ⟨(some 9), (.len (.t 8)), none⟩, ⟨(some 10), (.bin .neq (.t 7) (.t 9)), none⟩])
     (.cond (.t 10)
      (.seq
       (.region [⟨(some 4), (.mov (.c (.bool false))), none⟩])
       .ret)
      .skip))
    (.seq
     (.seq
      (.region [⟨(some 5), (.mov (.c (.int .i64 0))), none⟩])
      (.block 0
       (.loop
        (.seq
         (.seq
          (.region [⟨(some 11), (.mov (.t 5)), none⟩, ⟨(some 12), (.mov (.t 0)), none⟩, ⟨(some 13), (.len (.t 12)), none⟩, ⟨(some 14), (.bin .lss (.t 11) (.t 13)), none⟩])
          (.cond (.t 14)
           .skip
           (.exit 0)))
         (.seq
          (.block 1
           (.seq
            (.draw 9 [⟨⟨(some 17), (.mov (.t 0)), none⟩, 0, false, []⟩, ⟨⟨(some 18), (.mov (.t 5)), none⟩, 1, false, []⟩, ⟨⟨(some 19), (.isl 1 (.t 17) (.t 18)), none⟩, 2, false, []⟩, ⟨⟨(some 20), (.ld false 1 (.t 19)), none⟩, 3, false, []⟩, ⟨⟨(some 21), (.mov (.t 1)), none⟩, 4, false, []⟩, ⟨⟨(some 22), (.mov (.t 5)), none⟩, 5, false, []⟩, ⟨⟨(some 23), (.isl 1 (.t 21) (.t 22)), none⟩, 6, false, []⟩, ⟨⟨(some 24), (.ld false 1 (.t 23)), none⟩, 7, false, []⟩, ⟨⟨(some 25), (.bin .neq (.t 20) (.t 24)), none⟩, 8, false, []⟩])
            (.cond (.t 25)
             (.seq
              (.region [⟨(some 4), (.mov (.c (.bool false))), none⟩])
              .ret)
             .skip)))
          (.region [⟨(some 15), (.mov (.t 5)), none⟩, ⟨(some 16), (.bin .add (.t 15) (.c (.int .i64 1))), none⟩, ⟨(some 5), (.mov (.t 16)), none⟩]))))))
     (.seq
      (.region [⟨(some 4), (.mov (.c (.bool true))), none⟩])
      .ret))))
def r22 : List AOp := [(.mov (.t 4))]
theorem ok22 : FnOk Try.prog 22 Try.f22.ntmps a22 r22 := ⟨Try.f22, Try.func22, by kernel_rfl, by kernel_rfl, by kernel_rfl, fun asv w => by simp⟩

/-- layover/layoverref01.has -/
def a61 : ACode :=
  (.seq
   (.region [⟨(some 4), (.mov (.c (.bool false))), none⟩])
   (.seq
    (.seq
     (.region [⟨(some 5), (.mov (.c (.int .i64 0))), none⟩])
     (.block 0
      (.loop
       (.seq
        (.seq
         (.region [⟨(some 6), (.mov (.t 5)), none⟩, ⟨(some 7), (.mov (.t 0)), none⟩, ⟨(some 8), (.len (.t 7)), none⟩, ⟨(some 9), (.bin .lss (.t 6) (.t 8)), none⟩])
         (.cond (.t 9)
          .skip
          (.exit 0)))
        (.seq
         (.block 1
          (.seq
           (.region [⟨(some 12), (.mov (.t 0)), none⟩, ⟨(some 13), (.mov (.t 5)), none⟩, ⟨(some 14), (.isl 1 (.t 12) (.t 13)), none⟩, ⟨(some 15), (.ld false 1 (.t 14)), none⟩, ⟨(some 16), (.mov (.t 1)), none⟩, ⟨(some 17), (.bin .eql (.t 15) (.t 16)), none⟩])
           (.cond (.t 17)
            (.seq
             (.region [⟨(some 4), (.mov (.c (.bool true))), none⟩])
             .ret)
            .skip)))
         (.region [⟨(some 10), (.mov (.t 5)), none⟩, ⟨(some 11), (.bin .add (.t 10) (.c (.int .i64 1))), none⟩, ⟨(some 5), (.mov (.t 11)), none⟩]))))))
    (.seq
     (.region [⟨(some 4), (.mov (.c (.bool false))), none⟩])
     .ret)))
def r61 : List AOp := [(.mov (.t 4))]
theorem ok61 : FnOk Try.prog 61 Try.f61.ntmps a61 r61 := ⟨Try.f61, Try.func61, by kernel_rfl, by kernel_rfl, by kernel_rfl, fun asv w => by simp⟩

/-- layover/layoverref01.In -/
def a57 : ACode :=
  (.seq
   (.region [⟨(some 6), (.mov (.c (.bool false))), none⟩])
   (.seq
    (.region [⟨(some 7), (.mov (.t 0)), none⟩, ⟨(some 8), (.mov (.t 1)), none⟩, ⟨(some 9), (.bin .geq (.t 7) (.t 8)), none⟩, ⟨(some 10), (.mov (.t 9)), none⟩, ⟨(some 11), (.mov (.t 0)), (some (10, true))⟩, ⟨(some 12), (.mov (.t 2)), (some (10, true))⟩, ⟨(some 13), (.bin .leq (.t 11) (.t 12)), (some (10, true))⟩, ⟨(some 14), (.pick (.t 10) (.t 13) (.c (.bool false))), none⟩, ⟨(some 6), (.mov (.t 14)), none⟩])
    .ret))
def r57 : List AOp := [(.mov (.t 6))]
theorem ok57 : FnOk Try.prog 57 Try.f57.ntmps a57 r57 := ⟨Try.f57, Try.func57, by kernel_rfl, by kernel_rfl, by kernel_rfl, fun asv w => by simp⟩

end Go.Proofs.Ytohohnpjilinmaa

/-
  Contracts of small functions of the package.
-/
namespace Go.Proofs.Ytohohnpjilinmaa
open Go Go.Ab

theorem hm : Try.prog.follows .mixedOrders = true := by kernel_rfl

theorem in_spec (n lo hi : Int) (H : Heap) : AFun Try.prog 57 [.int .i64 n, .int .i64 lo, .int .i64 hi] H (fun v H' => v = .bool (decide (lo ≤ n) && decide (n ≤ hi)) ∧ H' = H) := by
  refine AFun.mk ok57 hm (Nat.le_of_ble_eq_true rfl) ?_
  simp [a57, r57]
  by_cases h1 : lo ≤ n <;> by_cases h2 : n ≤ hi <;> simp [h1, h2]

theorem has_spec {H : Heap} {v : Value} {xs : List Int} {x : Int} (hv : IntsAt H v xs) : AFun Try.prog 61 [v, .int .i64 x] H (fun r H' => r = .bool (decide (x ∈ xs)) ∧ H' = H) := by
  refine AFun.mk ok61 hm (Nat.le_of_ble_eq_true rfl) ?_
  simp [a61, r61]
  refine floop_intro (fun s => s.d = [] ∧ s.H = H ∧ s.t 0 = v ∧ s.t 1 = .int .i64 x ∧ ∃ i : Nat, i ≤ xs.length ∧ s.t 5 = .int .i64 i ∧ x ∉ xs.take i) (fun s => xs.length - (intOf (s.t 5)).toNat) ?_ ?_
  · exact ⟨rfl, rfl, by simp, by simp, 0, by simp, by simp, by simp⟩
  · rintro ⟨t, _, _⟩ ⟨rfl, rfl, h0, h1, i, hi, h5, hn⟩
    dsimp only at h0 h1 h5 hv
    have h62 := hv.2
    simp [h0, h5, hv.lenV]
    refine fcond_intro (fun hc => ?_) (fun hc => ?_)
    · have hi' : i < xs.length := by simpa using hc
      obtain ⟨p, e1, e2⟩ := hv.at hi'
      simp [h0, h1, h5, e1, e2]
      refine fcond_intro (fun hx => ?_) (fun hx => ?_)
      · have hx' : xs[i] = x := by simpa using hx
        simp
        rw [← hx']; exact List.getElem_mem hi'
      · have hx' : xs[i] ≠ x := by simpa using hx
        simp [h5, add_in (x := i) (y := 1) (by omega) (by omega)]
        refine ⟨⟨h0, h1, i + 1, by omega, by omega, ?_⟩, by omega⟩
        rw [List.take_succ_eq_append_getElem hi']
        simp only [List.mem_append, List.mem_singleton, hn, Ne.symm hx', or_self, not_false_eq_true]
    · have : xs.length ≤ i := by simpa using hc
      simpa [List.take_of_length_le this] using hn

theorem ints_spec {H : Heap} {v w : Value} {xs ys : List Int} (hv : IntsAt H v xs) (hw : IntsAt H w ys) : AFun Try.prog 22 [v, w] H (fun r H' => r = .bool (decide (xs = ys)) ∧ Ge H H') := by
  refine AFun.mk ok22 hm (Nat.le_of_ble_eq_true rfl) ?_
  simp [a22, r22, hv.lenV, hw.lenV]
  have h62 := hv.2
  refine fcond_intro (fun hc => ?_) (fun hc => ?_)
  · have : xs.length ≠ ys.length := by simpa [Int.ofNat_inj] using hc
    simp
    intro e; exact this (by rw [e])
  · have hl : xs.length = ys.length := by simpa [Int.ofNat_inj] using hc
    simp
    refine floop_intro (fun s => s.d = [] ∧ Ge H s.H ∧ s.t 0 = v ∧ s.t 1 = w ∧ ∃ i : Nat, i ≤ xs.length ∧ s.t 5 = .int .i64 i ∧ xs.take i = ys.take i) (fun s => xs.length - (intOf (s.t 5)).toNat) ?_ ?_
    · exact ⟨rfl, by simp, by simp, by simp, 0, by simp, by simp, by simp⟩
    · rintro ⟨t, _, H'⟩ ⟨rfl, g, h0, h1, i, hi, h5, hn⟩
      dsimp only at g h0 h1 h5
      replace hv := hv.ge g
      replace hw := hw.ge g
      simp [h0, h5, hv.lenV]
      refine fcond_intro (fun hc => ?_) (fun hc => ?_)
      · have hi' : i < xs.length := by simpa using hc
        obtain ⟨p, e1, e2⟩ := (hv.ge (Ge.more H' 9)).at hi'
        obtain ⟨q, f1, f2⟩ := (hw.ge (Ge.more H' 9)).at (hl ▸ hi')
        simp [h0, h1, h5, e1, e2, f1, f2]
        refine fcond_intro (fun hx => ?_) (fun hx => ?_)
        · have hx' : xs[i] ≠ ys[i] := by simpa using hx
          simp
          exact ⟨fun e => hx' (by simp [e]), g.grow 9⟩
        · have hx' : xs[i] = ys[i] := by simpa using hx
          simp [h5, add_in (x := i) (y := 1) (by omega) (by omega)]
          refine ⟨⟨g.grow 9, h0, h1, i + 1, by omega, by omega, ?_⟩, by omega⟩
          rw [List.take_succ_eq_append_getElem hi', List.take_succ_eq_append_getElem (hl ▸ hi'), hn, hx']
      · have : xs.length ≤ i := by simpa using hc
        simp
        rw [List.take_of_length_le this, List.take_of_length_le (by omega)] at hn
        exact ⟨hn, g⟩

end Go.Proofs.Ytohohnpjilinmaa

/-
  Timetables as the calculus sees them: trips, rows of minutes, tables.
-/
namespace Go.Proofs.Ytohohnpjilinmaa
open Go Go.Ab

structure Tr where
  src : Int
  dst : Int
  start : Int
  least : Int
  most : Int
  kind : Int
deriving DecidableEq

def Tr.cells (x : Tr) : List Value := [.int .i64 x.src, .int .i64 x.dst, .int .i64 x.start, .int .i64 x.least, .int .i64 x.most, .int .i64 x.kind]
def Tr.val (x : Tr) : Value := .agg #[.int .i64 x.src, .int .i64 x.dst, .int .i64 x.start, .int .i64 x.least, .int .i64 x.most, .int .i64 x.kind]

structure Tab where
  places : Int
  layover : Int
  empty : List (List Int)
  trips : List Tr
deriving DecidableEq

theorem flatMap_at {α β : Type} {f : α → List β} {k : Nat} (hf : ∀ x, (f x).length = k) : ∀ (xs : List α) (i : Nat) (hi : i < xs.length), ((xs.flatMap f).drop (i * k)).take k = f xs[i]
  | [], i, hi => by simp at hi
  | x :: xs, 0, hi => by
    simp only [List.flatMap_cons, Nat.zero_mul, List.drop_zero, List.getElem_cons_zero]
    rw [← hf x, List.take_left]
  | x :: xs, i + 1, hi => by
    have := flatMap_at hf xs i (by simpa using hi)
    simp only [List.flatMap_cons, List.getElem_cons_succ]
    rw [← this, Nat.succ_mul, Nat.add_comm, ← hf x, ← List.drop_drop, List.drop_left]

def TripsAt (H : Heap) (v : Value) (xs : List Tr) : Prop := SlR H 6 v xs.length (xs.flatMap Tr.cells) ∧ xs.length < 2 ^ 63

section
variable {H H' : Heap} {v : Value} {xs : List Tr}
theorem TripsAt.lenV (h : TripsAt H v xs) : Go.Ab.lenV v = some (.int .i64 xs.length) := h.1.lenV
theorem TripsAt.ge (h : TripsAt H v xs) (g : Ge H H') : TripsAt H' v xs := ⟨h.1.ge g, h.2⟩
theorem TripsAt.at (h : TripsAt H v xs) {i : Nat} (hi : i < xs.length) : ∃ n o, islV 6 v (.int .i64 i) = some (.pointer (some ⟨n, o, none⟩)) ∧ n < H.next ∧ ldA (H.get n) true 6 o = some xs[i].val ∧ ∀ f, f < 6 → ldA (H.get n) false 1 (o + f) = xs[i].cells[f]? := by
  obtain ⟨n, o, rw', ds, c, h1, hn, h2, h3⟩ := h.1.isl (k := .i64) hi
  rw [flatMap_at (f := Tr.cells) (fun _ => rfl) xs i hi] at h3
  refine ⟨n, o, h1, hn, ?_, fun f hf => ?_⟩
  · rw [h2, ldA_agg, h3]; rfl
  · rw [h2, ldA_one]
    obtain ⟨h4, _⟩ := rdL_some h3
    rw [h4]
    simp [hf]
end

/-- Rows of whole numbers. -/
def RowsAt (H : Heap) (v : Value) (xs : List (List Int)) : Prop := ∃ vs : List Value, SlR H 1 v xs.length vs ∧ xs.length < 2 ^ 63 ∧ ∀ i (h : i < xs.length), ∃ u, vs[i]? = some u ∧ IntsAt H u xs[i]

section
variable {H H' : Heap} {v : Value} {xs : List (List Int)}
theorem RowsAt.lt (h : RowsAt H v xs) : xs.length < 2 ^ 63 := let ⟨_, _, k, _⟩ := h; k
theorem RowsAt.lenV (h : RowsAt H v xs) : Go.Ab.lenV v = some (.int .i64 xs.length) := let ⟨_, k, _⟩ := h; k.lenV
theorem RowsAt.ge (h : RowsAt H v xs) (g : Ge H H') : RowsAt H' v xs := by
  obtain ⟨vs, h1, h2, h3⟩ := h
  exact ⟨vs, h1.ge g, h2, fun i hi => let ⟨u, h4, h5⟩ := h3 i hi; ⟨u, h4, h5.ge g⟩⟩
theorem RowsAt.at (h : RowsAt H v xs) {i : Nat} (hi : i < xs.length) : ∃ p u, islV 1 v (.int .i64 i) = some p ∧ ldV H false 1 p = some u ∧ IntsAt H u xs[i] := by
  obtain ⟨vs, h1, h2, h3⟩ := h
  obtain ⟨u, h4, h5⟩ := h3 i hi
  obtain ⟨p, h6, h7⟩ := h1.at1 (k := .i64) hi
  exact ⟨p, u, h6, h7.trans h4, h5⟩
end

theorem IntsAt.atI {H : Heap} {v : Value} {xs : List Int} (h : IntsAt H v xs) {i : Int} (h0 : 0 ≤ i) (hi : i.toNat < xs.length) : ∃ p, islV 1 v (.int .i64 i) = some p ∧ ldV H false 1 p = some (.int .i64 xs[i.toNat]) := by
  obtain ⟨p, h1, h2⟩ := h.at hi
  exact ⟨p, by rw [← h1]; congr 2; omega, h2⟩
theorem RowsAt.atI {H : Heap} {v : Value} {xs : List (List Int)} (h : RowsAt H v xs) {i : Int} (h0 : 0 ≤ i) (hi : i.toNat < xs.length) : ∃ p u, islV 1 v (.int .i64 i) = some p ∧ ldV H false 1 p = some u ∧ IntsAt H u xs[i.toNat] := by
  obtain ⟨p, u, h1, h2, h3⟩ := h.at hi
  exact ⟨p, u, by rw [← h1]; congr 2; omega, h2, h3⟩
theorem TripsAt.atI {H : Heap} {v : Value} {xs : List Tr} (h : TripsAt H v xs) {i : Int} (h0 : 0 ≤ i) (hi : i.toNat < xs.length) : ∃ n o, islV 6 v (.int .i64 i) = some (.pointer (some ⟨n, o, none⟩)) ∧ n < H.next ∧ ldA (H.get n) true 6 o = some xs[i.toNat].val ∧ ∀ f, f < 6 → ldA (H.get n) false 1 (o + f) = xs[i.toNat].cells[f]? := by
  obtain ⟨n, o, h1, h2, h3, h4⟩ := h.at hi
  exact ⟨n, o, by rw [← h1]; congr 2; omega, h2, h3, h4⟩

theorem RowsAt.atGe {H A : Heap} {v : Value} {xs : List (List Int)} (h : RowsAt H v xs) (g : Ge H A) {i : Nat} (hi : i < xs.length) : ∃ p u, islV 1 v (.int .i64 i) = some p ∧ ldV A false 1 p = some u ∧ IntsAt H u xs[i] := by
  obtain ⟨vs, h1, h2, h3⟩ := h
  obtain ⟨u, h4, h5⟩ := h3 i hi
  obtain ⟨p, h6, h7⟩ := (h1.ge g).at1 (k := .i64) hi
  exact ⟨p, u, h6, h7.trans h4, h5⟩

/-- A table, by its four cells. -/
structure TabAt (H : Heap) (e s : Value) (T : Tab) : Prop where
  empty : RowsAt H e T.empty
  trips : TripsAt H s T.trips

theorem TabAt.ge {H H' : Heap} {e s : Value} {T : Tab} (h : TabAt H e s T) (g : Ge H H') : TabAt H' e s T := ⟨h.empty.ge g, h.trips.ge g⟩

/-- Such a slice is one cell. -/
theorem SlR.one {H : Heap} {sz len : Nat} {v : Value} {cs : List Value} (h : SlR H sz v len cs) : one v = true := by
  rcases h.cases with ⟨rfl | rfl, _⟩ | ⟨n, o, cap, rw, ds, c, rfl, _⟩ <;> rfl
theorem IntsAt.one {H : Heap} {v : Value} {xs : List Int} (h : IntsAt H v xs) : Go.Ab.one v = true := SlR.one h.1
theorem TripsAt.one {H : Heap} {v : Value} {xs : List Tr} (h : TripsAt H v xs) : Go.Ab.one v = true := SlR.one h.1
theorem RowsAt.one {H : Heap} {v : Value} {xs : List (List Int)} (h : RowsAt H v xs) : Go.Ab.one v = true := let ⟨_, k, _⟩ := h; SlR.one k

abbrev tabV (T : Tab) (e s : Value) : Value := .agg #[.int .i64 T.places, .int .i64 T.layover, e, s]

end Go.Proofs.Ytohohnpjilinmaa

/-
  The code of functions of the package, as the calculus has it.
-/
namespace Go.Proofs.Ytohohnpjilinmaa
open Go Go.Ab

/-- layover/run.within -/
def a71 : ACode :=
  (.seq
   (.region [⟨(some 6), (.mov (.c (.bool false))), none⟩])
   (.seq
    (.region [⟨(some 7), (.mov (.t 1)), none⟩, ⟨(some 8), (.mov (.t 0)), none⟩, ⟨(some 9), (.bin .leq (.t 7) (.t 8)), none⟩, ⟨(some 10), (.mov (.t 9)), none⟩, ⟨(some 11), (.mov (.t 0)), (some (10, true))⟩, ⟨(some 12), (.mov (.t 2)), (some (10, true))⟩, ⟨(some 13), (.bin .leq (.t 11) (.t 12)), (some (10, true))⟩, ⟨(some 14), (.pick (.t 10) (.t 13) (.c (.bool false))), none⟩, ⟨(some 6), (.mov (.t 14)), none⟩])
    .ret))
def r71 : List AOp := [(.mov (.t 6))]
theorem ok71 : FnOk Try.prog 71 Try.f71.ntmps a71 r71 := ⟨Try.f71, Try.func71, by kernel_rfl, by kernel_rfl, by kernel_rfl, fun asv w => by simp⟩

/-- layover/run.validMinutes -/
def a72 : ACode :=
  (.seq
   (.region [⟨(some 2), (.mov (.c (.bool false))), none⟩])
   (.seq
    (.region [⟨(some 3), (.mov (.t 0)), none⟩, ⟨(some 4), (.call (.c (.func (.func 71) #[] #[])) [(.t 3), (.c (.int .i64 0)), (.c (.int .i64 600))]), none⟩, ⟨(some 2), (.mov (.t 4)), none⟩])
    .ret))
def r72 : List AOp := [(.mov (.t 2))]
theorem ok72 : FnOk Try.prog 72 Try.f72.ntmps a72 r72 := ⟨Try.f72, Try.func72, by kernel_rfl, by kernel_rfl, by kernel_rfl, fun asv w => by simp⟩

/-- layover/run.validBuses -/
def a66 : ACode :=
  (.seq
   (.region [⟨(some 2), (.mov (.c (.bool false))), none⟩])
   (.seq
    (.region [⟨(some 3), (.mov (.t 0)), none⟩, ⟨(some 4), (.call (.c (.func (.func 71) #[] #[])) [(.t 3), (.c (.int .i64 0)), (.c (.int .i64 12))]), none⟩, ⟨(some 2), (.mov (.t 4)), none⟩])
    .ret))
def r66 : List AOp := [(.mov (.t 2))]
theorem ok66 : FnOk Try.prog 66 Try.f66.ntmps a66 r66 := ⟨Try.f66, Try.func66, by kernel_rfl, by kernel_rfl, by kernel_rfl, fun asv w => by simp⟩

/-- (layover/run.Table).validPlace -/
def a73 : ACode :=
  (.seq
   (.region [⟨(some 2), (.box (.t 0)), none⟩, ⟨(some 4), (.mov (.c (.bool false))), none⟩])
   (.seq
    (.region [⟨(some 5), (.mov (.t 1)), none⟩, ⟨(some 6), (.fa 0 (.t 2)), none⟩, ⟨(some 7), (.ld false 1 (.t 6)), none⟩, ⟨(some 8), (.bin .sub (.t 7) (.c (.int .i64 1))), none⟩, ⟨(some 9), (.call (.c (.func (.func 71) #[] #[])) [(.t 5), (.c (.int .i64 0)), (.t 8)]), none⟩, ⟨(some 4), (.mov (.t 9)), none⟩])
    .ret))
def r73 : List AOp := [(.mov (.t 4))]
theorem ok73 : FnOk Try.prog 73 Try.f73.ntmps a73 r73 := ⟨Try.f73, Try.func73, by kernel_rfl, by kernel_rfl, by kernel_rfl, fun asv w => by simp⟩

/-- layover/run.every[int] -/
def a65 : ACode :=
  (.seq
   (.region [⟨(some 4), (.mov (.c (.bool false))), none⟩])
   (.seq
    (.seq
     (.region [⟨(some 7), (.mov (.t 0)), none⟩, ⟨(some 8), (.len (.t 7)), none⟩, ⟨(some 9), (.mov (.c (.int .i64 0))), none⟩])
     (.block 0
      (.loop
       (.seq
        (.region [⟨(some 10), (.bin .lss (.t 9) (.t 8)), none⟩])
        (.seq
         (.cond (.t 10)
          .skip
          (.exit 0))
         (.seq
          (.block 1
           (.seq
            (.region [⟨(some 11), (.isl 1 (.t 7) (.t 9)), none⟩, ⟨(some 12), (.ld false 1 (.t 11)), none⟩, ⟨(some 6), (.mov (.t 12)), none⟩])
            (.seq
             (.region [⟨(some 13), (.mov (.t 1)), none⟩, ⟨(some 14), (.mov (.t 6)), none⟩, ⟨(some 15), (.call (.t 13) [(.t 14)]), none⟩, ⟨(some 16), (.not (.t 15)), none⟩])
             (.cond (.t 16)
              (.seq
               (.region [⟨(some 4), (.mov (.c (.bool false))), none⟩])
               .ret)
              .skip))))
          (.region [⟨(some 17), (.bin .add (.t 9) (.c (.int .i64 1))), none⟩, ⟨(some 9), (.mov (.t 17)), none⟩])))))))
    (.seq
     (.region [⟨(some 4), (.mov (.c (.bool true))), none⟩])
     .ret)))
def r65 : List AOp := [(.mov (.t 4))]
theorem ok65 : FnOk Try.prog 65 Try.f65.ntmps a65 r65 := ⟨Try.f65, Try.func65, by kernel_rfl, by kernel_rfl, by kernel_rfl, fun asv w => by simp⟩

/-- layover/run.every[layover/run.Trip] -/
def a49 : ACode :=
  (.seq
   (.region [⟨(some 4), (.mov (.c (.bool false))), none⟩])
   (.seq
    (.seq
     (.region [⟨(some 7), (.mov (.t 0)), none⟩, ⟨(some 8), (.len (.t 7)), none⟩, ⟨(some 9), (.mov (.c (.int .i64 0))), none⟩])
     (.block 0
      (.loop
       (.seq
        (.region [⟨(some 10), (.bin .lss (.t 9) (.t 8)), none⟩])
        (.seq
         (.cond (.t 10)
          .skip
          (.exit 0))
         (.seq
          (.block 1
           (.seq
            (.region [⟨(some 11), (.isl 6 (.t 7) (.t 9)), none⟩, ⟨(some 12), (.ld true 6 (.t 11)), none⟩, ⟨(some 6), (.new [(.int .i64 0), (.int .i64 0), (.int .i64 0), (.int .i64 0), (.int .i64 0), (.int .i64 0)]), none⟩, ⟨none, (.st 6 (.t 6) (.t 12)), none⟩])
            (.seq
             (.region [⟨(some 13), (.mov (.t 1)), none⟩, ⟨(some 14), (.ld true 6 (.t 6)), none⟩, ⟨(some 15), (.call (.t 13) [(.t 14)]), none⟩, ⟨(some 16), (.not (.t 15)), none⟩])
             (.cond (.t 16)
              (.seq
               (.region [⟨(some 4), (.mov (.c (.bool false))), none⟩])
               .ret)
              .skip))))
          (.region [⟨(some 17), (.bin .add (.t 9) (.c (.int .i64 1))), none⟩, ⟨(some 9), (.mov (.t 17)), none⟩])))))))
    (.seq
     (.region [⟨(some 4), (.mov (.c (.bool true))), none⟩])
     .ret)))
def r49 : List AOp := [(.mov (.t 4))]
theorem ok49 : FnOk Try.prog 49 Try.f49.ntmps a49 r49 := ⟨Try.f49, Try.func49, by kernel_rfl, by kernel_rfl, by kernel_rfl, fun asv w => by simp⟩

/-- (layover/run.Table).validTrip -/
def a50 : ACode :=
  (.seq
   (.region [⟨(some 2), (.box (.t 0)), none⟩, ⟨(some 3), (.box (.t 1)), none⟩, ⟨(some 4), (.mov (.c (.bool false))), none⟩])
   (.seq
    (.region [⟨(some 5), (.ld true 4 (.t 2)), none⟩, ⟨(some 6), (.fa 0 (.t 3)), none⟩, ⟨(some 7), (.ld false 1 (.t 6)), none⟩, ⟨(some 8), (.call (.c (.func (.func 73) #[] #[])) [(.t 5), (.t 7)]), none⟩, ⟨(some 9), (.mov (.t 8)), none⟩, ⟨(some 10), (.ld true 4 (.t 2)), (some (9, true))⟩, ⟨(some 11), (.fa 1 (.t 3)), (some (9, true))⟩, ⟨(some 12), (.ld false 1 (.t 11)), (some (9, true))⟩, ⟨(some 13), (.call (.c (.func (.func 73) #[] #[])) [(.t 10), (.t 12)]), (some (9, true))⟩, ⟨(some 14), (.pick (.t 9) (.t 13) (.c (.bool false))), none⟩, ⟨(some 15), (.mov (.t 14)), none⟩, ⟨(some 16), (.fa 2 (.t 3)), (some (15, true))⟩, ⟨(some 17), (.ld false 1 (.t 16)), (some (15, true))⟩, ⟨(some 18), (.call (.c (.func (.func 71) #[] #[])) [(.t 17), (.c (.int .i64 0)), (.c (.int .i64 2000))]), (some (15, true))⟩, ⟨(some 19), (.pick (.t 15) (.t 18) (.c (.bool false))), none⟩, ⟨(some 20), (.mov (.t 19)), none⟩, ⟨(some 21), (.fa 4 (.t 3)), (some (20, true))⟩, ⟨(some 22), (.ld false 1 (.t 21)), (some (20, true))⟩, ⟨(some 23), (.call (.c (.func (.func 71) #[] #[])) [(.t 22), (.c (.int .i64 1)), (.c (.int .i64 600))]), (some (20, true))⟩, ⟨(some 24), (.pick (.t 20) (.t 23) (.c (.bool false))), none⟩, ⟨(some 25), (.mov (.t 24)), none⟩, ⟨(some 26), (.fa 3 (.t 3)), (some (25, true))⟩, ⟨(some 27), (.ld false 1 (.t 26)), (some (25, true))⟩, ⟨(some 28), (.fa 4 (.t 3)), (some (25, true))⟩, ⟨(some 29), (.ld false 1 (.t 28)), (some (25, true))⟩, ⟨(some 30), (.call (.c (.func (.func 71) #[] #[])) [(.t 27), (.c (.int .i64 1)), (.t 29)]), (some (25, true))⟩, ⟨(some 31), (.pick (.t 25) (.t 30) (.c (.bool false))), none⟩, ⟨(some 32), (.mov (.t 31)), none⟩, ⟨(some 33), (.fa 5 (.t 3)), (some (32, true))⟩, ⟨(some 34), (.ld false 1 (.t 33)), (some (32, true))⟩, ⟨(some 35), (.call (.c (.func (.func 71) #[] #[])) [(.t 34), (.c (.int .i64 0)), (.c (.int .i64 2))]), (some (32, true))⟩, ⟨(some 36), (.pick (.t 32) (.t 35) (.c (.bool false))), none⟩, ⟨(some 4), (.mov (.t 36)), none⟩])
    .ret))
def r50 : List AOp := [(.mov (.t 4))]
theorem ok50 : FnOk Try.prog 50 Try.f50.ntmps a50 r50 := ⟨Try.f50, Try.func50, by kernel_rfl, by kernel_rfl, by kernel_rfl, fun asv w => by simp⟩

/-- (layover/run.Table).validPlaces -/
def a48 : ACode :=
  (.seq
   (.region [⟨(some 1), (.box (.t 0)), none⟩, ⟨(some 2), (.mov (.c (.bool false))), none⟩])
   (.seq
    (.seq
     (.region [⟨(some 5), (.fa 0 (.t 1)), none⟩, ⟨(some 6), (.ld false 1 (.t 5)), none⟩, ⟨(some 7), (.call (.c (.func (.func 71) #[] #[])) [(.t 6), (.c (.int .i64 1)), (.c (.int .i64 6))]), none⟩, ⟨(some 8), (.not (.t 7)), none⟩, ⟨(some 9), (.mov (.t 8)), none⟩, ⟨(some 10), (.fa 1 (.t 1)), (some (9, false))⟩, ⟨(some 11), (.ld false 1 (.t 10)), (some (9, false))⟩, ⟨(some 12), (.call (.c (.func (.func 72) #[] #[])) [(.t 11)]), (some (9, false))⟩, ⟨(some 13), (.not (.t 12)), (some (9, false))⟩, ⟨(some 14), (.pick (.t 9) (.c (.bool true)) (.t 13)), none⟩, ⟨(some 15), (.mov (.t 14)), none⟩, ⟨(some 16), (.fa 2 (.t 1)), (some (15, false))⟩, ⟨(some 17), (.ld false 1 (.t 16)), (some (15, false))⟩, ⟨(some 18), (.len (.t 17)), (some (15, false))⟩, ⟨(some 19), (.fa 0 (.t 1)), (some (15, false))⟩, ⟨(some 20), (.ld false 1 (.t 19)), (some (15, false))⟩, ⟨(some 21), (.bin .neq (.t 18) (.t 20)), (some (15, false))⟩, ⟨(some 22), (.pick (.t 15) (.c (.bool true)) (.t 21)), none⟩])
     (.cond (.t 22)
      (.seq
       (.region [⟨(some 2), (.mov (.c (.bool false))), none⟩])
       .ret)
      .skip))
    (.seq
     (.seq
      (.region [⟨(some 23), (.fa 0 (.t 1)), none⟩, ⟨(some 24), (.ld false 1 (.t 23)), none⟩, ⟨(some 25), (.mov (.c (.int .i64 0))), none⟩])
      (.block 0
       (.loop
        (.seq
         (.region [⟨(some 26), (.bin .lss (.t 25) (.t 24)), none⟩])
         (.seq
          (.cond (.t 26)
           .skip
           (.exit 0))
          (.seq
           (.block 1
            (.seq
             (.region [⟨(some 27), (.mov (.t 25)), none⟩, ⟨(some 3), (.mov (.t 27)), none⟩])
             (.seq
              (.region [⟨(some 28), (.fa 2 (.t 1)), none⟩, ⟨(some 29), (.ld false 1 (.t 28)), none⟩, ⟨(some 30), (.mov (.t 3)), none⟩, ⟨(some 31), (.isl 1 (.t 29) (.t 30)), none⟩, ⟨(some 32), (.ld false 1 (.t 31)), none⟩, ⟨(some 4), (.mov (.t 32)), none⟩])
              (.seq
               (.region [⟨(some 33), (.mov (.t 4)), none⟩, ⟨(some 34), (.len (.t 33)), none⟩, ⟨(some 35), (.fa 0 (.t 1)), none⟩, ⟨(some 36), (.ld false 1 (.t 35)), none⟩, ⟨(some 37), (.bin .neq (.t 34) (.t 36)), none⟩, ⟨(some 38), (.mov (.t 37)), none⟩, ⟨(some 39), (.mov (.t 4)), (some (38, false))⟩, ⟨(some 40), (.mov (.t 3)), (some (38, false))⟩, ⟨(some 41), (.isl 1 (.t 39) (.t 40)), (some (38, false))⟩, ⟨(some 42), (.ld false 1 (.t 41)), (some (38, false))⟩, ⟨(some 43), (.bin .neq (.t 42) (.c (.int .i64 0))), (some (38, false))⟩, ⟨(some 44), (.pick (.t 38) (.c (.bool true)) (.t 43)), none⟩, ⟨(some 45), (.mov (.t 44)), none⟩, ⟨(some 46), (.mov (.t 4)), (some (45, false))⟩, ⟨(some 47), (.call (.c (.func (.func 65) #[] #[])) [(.t 46), (.c (.func (.func 72) #[] #[]))]), (some (45, false))⟩, ⟨(some 48), (.not (.t 47)), (some (45, false))⟩, ⟨(some 49), (.pick (.t 45) (.c (.bool true)) (.t 48)), none⟩])
               (.cond (.t 49)
                (.seq
                 (.region [⟨(some 2), (.mov (.c (.bool false))), none⟩])
                 .ret)
                .skip)))))
           (.region [⟨(some 50), (.bin .add (.t 25) (.c (.int .i64 1))), none⟩, ⟨(some 25), (.mov (.t 50)), none⟩])))))))
     (.seq
      (.region [⟨(some 2), (.mov (.c (.bool true))), none⟩])
      .ret))))
def r48 : List AOp := [(.mov (.t 2))]
theorem ok48 : FnOk Try.prog 48 Try.f48.ntmps a48 r48 := ⟨Try.f48, Try.func48, by kernel_rfl, by kernel_rfl, by kernel_rfl, fun asv w => by simp⟩

/-- layover/run.CheckTable -/
def a18 : ACode :=
  (.seq
   (.region [⟨(some 1), (.box (.t 0)), none⟩, ⟨(some 2), (.mov (.c (.int .i64 0))), none⟩])
   (.seq
    (.block 0
     (.seq
      (.region [⟨(some 4), (.fa 3 (.t 1)), none⟩, ⟨(some 5), (.ld false 1 (.t 4)), none⟩, ⟨(some 6), (.len (.t 5)), none⟩, ⟨(some 7), (.bin .gtr (.t 6) (.c (.int .i64 12))), none⟩, ⟨(some 3), (.mov (.t 7)), none⟩])
      (.cond (.t 3)
       (.seq
        (.region [⟨(some 2), (.mov (.c (.int .i64 3))), none⟩])
        .ret)
       (.seq
        (.seq
         (.region [⟨(some 9), (.ld true 4 (.t 1)), none⟩, ⟨(some 10), (.call (.c (.func (.func 48) #[] #[])) [(.t 9)]), none⟩, ⟨(some 11), (.not (.t 10)), none⟩, ⟨(some 8), (.mov (.t 11)), none⟩])
         (.cond (.t 8)
          .skip
          (.region [⟨(some 12), (.fa 3 (.t 1)), none⟩, ⟨(some 13), (.ld false 1 (.t 12)), none⟩, ⟨(some 14), (.ld true 4 (.t 1)), none⟩, ⟨(some 15), (.fn (.func 50) [(.t 14)] []), none⟩, ⟨(some 16), (.call (.c (.func (.func 49) #[] #[])) [(.t 13), (.t 15)]), none⟩, ⟨(some 17), (.not (.t 16)), none⟩, ⟨(some 8), (.mov (.t 17)), none⟩])))
        (.cond (.t 8)
         (.seq
          (.region [⟨(some 2), (.mov (.c (.int .i64 1))), none⟩])
          .ret)
         .skip)))))
    (.seq
     (.region [⟨(some 2), (.mov (.c (.int .i64 0))), none⟩])
     .ret)))
def r18 : List AOp := [(.mov (.t 2))]
theorem ok18 : FnOk Try.prog 18 Try.f18.ntmps a18 r18 := ⟨Try.f18, Try.func18, by kernel_rfl, by kernel_rfl, by kernel_rfl, fun asv w => by simp⟩

/-- layover/layoverref01.Fault -/
def a47 : ACode :=
  (.seq
   (.region [⟨(some 1), (.box (.t 0)), none⟩, ⟨(some 2), (.mov (.c (.int .i64 0))), none⟩])
   (.seq
    (.seq
     (.region [⟨(some 7), (.fa 3 (.t 1)), none⟩, ⟨(some 8), (.ld false 1 (.t 7)), none⟩, ⟨(some 9), (.len (.t 8)), none⟩, ⟨(some 10), (.bin .gtr (.t 9) (.c (.int .i64 12))), none⟩])
     (.cond (.t 10)
      (.seq
       (.region [⟨(some 2), (.mov (.c (.int .i64 3))), none⟩])
       .ret)
      .skip))
    (.seq
     (.seq
      (.region [⟨(some 11), (.fa 0 (.t 1)), none⟩, ⟨(some 12), (.ld false 1 (.t 11)), none⟩, ⟨(some 13), (.call (.c (.func (.func 57) #[] #[])) [(.t 12), (.c (.int .i64 1)), (.c (.int .i64 6))]), none⟩, ⟨(some 14), (.not (.t 13)), none⟩, ⟨(some 15), (.mov (.t 14)), none⟩, ⟨(some 16), (.fa 1 (.t 1)), (some (15, false))⟩, ⟨(some 17), (.ld false 1 (.t 16)), (some (15, false))⟩, ⟨(some 18), (.call (.c (.func (.func 57) #[] #[])) [(.t 17), (.c (.int .i64 0)), (.c (.int .i64 600))]), (some (15, false))⟩, ⟨(some 19), (.not (.t 18)), (some (15, false))⟩, ⟨(some 20), (.pick (.t 15) (.c (.bool true)) (.t 19)), none⟩, ⟨(some 21), (.mov (.t 20)), none⟩, ⟨(some 22), (.fa 2 (.t 1)), (some (21, false))⟩, ⟨(some 23), (.ld false 1 (.t 22)), (some (21, false))⟩, ⟨(some 24), (.len (.t 23)), (some (21, false))⟩, ⟨(some 25), (.fa 0 (.t 1)), (some (21, false))⟩, ⟨(some 26), (.ld false 1 (.t 25)), (some (21, false))⟩, ⟨(some 27), (.bin .neq (.t 24) (.t 26)), (some (21, false))⟩, ⟨(some 28), (.pick (.t 21) (.c (.bool true)) (.t 27)), none⟩])
      (.cond (.t 28)
       (.seq
        (.region [⟨(some 2), (.mov (.c (.int .i64 1))), none⟩])
        .ret)
       .skip))
     (.seq
      (.seq
       (.region [⟨(some 3), (.mov (.c (.int .i64 0))), none⟩])
       (.block 0
        (.loop
         (.seq
          (.seq
           (.region [⟨(some 29), (.mov (.t 3)), none⟩, ⟨(some 30), (.fa 0 (.t 1)), none⟩, ⟨(some 31), (.ld false 1 (.t 30)), none⟩, ⟨(some 32), (.bin .lss (.t 29) (.t 31)), none⟩])
           (.cond (.t 32)
            .skip
            (.exit 0)))
          (.seq
           (.block 1
            (.seq
             (.seq
              (.draw 20 [⟨⟨(some 35), (.fa 2 (.t 1)), none⟩, 0, false, []⟩, ⟨⟨(some 36), (.ld false 1 (.t 35)), none⟩, 1, false, []⟩, ⟨⟨(some 37), (.mov (.t 3)), none⟩, 2, false, []⟩, ⟨⟨(some 38), (.isl 1 (.t 36) (.t 37)), none⟩, 3, false, []⟩, ⟨⟨(some 39), (.ld false 1 (.t 38)), none⟩, 4, false, []⟩, ⟨⟨(some 40), (.len (.t 39)), none⟩, 5, false, []⟩, ⟨⟨(some 41), (.fa 0 (.t 1)), none⟩, 6, false, []⟩, ⟨⟨(some 42), (.ld false 1 (.t 41)), none⟩, 7, false, []⟩, ⟨⟨(some 43), (.bin .neq (.t 40) (.t 42)), none⟩, 8, false, []⟩, ⟨⟨(some 44), (.mov (.t 43)), none⟩, 9, false, []⟩, ⟨⟨(some 45), (.fa 2 (.t 1)), (some (44, false))⟩, 10, false, []⟩, ⟨⟨(some 46), (.ld false 1 (.t 45)), (some (44, false))⟩, 11, false, []⟩, ⟨⟨(some 47), (.mov (.t 3)), (some (44, false))⟩, 12, false, []⟩, ⟨⟨(some 48), (.isl 1 (.t 46) (.t 47)), (some (44, false))⟩, 13, false, []⟩, ⟨⟨(some 49), (.ld false 1 (.t 48)), (some (44, false))⟩, 14, false, []⟩, ⟨⟨(some 50), (.mov (.t 3)), (some (44, false))⟩, 15, false, []⟩, ⟨⟨(some 51), (.isl 1 (.t 49) (.t 50)), (some (44, false))⟩, 16, false, []⟩, ⟨⟨(some 52), (.ld false 1 (.t 51)), (some (44, false))⟩, 17, false, []⟩, ⟨⟨(some 53), (.bin .neq (.t 52) (.c (.int .i64 0))), (some (44, false))⟩, 18, false, []⟩, ⟨⟨(some 54), (.pick (.t 44) (.c (.bool true)) (.t 53)), none⟩, 19, false, []⟩])
              (.cond (.t 54)
               (.seq
                (.region [⟨(some 2), (.mov (.c (.int .i64 1))), none⟩])
                .ret)
               .skip))
             (.seq
              (.region [⟨(some 4), (.mov (.c (.int .i64 0))), none⟩])
              (.block 2
               (.loop
                (.seq
                 (.seq
                  (.region [⟨(some 55), (.mov (.t 4)), none⟩, ⟨(some 56), (.fa 0 (.t 1)), none⟩, ⟨(some 57), (.ld false 1 (.t 56)), none⟩, ⟨(some 58), (.bin .lss (.t 55) (.t 57)), none⟩])
                  (.cond (.t 58)
                   .skip
                   (.exit 2)))
                 (.seq
                  (.block 3
                   (.seq
                    (.region [⟨(some 61), (.fa 2 (.t 1)), none⟩, ⟨(some 62), (.ld false 1 (.t 61)), none⟩, ⟨(some 63), (.mov (.t 3)), none⟩, ⟨(some 64), (.isl 1 (.t 62) (.t 63)), none⟩, ⟨(some 65), (.ld false 1 (.t 64)), none⟩, ⟨(some 66), (.mov (.t 4)), none⟩, ⟨(some 67), (.isl 1 (.t 65) (.t 66)), none⟩, ⟨(some 68), (.ld false 1 (.t 67)), none⟩, ⟨(some 69), (.call (.c (.func (.func 57) #[] #[])) [(.t 68), (.c (.int .i64 0)), (.c (.int .i64 600))]), none⟩, ⟨(some 70), (.not (.t 69)), none⟩])
                    (.cond (.t 70)
                     (.seq
                      (.region [⟨(some 2), (.mov (.c (.int .i64 1))), none⟩])
                      .ret)
                     .skip)))
                  (.region [⟨(some 59), (.mov (.t 4)), none⟩, ⟨(some 60), (.bin .add (.t 59) (.c (.int .i64 1))), none⟩, ⟨(some 4), (.mov (.t 60)), none⟩]))))))))
           (.region [⟨(some 33), (.mov (.t 3)), none⟩, ⟨(some 34), (.bin .add (.t 33) (.c (.int .i64 1))), none⟩, ⟨(some 3), (.mov (.t 34)), none⟩]))))))
      (.seq
       (.seq
        (.region [⟨(some 5), (.mov (.c (.int .i64 0))), none⟩])
        (.block 4
         (.loop
          (.seq
           (.seq
            (.region [⟨(some 71), (.mov (.t 5)), none⟩, ⟨(some 72), (.fa 3 (.t 1)), none⟩, ⟨(some 73), (.ld false 1 (.t 72)), none⟩, ⟨(some 74), (.len (.t 73)), none⟩, ⟨(some 75), (.bin .lss (.t 71) (.t 74)), none⟩])
            (.cond (.t 75)
             .skip
             (.exit 4)))
           (.seq
            (.block 5
             (.seq
              (.region [⟨(some 78), (.fa 3 (.t 1)), none⟩, ⟨(some 79), (.ld false 1 (.t 78)), none⟩, ⟨(some 80), (.mov (.t 5)), none⟩, ⟨(some 81), (.isl 6 (.t 79) (.t 80)), none⟩, ⟨(some 82), (.ld true 6 (.t 81)), none⟩, ⟨(some 6), (.new [(.int .i64 0), (.int .i64 0), (.int .i64 0), (.int .i64 0), (.int .i64 0), (.int .i64 0)]), none⟩, ⟨none, (.st 6 (.t 6) (.t 82)), none⟩])
              (.seq
               (.region [⟨(some 83), (.fa 0 (.t 6)), none⟩, ⟨(some 84), (.ld false 1 (.t 83)), none⟩, ⟨(some 85), (.fa 0 (.t 1)), none⟩, ⟨(some 86), (.ld false 1 (.t 85)), none⟩, ⟨(some 87), (.bin .sub (.t 86) (.c (.int .i64 1))), none⟩, ⟨(some 88), (.call (.c (.func (.func 57) #[] #[])) [(.t 84), (.c (.int .i64 0)), (.t 87)]), none⟩, ⟨(some 89), (.not (.t 88)), none⟩, ⟨(some 90), (.mov (.t 89)), none⟩, ⟨(some 91), (.fa 1 (.t 6)), (some (90, false))⟩, ⟨(some 92), (.ld false 1 (.t 91)), (some (90, false))⟩, ⟨(some 93), (.fa 0 (.t 1)), (some (90, false))⟩, ⟨(some 94), (.ld false 1 (.t 93)), (some (90, false))⟩, ⟨(some 95), (.bin .sub (.t 94) (.c (.int .i64 1))), (some (90, false))⟩, ⟨(some 96), (.call (.c (.func (.func 57) #[] #[])) [(.t 92), (.c (.int .i64 0)), (.t 95)]), (some (90, false))⟩, ⟨(some 97), (.not (.t 96)), (some (90, false))⟩, ⟨(some 98), (.pick (.t 90) (.c (.bool true)) (.t 97)), none⟩, ⟨(some 99), (.mov (.t 98)), none⟩, ⟨(some 100), (.fa 2 (.t 6)), (some (99, false))⟩, ⟨(some 101), (.ld false 1 (.t 100)), (some (99, false))⟩, ⟨(some 102), (.call (.c (.func (.func 57) #[] #[])) [(.t 101), (.c (.int .i64 0)), (.c (.int .i64 2000))]), (some (99, false))⟩, ⟨(some 103), (.not (.t 102)), (some (99, false))⟩, ⟨(some 104), (.pick (.t 99) (.c (.bool true)) (.t 103)), none⟩, ⟨(some 105), (.mov (.t 104)), none⟩, ⟨(some 106), (.fa 3 (.t 6)), (some (105, false))⟩, ⟨(some 107), (.ld false 1 (.t 106)), (some (105, false))⟩, ⟨(some 108), (.fa 4 (.t 6)), (some (105, false))⟩, ⟨(some 109), (.ld false 1 (.t 108)), (some (105, false))⟩, ⟨(some 110), (.call (.c (.func (.func 57) #[] #[])) [(.t 107), (.c (.int .i64 1)), (.t 109)]), (some (105, false))⟩, ⟨(some 111), (.not (.t 110)), (some (105, false))⟩, ⟨(some 112), (.pick (.t 105) (.c (.bool true)) (.t 111)), none⟩, ⟨(some 113), (.mov (.t 112)), none⟩, ⟨(some 114), (.fa 4 (.t 6)), (some (113, false))⟩, ⟨(some 115), (.ld false 1 (.t 114)), (some (113, false))⟩, ⟨(some 116), (.bin .gtr (.t 115) (.c (.int .i64 600))), (some (113, false))⟩, ⟨(some 117), (.pick (.t 113) (.c (.bool true)) (.t 116)), none⟩, ⟨(some 118), (.mov (.t 117)), none⟩, ⟨(some 119), (.fa 5 (.t 6)), (some (118, false))⟩, ⟨(some 120), (.ld false 1 (.t 119)), (some (118, false))⟩, ⟨(some 121), (.call (.c (.func (.func 57) #[] #[])) [(.t 120), (.c (.int .i64 0)), (.c (.int .i64 2))]), (some (118, false))⟩, ⟨(some 122), (.not (.t 121)), (some (118, false))⟩, ⟨(some 123), (.pick (.t 118) (.c (.bool true)) (.t 122)), none⟩])
               (.cond (.t 123)
                (.seq
                 (.region [⟨(some 2), (.mov (.c (.int .i64 1))), none⟩])
                 .ret)
                .skip))))
            (.region [⟨(some 76), (.mov (.t 5)), none⟩, ⟨(some 77), (.bin .add (.t 76) (.c (.int .i64 1))), none⟩, ⟨(some 5), (.mov (.t 77)), none⟩]))))))
       (.seq
        (.region [⟨(some 2), (.mov (.c (.int .i64 0))), none⟩])
        .ret))))))
def r47 : List AOp := [(.mov (.t 2))]
theorem ok47 : FnOk Try.prog 47 Try.f47.ntmps a47 r47 := ⟨Try.f47, Try.func47, by kernel_rfl, by kernel_rfl, by kernel_rfl, fun asv w => by simp⟩

/-- layover/layoverlaw01.Thin -/
def a16 : ACode :=
  (.seq
   (.region [⟨(some 1), (.box (.t 0)), none⟩, ⟨(some 2), (.mov (.c (.bool false))), none⟩])
   (.seq
    (.region [⟨(some 3), (.fa 2 (.t 1)), none⟩, ⟨(some 4), (.ld false 1 (.t 3)), none⟩, ⟨(some 5), (.call (.c (.func (.func 25) #[] #[])) [(.t 4)]), none⟩, ⟨(some 6), (.mov (.t 5)), none⟩, ⟨(some 7), (.fa 3 (.t 1)), (some (6, true))⟩, ⟨(some 8), (.ld false 1 (.t 7)), (some (6, true))⟩, ⟨(some 9), (.len (.t 8)), (some (6, true))⟩, ⟨(some 10), (.bin .leq (.t 9) (.c (.int .i64 15))), (some (6, true))⟩, ⟨(some 11), (.pick (.t 6) (.t 10) (.c (.bool false))), none⟩, ⟨(some 2), (.mov (.t 11)), none⟩])
    .ret))
def r16 : List AOp := [(.mov (.t 2))]
theorem ok16 : FnOk Try.prog 16 Try.f16.ntmps a16 r16 := ⟨Try.f16, Try.func16, by kernel_rfl, by kernel_rfl, by kernel_rfl, fun asv w => by simp⟩

/-- layover/layoverlaw01.short -/
def a25 : ACode :=
  (.seq
   (.region [⟨(some 2), (.mov (.c (.bool false))), none⟩])
   (.seq
    (.seq
     (.region [⟨(some 3), (.mov (.c (.int .i64 0))), none⟩])
     (.block 0
      (.loop
       (.seq
        (.seq
         (.region [⟨(some 4), (.mov (.t 3)), none⟩, ⟨(some 5), (.mov (.t 0)), none⟩, ⟨(some 6), (.len (.t 5)), none⟩, ⟨(some 7), (.bin .lss (.t 4) (.t 6)), none⟩, ⟨(some 8), (.mov (.t 7)), none⟩, ⟨(some 9), (.mov (.t 3)), (some (8, true))⟩, ⟨(some 10), (.bin .lss (.t 9) (.c (.int .i64 16))), (some (8, true))⟩, ⟨(some 11), (.pick (.t 8) (.t 10) (.c (.bool false))), none⟩])
         (.cond (.t 11)
          .skip
          (.exit 0)))
        (.seq
         (.block 1
          (.seq
           (.region [⟨(some 14), (.mov (.t 0)), none⟩, ⟨(some 15), (.mov (.t 3)), none⟩, ⟨(some 16), (.isl 1 (.t 14) (.t 15)), none⟩, ⟨(some 17), (.ld false 1 (.t 16)), none⟩, ⟨(some 18), (.len (.t 17)), none⟩, ⟨(some 19), (.bin .gtr (.t 18) (.c (.int .i64 15))), none⟩])
           (.cond (.t 19)
            (.seq
             (.region [⟨(some 2), (.mov (.c (.bool false))), none⟩])
             .ret)
            .skip)))
         (.region [⟨(some 12), (.mov (.t 3)), none⟩, ⟨(some 13), (.bin .add (.t 12) (.c (.int .i64 1))), none⟩, ⟨(some 3), (.mov (.t 13)), none⟩]))))))
    (.seq
     (.region [⟨(some 20), (.mov (.t 0)), none⟩, ⟨(some 21), (.len (.t 20)), none⟩, ⟨(some 22), (.bin .leq (.t 21) (.c (.int .i64 15))), none⟩, ⟨(some 2), (.mov (.t 22)), none⟩])
     .ret)))
def r25 : List AOp := [(.mov (.t 2))]
theorem ok25 : FnOk Try.prog 25 Try.f25.ntmps a25 r25 := ⟨Try.f25, Try.func25, by kernel_rfl, by kernel_rfl, by kernel_rfl, fun asv w => by simp⟩

end Go.Proofs.Ytohohnpjilinmaa

/-
  Contracts of the functions that check a timetable.
-/
namespace Go.Proofs.Ytohohnpjilinmaa
open Go Go.Ab

theorem within_spec (n lo hi : Int) (H : Heap) : AFun Try.prog 71 [.int .i64 n, .int .i64 lo, .int .i64 hi] H (fun v H' => v = .bool (decide (lo ≤ n) && decide (n ≤ hi)) ∧ H' = H) := by
  refine AFun.mk ok71 hm (Nat.le_of_ble_eq_true rfl) ?_
  simp [a71, r71]
  by_cases h1 : lo ≤ n <;> by_cases h2 : n ≤ hi <;> simp [h1, h2]

theorem validMinutes_spec (n : Int) (H : Heap) : AFun Try.prog 72 [.int .i64 n] H (fun v H' => v = .bool (decide (0 ≤ n) && decide (n ≤ 600)) ∧ H' = H) := by
  refine AFun.mk ok72 hm (Nat.le_of_ble_eq_true rfl) ?_
  simp [a72, r72]
  refine fcall_fun (within_spec _ _ _ _) ?_
  rintro _ _ ⟨rfl, rfl⟩
  simp

theorem validBuses_spec (n : Int) (H : Heap) : AFun Try.prog 66 [.int .i64 n] H (fun v H' => v = .bool (decide (0 ≤ n) && decide (n ≤ 12)) ∧ H' = H) := by
  refine AFun.mk ok66 hm (Nat.le_of_ble_eq_true rfl) ?_
  simp [a66, r66]
  refine fcall_fun (within_spec _ _ _ _) ?_
  rintro _ _ ⟨rfl, rfl⟩
  simp

theorem validPlace_spec (p n : Int) (x y z : Value) (hp : -(2 ^ 62) ≤ p) (hp' : p < 2 ^ 62) (H : Heap) (_hx : one x = true) : AFun Try.prog 73 [.agg #[.int .i64 p, x, y, z], .int .i64 n] H (fun v H' => v = .bool (decide (0 ≤ n) && decide (n ≤ p - 1)) ∧ Ge H H') := by
  refine AFun.mk ok73 hm (Nat.le_of_ble_eq_true rfl) ?_
  simp [a73, r73, sub_in (x := p) (y := 1) (by omega) (by omega)]
  refine fcall_fun (within_spec _ _ _ _) ?_
  rintro _ _ ⟨rfl, rfl⟩
  simp

theorem every_int_spec {H : Heap} {v pv : Value} {xs : List Int} {p : Int → Bool} (hv : IntsAt H v xs)
    (hp : ∀ n H', Ge H H' → ACall Try.prog pv [.int .i64 n] H' (fun r H'' => r = .bool (p n) ∧ Ge H' H'')) : AFun Try.prog 65 [v, pv] H (fun r H' => r = .bool (xs.all p) ∧ Ge H H') := by
  refine AFun.mk ok65 hm (Nat.le_of_ble_eq_true rfl) ?_
  have h62 := hv.2
  simp [a65, r65, hv.lenV]
  refine floop_intro (fun s => s.d = [] ∧ Ge H s.H ∧ s.t 1 = pv ∧ s.t 7 = v ∧ s.t 8 = .int .i64 xs.length ∧ ∃ i : Nat, i ≤ xs.length ∧ s.t 9 = .int .i64 i ∧ (xs.take i).all p = true) (fun s => xs.length - (intOf (s.t 9)).toNat) ?_ ?_
  · exact ⟨rfl, by simp, by simp, by simp, by simp, 0, by simp, by simp, by simp⟩
  · rintro ⟨t, _, H'⟩ ⟨rfl, g, h1, h7, h8, i, hi, h9, hn⟩
    dsimp only at g h1 h7 h8 h9
    simp [h8, h9]
    refine fcond_intro (fun hc => ?_) (fun hc => ?_)
    · have hi' : i < xs.length := by simpa using hc
      obtain ⟨q, e1, e2⟩ := (hv.ge g).at hi'
      simp [h1, h7, h9, e1, e2]
      refine fcall_intro ((hp xs[i] H' g).mono ?_)
      rintro _ H'' ⟨rfl, g2⟩
      simp
      refine fcond_intro (fun hx => ?_) (fun hx => ?_)
      · simp at hx
        simp
        exact ⟨⟨xs[i], List.getElem_mem hi', hx⟩, g.trans g2⟩
      · simp at hx
        simp [h9, add_in (x := i) (y := 1) (by omega) (by omega)]
        refine ⟨⟨g.trans g2, h1, h7, h8, i + 1, by omega, by omega, ?_⟩, by omega⟩
        intro y hy
        rw [List.take_succ_eq_append_getElem hi'] at hy
        simp only [List.mem_append, List.mem_singleton] at hy
        rcases hy with hy | rfl
        · simp at hn; exact hn y hy
        · exact hx
    · have : xs.length ≤ i := by simpa using hc
      rw [List.take_of_length_le this] at hn
      simp
      simp at hn
      exact ⟨hn, g⟩


theorem every_trip_spec {H : Heap} {v pv : Value} {xs : List Tr} {p : Tr → Bool} (hv : TripsAt H v xs)
    (hp : ∀ n H', Ge H H' → ACall Try.prog pv [n.val] H' (fun r H'' => r = .bool (p n) ∧ Ge H' H'')) : AFun Try.prog 49 [v, pv] H (fun r H' => r = .bool (xs.all p) ∧ Ge H H') := by
  refine AFun.mk ok49 hm (Nat.le_of_ble_eq_true rfl) ?_
  have h62 := hv.2
  simp [a49, r49, hv.lenV]
  refine floop_intro (fun s => s.d = [] ∧ Ge H s.H ∧ s.t 1 = pv ∧ s.t 7 = v ∧ s.t 8 = .int .i64 xs.length ∧ ∃ i : Nat, i ≤ xs.length ∧ s.t 9 = .int .i64 i ∧ (xs.take i).all p = true) (fun s => xs.length - (intOf (s.t 9)).toNat) ?_ ?_
  · exact ⟨rfl, by simp, by simp, by simp, by simp, 0, by simp, by simp, by simp⟩
  · rintro ⟨t, _, H'⟩ ⟨rfl, g, h1, h7, h8, i, hi, h9, hn⟩
    dsimp only at g h1 h7 h8 h9
    simp [h8, h9]
    refine fcond_intro (fun hc => ?_) (fun hc => ?_)
    · have hi' : i < xs.length := by simpa using hc
      obtain ⟨n, o, e1, _, e2, _⟩ := (hv.ge g).at hi'
      simp [h1, h7, h9, e1, e2, Tr.val]
      refine fcall_intro ((hp xs[i] _ (by simp [g, g.next])).mono ?_)
      rintro _ H'' ⟨rfl, g2⟩
      simp
      refine fcond_intro (fun hx => ?_) (fun hx => ?_)
      · simp at hx
        simp
        exact ⟨⟨xs[i], List.getElem_mem hi', hx⟩, (by simp [g, g.next] : Ge H _).trans g2⟩
      · simp at hx
        simp [h9, add_in (x := i) (y := 1) (by omega) (by omega)]
        refine ⟨⟨(by simp [g, g.next] : Ge H _).trans g2, h1, h7, h8, i + 1, by omega, by omega, ?_⟩, by omega⟩
        intro y hy
        rw [List.take_succ_eq_append_getElem hi'] at hy
        simp only [List.mem_append, List.mem_singleton] at hy
        rcases hy with hy | rfl
        · simp at hn; exact hn y hy
        · exact hx
    · have : xs.length ≤ i := by simpa using hc
      rw [List.take_of_length_le this] at hn
      simp
      simp at hn
      exact ⟨hn, g⟩

end Go.Proofs.Ytohohnpjilinmaa

/-
  Contracts of the checks of a timetable, of the program.
-/
namespace Go.Proofs.Ytohohnpjilinmaa
open Go Go.Ab

def okTrip (P : Int) (x : Tr) : Bool :=
  (decide (0 ≤ x.src) && decide (x.src ≤ P - 1)) && ((decide (0 ≤ x.dst) && decide (x.dst ≤ P - 1)) && ((decide (0 ≤ x.start) && decide (x.start ≤ 2000)) && ((decide (1 ≤ x.most) && decide (x.most ≤ 600)) && ((decide (1 ≤ x.least) && decide (x.least ≤ x.most)) && (decide (0 ≤ x.kind) && decide (x.kind ≤ 2))))))

theorem validTrip_spec {p l : Int} {e s : Value} (x : Tr) (hp : -(2 ^ 62) ≤ p) (hp' : p < 2 ^ 62) (H : Heap) : AFun Try.prog 50 [.agg #[.int .i64 p, .int .i64 l, e, s], x.val] H (fun v H' => v = .bool (okTrip p x) ∧ Ge H H') := by
  refine AFun.mk ok50 hm (Nat.le_of_ble_eq_true rfl) ?_
  simp [a50, r50, Tr.val]
  refine fcall_fun (validPlace_spec _ _ _ _ _ hp hp' _ rfl) ?_
  rintro _ H1 ⟨rfl, g1⟩
  have G1 : Ge H H1 := Ge.trans (by simp) g1
  have k1 := g1.got (n := H.next) (by simp) rfl
  have k2 := g1.got (n := H.next + 1) (by simp) rfl
  unfold okTrip
  generalize (decide (0 ≤ x.src) && decide (x.src ≤ p - 1)) = b1
  simp at k1 k2
  cases b1 <;> simp [G1, k1, k2]
  refine fcall_fun (validPlace_spec _ _ _ _ _ hp hp' _ rfl) ?_
  rintro _ H2 ⟨rfl, g2⟩
  have G2 : Ge H H2 := G1.trans g2
  have k2' := g2.got (n := H.next + 1) (by have := g1.next; simp at this; omega) k2
  generalize (decide (0 ≤ x.dst) && decide (x.dst ≤ p - 1)) = b1
  cases b1 <;> simp [G2, k2']
  refine fcall_fun (within_spec _ _ _ _) ?_
  rintro _ _ ⟨rfl, rfl⟩
  generalize (decide (0 ≤ x.start) && decide (x.start ≤ 2000)) = b1
  cases b1 <;> simp [G2, k2']
  refine fcall_fun (within_spec _ _ _ _) ?_
  rintro _ _ ⟨rfl, rfl⟩
  generalize (decide (1 ≤ x.most) && decide (x.most ≤ 600)) = b1
  cases b1 <;> simp [G2, k2']
  refine fcall_fun (within_spec _ _ _ _) ?_
  rintro _ _ ⟨rfl, rfl⟩
  generalize (decide (1 ≤ x.least) && decide (x.least ≤ x.most)) = b1
  cases b1 <;> simp [G2, k2']
  refine fcall_fun (within_spec _ _ _ _) ?_
  rintro _ _ ⟨rfl, rfl⟩
  simp [G2]

end Go.Proofs.Ytohohnpjilinmaa

/-
  Contracts of the checks of a timetable, of the program: places.
-/
namespace Go.Proofs.Ytohohnpjilinmaa
open Go Go.Ab

def okMin (m : Int) : Bool := decide (0 ≤ m) && decide (m ≤ 600)
def okRow (P : Int) (i : Nat) (row : List Int) : Bool := decide ((row.length : Int) = P) && (decide (row[i]?.getD 0 = 0) && row.all okMin)
def okPlaces (T : Tab) : Bool :=
  (decide (1 ≤ T.places) && decide (T.places ≤ 6)) && (okMin T.layover && (decide ((T.empty.length : Int) = T.places) && (List.range T.empty.length).all fun i => okRow T.places i (T.empty[i]?.getD [])))

theorem validPlaces_spec {e s : Value} {T : Tab} {H : Heap} (he : RowsAt H e T.empty) (_hs : one s = true) : AFun Try.prog 48 [tabV T e s] H (fun v H' => v = .bool (okPlaces T) ∧ Ge H H') := by
  refine AFun.mk ok48 hm (Nat.le_of_ble_eq_true rfl) ?_
  simp [a48, r48]
  refine fcall_fun (within_spec _ _ _ _) ?_
  rintro _ _ ⟨rfl, rfl⟩
  unfold okPlaces
  generalize hb1 : (decide (1 ≤ T.places) && decide (T.places ≤ 6)) = b1
  cases b1 <;> simp
  refine fcall_fun (validMinutes_spec _ _) ?_
  rintro _ _ ⟨rfl, rfl⟩
  rw [okMin]
  generalize (decide (0 ≤ T.layover) && decide (T.layover ≤ 600)) = b2
  cases b2 <;> simp [he.lenV]
  by_cases hl : (T.empty.length : Int) = T.places
  case neg => simp [hl]
  simp at hb1
  simp [hl]
  refine floop_intro (fun s' => s'.d = [] ∧ Ge H s'.H ∧ H.next < s'.H.next ∧ s'.H.get H.next = .cells true [.int .i64 T.places, .int .i64 T.layover, e, s] 4 ∧ s'.t 1 = .pointer (some ⟨H.next, 0, none⟩) ∧ s'.t 24 = .int .i64 T.places ∧ ∃ i : Nat, i ≤ T.empty.length ∧ s'.t 25 = .int .i64 i ∧ ∀ j, j < i → okRow T.places j (T.empty[j]?.getD []) = true) (fun s => T.empty.length - (intOf (s.t 25)).toNat) ?_ ?_
  · exact ⟨rfl, by simp, by simp, by simp, by simp, by simp, 0, by simp, by simp, by simp⟩
  · rintro ⟨t, _, H'⟩ ⟨rfl, g, hn, hk, h1, h24, i, hi, h25, hr⟩
    dsimp only at g hn hk h1 h24 h25
    simp [h24, h25]
    refine fcond_intro (fun hc => ?_) (fun hc => ?_)
    · simp at hc
      have hi' : i < T.empty.length := by omega
      obtain ⟨p, u, e1, e2, e3⟩ := (he.ge g).at hi'
      simp [h1, h25, hk, e1, e2, e3.lenV]
      have hrow : okRow T.places i (T.empty[i]?.getD []) = okRow T.places i T.empty[i] := by simp [hi']
      by_cases hx : (T.empty[i].length : Int) = T.places
      · obtain ⟨q, f1, f2⟩ := e3.at (i := i) (by omega)
        simp [hx, f1, f2]
        by_cases h0 : T.empty[i][i]'(by omega) = 0
        case neg =>
          simp [h0, g, hl]
          refine ⟨i, hi', ?_⟩
          rw [hrow]
          simp [okRow, h0, hx, (by omega : i < T.empty[i].length)]
        simp [h0]
        refine fcall_fun (every_int_spec (p := okMin) e3 fun n H' _ => ACall.plain ((validMinutes_spec n H').mono ?_)) ?_
        · rintro v _ ⟨rfl, rfl⟩
          simp [okMin]
        · rintro _ H2 ⟨rfl, g2⟩
          have G2 := g.trans g2
          by_cases h3 : T.empty[i].all okMin = true
          case neg =>
            rw [Bool.not_eq_true] at h3
            simp [h0, h3, G2, hl]
            refine ⟨i, hi', ?_⟩
            rw [hrow]
            simp [okRow, h3]
          simp [h0, h3, h25, add_in (x := i) (y := 1) (by omega) (by omega)]
          refine ⟨⟨G2, by have := g2.next; omega, g2.got hn hk, h1, h24, i + 1, by omega, by omega, ?_⟩, by omega⟩
          intro j hj
          by_cases hji : j = i
          · subst hji
            rw [hrow]
            simp only [okRow, h3, hx, decide_true, Bool.true_and, Bool.and_true, decide_eq_true_eq]
            rw [List.getElem?_eq_getElem (by omega)]
            simpa using h0
          · exact hr j (by omega)
      · simp [hx, g, hl]
        refine ⟨i, hi', ?_⟩
        rw [hrow]
        simp [okRow, hx]
    · simp at hc
      simp [g, hl]
      intro j hj
      exact hr j (by omega)

end Go.Proofs.Ytohohnpjilinmaa

/-
  The contract of the program's check of a timetable.
-/
namespace Go.Proofs.Ytohohnpjilinmaa
open Go Go.Ab

def checkT (T : Tab) : Int := if 12 < T.trips.length then 3 else if okPlaces T && T.trips.all (okTrip T.places) then 0 else 1

theorem okPlaces_places {T : Tab} (h : okPlaces T = true) : 1 ≤ T.places ∧ T.places ≤ 6 := by
  simp [okPlaces] at h; exact h.1

theorem checkTable_spec {e s : Value} {T : Tab} {H : Heap} (h : TabAt H e s T) : AFun Try.prog 18 [tabV T e s] H (fun v H' => v = .int .i64 (checkT T) ∧ Ge H H') := by
  refine AFun.mk ok18 hm (Nat.le_of_ble_eq_true rfl) ?_
  simp [a18, r18, h.trips.lenV]
  unfold checkT
  refine fcond_intro (fun hc => ?_) (fun hc => ?_)
  · simp at hc
    simp [(by omega : 12 < T.trips.length)]
  · simp at hc
    have hc' : T.trips.length ≤ 12 := by omega
    simp
    refine fcall_fun (validPlaces_spec (h.empty.ge (by simp)) h.trips.one) ?_
    rintro _ H1 ⟨rfl, g1⟩
    have G1 : Ge H H1 := Ge.trans (by simp) g1
    have k1 := g1.got (n := H.next) (by simp) rfl
    simp at k1
    cases hp : okPlaces T
    · simp [G1, hc']
    · obtain ⟨hp1, hp2⟩ := okPlaces_places hp
      simp [k1]
      refine fcall_fun (every_trip_spec (p := okTrip T.places) (h.trips.ge G1) fun x H' _ => ACall.of_fun (validTrip_spec x (by omega) (by omega) H')) ?_
      rintro _ H2 ⟨rfl, g2⟩
      cases T.trips.all (okTrip T.places) <;> simp [G1.trans g2, hc']

end Go.Proofs.Ytohohnpjilinmaa

/-
  The code of functions of the package, as the calculus has it.
-/
namespace Go.Proofs.Ytohohnpjilinmaa
open Go Go.Ab

/-- layover/run.greatest -/
def a90 : ACode :=
  (.seq
   (.region [⟨(some 2), (.mov (.c (.int .i64 0))), none⟩])
   (.seq
    (.region [⟨(some 3), (.mov (.c (.int .i64 0))), none⟩])
    (.seq
     (.seq
      (.region [⟨(some 6), (.mov (.t 0)), none⟩, ⟨(some 7), (.len (.t 6)), none⟩, ⟨(some 8), (.mov (.c (.int .i64 0))), none⟩])
      (.block 0
       (.loop
        (.seq
         (.region [⟨(some 9), (.bin .lss (.t 8) (.t 7)), none⟩])
         (.seq
          (.cond (.t 9)
           .skip
           (.exit 0))
          (.seq
           (.block 1
            (.seq
             (.region [⟨(some 10), (.isl 1 (.t 6) (.t 8)), none⟩, ⟨(some 11), (.ld false 1 (.t 10)), none⟩, ⟨(some 5), (.mov (.t 11)), none⟩])
             (.region [⟨(some 12), (.mov (.t 3)), none⟩, ⟨(some 13), (.mov (.t 5)), none⟩, ⟨(some 14), (.gen 17 ⟨(some 14), (.call ⟨.builtin .max, #[(.tmp 12), (.tmp 13)], #[3, 3]⟩), 3, "follow.go:60", #[{ on := 0, ground := Go.Ground.data }, { on := 1, ground := Go.Ground.data }], none⟩), none⟩, ⟨(some 3), (.mov (.t 14)), none⟩])))
           (.region [⟨(some 15), (.bin .add (.t 8) (.c (.int .i64 1))), none⟩, ⟨(some 8), (.mov (.t 15)), none⟩])))))))
     (.seq
      (.region [⟨(some 16), (.mov (.t 3)), none⟩, ⟨(some 2), (.mov (.t 16)), none⟩])
      .ret))))
def r90 : List AOp := [(.mov (.t 2))]
theorem ok90 : FnOk Try.prog 90 Try.f90.ntmps a90 r90 := ⟨Try.f90, Try.func90, by kernel_rfl, by kernel_rfl, by kernel_rfl, fun asv w => by simp⟩

/-- (layover/run.Table).readyAt -/
def a74 : ACode :=
  (.seq
   (.region [⟨(some 4), (.box (.t 0)), none⟩, ⟨(some 5), (.box (.t 1)), none⟩, ⟨(some 8), (.mov (.c (.int .i64 0))), none⟩])
   (.seq
    (.draw 18 [⟨⟨(some 9), (.fa 2 (.t 5)), none⟩, 0, false, []⟩, ⟨⟨(some 10), (.ld false 1 (.t 9)), none⟩, 1, false, []⟩, ⟨⟨(some 11), (.mov (.t 2)), none⟩, 2, false, []⟩, ⟨⟨(some 12), (.bin .add (.t 10) (.t 11)), none⟩, 3, false, []⟩, ⟨⟨(some 13), (.fa 1 (.t 4)), none⟩, 4, false, []⟩, ⟨⟨(some 14), (.ld false 1 (.t 13)), none⟩, 5, false, []⟩, ⟨⟨(some 15), (.bin .add (.t 12) (.t 14)), none⟩, 6, false, []⟩, ⟨⟨(some 16), (.fa 2 (.t 4)), none⟩, 7, false, []⟩, ⟨⟨(some 17), (.ld false 1 (.t 16)), none⟩, 8, false, []⟩, ⟨⟨(some 18), (.fa 1 (.t 5)), none⟩, 9, false, []⟩, ⟨⟨(some 19), (.ld false 1 (.t 18)), none⟩, 10, false, []⟩, ⟨⟨(some 20), (.isl 1 (.t 17) (.t 19)), none⟩, 11, false, []⟩, ⟨⟨(some 21), (.ld false 1 (.t 20)), none⟩, 12, false, []⟩, ⟨⟨(some 22), (.mov (.t 3)), none⟩, 13, false, []⟩, ⟨⟨(some 23), (.isl 1 (.t 21) (.t 22)), none⟩, 14, false, []⟩, ⟨⟨(some 24), (.ld false 1 (.t 23)), none⟩, 15, false, []⟩, ⟨⟨(some 25), (.bin .add (.t 15) (.t 24)), none⟩, 16, false, []⟩, ⟨⟨(some 8), (.mov (.t 25)), none⟩, 17, false, []⟩])
    .ret))
def r74 : List AOp := [(.mov (.t 8))]
theorem ok74 : FnOk Try.prog 74 Try.f74.ntmps a74 r74 := ⟨Try.f74, Try.func74, by kernel_rfl, by kernel_rfl, by kernel_rfl, fun asv w => by simp⟩

/-- (layover/run.service).wait -/
def a83 : ACode :=
  (.seq
   (.region [⟨(some 4), (.box (.t 0)), none⟩, ⟨(some 5), (.box (.t 1)), none⟩, ⟨(some 6), (.box (.t 2)), none⟩, ⟨(some 8), (.mov (.c (.int .i64 0))), none⟩])
   (.seq
    (.draw 14 [⟨⟨(some 9), (.fa 2 (.t 6)), none⟩, 0, false, []⟩, ⟨⟨(some 10), (.ld false 1 (.t 9)), none⟩, 1, false, []⟩, ⟨⟨(some 11), (.fa 4 (.t 4)), none⟩, 2, false, []⟩, ⟨⟨(some 12), (.ld false 1 (.t 11)), none⟩, 3, false, []⟩, ⟨⟨(some 13), (.fa 0 (.t 4)), none⟩, 4, false, []⟩, ⟨⟨(some 14), (.ld true 4 (.t 13)), none⟩, 5, false, []⟩, ⟨⟨(some 15), (.ld true 6 (.t 5)), none⟩, 6, false, []⟩, ⟨⟨(some 16), (.mov (.t 3)), none⟩, 7, false, []⟩, ⟨⟨(some 18), (.fa 0 (.t 6)), none⟩, 9, false, []⟩, ⟨⟨(some 19), (.ld false 1 (.t 18)), none⟩, 10, false, []⟩, ⟨⟨(some 17), (.call (.c (.func (.func 90) #[] #[])) [(.t 16)]), none⟩, 8, true, [10, 6, 5, 3, 1]⟩, ⟨⟨(some 20), (.call (.t 12) [(.t 14), (.t 15), (.t 17), (.t 19)]), none⟩, 11, true, [1]⟩, ⟨⟨(some 21), (.bin .sub (.t 10) (.t 20)), none⟩, 12, false, []⟩, ⟨⟨(some 8), (.mov (.t 21)), none⟩, 13, false, []⟩])
    .ret))
def r83 : List AOp := [(.mov (.t 8))]
theorem ok83 : FnOk Try.prog 83 Try.f83.ntmps a83 r83 := ⟨Try.f83, Try.func83, by kernel_rfl, by kernel_rfl, by kernel_rfl, fun asv w => by simp⟩

/-- (layover/run.service).mayFollow -/
def a79 : ACode :=
  (.seq
   (.region [⟨(some 3), (.box (.t 0)), none⟩, ⟨(some 6), (.mov (.c (.bool false))), none⟩])
   (.seq
    (.draw 16 [⟨⟨(some 9), (.fa 0 (.t 3)), none⟩, 0, false, []⟩, ⟨⟨(some 10), (.fa 3 (.t 9)), none⟩, 1, false, []⟩, ⟨⟨(some 11), (.ld false 1 (.t 10)), none⟩, 2, false, []⟩, ⟨⟨(some 12), (.mov (.t 1)), none⟩, 3, false, []⟩, ⟨⟨(some 13), (.isl 6 (.t 11) (.t 12)), none⟩, 4, false, []⟩, ⟨⟨(some 14), (.ld true 6 (.t 13)), none⟩, 5, false, []⟩, ⟨⟨(some 15), (.fa 0 (.t 3)), none⟩, 6, false, []⟩, ⟨⟨(some 16), (.fa 3 (.t 15)), none⟩, 7, false, []⟩, ⟨⟨(some 17), (.ld false 1 (.t 16)), none⟩, 8, false, []⟩, ⟨⟨(some 18), (.mov (.t 2)), none⟩, 9, false, []⟩, ⟨⟨(some 19), (.isl 6 (.t 17) (.t 18)), none⟩, 10, false, []⟩, ⟨⟨(some 20), (.ld true 6 (.t 19)), none⟩, 11, false, []⟩, ⟨⟨(some 7), (.new [(.int .i64 0), (.int .i64 0), (.int .i64 0), (.int .i64 0), (.int .i64 0), (.int .i64 0)]), none⟩, 12, false, []⟩, ⟨⟨(some 8), (.new [(.int .i64 0), (.int .i64 0), (.int .i64 0), (.int .i64 0), (.int .i64 0), (.int .i64 0)]), none⟩, 13, false, []⟩, ⟨⟨none, (.st 6 (.t 7) (.t 14)), none⟩, 14, true, [11, 8]⟩, ⟨⟨none, (.st 6 (.t 8) (.t 20)), none⟩, 15, true, []⟩])
    (.seq
     (.seq
      (.region [⟨(some 21), (.ld true 6 (.t 7)), none⟩, ⟨(some 22), (.ld true 6 (.t 8)), none⟩, ⟨(some 23), (.gen 41 ⟨(some 23), (.binOp .eql 62 (.tmp 21) (.tmp 22) 62), 4, "follow.go:45", #[{ on := 0, ground := Go.Ground.data }, { on := 1, ground := Go.Ground.data }], none⟩), none⟩, ⟨(some 24), (.mov (.t 23)), none⟩, ⟨(some 25), (.fa 5 (.t 7)), (some (24, false))⟩, ⟨(some 26), (.ld false 1 (.t 25)), (some (24, false))⟩, ⟨(some 27), (.fa 5 (.t 8)), (some (24, false))⟩, ⟨(some 28), (.ld false 1 (.t 27)), (some (24, false))⟩, ⟨(some 29), (.bin .neq (.t 26) (.t 28)), (some (24, false))⟩, ⟨(some 30), (.pick (.t 24) (.c (.bool true)) (.t 29)), none⟩])
      (.cond (.t 30)
       (.seq
        (.region [⟨(some 6), (.mov (.c (.bool false))), none⟩])
        .ret)
       .skip))
     (.seq
      (.region [⟨(some 31), (.ld true 6 (.t 3)), none⟩, ⟨(some 32), (.ld true 6 (.t 7)), none⟩, ⟨(some 33), (.ld true 6 (.t 8)), none⟩, ⟨(some 34), (.fa 3 (.t 7)), none⟩, ⟨(some 35), (.ld false 1 (.t 34)), none⟩, ⟨(some 36), (.fa 4 (.t 7)), none⟩, ⟨(some 37), (.ld false 1 (.t 36)), none⟩, ⟨(some 38), (.bsl 2 [(.int .i64 0), (.int .i64 0)] [(0, 1, (.t 35)), (1, 1, (.t 37))]), none⟩, ⟨(some 39), (.call (.c (.func (.func 83) #[] #[])) [(.t 31), (.t 32), (.t 33), (.t 38)]), none⟩, ⟨(some 40), (.bin .geq (.t 39) (.c (.int .i64 0))), none⟩, ⟨(some 6), (.mov (.t 40)), none⟩])
      .ret))))
def r79 : List AOp := [(.mov (.t 6))]
theorem ok79 : FnOk Try.prog 79 Try.f79.ntmps a79 r79 := ⟨Try.f79, Try.func79, by kernel_rfl, by kernel_rfl, by kernel_rfl, fun asv w => by simp⟩

/-- (layover/run.service).pairs -/
def a75 : ACode :=
  (.seq
   (.region [⟨(some 1), (.box (.t 0)), none⟩, ⟨(some 2), (.mov (.c .nilFunc)), none⟩])
   (.seq
    (.region [⟨(some 3), (.fn (.func 88) [] [(.t 1)]), none⟩, ⟨(some 2), (.mov (.t 3)), none⟩])
    .ret))
def r75 : List AOp := [(.mov (.t 2))]
theorem ok75 : FnOk Try.prog 75 Try.f75.ntmps a75 r75 := ⟨Try.f75, Try.func75, by kernel_rfl, by kernel_rfl, by kernel_rfl, fun asv w => by simp⟩

/-- (layover/run.service).pairs$1 -/
def a88 : ACode :=
  (.seq
   (.region [⟨(some 5), (.fa 0 (.t 1)), none⟩, ⟨(some 6), (.fa 3 (.t 5)), none⟩, ⟨(some 7), (.ld false 1 (.t 6)), none⟩, ⟨(some 8), (.len (.t 7)), none⟩, ⟨(some 9), (.mov (.c (.int .i64 0))), none⟩])
   (.block 0
    (.loop
     (.seq
      (.region [⟨(some 10), (.bin .lss (.t 9) (.t 8)), none⟩])
      (.seq
       (.cond (.t 10)
        .skip
        (.exit 0))
       (.seq
        (.block 1
         (.seq
          (.region [⟨(some 11), (.mov (.t 9)), none⟩, ⟨(some 3), (.mov (.t 11)), none⟩])
          (.seq
           (.region [⟨(some 12), (.fa 0 (.t 1)), none⟩, ⟨(some 13), (.fa 3 (.t 12)), none⟩, ⟨(some 14), (.ld false 1 (.t 13)), none⟩, ⟨(some 15), (.len (.t 14)), none⟩, ⟨(some 16), (.mov (.c (.int .i64 0))), none⟩])
           (.block 2
            (.loop
             (.seq
              (.region [⟨(some 17), (.bin .lss (.t 16) (.t 15)), none⟩])
              (.seq
               (.cond (.t 17)
                .skip
                (.exit 2))
               (.seq
                (.block 3
                 (.seq
                  (.region [⟨(some 18), (.mov (.t 16)), none⟩, ⟨(some 4), (.mov (.t 18)), none⟩])
                  (.seq
                   (.region [⟨(some 19), (.ld true 6 (.t 1)), none⟩, ⟨(some 20), (.mov (.t 3)), none⟩, ⟨(some 21), (.mov (.t 4)), none⟩, ⟨(some 22), (.call (.c (.func (.func 79) #[] #[])) [(.t 19), (.t 20), (.t 21)]), none⟩, ⟨(some 23), (.mov (.t 22)), none⟩, ⟨(some 24), (.mov (.t 0)), (some (23, true))⟩, ⟨(some 25), (.mov (.t 3)), (some (23, true))⟩, ⟨(some 26), (.mov (.t 4)), (some (23, true))⟩, ⟨(some 27), (.call (.t 24) [(.t 25), (.t 26)]), (some (23, true))⟩, ⟨(some 28), (.not (.t 27)), (some (23, true))⟩, ⟨(some 29), (.pick (.t 23) (.t 28) (.c (.bool false))), none⟩])
                   (.cond (.t 29)
                    .ret
                    .skip))))
                (.region [⟨(some 30), (.bin .add (.t 16) (.c (.int .i64 1))), none⟩, ⟨(some 16), (.mov (.t 30)), none⟩])))))))))
        (.region [⟨(some 31), (.bin .add (.t 9) (.c (.int .i64 1))), none⟩, ⟨(some 9), (.mov (.t 31)), none⟩])))))))
def r88 : List AOp := []
theorem ok88 : FnOk Try.prog 88 Try.f88.ntmps a88 r88 := ⟨Try.f88, Try.func88, by kernel_rfl, by kernel_rfl, by kernel_rfl, fun asv w => by simp⟩

/-- layover/run.newService -/
noncomputable def c51x0 : Code := (rfN Try.f51.body 0).1
noncomputable def c51y0 : Code := (rfN Try.f51.body 0).2
noncomputable def a51x0 : ACode :=
  (.seq
   (.region [⟨(some 4), (.mov (.t 15)), none⟩])
   (.region [⟨(some 5), (.mov (.t 16)), none⟩]))
theorem ok51x0 : ccode Try.prog 30 (cdraw Try.prog 30) c51x0 = some a51x0 := by kernel_rfl
def a51y0 : ACode :=
  (.block 1
   (.draw 13 [⟨⟨(some 17), (.fa 5 (.t 3)), none⟩, 0, false, []⟩, ⟨⟨(some 18), (.ld false 1 (.t 17)), none⟩, 1, false, []⟩, ⟨⟨(some 19), (.mov (.t 4)), none⟩, 2, false, []⟩, ⟨⟨(some 20), (.fa 5 (.t 3)), none⟩, 3, false, []⟩, ⟨⟨(some 21), (.ld false 1 (.t 20)), none⟩, 4, false, []⟩, ⟨⟨(some 22), (.mov (.t 4)), none⟩, 5, false, []⟩, ⟨⟨(some 23), (.isl 1 (.t 21) (.t 22)), none⟩, 6, false, []⟩, ⟨⟨(some 24), (.ld false 1 (.t 23)), none⟩, 7, false, []⟩, ⟨⟨(some 25), (.mov (.t 5)), none⟩, 8, false, []⟩, ⟨⟨(some 26), (.bsl 1 [(.int .i64 0)] [(0, 1, (.t 25))]), none⟩, 9, false, []⟩, ⟨⟨(some 27), (.app 1 8 (.t 24) (.t 26)), none⟩, 10, true, [1]⟩, ⟨⟨(some 28), (.isl 1 (.t 18) (.t 19)), none⟩, 11, false, []⟩, ⟨⟨none, (.st 1 (.t 28) (.t 27)), none⟩, 12, true, []⟩]))
theorem ok51y0 : ccode Try.prog 30 (cdraw Try.prog 30) c51y0 = some a51y0 := by kernel_rfl
noncomputable def a51 : ACode :=
  (.seq
   (.region [⟨(some 1), (.box (.t 0)), none⟩, ⟨(some 2), (.new [(.int .i64 0), (.int .i64 0), (.slice none 0 0), (.slice none 0 0), .nilFunc, (.slice none 0 0)]), none⟩])
   (.seq
    (.region [⟨(some 6), (.ld true 4 (.t 1)), none⟩, ⟨(some 7), (.bld [(.int .i64 0), (.int .i64 0), (.slice none 0 0), (.slice none 0 0), .nilFunc, (.slice none 0 0)] [(0, 4, (.t 6)), (4, 1, (.c (.func (.func 74) #[] #[])))]), none⟩, ⟨(some 3), (.new [(.int .i64 0), (.int .i64 0), (.slice none 0 0), (.slice none 0 0), .nilFunc, (.slice none 0 0)]), none⟩, ⟨none, (.st 6 (.t 3) (.t 7)), none⟩])
    (.seq
     (.region [⟨(some 8), (.fa 3 (.t 1)), none⟩, ⟨(some 9), (.ld false 1 (.t 8)), none⟩, ⟨(some 10), (.len (.t 9)), none⟩, ⟨(some 11), (.mks 1 24 [(.slice none 0 0)] (.t 10) (.t 10)), none⟩, ⟨(some 12), (.fa 5 (.t 3)), none⟩, ⟨none, (.st 1 (.t 12) (.t 11)), none⟩])
     (.seq
      (.seq
       (.region [⟨(some 13), (.ld true 6 (.t 3)), none⟩, ⟨(some 14), (.call (.c (.func (.func 75) #[] #[])) [(.t 13)]), none⟩])
       (.block 0
        (.rangeF (.t 14) #[15, 16] c51x0 c51y0)))
      (.seq
       (.region [⟨(some 29), (.ld true 6 (.t 3)), none⟩, ⟨none, (.st 6 (.t 2) (.t 29)), none⟩])
       .ret)))))
def r51 : List AOp := [(.ld true 6 (.t 2))]
theorem ok51 : FnOk Try.prog 51 Try.f51.ntmps a51 r51 := ⟨Try.f51, Try.func51, by kernel_rfl, by kernel_rfl, by kernel_rfl, fun asv w => by simp⟩

/-- layover/run.Follows -/
def a20 : ACode :=
  (.seq
   (.region [⟨(some 1), (.box (.t 0)), none⟩, ⟨(some 2), (.mov (.c (.slice none 0 0))), none⟩, ⟨(some 3), (.mov (.c (.int .i64 0))), none⟩])
   (.seq
    (.seq
     (.region [⟨(some 5), (.ld true 4 (.t 1)), none⟩, ⟨(some 6), (.call (.c (.func (.func 18) #[] #[])) [(.t 5)]), none⟩, ⟨(some 4), (.mov (.t 6)), none⟩])
     (.seq
      (.region [⟨(some 7), (.mov (.t 4)), none⟩, ⟨(some 8), (.bin .neq (.t 7) (.c (.int .i64 0))), none⟩])
      (.cond (.t 8)
       (.seq
        (.region [⟨(some 9), (.mov (.t 4)), none⟩, ⟨(some 2), (.mov (.c (.slice none 0 0))), none⟩, ⟨(some 3), (.mov (.t 9)), none⟩])
        .ret)
       .skip)))
    (.seq
     (.region [⟨(some 10), (.ld true 4 (.t 1)), none⟩, ⟨(some 11), (.call (.c (.func (.func 51) #[] #[])) [(.t 10)]), none⟩, ⟨(some 12), (.fld false 5 1 (.t 11)), none⟩, ⟨(some 2), (.mov (.t 12)), none⟩, ⟨(some 3), (.mov (.c (.int .i64 0))), none⟩])
     .ret)))
def r20 : List AOp := [(.mov (.t 2)), (.mov (.t 3))]
theorem ok20 : FnOk Try.prog 20 Try.f20.ntmps a20 r20 := ⟨Try.f20, Try.func20, by kernel_rfl, by kernel_rfl, by kernel_rfl, fun asv w => by simp⟩

end Go.Proofs.Ytohohnpjilinmaa

/-
  Contracts of the functions that say when a bus is ready, and which trips may follow.
-/
namespace Go.Proofs.Ytohohnpjilinmaa
open Go Go.Ab

theorem run_eqTr (x y : Tr) (w : World) : (Op.equalIn 10000 62 x.val y.val).run Try.prog w = .ok (decide (x = y)) w := by
  have u3 := Try.underlying3
  have hS : Try.prog.underlying 62 = some (.struct (Try.prog.fieldsOf 62)) := by kernel_rfl
  rw [show (10000 : Nat) = 9999 + 1 from rfl]
  unfold Tr.val
  rw [run_equalIn_agg w 9999 62 _ _ hS (by kernel_rfl)]
  simp only [Program.fieldsOf, Try.underlying62]
  have ha : ∀ w, (isAgg 3).run Try.prog w = .ok false w := fun w => run_isAgg Try.underlying3 w
  have he : ∀ (a b : Int) w, (Op.equalIn 9999 3 (.int .i64 a) (.int .i64 b)).run Try.prog w = .ok (a == b) w := fun a b w => run_equalIn_int w 9998 3 .i64 .i64 a b Try.underlying3
  obtain ⟨a1, a2, a3, a4, a5, a6⟩ := x
  obtain ⟨b1, b2, b3, b4, b5, b6⟩ := y
  simp [Op.eqFields, part, ha, he]
  by_cases h1 : a1 = b1 <;> by_cases h2 : a2 = b2 <;> by_cases h3 : a3 = b3 <;> by_cases h4 : a4 = b4 <;> by_cases h5 : a5 = b5 <;> by_cases h6 : a6 = b6 <;> simp [h1, h2, h3, h4, h5, h6]

theorem aval_eqTr {t : Nat → Value} {H : Heap} {N x y : Nat} {a b : Tr} {d : Option Tmp} {ty U : TypeId} {pos : String} {af : Array Edge} {g : Option (Nat × Bool)} (hx : t x = a.val) (hy : t y = b.val) (h1 : x < N) (h2 : y < N) :
    aval Try.prog t H (.gen N ⟨d, .binOp .eql 62 (.tmp x) (.tmp y) U, ty, pos, af, g⟩) = some (.bool (decide (a = b))) := by
  refine aval_gen ?_ rfl fun w => ?_
  · simp [Op.operands, flatO, hx, hy, h1, h2, flat, flat1, Tr.val]
  · have hg : Try.prog.eqGuardType Try.prog.depth 62 = false := by kernel_rfl
    simp only [execOp, evO, hx, hy, Sem.run_bind]
    rw [show a.val = .agg _ from rfl, show b.val = .agg _ from rfl, run_eqGuard_agg w .eql 62 _ _ _ _ hg]
    simp only [Result.andThen_ok, run_eql_struct]
    rw [← show a.val = .agg _ from rfl, ← show b.val = .agg _ from rfl, run_eqTr]
    rfl

end Go.Proofs.Ytohohnpjilinmaa

/-
  Contracts of the functions that say when a bus is ready.
-/
namespace Go.Proofs.Ytohohnpjilinmaa
open Go Go.Ab

theorem greatest_spec {H : Heap} {v : Value} {xs : List Int} (hv : IntsAt H v xs) : AFun Try.prog 90 [v] H (fun r H' => r = .int .i64 (xs.foldl max 0) ∧ H' = H) := by
  refine AFun.mk ok90 hm (Nat.le_of_ble_eq_true rfl) ?_
  have h62 := hv.2
  simp [a90, r90, hv.lenV]
  refine floop_intro (fun s => s.d = [] ∧ s.H = H ∧ s.t 6 = v ∧ s.t 7 = .int .i64 xs.length ∧ ∃ i : Nat, i ≤ xs.length ∧ s.t 8 = .int .i64 i ∧ s.t 3 = .int .i64 ((xs.take i).foldl max 0)) (fun s => xs.length - (intOf (s.t 8)).toNat) ?_ ?_
  · exact ⟨rfl, rfl, by simp, by simp, 0, by simp, by simp, by simp⟩
  · rintro ⟨t, _, H'⟩ ⟨rfl, rfl, h6, h7, i, hi, h8, h3⟩
    dsimp only at h6 h7 h8 h3
    simp [h7, h8]
    refine fcond_intro (fun hc => ?_) (fun hc => ?_)
    · have hi' : i < xs.length := by simpa using hc
      obtain ⟨p, e1, e2⟩ := hv.at hi'
      simp [h6, h8, e1, e2, h3]
      rw [aval_max (k := .i64) (m := (xs.take i).foldl max 0) (n := xs[i]) (by simp) (by simp) (by decide) (by decide)]
      simp [h6, h7, h8, add_in (x := i) (y := 1) (by omega) (by omega)]
      refine ⟨⟨i + 1, by omega, by omega, ?_⟩, by omega⟩
      rw [List.take_succ_eq_append_getElem hi', List.foldl_append]; rfl
    · have : xs.length ≤ i := by simpa using hc
      rw [List.take_of_length_le this] at h3
      simp [h3]

/-- A timetable that is valid. -/
structure Valid (T : Tab) : Prop where
  few : T.trips.length ≤ 12
  places : okPlaces T = true
  trips : T.trips.all (okTrip T.places) = true

theorem checkT_zero {T : Tab} : checkT T = 0 ↔ Valid T := by
  unfold checkT
  constructor
  · intro h
    split at h
    · simp at h
    · split at h
      · rename_i h1 h2
        simp only [Bool.and_eq_true] at h2
        exact ⟨by omega, h2.1, h2.2⟩
      · simp at h
  · intro h
    rw [if_neg (by have := h.few; omega), h.places, h.trips]; rfl

theorem Valid.trip {T : Tab} (h : Valid T) {x : Tr} (hx : x ∈ T.trips) : 0 ≤ x.src ∧ x.src < T.places ∧ 0 ≤ x.dst ∧ x.dst < T.places ∧ 0 ≤ x.start ∧ x.start ≤ 2000 ∧ 1 ≤ x.least ∧ x.least ≤ x.most ∧ x.most ≤ 600 ∧ 0 ≤ x.kind ∧ x.kind ≤ 2 := by
  have := List.all_eq_true.1 h.trips x hx
  simp [okTrip] at this
  omega
theorem Valid.size {T : Tab} (h : Valid T) : 1 ≤ T.places ∧ T.places ≤ 6 ∧ (T.empty.length : Int) = T.places ∧ 0 ≤ T.layover ∧ T.layover ≤ 600 := by
  have := h.places
  simp [okPlaces, okMin] at this
  omega
theorem Valid.row {T : Tab} (h : Valid T) {i : Nat} (hi : i < T.empty.length) : (T.empty[i].length : Int) = T.places ∧ (∀ m ∈ T.empty[i], 0 ≤ m ∧ m ≤ 600) := by
  have := h.places
  simp only [okPlaces, Bool.and_eq_true, List.all_eq_true, List.mem_range] at this
  have := this.2.2.2 i hi
  simp [okRow, okMin, hi] at this
  exact ⟨this.1, this.2.2⟩

/-- The minutes from a place to a place. -/
def Tab.road (T : Tab) (a b : Int) : Int := (T.empty[a.toNat]?.getD [])[b.toNat]?.getD 0
def Tab.ready (T : Tab) (x : Tr) (m p : Int) : Int := x.start + m + T.layover + T.road x.dst p

theorem Valid.road {T : Tab} (h : Valid T) {a b : Int} (ha : 0 ≤ a ∧ a < T.places) (hb : 0 ≤ b ∧ b < T.places) : ∃ h1 : a.toNat < T.empty.length, ∃ h2 : b.toNat < T.empty[a.toNat].length, T.road a b = T.empty[a.toNat][b.toNat] ∧ 0 ≤ T.road a b ∧ T.road a b ≤ 600 := by
  have hs := h.size
  have h1 : a.toNat < T.empty.length := by omega
  have hr := h.row h1
  have h2 : b.toNat < T.empty[a.toNat].length := by omega
  have e : T.road a b = T.empty[a.toNat][b.toNat] := by simp [Tab.road, h1, h2]
  have hm := hr.2 _ (List.getElem_mem h2)
  exact ⟨h1, h2, e, by omega, by omega⟩

theorem readyAt_spec {e s : Value} {T : Tab} {H : Heap} {x : Tr} {m p : Int} (h : TabAt H e s T) (hT : Valid T) (hx : x ∈ T.trips) (hm0 : 0 ≤ m ∧ m ≤ 600) (hp : 0 ≤ p ∧ p < T.places) :
    AFun Try.prog 74 [tabV T e s, x.val, .int .i64 m, .int .i64 p] H (fun v H' => v = .int .i64 (T.ready x m p) ∧ Ge H H') := by
  refine AFun.mk ok74 hm (Nat.le_of_ble_eq_true rfl) ?_
  have hs := hT.size
  have ht := hT.trip hx
  obtain ⟨r1, r2, r3, r4, r5⟩ := hT.road (a := x.dst) (b := p) ⟨by omega, by omega⟩ hp
  simp [a74, r74, Tr.val]
  rw [add_in (by omega) (by omega)]
  simp
  rw [add_in (by omega) (by omega)]
  simp
  have g0 : Ge H (((H.new (AObj.cells true [.int .i64 T.places, .int .i64 T.layover, e, s] 4)).new (AObj.cells true x.cells 6))) := by simp
  obtain ⟨p1, u, e1, e2, e3⟩ := (h.empty.ge (g0.grow 18)).atI (i := x.dst) (by omega) r1
  obtain ⟨p2, f1, f2⟩ := IntsAt.atI e3 (i := p) (by omega) r2
  simp [Tr.cells] at e2 f2
  simp [e1, e2, f1, f2]
  rw [add_in (by omega) (by omega)]
  simp [Tab.ready, r3]
  exact Ge.grow_le (by omega) (by simp)

end Go.Proofs.Ytohohnpjilinmaa

/-
  Contracts of the functions that say which trips may follow.
-/
namespace Go.Proofs.Ytohohnpjilinmaa
open Go Go.Ab

/-- How long a bus surely waits. -/
def Tab.wait (T : Tab) (x y : Tr) (ms : List Int) : Int := y.start - T.ready x (ms.foldl max 0) y.src
def Tab.may (T : Tab) (x y : Tr) : Bool := !(decide (x = y) || !decide (x.kind = y.kind)) && decide (T.wait x y [x.least, x.most] ≥ 0)

abbrev svcV (T : Tab) (e s f : Value) : Value := .agg #[.int .i64 T.places, .int .i64 T.layover, e, s, .func (.func 74) #[] #[], f]

theorem Valid.ready {T : Tab} (hT : Valid T) {x y : Tr} (hx : x ∈ T.trips) (hy : y ∈ T.trips) {m : Int} (hm : 0 ≤ m ∧ m ≤ 600) : 0 ≤ T.ready x m y.src ∧ T.ready x m y.src ≤ 5000 := by
  have hs := hT.size
  have ht := hT.trip hx
  have hu := hT.trip hy
  obtain ⟨r1, r2, r3, r4, r5⟩ := hT.road (a := x.dst) (b := y.src) ⟨by omega, by omega⟩ ⟨by omega, by omega⟩
  unfold Tab.ready
  omega

theorem wait_spec {e s f : Value} {T : Tab} {H : Heap} {x y : Tr} {v : Value} {ms : List Int} (h : TabAt H e s T) (hT : Valid T) (hx : x ∈ T.trips) (hy : y ∈ T.trips) (hv : IntsAt H v ms) (hms : 0 ≤ ms.foldl max 0 ∧ ms.foldl max 0 ≤ 600) :
    AFun Try.prog 83 [svcV T e s f, x.val, y.val, v] H (fun r H' => r = .int .i64 (T.wait x y ms) ∧ Ge H H') := by
  refine AFun.mk ok83 hm (Nat.le_of_ble_eq_true rfl) ?_
  have hu := hT.trip hy
  have hr := hT.ready hx hy hms
  simp [a83, r83, Tr.val]
  refine fcall_fun (greatest_spec (xs := ms) (hv.ge ?_)) ?_
  · exact Ge.grow_le (by omega) (((Ge.new _ _).newOf _).newOf _)
  rintro _ _ ⟨rfl, rfl⟩
  simp
  refine fcall_fun (readyAt_spec (T := T) (x := x) (h.ge ?_) hT hx hms (by omega)) ?_
  · exact Ge.grow_le (by omega) (((Ge.new _ _).newOf _).newOf _)
  rintro _ H2 ⟨rfl, g2⟩
  have G2 : Ge H H2 := (Ge.grow_le (by omega) (((Ge.new _ _).newOf _).newOf _)).trans g2
  have k3 := g2.got (n := H.next + 2) (by simp) rfl
  simp at k3
  simp [k3]
  rw [sub_in (by omega) (by omega)]
  simp [Tab.wait, G2]

theorem may_spec {e s f : Value} {T : Tab} {H : Heap} {i k : Nat} (h : TabAt H e s T) (hT : Valid T) (hi : i < T.trips.length) (hk : k < T.trips.length) :
    AFun Try.prog 79 [svcV T e s f, .int .i64 i, .int .i64 k] H (fun r H' => r = .bool (T.may T.trips[i] T.trips[k]) ∧ Ge H H') := by
  refine AFun.mk ok79 hm (Nat.le_of_ble_eq_true rfl) ?_
  have hx := hT.trip (List.getElem_mem hi)
  have hy := hT.trip (List.getElem_mem hk)
  obtain ⟨n1, o1, e1, l1, e2, _⟩ := h.trips.at hi
  obtain ⟨n2, o2, f1, l2, f2, _⟩ := h.trips.at hk
  have q1 : ∀ j, n1 ≠ H.next + j := fun j => by omega
  have q2 : ∀ j, n2 ≠ H.next + j := fun j => by omega
  simp [a79, r79, e1, e2, f1, f2, Nat.ne_of_lt l1, Nat.ne_of_lt l2, q2, Tr.val]
  rw [aval_eqTr (a := T.trips[i]) (b := T.trips[k]) (by simp [Tr.val]) (by simp [Tr.val]) (by decide) (by decide)]
  simp
  by_cases hq : T.trips[i] = T.trips[k]
  · simp [hq, Tab.may]
    refine Ge.setNew (Ge.setNew (Ge.setNew (Ge.setNew (Ge.grow_le (by omega) (Ge.new _ _)) ?_ _) ?_ _) ?_ _) ?_ _ <;> omega
  · have gE : Ge H _ := Ge.setNew (Ge.setNew (Ge.setNew (Ge.setNew (Ge.grow_le (k := H.next + 17) (by omega) (Ge.new H (.cells true [.int .i64 T.places, .int .i64 T.layover, e, s, .func (.func 74) #[] #[], f] 6))) (n := H.next + 13) (by omega) (.cells true [.int .i64 0, .int .i64 0, .int .i64 0, .int .i64 0, .int .i64 0, .int .i64 0] 6)) (n := H.next + 14) (by omega) (.cells true [.int .i64 0, .int .i64 0, .int .i64 0, .int .i64 0, .int .i64 0, .int .i64 0] 6)) (n := H.next + 13) (by omega) (.cells true T.trips[i].cells 6)) (n := H.next + 14) (by omega) (.cells true T.trips[k].cells 6)
    simp [hq]
    refine fcond_intro (fun hkd => ?_) (fun hkd => ?_)
    · simp at hkd
      simp [Tab.may, hkd]
      exact gE
    · simp at hkd
      simp
      refine fcall_fun (wait_spec (T := T) (x := T.trips[i]) (y := T.trips[k]) (ms := [T.trips[i].least, T.trips[i].most]) (h.ge ?_) hT (List.getElem_mem hi) (List.getElem_mem hk) ?_ ?_) ?_
      · exact gE.newOf _
      · refine ⟨⟨?_, ?_⟩, by simp⟩
        · simp [slCells]
        · intro a n c e; simp at e; simp [← e.1]
      · simp; omega
      · rintro _ H2 ⟨rfl, g2⟩
        simp [Tab.may, hq, hkd]
        exact (gE.newOf _).trans g2

end Go.Proofs.Ytohohnpjilinmaa

/-
  The contract of the function that yields the pairs of trips that follow each other.
-/
namespace Go.Proofs.Ytohohnpjilinmaa
open Go Go.Ab

def Tab.mayN (T : Tab) (i j : Nat) : Bool := match T.trips[i]?, T.trips[j]? with
  | some x, some y => T.may x y
  | _, _ => false

theorem Tab.mayN_eq {T : Tab} {i j : Nat} (hi : i < T.trips.length) (hj : j < T.trips.length) : T.mayN i j = T.may T.trips[i] T.trips[j] := by
  simp [Tab.mayN, hi, hj]

theorem pairs_spec {H : Heap} {yv : Value} {nb : Nat} {T : Tab} (hT : Valid T) {I : Nat → Nat → Heap → Prop} {F : Heap → Prop}
    (h0 : I 0 0 H) (hge : ∀ i j A B, I i j A → Ge A B → I i j B)
    (hbox : ∀ i j A, I i j A → nb < A.next ∧ ∃ rw c e s f, A.get nb = .cells rw [.int .i64 T.places, .int .i64 T.layover, e, s, .func (.func 74) #[] #[], f] c ∧ TabAt A e s T)
    (hy : ∀ i j A, I i j A → i < T.trips.length → j < T.trips.length → T.mayN i j = true → ACall Try.prog yv [.int .i64 i, .int .i64 j] A (fun r B => ∃ b, r = .bool b ∧ (b = true → I i (j + 1) B) ∧ (b = false → F B)))
    (hskip : ∀ i j A, I i j A → T.mayN i j = false → I i (j + 1) A) (hrow : ∀ i A, I i T.trips.length A → I (i + 1) 0 A) :
    AFun Try.prog 88 [yv, .pointer (some ⟨nb, 0, none⟩)] H (fun _ B => I T.trips.length 0 B ∨ F B) := by
  refine AFun.mk ok88 hm (Nat.le_of_ble_eq_true rfl) ?_
  obtain ⟨hn, rw', c, e, s, f, hg, ht⟩ := hbox _ _ _ h0
  have h62 := ht.trips.2
  simp [a88, r88, hg, ht.trips.lenV]
  refine floop_intro (fun z => z.d = [] ∧ z.t 0 = yv ∧ z.t 1 = .pointer (some ⟨nb, 0, none⟩) ∧ z.t 8 = .int .i64 T.trips.length ∧ ∃ i : Nat, i ≤ T.trips.length ∧ z.t 9 = .int .i64 i ∧ I i 0 z.H) (fun z => T.trips.length - (intOf (z.t 9)).toNat) ?_ ?_
  · exact ⟨rfl, by simp, by simp, by simp, 0, by simp, by simp, h0⟩
  rintro ⟨w, _, A'⟩ ⟨rfl, w0, w1, w8, i, hi, w9, hI'⟩
  dsimp only at w0 w1 w8 w9 hI'
  simp [w8, w9]
  refine fcond_intro (fun hc => ?_) (fun hc => ?_)
  · have hi' : i < T.trips.length := by simpa using hc
    obtain ⟨hn, rw', c, e, s, f, hg, ht⟩ := hbox _ _ _ hI'
    simp [w1, w9, hg, ht.trips.lenV]
    refine floop_intro (fun z => z.d = [] ∧ z.t 0 = yv ∧ z.t 1 = .pointer (some ⟨nb, 0, none⟩) ∧ z.t 8 = .int .i64 T.trips.length ∧ z.t 9 = .int .i64 i ∧ z.t 3 = .int .i64 i ∧ z.t 15 = .int .i64 T.trips.length ∧ ∃ j : Nat, j ≤ T.trips.length ∧ z.t 16 = .int .i64 j ∧ I i j z.H) (fun z => T.trips.length - (intOf (z.t 16)).toNat) ?_ ?_
    · exact ⟨rfl, by simp [w0], by simp [w1], by simp [w8], by simp [w9], by simp, by simp, 0, by simp, by simp, hI'⟩
    rintro ⟨t, _, A⟩ ⟨rfl, t0, t1, t8, t9, t3, t15, j, hj, t16, hI⟩
    dsimp only at t0 t1 t8 t9 t3 t15 t16 hI
    simp [t15, t16]
    refine fcond_intro (fun hc => ?_) (fun hc => ?_)
    · have hj' : j < T.trips.length := by simpa using hc
      obtain ⟨hn, rw', c, e, s, f, hg, ht⟩ := hbox _ _ _ hI
      simp [t1, t3, t16, hg]
      refine fcall_fun (may_spec ht hT hi' hj') ?_
      rintro _ B ⟨rfl, g⟩
      have hI2 := hge _ _ _ _ hI g
      rw [← Tab.mayN_eq]
      cases hmay : T.mayN i j
      · simp [t16, add_in (x := j) (y := 1) (by omega) (by omega)]
        refine ⟨⟨t0, t1, t8, t9, t3, t15, j + 1, by omega, by omega, ?_⟩, by omega⟩
        exact hskip _ _ _ hI2 hmay
      · simp [t0, t3]
        refine fcall_intro ((hy _ _ _ hI2 hi' hj' hmay).mono ?_)
        rintro _ C ⟨b, rfl, k1, k2⟩
        cases b
        · simp [k2 rfl]
        · simp [t16, add_in (x := j) (y := 1) (by omega) (by omega)]
          refine ⟨⟨t0, t1, t8, t9, t3, t15, j + 1, by omega, by omega, ?_⟩, by omega⟩
          exact k1 rfl
    · have hj' : j = T.trips.length := by simp at hc; omega
      subst hj'
      simp [t9, add_in (x := i) (y := 1) (by omega) (by omega)]
      refine ⟨⟨t0, t1, t8, i + 1, by omega, by omega, ?_⟩, by simp [w9]; omega⟩
      exact hrow _ _ hI
  · have hi' : i = T.trips.length := by simp at hc; omega
    subst hi'
    simp [hI']

end Go.Proofs.Ytohohnpjilinmaa

/-
  The contract of the function that makes a service of a timetable.
-/
namespace Go.Proofs.Ytohohnpjilinmaa
open Go Go.Ab

theorem pairsOf_spec {H : Heap} {T : Tab} {e s f : Value} : AFun Try.prog 75 [svcV T e s f] H (fun v H' => v = .func (.func 88) #[] #[.pointer (some ⟨H.next, 0, none⟩)] ∧ H' = H.new (.cells true [.int .i64 T.places, .int .i64 T.layover, e, s, .func (.func 74) #[] #[], f] 6)) := by
  refine AFun.mk ok75 hm (Nat.le_of_ble_eq_true rfl) ?_
  simp [a75, r75]

/-- A slice of whole numbers of one's own. -/
def OwnInts (H : Heap) (lo : Nat) (v : Value) (xs : List Int) : Prop :=
  (v = .slice none 0 0 ∧ xs = []) ∨ ∃ n cap c, v = .slice (some ⟨n, 0, none⟩) xs.length cap ∧ lo ≤ n ∧ n < H.next ∧ H.get n = .cells true (xs.map (Value.int .i64)) c ∧ xs.length ≤ cap ∧ cap ≤ c

def sliceName : Value → Option Nat
  | .slice (some a) _ _ => some a.block
  | _ => none

theorem OwnInts.ge {A B : Heap} {lo : Nat} {v : Value} {xs : List Int} (h : OwnInts A lo v xs) (g : Ge A B) : OwnInts B lo v xs := by
  rcases h with h | ⟨n, cap, c, h1, h2, h3, h4, h5, h6⟩
  · exact .inl h
  · exact .inr ⟨n, cap, c, h1, h2, Nat.lt_of_lt_of_le h3 g.next, g.got h3 h4, h5, h6⟩

theorem OwnInts.ints {A : Heap} {lo : Nat} {v : Value} {xs : List Int} (h : OwnInts A lo v xs) (hx : xs.length < 2 ^ 63) : IntsAt A v xs := by
  rcases h with ⟨rfl, rfl⟩ | ⟨n, cap, c, rfl, h2, h3, h4, h5, h6⟩
  · exact ⟨⟨rfl, fun a n c e => by cases e⟩, hx⟩
  · refine ⟨⟨?_, ?_⟩, hx⟩
    · simp only [slCells, h4]
      simp [rdL]
      rw [List.take_of_length_le (by simp)]
    · intro a n' c' e; simp at e; rw [← e.1]; exact h3

/-- The followers of a trip among what has been tried. -/
def Tab.rowAt (T : Tab) (i j k : Nat) : List Int := ((List.range (if k < i then T.trips.length else if k = i then j else 0)).filter (T.mayN k)).map Int.ofNat

def Tab.followers (T : Tab) : List (List Int) := (List.range T.trips.length).map fun i => ((List.range T.trips.length).filter (T.mayN i)).map Int.ofNat

theorem Tab.rowAt_skip {T : Tab} {i j : Nat} (h : T.mayN i j = false) (k : Nat) : T.rowAt i (j + 1) k = T.rowAt i j k := by
  unfold Tab.rowAt
  by_cases h1 : k < i
  · simp [h1]
  · by_cases h2 : k = i
    · subst h2; simp [List.range_succ, h]
    · simp [h1, h2]
theorem Tab.rowAt_other {T : Tab} {i j k : Nat} (h : k ≠ i) : T.rowAt i (j + 1) k = T.rowAt i j k := by
  unfold Tab.rowAt
  by_cases h1 : k < i
  · simp [h1]
  · simp [h1, h]
theorem Tab.rowAt_may {T : Tab} {i j : Nat} (h : T.mayN i j = true) : T.rowAt i (j + 1) i = T.rowAt i j i ++ [(j : Int)] := by
  unfold Tab.rowAt
  simp [List.range_succ, h]
theorem Tab.rowAt_row {T : Tab} (i k : Nat) : T.rowAt (i + 1) 0 k = T.rowAt i T.trips.length k := by
  unfold Tab.rowAt
  by_cases h1 : k < i
  · simp [h1, Nat.lt_succ_of_lt h1]
  · by_cases h2 : k = i
    · subst h2; simp
    · have : ¬ k < i + 1 := by omega
      simp [h1, h2, this]
theorem Tab.rowAt_length {T : Tab} {i j k : Nat} (hj : j ≤ T.trips.length) : (T.rowAt i j k).length ≤ T.trips.length := by
  unfold Tab.rowAt
  rw [List.length_map]
  refine Nat.le_trans (List.length_filter_le _ _) ?_
  rw [List.length_range]
  split
  · exact Nat.le_refl _
  · split <;> omega

/-- The rows of followers, while they grow. -/
def RowsOwn (T : Tab) (A : Heap) (q lo i j : Nat) : Prop :=
  ∃ vs : List Value, vs.length = T.trips.length ∧ A.get q = .cells true vs T.trips.length ∧ (∀ k, k < T.trips.length → ∃ v, vs[k]? = some v ∧ OwnInts A lo v (T.rowAt i j k)) ∧
    ∀ (k l : Nat) (v u : Value) (n : Nat), vs[k]? = some v → vs[l]? = some u → k ≠ l → sliceName v = some n → sliceName u ≠ some n

/-- How things stand while the pairs are yielded. -/
structure SInv (T : Tab) (A0 A : Heap) (q : Nat) (r : ALoop) (i j : Nat) : Prop where
  next : A0.next + 2 ≤ A.next
  keep : ∀ n, n < A0.next → n ≠ q → A.get n = A0.get n
  dfr : A.get A0.next = .dfr
  loop : A.get (A0.next + 1) = .loop r
  rows : RowsOwn T A q (A0.next + 2) i j

theorem SInv.ge {T : Tab} {A0 A B : Heap} {q : Nat} {r : ALoop} {i j : Nat} (hq : q < A0.next) (h : SInv T A0 A q r i j) (g : Ge A B) : SInv T A0 B q r i j where
  next := Nat.le_trans h.next g.next
  keep n hn hne := (g.get n (by have := h.next; omega)).trans (h.keep n hn hne)
  dfr := g.got (by have := h.next; omega) h.dfr
  loop := g.got (by have := h.next; omega) h.loop
  rows := by
    obtain ⟨vs, h1, h2, h3, h4⟩ := h.rows
    exact ⟨vs, h1, g.got (by have := h.next; omega) h2, fun k hk => let ⟨v, h5, h6⟩ := h3 k hk; ⟨v, h5, h6.ge g⟩, h4⟩


theorem SInv.put {T : Tab} {A0 A B : Heap} {q : Nat} {r : ALoop} {i j m : Nat} {vs : List Value} {newv : Value} (h : SInv T A0 A q r i j) (hi : i < T.trips.length) (hmay : T.mayN i j = true) (hqn : q < A0.next)
    (hl : vs.length = T.trips.length) (ho : ∀ k, k < T.trips.length → ∃ v, vs[k]? = some v ∧ OwnInts A (A0.next + 2) v (T.rowAt i j k))
    (hd : ∀ (k l : Nat) (v u : Value) (n : Nat), vs[k]? = some v → vs[l]? = some u → k ≠ l → sliceName v = some n → sliceName u ≠ some n)
    (hn : A.next ≤ B.next) (hB : ∀ n, n < A.next → n ≠ q → n ≠ A0.next + 1 → (∀ v, vs[i]? = some v → sliceName v ≠ some n) → B.get n = A.get n)
    (hL : B.get (A0.next + 1) = .loop r) (hq : B.get q = .cells true (vs.set i newv) T.trips.length) (hnew : OwnInts B (A0.next + 2) newv (T.rowAt i j i ++ [(j : Int)])) (hm : sliceName newv = some m) (hm2 : A.next ≤ m) :
    SInv T A0 B q r i (j + 1) where
  next := Nat.le_trans h.next hn
  keep n h1 h2 := by
    have hx := h.next
    rw [hB n (by omega) h2 (by omega), h.keep n h1 h2]
    intro v hv he
    obtain ⟨v', hv', hown⟩ := ho i hi
    rw [hv] at hv'; cases hv'
    rcases hown with ⟨rfl, _⟩ | ⟨n', cap, c, rfl, k1, _⟩
    · simp [sliceName] at he
    · simp [sliceName] at he; omega
  dfr := by
    have hx := h.next
    rw [hB _ (by omega) (by omega) (by omega), h.dfr]
    intro v hv he
    obtain ⟨v', hv', hown⟩ := ho i hi
    rw [hv] at hv'; cases hv'
    rcases hown with ⟨rfl, _⟩ | ⟨n', cap, c, rfl, k1, _⟩
    · simp [sliceName] at he
    · simp [sliceName] at he; omega
  loop := hL
  rows := by
    have hx := h.next
    refine ⟨vs.set i newv, by simpa using hl, hq, fun k hk => ?_, fun k l v u n h1 h2 h3 h4 h5 => ?_⟩
    · by_cases hki : k = i
      · subst hki
        refine ⟨newv, by simp [hl, hk], ?_⟩
        rw [Tab.rowAt_may hmay]; exact hnew
      · obtain ⟨v, hv, hown⟩ := ho k hk
        refine ⟨v, by rw [List.getElem?_set_ne (Ne.symm hki)]; exact hv, ?_⟩
        rw [Tab.rowAt_other hki]
        rcases hown with h | ⟨n, cap, c, rfl, k1, k2, k3, k4, k5⟩
        · exact .inl h
        · refine .inr ⟨n, cap, c, rfl, k1, by omega, ?_, k4, k5⟩
          rw [hB n k2 (by omega) (by omega)]; exact k3
          intro v hv' he
          exact hd k i _ v n hv hv' hki rfl he
    · by_cases hki : k = i
      · subst hki
        have e1 : v = newv := by
          rw [List.getElem?_set_self (by omega)] at h1; exact (Option.some.inj h1).symm
        subst e1
        rw [List.getElem?_set_ne h3] at h2
        rw [hm] at h4; cases h4
        have hlt : l < T.trips.length := by
          rw [← hl]; exact (List.getElem?_eq_some_iff.1 h2).1
        obtain ⟨u', hu', hown⟩ := ho l hlt
        rw [h2] at hu'; cases hu'
        rcases hown with ⟨rfl, _⟩ | ⟨n', cap, c, rfl, k1, k2, _⟩
        · simp [sliceName] at h5
        · simp [sliceName] at h5; omega
      · rw [List.getElem?_set_ne (Ne.symm hki)] at h1
        by_cases hli : l = i
        · subst hli
          have e1 : u = newv := by
            rw [List.getElem?_set_self (by omega)] at h2; exact (Option.some.inj h2).symm
          subst e1
          rw [hm] at h5; cases h5
          have hlt : k < T.trips.length := by
            rw [← hl]; exact (List.getElem?_eq_some_iff.1 h1).1
          obtain ⟨u', hu', hown⟩ := ho k hlt
          rw [h1] at hu'; cases hu'
          rcases hown with ⟨rfl, _⟩ | ⟨n', cap, c, rfl, k1, k2, _⟩
          · simp [sliceName] at h4
          · simp [sliceName] at h4; omega
        · rw [List.getElem?_set_ne (Ne.symm hli)] at h2
          exact hd k l v u n h1 h2 h3 h4 h5

theorem service_round {T : Tab} {A0 A : Heap} {q b3 i j : Nat} {r : ALoop} {t : Nat → Value} {fn : FuncId} {dn : Nat} {e s : Value} {cc : Nat} {rw' : Bool}
    (hr : r = { state := .ready, pending := none, fn, t, N := 30, params := #[15, 16], assign := c51x0, body := c51y0, defers := dn })
    (h3 : t 3 = .pointer (some ⟨b3, 0, none⟩)) (hb3 : b3 < A0.next) (hb3q : b3 ≠ q) (hqn : q < A0.next)
    (hsv : A0.get b3 = .cells rw' [.int .i64 T.places, .int .i64 T.layover, e, s, .func (.func 74) #[] #[], .slice (some ⟨q, 0, none⟩) T.trips.length T.trips.length] cc)
    (hfew : T.trips.length ≤ 12) (hI : SInv T A0 A q r i j) (hi : i < T.trips.length) (hj : j < T.trips.length) (hmay : T.mayN i j = true) :
    ACall Try.prog (.func (.yield (A0.next + 1)) #[] #[]) [.int .i64 i, .int .i64 j] A (fun v B => ∃ b, v = .bool b ∧ (b = true → SInv T A0 B q r i (j + 1)) ∧ (b = false → False)) := by
  obtain ⟨vs, hl, hq, ho, hd⟩ := hI.rows
  obtain ⟨v, hv, hown⟩ := ho i hi
  have hlen : (T.rowAt i j i).length ≤ 12 := Nat.le_trans (Tab.rowAt_length (by omega)) hfew
  have hnx := hI.next
  have hb : A.get b3 = _ := (hI.keep b3 hb3 hb3q).trans hsv
  have q1 : q ≠ A0.next + 1 := by omega
  have q2 : b3 ≠ A0.next + 1 := by omega
  refine ACall.of_yield (P := Try.prog) (D := vdrawD Try.prog) (CD := cdraw Try.prog 30) hI.loop (by rw [hr]; rfl) (by rw [hr]; intro p hp; simp at hp; rcases hp with rfl | rfl <;> simp) (by rw [hr]; exact ok51x0) (by rw [hr]; exact ok51y0) (by rw [hr]; exact draw_sound hm) ?_
  subst hr
  have hisl : islV 1 (Value.slice (some ⟨q, 0, none⟩) T.trips.length T.trips.length) (Value.int IntKind.i64 i) = some (.pointer (some ⟨q, i, none⟩)) := by
    rw [islV_in (by omega) (by omega)]; simp
  simp [a51x0, tround, hI.loop]
  simp [a51y0, h3, hb, hq, q1, q2, hisl, hv]
  have hnew : ∀ B : Heap, B.get (A.next + 9) = .cells true [Value.int .i64 j] 1 → slCells B 1 (.slice (some ⟨A.next + 9, 0, none⟩) 1 1) = some (1, [Value.int .i64 j]) := by
    intro B hB
    simp [slCells, hB]
  have q3 : ∀ k, b3 ≠ A.next + k := fun k => by omega
  have q4 : ∀ k, q ≠ A.next + k := fun k => by omega
  have q5 : ∀ k, A0.next + 1 ≠ A.next + k := fun k => by omega
  have q6 : A0.next + 1 ≠ q := by omega
  have q7 : ∀ k, A0.next ≠ A.next + k := fun k => by omega
  have hset : ∀ x, wrL vs i [x] = vs.set i x := fun x => wrL_one vs i x (by omega)
  rcases hown with ⟨rfl, hx⟩ | ⟨n, cap, c, rfl, k1, k2, k3, k4, k5⟩
  · refine fapp_intro (len := 0) (cs := []) (old := none) (cap := 0) rfl (hnew _ (by simp)) (by omega) (by simp) (by omega) ?_
    intro cap' hcap
    simp [appHeap, q1, q2, q3, q4, q6, q7, hb, hq, hisl, hl, hset, (by omega : i + 1 ≤ T.trips.length)]
    refine SInv.put (m := A.next + 10) (newv := .slice (some ⟨A.next + 10, 0, none⟩) 1 cap') hI hi hmay hqn hl ho hd (by simp) ?_ (by simp) (by simp [q1]) ?_ rfl (by omega)
    · intro n hn hnq hnl _
      simp [hnq, hnl]
      rw [if_neg (by omega), if_neg (by omega)]
    · refine .inr ⟨A.next + 10, cap', cap', ?_, by omega, by simp, ?_, ?_, Nat.le_refl _⟩
      · simp [hx]
      · simp [hx, Ne.symm (q4 10), Ne.symm (q5 10)]
      · simp [hx]; omega
  · have r1 : ∀ k, n ≠ A.next + k := fun k => by omega
    refine fapp_intro (len := (T.rowAt i j i).length) (cs := (T.rowAt i j i).map (Value.int .i64)) (old := some n) (cap := cap) ?_ (hnew _ (by simp)) (by omega) (by simp) (by omega) ?_
    · have e3 : n ≠ A0.next + 1 := by omega
      simp [baseOf, r1, e3, k3, k4, k5]
    intro cap' hcap
    have e4 : q ≠ n := by omega
    have e5 : b3 ≠ n := by omega
    have e6 : A0.next + 1 ≠ n := by omega
    simp [appHeap, q1, q2, q3, q4, q6, q7, hb, hq, hisl, hl, hset, e4, e5, e6, (by omega : i + 1 ≤ T.trips.length)]
    refine SInv.put (m := A.next + 10) (newv := .slice (some ⟨A.next + 10, 0, none⟩) ((T.rowAt i j i).length + 1) cap') hI hi hmay hqn hl ho hd (by simp) ?_ (by simp) (by simp [q1]) ?_ rfl (by omega)
    · intro p hp hpq hpl hpn
      have := hpn _ hv
      simp [sliceName] at this
      simp [hpq, hpl]
      rw [if_neg (by omega), if_neg (by omega), if_neg (by omega)]
    · refine .inr ⟨A.next + 10, cap', cap', ?_, by omega, by simp, ?_, ?_, Nat.le_refl _⟩
      · simp
      · simp [Ne.symm (q4 10), Ne.symm (q5 10)]
      · simp; omega


theorem rows_of_own {T : Tab} {A : Heap} {q lo : Nat} (h : RowsOwn T A q lo T.trips.length 0) (hq : q < A.next) (hfew : T.trips.length ≤ 12) : RowsAt A (.slice (some ⟨q, 0, none⟩) T.trips.length T.trips.length) T.followers := by
  obtain ⟨vs, h1, h2, h3, _⟩ := h
  have hlen : T.followers.length = T.trips.length := by simp [Tab.followers]
  refine ⟨vs, ⟨?_, ?_⟩, by omega, fun i hi => ?_⟩
  · simp [slCells, h2, rdL, h1, hlen]
    rw [List.take_of_length_le (by omega)]
  · intro a n c e; simp at e; rw [← e.1]; exact hq
  · obtain ⟨v, h4, h5⟩ := h3 i (by omega)
    refine ⟨v, h4, ?_⟩
    have e : T.followers[i] = T.rowAt T.trips.length 0 i := by
      simp [Tab.followers, Tab.rowAt, (by omega : i < T.trips.length)]
    rw [e]
    exact h5.ints (by have := Tab.rowAt_length (T := T) (i := T.trips.length) (j := 0) (k := i) (by omega); omega)

theorem service_range {T : Tab} (hT : Valid T) {H A0 : Heap} {q b3 nb cc cb : Nat} {rw' rb : Bool} {t : Nat → Value} {e s f : Value} {Q : APost} (h : TabAt H e s T) (g : Ge H A0) (hq0 : H.next ≤ q)
    (h3 : t 3 = .pointer (some ⟨b3, 0, none⟩)) (h14 : t 14 = .func (.func 88) #[] #[.pointer (some ⟨nb, 0, none⟩)]) (hb3 : b3 < A0.next) (hb3q : b3 ≠ q) (hqn : q < A0.next) (hnb : nb < A0.next) (hnbq : nb ≠ q)
    (hsv : A0.get b3 = .cells rw' [.int .i64 T.places, .int .i64 T.layover, e, s, .func (.func 74) #[] #[], .slice (some ⟨q, 0, none⟩) T.trips.length T.trips.length] cc)
    (hbx : A0.get nb = .cells rb [.int .i64 T.places, .int .i64 T.layover, e, s, .func (.func 74) #[] #[], f] cb)
    (hqz : A0.get q = .cells true (zrep T.trips.length [.slice none 0 0]) T.trips.length)
    (hK : ∀ B : Heap, A0.next + 2 ≤ B.next → (∀ n, n < A0.next → n ≠ q → B.get n = A0.get n) → B.get A0.next = .dfr → RowsOwn T B q (A0.next + 2) T.trips.length 0 → Q .normal ⟨t, [A0.next], B⟩) :
    arange Try.prog 30 none (.t 14) #[15, 16] c51x0 c51y0 Q ⟨t, [], A0⟩ := by
  refine ⟨88, #[], #[.pointer (some ⟨nb, 0, none⟩)], h14, fun fn => ?_⟩
  have hz : zrep T.trips.length [Value.slice none 0 0] = List.replicate T.trips.length (.slice none 0 0) := by
    have : ∀ n, zrep n [Value.slice none 0 0] = List.replicate n (.slice none 0 0) := by
      intro n; induction n with
      | zero => rfl
      | succ n ih => rw [zrep_succ, ih]; rfl
    exact this _
  refine (pairs_spec hT (I := fun i j A => SInv T A0 A q { state := .ready, pending := none, fn, t, N := 30, params := #[15, 16], assign := c51x0, body := c51y0, defers := A0.next } i j) (F := fun _ => False) ?_ ?_ ?_ ?_ ?_ ?_).mono ?_
  · refine ⟨by simp, fun n hn hne => ?_, by simp, by simp, ?_⟩
    · have e1 : n ≠ A0.next + 1 := by omega
      simp [Nat.ne_of_lt hn, e1]
    · refine ⟨zrep T.trips.length [.slice none 0 0], by simp [hz], ?_, fun k hk => ⟨.slice none 0 0, by simp [hz, hk], .inl ⟨rfl, by simp [Tab.rowAt]⟩⟩, fun k l v u n h1 _ _ h4 => ?_⟩
      · have e1 : q ≠ A0.next + 1 := by omega
        simp [Nat.ne_of_lt hqn, e1, hqz]
      · rw [hz, List.getElem?_replicate] at h1
        split at h1
        · cases h1; simp [sliceName] at h4
        · cases h1
  · exact fun i j A B hI gg => SInv.ge hqn hI gg
  · intro i j A hI
    have hx := hI.next
    refine ⟨by omega, rb, cb, e, s, f, (hI.keep nb hnb hnbq).trans hbx, ?_⟩
    have gA : Ge H A := ⟨by have := g.next; omega, fun n hn => by have := g.next; rw [hI.keep n (by omega) (by omega), g.get n hn]⟩
    exact h.ge gA
  · intro i j A hI hi hj hmay
    exact service_round rfl h3 hb3 hb3q hqn hsv hT.few hI hi hj hmay
  · intro i j A hI hmay
    refine ⟨hI.next, hI.keep, hI.dfr, hI.loop, ?_⟩
    obtain ⟨vs, k1, k2, k3, k4⟩ := hI.rows
    exact ⟨vs, k1, k2, fun k hk => by rw [Tab.rowAt_skip hmay]; exact k3 k hk, k4⟩
  · intro i A hI
    refine ⟨hI.next, hI.keep, hI.dfr, hI.loop, ?_⟩
    obtain ⟨vs, k1, k2, k3, k4⟩ := hI.rows
    exact ⟨vs, k1, k2, fun k hk => by rw [Tab.rowAt_row]; exact k3 k hk, k4⟩
  · rintro v B (hI | hF)
    case inr => exact hF.elim
    have hx := hI.next
    refine ⟨_, hI.loop, by simp, ?_⟩
    refine hK _ (by simpa using hx) (fun n hn hne => ?_) ?_ ?_
    · have e1 : n ≠ A0.next + 1 := by omega
      simp [e1, hI.keep n hn hne]
    · simp [hI.dfr]
    · obtain ⟨vs, k1, k2, k3, k4⟩ := hI.rows
      refine ⟨vs, k1, ?_, fun k hk => ?_, k4⟩
      · have e1 : q ≠ A0.next + 1 := by omega
        simp [e1, k2]
      · obtain ⟨v, k5, k6⟩ := k3 k hk
        refine ⟨v, k5, ?_⟩
        rcases k6 with k6 | ⟨n, cap, c, e1, e2, e3, e4, e5, e6⟩
        · exact .inl k6
        · have e7 : n ≠ A0.next + 1 := by omega
          exact .inr ⟨n, cap, c, e1, e2, by simpa using e3, by simp [e7, e4], e5, e6⟩

theorem newService_spec {e s : Value} {T : Tab} {H : Heap} (h : TabAt H e s T) (hT : Valid T) : AFun Try.prog 51 [tabV T e s] H (fun r H' => ∃ f, r = svcV T e s f ∧ Ge H H' ∧ RowsAt H' f T.followers) := by
  refine AFun.mk ok51 hm (Nat.le_of_ble_eq_true rfl) ?_
  have hfew := hT.few
  have he := h.empty.one
  have hs := h.trips.one
  have hmk : ∀ n, mksV n 1 24 [.slice none 0 0] (.int .i64 T.trips.length) (.int .i64 T.trips.length) = some _ := fun n => mksV_at (by omega) (by omega)
  simp [a51, r51, h.trips.lenV, he, hs, hmk]
  refine fcall_fun pairsOf_spec ?_
  rintro _ _ ⟨rfl, rfl⟩
  simp
  refine frange_intro (service_range (q := H.next + 3) (b3 := H.next + 2) (nb := H.next + 4) (cc := 6) (cb := 6) (f := .slice (some ⟨H.next + 3, 0, none⟩) T.trips.length T.trips.length) hT h ?_ (by omega) (by simp) (by simp) (by simp) (by omega) (by simp) (by simp) (by omega) (by simp; rfl) (by simp; rfl) (by simp) ?_)
  · refine Ge.newOf (Ge.setNew (Ge.newOf (Ge.setNew (Ge.newOf (Ge.newOf (Ge.new _ _) _) _) ?_ _) _) ?_ _) _ <;> simp
  · intro B k1 k2 k3 k4
    simp at k1 k2 k3 k4
    have b2 := k2 (H.next + 2) (by omega) (by omega)
    have b1 := k2 (H.next + 1) (by omega) (by omega)
    simp at b1 b2
    simp [b1, b2, he, hs, k3]
    have gB : Ge H B := by
      refine ⟨by omega, fun n hn => ?_⟩
      have r0 : n ≠ H.next := by omega
      have r1 : ∀ k, n ≠ H.next + k := fun k => by omega
      rw [k2 n (by omega) (by omega)]
      simp [r0, r1]
    refine ⟨Ge.setNew (Ge.setNew gB (by omega) _) (by omega) _, rows_of_own (lo := H.next + 7) ?_ (by simp; omega) hfew⟩
    obtain ⟨vs, m1, m2, m3, m4⟩ := k4
    refine ⟨vs, m1, by simp [m2], fun k hk => ?_, m4⟩
    obtain ⟨v, m5, m6⟩ := m3 k hk
    refine ⟨v, m5, ?_⟩
    rcases m6 with m6 | ⟨n, cap, c, e1, e2, e3, e4, e5, e6⟩
    · exact .inl m6
    · have e7 : n ≠ H.next + 1 := by omega
      have e8 : n ≠ H.next + 5 := by omega
      exact .inr ⟨n, cap, c, e1, e2, by simpa using e3, by simp [e7, e8, e4], e5, e6⟩

end Go.Proofs.Ytohohnpjilinmaa

/-
  The contract of the function that tells which trips follow each one.
-/
namespace Go.Proofs.Ytohohnpjilinmaa
open Go Go.Ab

theorem follows_spec {e s : Value} {T : Tab} {H : Heap} (h : TabAt H e s T) : AFun Try.prog 20 [tabV T e s] H (fun r H' => Ge H H' ∧ (checkT T ≠ 0 → r = .tuple #[.slice none 0 0, .int .i64 (checkT T)]) ∧ (checkT T = 0 → ∃ f, r = .tuple #[f, .int .i64 0] ∧ RowsAt H' f T.followers)) := by
  refine AFun.mk ok20 hm (Nat.le_of_ble_eq_true rfl) ?_
  simp [a20, r20]
  refine fcall_fun (checkTable_spec (h.ge (by simp))) ?_
  rintro _ H1 ⟨rfl, g1⟩
  have G1 : Ge H H1 := Ge.trans (by simp) g1
  have b1 := g1.got (n := H.next) (by simp) rfl
  simp at b1
  simp
  refine fcond_intro (fun hc => ?_) (fun hc => ?_)
  · simp at hc
    simp [hc, G1]
  · simp at hc
    simp [b1]
    refine fcall_fun (newService_spec (h.ge G1) (checkT_zero.1 hc)) ?_
    rintro _ H2 ⟨f, rfl, g2, hr⟩
    simp [hc, G1.trans g2, hr]

end Go.Proofs.Ytohohnpjilinmaa
