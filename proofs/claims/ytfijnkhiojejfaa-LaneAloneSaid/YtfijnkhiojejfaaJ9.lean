/-
  Joined texts of a calculus of abstract memory, of the program's code in it, and of contracts.
-/
import Derived.Test.YtfijnkhiojejfaaJ6
import Derived.Test.YtfijnkhiojejfaaJ7
import Derived.KernelRfl
import Derived.Test.YtfijnkhiojejfaaChecked
namespace Go.Proofs.Ytfijnkhiojejfaa
open Go Go.Ab

structure Bs where
  lo : Int
  hi : Int
  turn : Int
deriving DecidableEq
def Bs.cells (x : Bs) : List Value := [.int .i64 x.lo, .int .i64 x.hi, .int .i64 x.turn]
abbrev busV (x : Bs) : Value := .agg #[.int .i64 x.lo, .int .i64 x.hi, .int .i64 x.turn]
theorem Bs.len (x : Bs) : x.cells.length = 3 := rfl
structure Yd where
  room : List Int
  buses : List Bs
  broken : Int
abbrev yardV (Y : Yd) (r b : Value) : Value := .agg #[r, b, .int .i64 Y.broken]
abbrev BssAt := RecsAt Bs.cells 3
structure YardAt (H : Heap) (r b : Value) (Y : Yd) : Prop where
  room : IntsAt H r Y.room
  buses : BssAt H b Y.buses
theorem YardAt.ge {H H' : Heap} {r b : Value} {Y : Yd} (h : YardAt H r b Y) (g : Ge H H') : YardAt H' r b Y := ⟨h.room.ge g, h.buses.ge g⟩

theorem BssAt.at {H : Heap} {v : Value} {xs : List Bs} (h : BssAt H v xs) {i : Nat} (hi : i < xs.length) : ∃ n o, islV 3 v (.int .i64 i) = some (.pointer (some ⟨n, o, none⟩)) ∧ n < H.next ∧
    ∀ A, Ge H A → ldA (A.get n) true 3 o = some (busV xs[i]) ∧ ldA (A.get n) false 1 o = some (.int .i64 xs[i].lo) ∧ ldA (A.get n) false 1 (o + 1) = some (.int .i64 xs[i].hi) ∧ ldA (A.get n) false 1 (o + 2) = some (.int .i64 xs[i].turn) := by
  obtain ⟨n, o, h1, h2, h3⟩ := RecsAt.at Bs.len h hi
  refine ⟨n, o, h1, h2, fun A g => ?_⟩
  obtain ⟨h4, h5⟩ := h3 A g
  exact ⟨h4, by simpa [Bs.cells] using h5 0 (by omega), by simpa [Bs.cells] using h5 1 (by omega), by simpa [Bs.cells] using h5 2 (by omega)⟩

theorem hm : Try.prog.follows .mixedOrders = true := by kernel_rfl
theorem und3 : Try.prog.underlying 3 = some (.int .i64) := Try.underlying3
def inB (n lo hi : Int) : Bool := decide (lo ≤ n) && decide (n ≤ hi)
theorem within_spec (n lo hi : Int) (H : Heap) : AFun Try.prog 54 [.int .i64 n, .int .i64 lo, .int .i64 hi] H (fun v H' => v = .bool (inB n lo hi) ∧ H' = H) := by
  refine AFun.mk ok54 hm (Nat.le_of_ble_eq_true rfl) ?_
  simp [a54, r54, inB]
  by_cases h1 : lo ≤ n <;> by_cases h2 : n ≤ hi <;> simp [h1, h2]
theorem in_spec (n lo hi : Int) (H : Heap) : AFun Try.prog 46 [.int .i64 n, .int .i64 lo, .int .i64 hi] H (fun v H' => v = .bool (inB n lo hi) ∧ H' = H) := by
  refine AFun.mk ok46 hm (Nat.le_of_ble_eq_true rfl) ?_
  simp [a46, r46, inB]
  by_cases h1 : lo ≤ n <;> by_cases h2 : n ≤ hi <;> simp [h1, h2]
theorem isRoom_spec (n : Int) (H : Heap) : AFun Try.prog 49 [.int .i64 n] H (fun v H' => v = .bool (inB n 0 8) ∧ H' = H) := by
  refine AFun.mk ok49 hm (Nat.le_of_ble_eq_true rfl) ?_
  simp [a49, r49]
  refine fcall_fun (within_spec _ _ _ _) ?_
  rintro _ _ ⟨rfl, rfl⟩
  simp
def okBus (x : Bs) : Bool := inB x.lo 0 x.hi && decide (x.hi ≤ 2000) && inB x.turn 0 2000
theorem validBus_spec (x : Bs) (H : Heap) : AFun Try.prog 51 [busV x] H (fun v H' => v = .bool (okBus x) ∧ Ge H H') := by
  refine AFun.mk ok51 hm (Nat.le_of_ble_eq_true rfl) ?_
  simp [a51, r51]
  refine fcall_fun (within_spec _ _ _ _) ?_
  rintro _ _ ⟨rfl, rfl⟩
  unfold okBus
  cases h1 : inB x.lo 0 x.hi
  · simp
  by_cases h2 : x.hi ≤ 2000
  · simp [h2]
    refine fcall_fun (within_spec _ _ _ _) ?_
    rintro _ _ ⟨rfl, rfl⟩
    simp [h2]
  · simp [h2]

section
variable {I : Nat → Heap → Prop} {F : Heap → Prop} {H : Heap} {v pv : Value}
theorem every_int_inv {xs : List Int} (h0 : I 0 H) (hv : ∀ i A, I i A → IntsAt A v xs)
    (hp : ∀ i A (h : i < xs.length), I i A → ACall Try.prog pv [.int .i64 xs[i]] A (fun r B => ∃ b, r = .bool b ∧ (b = true → I (i + 1) B) ∧ (b = false → F B))) :
    AFun Try.prog 48 [v, pv] H (fun r B => ∃ b, r = .bool b ∧ (b = true → I xs.length B) ∧ (b = false → F B)) := by
  refine AFun.mk ok48 hm (Nat.le_of_ble_eq_true rfl) ?_
  have h62 := (hv _ _ h0).2
  simp [a48, r48, (hv _ _ h0).lenV]
  refine floop_intro (fun s => s.d = [] ∧ s.t 1 = pv ∧ s.t 7 = v ∧ s.t 8 = .int .i64 xs.length ∧ ∃ i : Nat, i ≤ xs.length ∧ s.t 9 = .int .i64 i ∧ I i s.H) (fun s => xs.length - (intOf (s.t 9)).toNat) ?_ ?_
  · exact ⟨rfl, by simp, by simp, by simp, 0, by simp, by simp, h0⟩
  · rintro ⟨t, _, A⟩ ⟨rfl, h1, h7, h8, i, hi, h9, hn⟩
    dsimp only at h1 h7 h8 h9 hn
    simp [h8, h9]
    refine fcond_intro (fun hc => ?_) (fun hc => ?_)
    · have hi' : i < xs.length := by simpa using hc
      obtain ⟨q, e1, e2⟩ := (hv _ _ hn).at hi'
      simp [h1, h7, h9, e1, e2]
      refine fcall_intro ((hp i A hi' hn).mono ?_)
      rintro _ B ⟨b, rfl, k1, k2⟩
      cases b
      · simp [k2 rfl]
      · simp [h9, add_in (x := i) (y := 1) (by omega) (by omega)]
        exact ⟨⟨h1, h7, h8, i + 1, by omega, by omega, k1 rfl⟩, by omega⟩
    · have : i = xs.length := by simp at hc; omega
      subst this
      simp [hn]
theorem every_bus_inv {xs : List Bs} (h0 : I 0 H) (hv : ∀ i A, I i A → BssAt A v xs) (hge : ∀ i A B, I i A → Ge A B → I i B)
    (hp : ∀ i A (h : i < xs.length), I i A → ACall Try.prog pv [busV xs[i]] A (fun r B => ∃ b, r = .bool b ∧ (b = true → I (i + 1) B) ∧ (b = false → F B))) :
    AFun Try.prog 50 [v, pv] H (fun r B => ∃ b, r = .bool b ∧ (b = true → I xs.length B) ∧ (b = false → F B)) := by
  refine AFun.mk ok50 hm (Nat.le_of_ble_eq_true rfl) ?_
  have h62 := (hv _ _ h0).2
  simp [a50, r50, (hv _ _ h0).lenV]
  refine floop_intro (fun s => s.d = [] ∧ s.t 1 = pv ∧ s.t 7 = v ∧ s.t 8 = .int .i64 xs.length ∧ ∃ i : Nat, i ≤ xs.length ∧ s.t 9 = .int .i64 i ∧ I i s.H) (fun s => xs.length - (intOf (s.t 9)).toNat) ?_ ?_
  · exact ⟨rfl, by simp, by simp, by simp, 0, by simp, by simp, h0⟩
  · rintro ⟨t, _, A⟩ ⟨rfl, h1, h7, h8, i, hi, h9, hn⟩
    dsimp only at h1 h7 h8 h9 hn
    simp [h8, h9]
    refine fcond_intro (fun hc => ?_) (fun hc => ?_)
    · have hi' : i < xs.length := by simpa using hc
      obtain ⟨n, o, e1, _, e2⟩ := BssAt.at (hv _ _ hn) hi'
      simp [h1, h7, h9, e1, (e2 A (Ge.refl _)).1]
      refine fcall_intro ((hp i _ hi' (hge i A _ hn (by simp))).mono ?_)
      rintro _ B ⟨b, rfl, k1, k2⟩
      cases b
      · simp [k2 rfl]
      · simp [h9, add_in (x := i) (y := 1) (by omega) (by omega)]
        exact ⟨⟨h1, h7, h8, i + 1, by omega, by omega, k1 rfl⟩, by omega⟩
    · have : i = xs.length := by simp at hc; omega
      subst this
      simp [hn]
end

theorem every_int_spec {H : Heap} {v pv : Value} {xs : List Int} {p : Int → Bool} (hv : IntsAt H v xs)
    (hp : ∀ n ∈ xs, ∀ A, Ge H A → ACall Try.prog pv [.int .i64 n] A (fun r B => r = .bool (p n) ∧ Ge A B)) : AFun Try.prog 48 [v, pv] H (fun r B => r = .bool (xs.all p) ∧ Ge H B) := by
  refine (every_int_inv (I := fun i A => Ge H A ∧ ∀ j, (h : j < xs.length) → j < i → p xs[j] = true) (F := fun A => Ge H A ∧ xs.all p = false) ⟨Ge.refl _, fun j _ h => by omega⟩ (fun i A h => hv.ge h.1) fun i A h hI => (hp xs[i] (List.getElem_mem h) A hI.1).mono ?_).mono ?_
  · rintro r B ⟨rfl, g⟩
    refine ⟨_, rfl, fun hb => ⟨hI.1.trans g, fun j hj hji => ?_⟩, fun hb => ⟨hI.1.trans g, ?_⟩⟩
    · by_cases e : j = i
      · subst e; exact hb
      · exact hI.2 j hj (by omega)
    · rw [List.all_eq_false]; exact ⟨xs[i], List.getElem_mem h, by simp [hb]⟩
  · rintro r B ⟨b, rfl, k1, k2⟩
    cases b
    · exact ⟨by rw [(k2 rfl).2], (k2 rfl).1⟩
    · refine ⟨?_, (k1 rfl).1⟩
      have : xs.all p = true := by
        rw [List.all_eq_true]
        intro x hx
        obtain ⟨j, hj, rfl⟩ := List.mem_iff_getElem.1 hx
        exact (k1 rfl).2 j hj hj
      rw [this]
theorem every_bus_spec {H : Heap} {v pv : Value} {xs : List Bs} {p : Bs → Bool} (hv : BssAt H v xs)
    (hp : ∀ n ∈ xs, ∀ A, Ge H A → ACall Try.prog pv [busV n] A (fun r B => r = .bool (p n) ∧ Ge A B)) : AFun Try.prog 50 [v, pv] H (fun r B => r = .bool (xs.all p) ∧ Ge H B) := by
  refine (every_bus_inv (I := fun i A => Ge H A ∧ ∀ j, (h : j < xs.length) → j < i → p xs[j] = true) (F := fun A => Ge H A ∧ xs.all p = false) ⟨Ge.refl _, fun j _ h => by omega⟩ (fun i A h => hv.ge h.1) (fun i A B h g => ⟨h.1.trans g, h.2⟩) fun i A h hI => (hp xs[i] (List.getElem_mem h) A hI.1).mono ?_).mono ?_
  · rintro r B ⟨rfl, g⟩
    refine ⟨_, rfl, fun hb => ⟨hI.1.trans g, fun j hj hji => ?_⟩, fun hb => ⟨hI.1.trans g, ?_⟩⟩
    · by_cases e : j = i
      · subst e; exact hb
      · exact hI.2 j hj (by omega)
    · rw [List.all_eq_false]; exact ⟨xs[i], List.getElem_mem h, by simp [hb]⟩
  · rintro r B ⟨b, rfl, k1, k2⟩
    cases b
    · exact ⟨by rw [(k2 rfl).2], (k2 rfl).1⟩
    · refine ⟨?_, (k1 rfl).1⟩
      have : xs.all p = true := by
        rw [List.all_eq_true]
        intro x hx
        obtain ⟨j, hj, rfl⟩ := List.mem_iff_getElem.1 hx
        exact (k1 rfl).2 j hj hj
      rw [this]

end Go.Proofs.Ytfijnkhiojejfaa


namespace Go.Proofs.Ytfijnkhiojejfaa
open Go Go.Ab

def WordsAt (H : Heap) (v : Value) (xs : List Int) : Prop := SlR H 1 v xs.length (xs.map (.int .u16)) ∧ xs.length < 2 ^ 63 ∧ ∀ x ∈ xs, 0 ≤ x ∧ x < 2 ^ 16

end Go.Proofs.Ytfijnkhiojejfaa


namespace Go.Proofs.Ytfijnkhiojejfaa
open Go Go.Ab

def turnsOf (Y : Yd) : List Int := Y.buses.map (·.turn)
theorem turnsOf_len (Y : Yd) : (turnsOf Y).length = Y.buses.length := by simp [turnsOf]
theorem turnsOf_at (Y : Yd) {i : Nat} (hi : i < Y.buses.length) : (turnsOf Y)[i]'(by rw [turnsOf_len]; exact hi) = Y.buses[i].turn := by simp [turnsOf]

theorem turns_spec {Y : Yd} {r b : Value} {H : Heap} (h : YardAt H r b Y) (hl : Y.buses.length ≤ 8) : AFun Try.prog 53 [yardV Y r b] H (fun v B => OwnSl B H.next v ((turnsOf Y).map (.int .i64)) ∧ Ge H B) := by
  refine AFun.mk ok53 hm (Nat.le_of_ble_eq_true rfl) ?_
  have hb := h.buses.one
  have hr := h.room.one
  simp [a53, r53, h.buses.lenV, hb, hr]
  refine floop_intro (fun s => s.d = [] ∧ Ge H s.H ∧ s.t 7 = b ∧ s.t 8 = .int .i64 Y.buses.length ∧ ∃ i : Nat, i ≤ Y.buses.length ∧ s.t 9 = .int .i64 i ∧ OwnSl s.H H.next (s.t 3) (((turnsOf Y).take i).map (.int .i64))) (fun s => Y.buses.length - (intOf (s.t 9)).toNat) ?_ ?_
  · exact ⟨rfl, by simp, by simp, by simp, 0, by simp, by simp, .inl ⟨by simp, by simp⟩⟩
  rintro ⟨t, _, A⟩ ⟨rfl, g, h7, h8, i, hi, h9, own⟩
  dsimp only at g h7 h8 h9 own
  simp [h8, h9]
  refine fcond_intro (fun hc => ?_) (fun hc => ?_)
  case refine_2 =>
    have : i = Y.buses.length := by simp at hc; omega
    subst this
    rw [← turnsOf_len, List.take_length] at own
    simp
    exact ⟨own, g⟩
  have hi' : i < Y.buses.length := by simpa using hc
  obtain ⟨n, o, e1, _, e2⟩ := BssAt.at (h.buses.ge g) hi'
  simp [h7, h9, e1, (e2 A (Ge.refl _)).1]
  generalize hS : Heap.new (Heap.set _ A.next _) _ = S
  have gS : Ge A S := by rw [← hS]; exact ((Ge.new _ _).setNew (Nat.le_refl _) _).newOf _
  have nS : S.next = A.next + 2 := by rw [← hS]; simp
  have xS : S.get (A.next + 1) = .cells true [.int .i64 Y.buses[i].turn] 1 := by rw [← hS]; simp
  clear hS
  have ng := g.next
  have oS := own.ge gS
  refine fapp_own oS (slCells_new xS) rfl (by simp only [List.length_map, List.length_take]; omega) (by omega) (by omega) (by omega) (by omega) ?_
  rintro u B o1 s1 n1 k1
  simp [h9, add_in (x := i) (y := 1) (by omega) (by omega)]
  refine ⟨⟨oS.geApp (Nat.le_refl _) (g.trans gS) (by omega) (by omega) k1, h7, h8, i + 1, by omega, by omega, ?_⟩, by omega⟩
  have e3 := List.take_succ_eq_append_getElem (l := turnsOf Y) (i := i) (by rw [turnsOf_len]; exact hi')
  rw [turnsOf_at Y hi'] at e3
  rw [← List.map_take, e3, List.map_append]
  exact o1

def distB (xs : List Int) : Bool := decide xs.Nodup
theorem distStep_spec {H : Heap} {n m c : Nat} {b : Bool} {f : Int → Option Value} {x : Int} (hn : H.get n = .cells b [.map (some m)] c) (hnl : n < H.next) (hml : m < H.next) (hnm : n ≠ m) (hM : MapI .i64 H m f) (hf : ∀ k, f k = none ∨ f k = some (.bool true)) :
    AFun Try.prog 71 [.int .i64 x, .pointer (some ⟨n, 0, none⟩)] H (fun r B => r = .bool (f x).isNone ∧ GeX m H B ∧ MapI .i64 B m (putI f x (.bool true))) := by
  refine AFun.mk ok71 hm (Nat.le_of_ble_eq_true rfl) ?_
  have hfx : (f x).getD (.bool false) = .bool (f x).isSome := by
    have := hf x
    cases h : f x with
    | none => rfl
    | some v => rw [h] at this; simp at this; subst this; rfl
  simp [a71, r71, hn]
  rw [hM.lk1 und3 (by rfl) x, hfx]
  simp [hn]
  obtain ⟨y, e1, e2⟩ := hM.put (P := Try.prog) und3 x (.bool true)
  rw [e1]
  simp
  exact ⟨(GeX.refl m H).set y, e2 _ (by simp)⟩

theorem nodup_step {xs : List Int} {i : Nat} (hi : i < xs.length) : (xs.take (i + 1)).Nodup ↔ (xs.take i).Nodup ∧ xs[i] ∉ xs.take i := by
  rw [List.take_succ_eq_append_getElem hi, List.nodup_append]
  constructor
  · rintro ⟨h1, _, h2⟩
    exact ⟨h1, fun hm => h2 _ hm _ (by simp) rfl⟩
  · rintro ⟨h1, h2⟩
    exact ⟨h1, by simp, fun a ha b hb e => h2 (by simp at hb; subst hb; subst e; exact ha)⟩

theorem dist_spec {H : Heap} {v : Value} {xs : List Int} (hv : IntsAt H v xs) : AFun Try.prog 52 [v] H (fun r B => r = .bool (distB xs) ∧ Ge H B) := by
  refine AFun.mk ok52 hm (Nat.le_of_ble_eq_true rfl) ?_
  simp [a52, r52]
  generalize hS : Heap.set _ (H.next + 1) _ = S
  have gS : Ge H S := by rw [← hS]; exact ((Ge.new _ _).newOf _).setNew (by omega) _
  have nS : S.next = H.next + 2 := by rw [← hS]; simp
  have mS : S.get H.next = .map [] 0 := by rw [← hS]; simp
  have cS : S.get (H.next + 1) = .cells true [.map (some H.next)] 1 := by rw [← hS]; simp
  clear hS
  refine fcall_fun (every_int_inv (xs := xs) (I := fun i A => Ge H A ∧ H.next + 2 ≤ A.next ∧ A.get (H.next + 1) = .cells true [.map (some H.next)] 1 ∧ (xs.take i).Nodup ∧ ∃ f, MapI .i64 A H.next f ∧ (∀ k, f k = none ∨ f k = some (.bool true)) ∧ ∀ k, (f k).isSome = decide (k ∈ xs.take i))
    (F := fun A => Ge H A ∧ ¬ xs.Nodup) ⟨gS, by omega, cS, by simp, _, MapI.empty mS, fun k => .inl rfl, fun k => by simp⟩ (fun i A h => hv.ge h.1) fun i A hi hI => ?_) ?_
  · obtain ⟨gA, nA, cA, hnd, f, hM, hf, hfi⟩ := hI
    refine (ACall.of_fun (distStep_spec (n := H.next + 1) (m := H.next) (x := xs[i]) cA (by omega) (by omega) (by omega) hM hf)).mono ?_
    rintro _ B ⟨rfl, gB, hB⟩
    have nB := gB.next
    refine ⟨_, rfl, fun hb => ⟨gB.toGe gA (Nat.le_refl _), by omega, by rw [gB.get _ (by omega) (by omega)]; exact cA, ?_, _, hB, fun k => ?_, fun k => ?_⟩, fun hb => ⟨gB.toGe gA (Nat.le_refl _), fun hx => ?_⟩⟩
    · rw [nodup_step hi]
      refine ⟨hnd, fun hx => ?_⟩
      have := hfi xs[i]
      cases h : f xs[i] <;> simp [h, hx] at this hb
    · unfold putI; split
      · exact .inr rfl
      · exact hf k
    · unfold putI
      rw [List.take_succ_eq_append_getElem hi]
      by_cases e : k = xs[i]
      · simp only [e, if_true, Option.isSome_some, List.mem_append, List.mem_singleton, or_true, decide_true]
      · simp only [e, if_false, hfi k, List.mem_append, List.mem_singleton, or_false]
    · have h1 := (List.take_sublist (i + 1) xs).nodup hx
      rw [nodup_step hi] at h1
      have := hfi xs[i]
      cases h : f xs[i] <;> simp [h, h1.2] at this hb
  rintro _ B ⟨b, rfl, k1, k2⟩
  simp
  cases b
  · obtain ⟨q1, q2⟩ := k2 rfl
    exact ⟨by simp [distB, q2], q1⟩
  · obtain ⟨q1, _, _, q2, _⟩ := k1 rfl
    rw [List.take_length] at q2
    exact ⟨by simp [distB, q2], q1⟩

def okY (Y : Yd) : Bool := decide (Y.room ≠ []) && (Y.room.all (inB · 0 8) && (Y.buses.all okBus && (distB (turnsOf Y) && inB Y.broken 0 2)))
def checkY (Y : Yd) : Int := if 3 < Y.room.length ∨ 8 < Y.buses.length then 3 else if okY Y then 0 else 1

theorem checkYard_spec {Y : Yd} {r b : Value} {H : Heap} (h : YardAt H r b Y) : AFun Try.prog 19 [yardV Y r b] H (fun v B => v = .int .i64 (checkY Y) ∧ Ge H B) := by
  refine AFun.mk ok19 hm (Nat.le_of_ble_eq_true rfl) ?_
  have hb := h.buses.one
  have hr := h.room.one
  have g0 : Ge H (H.new (.cells true [r, b, .int .i64 Y.broken] 3)) := Ge.new _ _
  simp [a19, r19, h.buses.lenV, h.room.lenV, hb, hr]
  by_cases h1 : (3 : Int) < Y.room.length
  · have e : checkY Y = 3 := by unfold checkY; rw [if_pos (.inl (by omega))]
    simp [h1, e]
  by_cases h2 : (8 : Int) < Y.buses.length
  · have e : checkY Y = 3 := by unfold checkY; rw [if_pos (.inr (by omega))]
    simp [h1, h2, e, h.buses.lenV]
  have e0 : checkY Y = if okY Y then 0 else 1 := by unfold checkY; rw [if_neg (by omega)]
  simp [h1, h2, h.room.lenV, h.buses.lenV]
  by_cases h3 : Y.room = []
  · have : okY Y = false := by simp [okY, h3]
    simp [h3, e0, this]
  simp [h3]
  refine fcall_fun (every_int_spec (p := fun n => inB n 0 8) (h.room.ge g0) fun n _ A gA => (ACall.plain (isRoom_spec n A)).mono fun r B hB => ⟨hB.1, hB.2 ▸ Ge.refl _⟩) ?_
  rintro _ H1 ⟨rfl, g1⟩
  have G1 := g0.trans g1
  have k1 := g1.got (n := H.next) (by simp) rfl
  simp at k1
  cases h4 : Y.room.all fun n => inB n 0 8
  · have : okY Y = false := by simp only [okY, h4, Bool.false_and, Bool.and_false]
    simp [e0, this, G1]
  simp [k1]
  refine fcall_fun (every_bus_spec (p := okBus) (h.buses.ge G1) fun n _ A gA => ACall.plain (validBus_spec n A)) ?_
  rintro _ H2 ⟨rfl, g2⟩
  have G2 := G1.trans g2
  have k2 := g2.got (n := H.next) (by have := g1.next; simp at this; omega) k1
  cases h5 : Y.buses.all okBus
  · have : okY Y = false := by simp only [okY, h5, Bool.false_and, Bool.and_false]
    simp [e0, this, G2]
  simp [k2]
  refine fcall_fun (turns_spec (h.ge G2) (by omega)) ?_
  rintro v H3 ⟨o3, g3⟩
  have G3 := G2.trans g3
  have n2 := G2.next
  simp
  refine fcall_fun (dist_spec (own_ints o3 (by rw [turnsOf_len]; omega))) ?_
  rintro _ H4 ⟨rfl, g4⟩
  have G4 := G3.trans g4
  have hnx : H.next < H2.next := by have := g1.next; have := g2.next; simp at *; omega
  have k4 := (g3.trans g4).got (n := H.next) hnx k2
  cases h6 : distB (turnsOf Y)
  · have : okY Y = false := by simp only [okY, h6, Bool.false_and, Bool.and_false]
    simp [e0, this, G4]
  simp [k4]
  refine fcall_fun (within_spec _ _ _ _) ?_
  rintro _ _ ⟨rfl, rfl⟩
  have : okY Y = inB Y.broken 0 2 := by simp only [okY, h4, h5, h6, Bool.true_and]; simp [h3]
  cases h7 : inB Y.broken 0 2 <;> rw [h7] at this <;> simp [e0, this, G4]

end Go.Proofs.Ytfijnkhiojejfaa


namespace Go.Proofs.Ytfijnkhiojejfaa
open Go Go.Ab

theorem thin_spec {Y : Yd} {r b : Value} {H : Heap} (h : YardAt H r b Y) : AFun Try.prog 16 [yardV Y r b] H (fun v B => v = .bool (decide (Y.room.length ≤ 6) && decide (Y.buses.length ≤ 12)) ∧ Ge H B) := by
  refine AFun.mk ok16 hm (Nat.le_of_ble_eq_true rfl) ?_
  have hb := h.buses.one
  have hr := h.room.one
  simp [a16, r16, h.buses.lenV, h.room.lenV, hb, hr]
  by_cases h1 : (Y.room.length : Int) ≤ 6
  · have h1' : Y.room.length ≤ 6 := by omega
    simp [h1, h1', h.buses.lenV]
    omega
  · have h1' : ¬ Y.room.length ≤ 6 := by omega
    simp [h1, h1']

theorem list_spec {H : Heap} {v : Value} {xs : List Int} (hv : IntsAt H v xs) (hl : xs.length ≤ 2 ^ 20) : AFun Try.prog 22 [v] H (fun r B => OwnSl B H.next r (xs.map (.int .i64)) ∧ Ge H B) := by
  refine AFun.mk ok22 hm (Nat.le_of_ble_eq_true rfl) ?_
  simp [a22, r22]
  refine ⟨0, [], none, 0, xs.length, xs.map (.int .i64), rfl, hv.1.1, map_one_int _, by omega, ?_⟩
  by_cases h0 : xs.length = 0
  · have : xs = [] := List.length_eq_zero_iff.1 h0
    subst this
    simp
    exact .inl ⟨rfl, rfl⟩
  rw [if_neg (by simp [h0])]
  simp
  have hc : xs.length ≤ capN 0 0 xs.length := by unfold capN; split <;> omega
  refine ⟨.inr ⟨H.next, capN 0 0 xs.length, capN 0 0 xs.length, by simp, by omega, by simp [appHeap], by simp [appHeap], by simpa using hc, Nat.le_refl _⟩, ?_⟩
  exact Ge.app (Ge.refl _) (by omega) (by simp) (by simp)

theorem yard_spec {Y : Yd} {r b : Value} {H : Heap} (h : YardAt H r b Y) (hr6 : Y.room.length ≤ 6) (hb12 : Y.buses.length ≤ 12) : AFun Try.prog 20 [yardV Y r b] H (fun v B => ∃ r' b', v = yardV Y r' b' ∧ YardAt B r' b' Y ∧ Ge H B) := by
  refine AFun.mk ok20 hm (Nat.le_of_ble_eq_true rfl) ?_
  have hb := h.buses.one
  have hr := h.room.one
  simp [a20, r20, hb, hr]
  have g1 : Ge H (Heap.set (⟨((H.new (.cells true [r, b, .int .i64 Y.broken] 3)).new (.cells true [.slice none 0 0, .slice none 0 0, .int .i64 0] 3)).get, H.next + 10⟩ : Heap) (H.next + 8) (.cells true [.slice none 0 0, .slice none 0 0, .int .i64 0] 3)) := (Ge.grow_le (by omega) ((Ge.new _ _).newOf _)).setNew (by omega) _
  refine fcall_fun (list_spec (h.room.ge g1) (by omega)) ?_
  rintro r' H1 ⟨or, g2⟩
  have G1 := g1.trans g2
  have k1 := g2.got (n := H.next) (by simp) (by simp; rfl)
  have k2 := g2.got (n := H.next + 1) (by simp) (by simp; rfl)
  have k3 := g2.got (n := H.next + 8) (by simp) (by simp; rfl)
  have n2 := g2.next
  simp at n2
  have hr' := or.one
  simp [k1, k3, hr', one_cells]
  generalize hS : Heap.set H1 (H.next + 8) _ = S
  have gS : Ge H S := by rw [← hS]; exact G1.setNew (by omega) _
  have nS : S.next = H1.next := by rw [← hS]; simp
  have e1 : H.next ≠ H.next + 8 := by omega
  have e2 : H.next + 1 ≠ H.next + 8 := by omega
  have s1 : S.get H.next = .cells true [r, b, .int .i64 Y.broken] 3 := by rw [← hS]; simp [e1, k1]
  have s2 : S.get (H.next + 1) = .cells true [.slice none 0 0, .slice none 0 0, .int .i64 0] 3 := by rw [← hS]; simp [e2, k2]
  have s3 : S.get (H.next + 8) = .cells true [r', .slice none 0 0, .int .i64 Y.broken] 3 := by rw [← hS]; simp
  have sr : OwnSl S (H.next + 10) r' (Y.room.map (.int .i64)) := by
    refine OwnSl.keep (or.lower (by simp)) (by omega) fun n hn => ?_
    have := (or.names hn).1
    simp at this
    rw [← hS, Heap.set_get, if_neg (by omega)]
  have rn : ∀ n, slName r' = some n → H.next + 10 ≤ n ∧ n < S.next := fun n hn => sr.names hn
  clear hS
  refine floop_intro (fun z => z.d = [] ∧ Ge H z.H ∧ S.next ≤ z.H.next ∧ z.t 1 = .pointer (some ⟨H.next, 0, none⟩) ∧ z.t 2 = .pointer (some ⟨H.next + 1, 0, none⟩) ∧ z.t 3 = .pointer (some ⟨H.next + 8, 0, none⟩) ∧ z.H.get H.next = .cells true [r, b, .int .i64 Y.broken] 3 ∧ z.H.get (H.next + 1) = .cells true [.slice none 0 0, .slice none 0 0, .int .i64 0] 3 ∧ OwnSl z.H (H.next + 10) r' (Y.room.map (.int .i64)) ∧
    ∃ (i : Nat) (v : Value), i ≤ Y.buses.length ∧ z.t 4 = .int .i64 i ∧ z.H.get (H.next + 8) = .cells true [r', v, .int .i64 Y.broken] 3 ∧ OwnS z.H S.next 3 v i ((Y.buses.take i).flatMap Bs.cells)) (fun z => Y.buses.length - (intOf (z.t 4)).toNat) ?_ ?_
  · exact ⟨rfl, gS, Nat.le_refl _, by simp, by simp, by simp, s1, s2, sr, 0, .slice none 0 0, by simp, by simp, s3, .inl ⟨rfl, rfl, by simp⟩⟩
  rintro ⟨t, _, A⟩ ⟨rfl, g, nA, t1, t2, t3, a1, a2, ar, i, v, hi, t4, a3, own⟩
  dsimp only at g nA t1 t2 t3 a1 a2 ar t4 a3 own
  simp [t1, t4, a1, h.buses.lenV]
  have ng := g.next
  refine fcond_intro (fun hc => ?_) (fun hc => ?_)
  case refine_2 =>
    have : i = Y.buses.length := by simp at hc; omega
    subst this
    rw [List.take_length] at own
    have hv1 := own.one
    simp [t2, t3, a2, a3, hr', hv1]
    have hk : ∀ n, H.next + 10 ≤ n → (A.set (H.next + 1) (.cells true [r', v, .int .i64 Y.broken] 3)).get n = A.get n := fun n hn => by
      rw [Heap.set_get, if_neg (by omega)]
    refine ⟨r', v, ⟨rfl, rfl⟩, ⟨own_ints (ar.keep (by simp) fun n hn => hk n (ar.names hn).1) h.room.2, ?_⟩, g.setNew (by omega) _⟩
    refine ⟨(own.keep (by simp) fun n hn => hk n ?_).slr, h.buses.2⟩
    have := (own.names hn).1
    omega
  have hi' : i < Y.buses.length := by simpa using hc
  obtain ⟨n, o, f1, _, f2⟩ := BssAt.at (h.buses.ge g) hi'
  have d1 : H.next ≠ A.next := by omega
  have d2 : H.next + 8 ≠ A.next := by omega
  have d3 : H.next + 8 ≠ A.next + 1 := by omega
  simp [t1, t3, t4, a1, f1, (f2 A (Ge.refl _)).1, d1, d2, d3, a3]
  generalize hX : Heap.new (Heap.set _ A.next _) _ = X
  have gX : Ge A X := by rw [← hX]; exact ((Ge.new _ _).setNew (Nat.le_refl _) _).newOf _
  have nX : X.next = A.next + 2 := by rw [← hX]; simp
  have xX : X.get (A.next + 1) = .cells true (Bs.cells Y.buses[i]) 3 := by rw [← hX]; simp [Bs.cells]
  clear hX
  have oX := own.ge gX
  have a3' := gX.got (by omega) a3
  refine fapp_ownS oX (xs := Bs.cells Y.buses[i]) (by simp [slCells, xX, Bs.cells]) rfl rfl (by omega) (by omega) (by omega) (by omega) (by omega) ?_
  rintro u B o1 s1' n1 q1
  have gAB : Ge H B := oX.geApp (by omega) (g.trans gX) (by omega) (by omega) q1
  have keepB : ∀ m, m < A.next → slName v ≠ some m → B.get m = A.get m := fun m hm hv => (q1 m (by omega) hv).trans (gX.get m hm)
  have nv : ∀ m, m < S.next → slName v ≠ some m := fun m hm e => by have := (own.names e).1; omega
  have b1 := (keepB H.next (by omega) (nv _ (by omega))).trans a1
  have b2 := (keepB (H.next + 1) (by omega) (nv _ (by omega))).trans a2
  have b3 := (keepB (H.next + 8) (by omega) (nv _ (by omega))).trans a3
  have hu1 := o1.one
  simp [t3, b3, hu1, one_cells, t4, add_in (x := i) (y := 1) (by omega) (by omega)]
  refine ⟨⟨gAB.setNew (by omega) _, by omega, t1, t2, b1, b2, ar.keep (by simp; omega) fun m hm => ?_, i + 1, by omega, by omega, ?_⟩, by omega⟩
  · obtain ⟨e1, e2⟩ := rn m hm
    rw [Heap.set_get, if_neg (by omega)]
    exact keepB m (by omega) (nv m e2)
  · rw [List.take_succ_eq_append_getElem hi', List.flatMap_append, List.flatMap_cons, List.flatMap_nil, List.append_nil]
    refine o1.keep (by simp) fun m hm => ?_
    have := (o1.names hm).1
    rw [Heap.set_get, if_neg (by omega)]

end Go.Proofs.Ytfijnkhiojejfaa


namespace Go.Proofs.Ytfijnkhiojejfaa
open Go Go.Ab

theorem not_all {α : Type} {p : α → Bool} {xs : List α} {i : Nat} (hi : i < xs.length) (h : p xs[i] = false) : xs.all p = false := by
  rw [List.all_eq_false]; exact ⟨xs[i], List.getElem_mem hi, by simp [h]⟩
theorem all_of {α : Type} {p : α → Bool} {xs : List α} (h : ∀ j (hj : j < xs.length), p xs[j] = true) : xs.all p = true := by
  rw [List.all_eq_true]
  intro x hx
  obtain ⟨j, hj, rfl⟩ := List.mem_iff_getElem.1 hx
  exact h j hj

set_option maxHeartbeats 1000000 in
theorem refFault_spec {Y : Yd} {r b : Value} {H : Heap} (h : YardAt H r b Y) : AFun Try.prog 37 [yardV Y r b] H (fun v B => v = .int .i64 (checkY Y) ∧ Ge H B) := by
  refine AFun.mk ok37 hm (Nat.le_of_ble_eq_true rfl) ?_
  have hb := h.buses.one
  have hr := h.room.one
  have g0 : Ge H (H.new (.cells true [r, b, .int .i64 Y.broken] 3)) := Ge.new _ _
  simp [a37, r37, h.buses.lenV, h.room.lenV, hb, hr]
  by_cases h1 : (3 : Int) < Y.room.length
  · have e : checkY Y = 3 := by unfold checkY; rw [if_pos (.inl (by omega))]
    simp [h1, e]
  by_cases h2 : (8 : Int) < Y.buses.length
  · have e : checkY Y = 3 := by unfold checkY; rw [if_pos (.inr (by omega))]
    simp [h1, h2, e, h.buses.lenV]
  have e0 : checkY Y = if okY Y then 0 else 1 := by unfold checkY; rw [if_neg (by omega)]
  simp [h1, h2, h.room.lenV, h.buses.lenV]
  by_cases h3 : (Y.room.length : Int) < 1
  · have h3' : Y.room = [] := List.length_eq_zero_iff.1 (by omega)
    have : okY Y = false := by simp [okY, h3']
    simp [h3, e0, this]
  have h3' : Y.room ≠ [] := fun e => h3 (by rw [e]; decide)
  simp [h3]
  refine fcall_fun (in_spec _ _ _ _) ?_
  rintro _ _ ⟨rfl, rfl⟩
  cases h7 : inB Y.broken 0 2
  · have : okY Y = false := by simp [okY, h7]
    simp [h3, e0, this]
  simp [h3]
  refine floop_intro (fun z => z.d = [] ∧ Ge H z.H ∧ z.t 1 = .pointer (some ⟨H.next, 0, none⟩) ∧ z.H.get H.next = .cells true [r, b, .int .i64 Y.broken] 3 ∧ H.next < z.H.next ∧ ∃ i : Nat, i ≤ Y.room.length ∧ z.t 3 = .int .i64 i ∧ ∀ j (hj : j < Y.room.length), j < i → inB Y.room[j] 0 8 = true) (fun z => Y.room.length - (intOf (z.t 3)).toNat) ?_ ?_
  · exact ⟨rfl, by simp, by simp, by simp, by simp, 0, by simp, by simp, fun j _ hj => by omega⟩
  rintro ⟨t, _, A⟩ ⟨rfl, g, t1, a1, nA, i, hi, t3, hall⟩
  dsimp only at g t1 a1 nA t3
  simp [t1, t3, a1, h.room.lenV]
  refine fcond_intro (fun hc => ?_) (fun hc => ?_)
  case refine_1 =>
    have hi' : i < Y.room.length := by simpa using hc
    obtain ⟨p, e1, e2⟩ := (h.room.ge g).at hi'
    simp [t1, t3, a1, e1, e2]
    refine fcall_fun (in_spec _ _ _ _) ?_
    rintro _ _ ⟨rfl, rfl⟩
    cases h8 : inB Y.room[i] 0 8
    · have : okY Y = false := by simp only [okY, not_all (p := fun n => inB n 0 8) hi' h8, Bool.false_and, Bool.and_false]
      simp [e0, this, g]
    · simp [t3, add_in (x := i) (y := 1) (by omega) (by omega)]
      refine ⟨⟨g, t1, a1, nA, i + 1, by omega, by omega, fun j hj hji => ?_⟩, by omega⟩
      by_cases e : j = i
      · subst e; exact h8
      · exact hall j hj (by omega)
  have hi0 : i = Y.room.length := by simp at hc; omega
  subst hi0
  have hrooms : Y.room.all (fun n => inB n 0 8) = true := all_of fun j hj => hall j hj hj
  simp
  refine floop_intro (fun z => z.d = [] ∧ Ge H z.H ∧ z.t 1 = .pointer (some ⟨H.next, 0, none⟩) ∧ z.H.get H.next = .cells true [r, b, .int .i64 Y.broken] 3 ∧ H.next < z.H.next ∧ ∃ i : Nat, i ≤ Y.buses.length ∧ z.t 4 = .int .i64 i ∧ (∀ j (hj : j < Y.buses.length), j < i → okBus Y.buses[j] = true) ∧ ((turnsOf Y).take i).Nodup) (fun z => Y.buses.length - (intOf (z.t 4)).toNat) ?_ ?_
  · exact ⟨rfl, g, by simp [t1], a1, nA, 0, by simp, by simp, fun j _ hj => by omega, by simp⟩
  clear t3 t1 a1 g nA hc hall t A
  rintro ⟨t, _, A⟩ ⟨rfl, g, t1, a1, nA, i, hi, t4, hall, hnd⟩
  dsimp only at g t1 a1 nA t4
  simp [t1, t4, a1, h.buses.lenV]
  refine fcond_intro (fun hc => ?_) (fun hc => ?_)
  case refine_2 =>
    have hi0 : i = Y.buses.length := by simp at hc; omega
    subst hi0
    have hbs : Y.buses.all okBus = true := all_of fun j hj => hall j hj hj
    rw [← turnsOf_len, List.take_length] at hnd
    have : okY Y = true := by simp [okY, hrooms, hbs, h7, h3', distB, hnd]
    simp [e0, this, g]
  have hi' : i < Y.buses.length := by simpa using hc
  obtain ⟨n, o, f1, fn, f2⟩ := BssAt.at (h.buses.ge g) hi'
  have d1 : H.next ≠ A.next := by omega
  simp [t1, t4, a1, f1, (f2 A (Ge.refl _)).1]
  generalize hS : Heap.set (Heap.new A _) A.next _ = S
  have gS : Ge A S := by rw [← hS]; exact (Ge.new _ _).setNew (Nat.le_refl _) _
  have nS : S.next = A.next + 1 := by rw [← hS]; simp
  have xS : S.get A.next = .cells true [.int .i64 Y.buses[i].lo, .int .i64 Y.buses[i].hi, .int .i64 Y.buses[i].turn] 3 := by rw [← hS]; simp
  clear hS
  have gHS := g.trans gS
  have a1S := gS.got nA a1
  have hbad : okBus Y.buses[i] = false → checkY Y = 1 := fun e => by
    have : okY Y = false := by simp only [okY, not_all hi' e, Bool.false_and, Bool.and_false]
    rw [e0, this]; rfl
  refine fcall_fun (in_spec _ _ _ _) ?_
  rintro _ S1 ⟨rfl, eS⟩
  rw [eS]
  cases h8 : inB Y.buses[i].lo 0 Y.buses[i].hi
  · have := hbad (by simp [okBus, h8])
    simp [this, gHS]
  simp [xS]
  by_cases h9 : (2000 : Int) < Y.buses[i].hi
  · have h9' : ¬ Y.buses[i].hi ≤ 2000 := by omega
    have := hbad (by simp [okBus, h9'])
    simp [h9, this, gHS]
  have h9' : Y.buses[i].hi ≤ 2000 := by omega
  simp [h9, xS]
  refine fcall_fun (in_spec _ _ _ _) ?_
  rintro _ S2 ⟨rfl, eS2⟩
  rw [eS2]
  cases h10 : inB Y.buses[i].turn 0 2000
  · have := hbad (by simp [okBus, h10])
    simp [h9, this, gHS]
  have hok : okBus Y.buses[i] = true := by simp [okBus, h8, h9', h10]
  simp [h9]
  refine floop_intro (fun z => z.d = [] ∧ Ge S z.H ∧ z.t 1 = .pointer (some ⟨H.next, 0, none⟩) ∧ z.t 4 = .int .i64 i ∧ z.t 5 = .pointer (some ⟨A.next, 0, none⟩) ∧ ∃ k : Nat, k ≤ i ∧ z.t 6 = .int .i64 k ∧ Y.buses[i].turn ∉ (turnsOf Y).take k) (fun z => i - (intOf (z.t 6)).toNat) ?_ ?_
  · exact ⟨rfl, Ge.refl _, by simp [t1], by simp [t4], by simp, 0, by simp, by simp, by simp⟩
  have t4o := t4
  clear t4 t1
  rintro ⟨t, _, B⟩ ⟨rfl, gB, t1, t4, t5, k, hk, t6, hno⟩
  dsimp only at gB t1 t4 t5 t6
  have gHB := gHS.trans gB
  have nB := gB.next
  simp [t4, t6]
  have e9 := nodup_step (xs := turnsOf Y) (i := i) (by rw [turnsOf_len]; exact hi')
  rw [turnsOf_at Y hi'] at e9
  refine fcond_intro (fun hc => ?_) (fun hc => ?_)
  case refine_2 =>
    have hk0 : k = i := by simp at hc; omega
    subst hk0
    simp [t4, add_in (x := k) (y := 1) (by omega) (by omega)]
    refine ⟨⟨gHB, t1, gB.got (by omega) a1S, by omega, k + 1, by omega, by omega, fun j hj hji => ?_, ?_⟩, by rw [t4o]; simp only [intOf_int, Int.toNat_natCast]; omega⟩
    · by_cases e : j = k
      · subst e; exact hok
      · exact hall j hj (by omega)
    · exact e9.2 ⟨hnd, hno⟩
  have hki : k < i := by simpa using hc
  obtain ⟨n', o', p1, pn, p2⟩ := BssAt.at (h.buses.ge gHB) (i := k) (by omega)
  have g9 : Ge B (⟨B.get, B.next + 9⟩ : Heap) := Ge.grow_le (by omega) (Ge.refl _)
  have b1 := gB.got (by omega) a1S
  have b2 := gB.got (by omega) xS
  simp [t1, t5, t6, b1, p1, b2, (p2 B (Ge.refl _)).2.2.2]
  refine fcond_intro (fun hc => ?_) (fun hc => ?_)
  · simp at hc
    have hd : distB (turnsOf Y) = false := by
      have : ¬ (turnsOf Y).Nodup := fun hx => by
        have h1 := e9.1 ((List.take_sublist (i + 1) _).nodup hx)
        refine h1.2 ?_
        rw [← hc, ← turnsOf_at Y (by omega)]
        have : k < ((turnsOf Y).take i).length := by rw [List.length_take, turnsOf_len]; omega
        have e := List.getElem_take (xs := turnsOf Y) (j := i) (i := k) (h := this)
        rw [← e]; exact List.getElem_mem this
      simp [distB, this]
    have : okY Y = false := by simp only [okY, hd, Bool.false_and, Bool.and_false]
    simp [e0, this]
    exact Ge.grow gHB 9
  · simp at hc
    simp [t6, add_in (x := k) (y := 1) (by omega) (by omega)]
    refine ⟨⟨Ge.grow gB 9, t1, t4, t5, k + 1, by omega, by omega, ?_⟩, by omega⟩
    have e3 := List.take_succ_eq_append_getElem (l := turnsOf Y) (i := k) (by rw [turnsOf_len]; omega)
    rw [turnsOf_at Y (by omega)] at e3
    rw [e3, List.mem_append, List.mem_singleton]
    rintro (hx | hx)
    · exact hno hx
    · exact hc hx.symm

end Go.Proofs.Ytfijnkhiojejfaa


namespace Go.Proofs.Ytfijnkhiojejfaa
open Go Go.Ab

def bAt (Y : Yd) (x : Int) : Bs := (Y.buses[x.toNat]?).getD ⟨0, 0, 0⟩
def mayB (Y : Yd) (a b : Int) : Prop := (bAt Y a).lo ≤ (bAt Y b).hi
instance (Y : Yd) (a b : Int) : Decidable (mayB Y a b) := inferInstanceAs (Decidable (_ ≤ _))
def isBusB (Y : Yd) (x : Int) : Bool := inB x 0 ((Y.buses.length : Int) - 1)
def possB (Y : Yd) (xs : List Int) : Bool := decide (xs.length = Y.buses.length) && (xs.all (isBusB Y) && (distB xs && decide (xs.Pairwise (mayB Y))))

theorem isBus_at {Y : Yd} {x : Int} (h : isBusB Y x = true) : 0 ≤ x ∧ x.toNat < Y.buses.length ∧ ∀ hx : x.toNat < Y.buses.length, bAt Y x = Y.buses[x.toNat] := by
  simp [isBusB, inB] at h
  refine ⟨h.1, by omega, fun hx => ?_⟩
  simp [bAt, hx]

theorem BssAt.atB {H : Heap} {r b : Value} {Y : Yd} (h : YardAt H r b Y) {x : Int} (hx : isBusB Y x = true) : ∃ n o, islV 3 b (.int .i64 x) = some (.pointer (some ⟨n, o, none⟩)) ∧ n < H.next ∧
    ∀ A, Ge H A → ldA (A.get n) true 3 o = some (busV (bAt Y x)) ∧ ldA (A.get n) false 1 o = some (.int .i64 (bAt Y x).lo) ∧ ldA (A.get n) false 1 (o + 1) = some (.int .i64 (bAt Y x).hi) ∧ ldA (A.get n) false 1 (o + 2) = some (.int .i64 (bAt Y x).turn) := by
  obtain ⟨h0, h1, h2⟩ := isBus_at hx
  obtain ⟨n, o, e1, e2, e3⟩ := BssAt.at h.buses h1
  refine ⟨n, o, ?_, e2, fun A g => ?_⟩
  · rw [← e1]; congr 2; omega
  · rw [h2 h1]; exact e3 A g

end Go.Proofs.Ytfijnkhiojejfaa


namespace Go.Proofs.Ytfijnkhiojejfaa
open Go Go.Ab

theorem isBus_spec {Y : Yd} {r b : Value} {H : Heap} (h : YardAt H r b Y) (x : Int) : AFun Try.prog 72 [yardV Y r b, .int .i64 x] H (fun v B => v = .bool (isBusB Y x) ∧ Ge H B) := by
  refine AFun.mk ok72 hm (Nat.le_of_ble_eq_true rfl) ?_
  have hb := h.buses.one
  have hr := h.room.one
  have h63 := h.buses.2
  have g0 : Ge H (H.new (.cells true [r, b, .int .i64 Y.broken] 3)) := Ge.new _ _
  simp [a72, r72, hb, hr, h.buses.lenV]
  rw [sub_in (by omega) (by omega)]
  simp
  refine fcall_fun (within_spec _ _ _ _) ?_
  rintro _ _ ⟨rfl, rfl⟩
  simp [isBusB]

theorem newComing_spec (H : Heap) : AFun Try.prog 73 [] H (fun v B => v = .agg #[.func (.func 92) #[] #[], .func (.func 93) #[] #[]] ∧ Ge H B) := by
  refine AFun.mk ok73 hm (Nat.le_of_ble_eq_true rfl) ?_
  simp [a73, r73]

theorem before_spec (x y : Bs) (H : Heap) : AFun Try.prog 92 [busV x, busV y] H (fun v B => v = .bool (decide (x.lo ≤ y.hi)) ∧ Ge H B) := by
  refine AFun.mk ok92 hm (Nat.le_of_ble_eq_true rfl) ?_
  simp [a92, r92]

theorem mayFn_spec {Y : Yd} {r b : Value} {H : Heap} {n5 n2 n7 c5 c2 c7 : Nat} {w5 w2 w7 : Bool} {x y : Int} (h : YardAt H r b Y) (k5 : H.get n5 = .cells w5 [.func (.func 92) #[] #[], .func (.func 93) #[] #[]] c5) (k2 : H.get n2 = .cells w2 [r, b, .int .i64 Y.broken] c2)
    (k7 : H.get n7 = .cells w7 [.int .i64 x] c7) (hx : isBusB Y x = true) (hy : isBusB Y y = true) :
    AFun Try.prog 74 [.int .i64 y, .pointer (some ⟨n5, 0, none⟩), .pointer (some ⟨n2, 0, none⟩), .pointer (some ⟨n7, 0, none⟩)] H (fun v B => v = .bool (decide (mayB Y x y)) ∧ Ge H B) := by
  refine AFun.mk ok74 hm (Nat.le_of_ble_eq_true rfl) ?_
  obtain ⟨n1, o1, m1, _, m2⟩ := BssAt.atB h hx
  obtain ⟨n3, o3, q1, _, q2⟩ := BssAt.atB h hy
  have g14 : Ge H (⟨H.get, H.next + 14⟩ : Heap) := Ge.grow_le (by omega) (Ge.refl _)
  simp [a74, r74, k5, k2, k7, m1, q1, (m2 _ (Ge.refl _)).1, (q2 _ (Ge.refl _)).1]
  refine fcall_fun (before_spec (bAt Y x) (bAt Y y) _) ?_
  rintro _ B ⟨rfl, gB⟩
  simp [mayB]
  exact ⟨rfl, g14.trans gB⟩

set_option maxHeartbeats 1000000 in
theorem possible_spec {Y : Yd} {r b v : Value} {H : Heap} {xs : List Int} (h : YardAt H r b Y) (hv : IntsAt H v xs) : AFun Try.prog 55 [yardV Y r b, v] H (fun w B => w = .bool (possB Y xs) ∧ Ge H B) := by
  refine AFun.mk ok55 hm (Nat.le_of_ble_eq_true rfl) ?_
  have hb := h.buses.one
  have hr := h.room.one
  have h62 := hv.2
  have g0 : Ge H (H.new (.cells true [r, b, .int .i64 Y.broken] 3)) := Ge.new _ _
  simp [a55, r55, hb, hr, hv.lenV, h.buses.lenV]
  by_cases hl : xs.length = Y.buses.length
  case neg =>
    have hl2 : ¬ (xs.length : Int) = Y.buses.length := by omega
    have : possB Y xs = false := by simp [possB, hl]
    simp [hl, hl2, this]
  have hl2 : (xs.length : Int) = Y.buses.length := by omega
  simp [hl, hl2]
  refine fcall_fun (every_int_spec (p := isBusB Y) (hv.ge g0) fun n _ A gA => ACall.of_fun (isBus_spec (h.ge (g0.trans gA)) n)) ?_
  rintro _ H1 ⟨rfl, g1⟩
  have G1 := g0.trans g1
  have k1 := g1.got (n := H.next) (by simp) rfl
  have n1 := g1.next
  simp at k1 n1
  cases hbs : xs.all (isBusB Y)
  · have : possB Y xs = false := by simp only [possB, hbs, Bool.false_and, Bool.and_false]
    simp [hl2, this, G1]
  simp [hl2]
  refine fcall_fun (dist_spec (hv.ge G1)) ?_
  rintro _ H2 ⟨rfl, g2⟩
  have G2 := G1.trans g2
  have k2 := g2.got (n := H.next) (by omega) k1
  have n2 := g2.next
  cases hdi : distB xs
  · have : possB Y xs = false := by simp only [possB, hdi, Bool.false_and, Bool.and_false]
    simp [hl2, this, G2]
  simp [hl2]
  have hpe : possB Y xs = decide (xs.Pairwise (mayB Y)) := by simp only [possB, hl, hbs, hdi, decide_true, Bool.true_and]
  refine fcall_fun (newComing_spec _) ?_
  rintro _ H3 ⟨rfl, g3⟩
  have G3 := G2.trans g3
  have k3 := g3.got (n := H.next) (by omega) k2
  have n3 := g3.next
  have e33 : H.next ≠ H3.next := by omega
  simp [hv.lenV]
  generalize hS : Heap.set (Heap.new H3 _) H3.next _ = S
  have gS : Ge H3 S := by rw [← hS]; exact (Ge.new _ _).setNew (Nat.le_refl _) _
  have nS : S.next = H3.next + 1 := by rw [← hS]; simp
  have xS : S.get H3.next = .cells true [.func (.func 92) #[] #[], .func (.func 93) #[] #[]] 2 := by rw [← hS]; simp
  clear hS
  have GS := G3.trans gS
  have kS := gS.got (by omega) k3
  refine floop_intro (fun z => z.d = [] ∧ Ge S z.H ∧ z.t 1 = v ∧ z.t 2 = .pointer (some ⟨H.next, 0, none⟩) ∧ z.t 5 = .pointer (some ⟨H3.next, 0, none⟩) ∧ z.t 28 = v ∧ z.t 29 = .int .i64 xs.length ∧ ∃ i : Nat, i ≤ xs.length ∧ z.t 30 = .int .i64 i ∧ ∀ j (hj : j < xs.length), j < i → ∀ a ∈ xs.drop (j + 1), mayB Y xs[j] a) (fun z => xs.length - (intOf (z.t 30)).toNat) ?_ ?_
  · exact ⟨rfl, Ge.refl _, by simp, by simp, by simp, by simp, by simp [hl2], 0, by simp, by simp, fun j _ hj => by omega⟩
  rintro ⟨t, _, A⟩ ⟨rfl, g, t1, t2, t5, t28, t29, i, hi, t30, hall⟩
  dsimp only at g t1 t2 t5 t28 t29 t30
  have gA := GS.trans g
  have nA := g.next
  simp [t29, t30]
  refine fcond_intro (fun hc => ?_) (fun hc => ?_)
  case refine_2 =>
    have h1 : i = xs.length := by simp at hc; omega
    subst h1
    have : xs.Pairwise (mayB Y) := by
      rw [List.pairwise_iff_getElem]
      intro j k hj hk hjk
      refine hall j hj hj _ ?_
      rw [List.mem_drop_iff_getElem]
      exact ⟨k - (j + 1), by omega, by congr 1; omega⟩
    simp [hpe, this, gA]
  have hi' : i < xs.length := by simpa using hc
  obtain ⟨p, e1, e2⟩ := hv.atAll hi'
  have d1 : H.next ≠ A.next := by omega
  have d2 : H3.next ≠ A.next := by omega
  simp [t1, t2, t5, t28, t30, e1, e2 _ gA]
  rw [add_in (x := (i : Int)) (y := 1) (by omega) (by omega)]
  simp
  obtain ⟨u, s1, s2⟩ := hv.sl_from (k := i + 1) (by omega) hi'
  rw [s1 _ _ _ _ _ .i64 (by simp [t1]) (by simp)]
  simp
  generalize hX : Heap.set (Heap.new A _) A.next _ = X
  have gX : Ge A X := by rw [← hX]; exact (Ge.new _ _).setNew (Nat.le_refl _) _
  have nX : X.next = A.next + 1 := by rw [← hX]; simp
  have xX : X.get A.next = .cells true [.int .i64 xs[i]] 1 := by rw [← hX]; simp
  clear hX
  have hbi : isBusB Y xs[i] = true := List.all_eq_true.1 hbs _ (List.getElem_mem hi')
  refine fcall_fun (every_int_spec (p := fun a => decide (mayB Y xs[i] a)) (s2.ge (gA.trans gX)) fun a ha B gB => (ACall.of_fun (mayFn_spec (x := xs[i]) (y := a) (n5 := H3.next) (n2 := H.next) (n7 := A.next) (h.ge ((gA.trans gX).trans gB)) (gB.got (by omega) (gX.got (by omega) (g.got (by omega) xS))) (gB.got (by omega) (gX.got (by omega) (g.got (by omega) kS))) (gB.got (by omega) xX) hbi (List.all_eq_true.1 hbs _ (List.mem_of_mem_drop ha))))) ?_
  rintro _ B ⟨rfl, gB⟩
  have gAB := gX.trans gB
  cases hd : (xs.drop (i + 1)).all fun a => decide (mayB Y xs[i] a)
  · have : ¬ xs.Pairwise (mayB Y) := fun hp => by
      rw [List.all_eq_false] at hd
      obtain ⟨a, ha, hna⟩ := hd
      refine hna ?_
      rw [decide_eq_true_eq]
      rw [List.pairwise_iff_getElem] at hp
      rw [List.mem_drop_iff_getElem] at ha
      obtain ⟨k, hk, rfl⟩ := ha
      exact hp i (i + 1 + k) hi' (by omega) (by omega)
    simp [hpe, this]
    exact gA.trans gAB
  · simp [t30, add_in (x := i) (y := 1) (by omega) (by omega)]
    refine ⟨⟨g.trans gAB, t1, t2, t5, t28, t29, i + 1, by omega, by omega, fun j hj hji a ha => ?_⟩, by omega⟩
    by_cases e : j = i
    · subst e
      have := List.all_eq_true.1 hd a ha
      simpa using this
    · exact hall j hj (by omega) a ha

end Go.Proofs.Ytfijnkhiojejfaa


namespace Go.Proofs.Ytfijnkhiojejfaa
open Go Go.Ab

def isLaneB (Y : Yd) (x : Int) : Bool := inB x 0 ((Y.room.length : Int) - 1)
def lanesB (Y : Yd) (xs : List Int) : Bool := decide (xs.length = Y.buses.length) && (xs.all (isLaneB Y) && (List.range Y.room.length).all fun l => decide ((xs.count (l : Int) : Int) ≤ Y.room[l]?.getD 0))
def risB (xs : List Int) : Bool := decide (xs.Pairwise (· < ·))
def brokenB (Y : Yd) (xs : List Int) : Bool := decide ((xs.length : Int) ≤ Y.broken) && (xs.all (isBusB Y) && risB xs)

theorem isLane_spec {Y : Yd} {r b : Value} {H : Heap} (h : YardAt H r b Y) (x : Int) : AFun Try.prog 97 [yardV Y r b, .int .i64 x] H (fun v B => v = .bool (isLaneB Y x) ∧ Ge H B) := by
  refine AFun.mk ok97 hm (Nat.le_of_ble_eq_true rfl) ?_
  have hb := h.buses.one
  have hr := h.room.one
  have h63 := h.room.2
  have g0 : Ge H (H.new (.cells true [r, b, .int .i64 Y.broken] 3)) := Ge.new _ _
  simp [a97, r97, h.room.lenV]
  rw [sub_in (by omega) (by omega)]
  simp
  refine fcall_fun (within_spec _ _ _ _) ?_
  rintro _ _ ⟨rfl, rfl⟩
  simp [isLaneB]

theorem isLane_at {Y : Yd} {x : Int} (h : isLaneB Y x = true) : 0 ≤ x ∧ x.toNat < Y.room.length := by
  simp [isLaneB, inB] at h
  omega

theorem count_step {xs : List Int} {i : Nat} (hi : i < xs.length) (l : Int) : (xs.take (i + 1)).count l = (xs.take i).count l + if xs[i] = l then 1 else 0 := by
  rw [List.take_succ_eq_append_getElem hi, List.count_append, List.count_singleton]
  simp
def CntAt (C : List Value) (k : Nat) (xs : List Int) : Prop := C.length = k ∧ ∀ l, l < k → C[l]? = some (.int .i64 ((xs.count (l : Int) : Nat) : Int))
theorem CntAt.step {C : List Value} {k : Nat} {xs : List Int} {i : Nat} (h : CntAt C k (xs.take i)) (hi : i < xs.length) (h0 : 0 ≤ xs[i]) (hk : xs[i].toNat < k) :
    CntAt (C.set xs[i].toNat (.int .i64 (((xs.take i).count xs[i] : Nat) + 1 : Int))) k (xs.take (i + 1)) := by
  refine ⟨by rw [List.length_set]; exact h.1, fun l hl => ?_⟩
  rw [count_step hi]
  by_cases e : xs[i].toNat = l
  · have e2 : xs[i] = (l : Int) := by omega
    rw [← e, List.getElem?_set_self (by rw [h.1]; exact hk), e, e2]
    simp
  · have e2 : xs[i] ≠ (l : Int) := by omega
    rw [List.getElem?_set_ne e, h.2 l hl, if_neg e2]
    simp
theorem CntAt.at {C : List Value} {k : Nat} {xs : List Int} {x : Int} (h : CntAt C k xs) (h0 : 0 ≤ x) (hk : x.toNat < k) : C[x.toNat]? = some (.int .i64 ((xs.count x : Nat) : Int)) := by
  rw [h.2 _ hk]
  have : ((x.toNat : Nat) : Int) = x := by omega
  rw [this]
theorem cnt_zero {k : Nat} : CntAt (List.replicate k (.int .i64 0)) k [] := ⟨by simp, fun l hl => by simp [hl]⟩

set_option maxHeartbeats 1000000 in
theorem areLanes_spec {Y : Yd} {r b v : Value} {H : Heap} {xs : List Int} (h : YardAt H r b Y) (hv : IntsAt H v xs) (hr3 : Y.room.length ≤ 3) : AFun Try.prog 80 [yardV Y r b, v] H (fun w B => w = .bool (lanesB Y xs) ∧ Ge H B) := by
  refine AFun.mk ok80 hm (Nat.le_of_ble_eq_true rfl) ?_
  have hb := h.buses.one
  have hr := h.room.one
  have h62 := hv.2
  have g0 : Ge H (H.new (.cells true [r, b, .int .i64 Y.broken] 3)) := Ge.new _ _
  simp [a80, r80, hv.lenV, h.buses.lenV]
  by_cases hl : xs.length = Y.buses.length
  case neg =>
    have hl2 : ¬ (xs.length : Int) = Y.buses.length := by omega
    have : lanesB Y xs = false := by simp [lanesB, hl]
    simp [hl2, this]
  have hl2 : (xs.length : Int) = Y.buses.length := by omega
  simp [hl]
  refine fcall_fun (every_int_spec (p := isLaneB Y) (hv.ge g0) fun n _ A gA => ACall.of_fun (isLane_spec (h.ge (g0.trans gA)) n)) ?_
  rintro _ H1 ⟨rfl, g1⟩
  have G1 := g0.trans g1
  have k1 := g1.got (n := H.next) (by simp) rfl
  have n1 := g1.next
  simp at k1 n1
  cases hbs : xs.all (isLaneB Y)
  · have : lanesB Y xs = false := by simp only [lanesB, hbs, Bool.false_and, Bool.and_false]
    simp [hl2, this, G1]
  have hlb : lanesB Y xs = (List.range Y.room.length).all fun l => decide ((xs.count (l : Int) : Int) ≤ Y.room[l]?.getD 0) := by simp only [lanesB, hl, hbs, decide_true, Bool.true_and]
  simp [hl2, hv.lenV]
  have hat : ∀ i (hi : i < xs.length), 0 ≤ xs[i] ∧ xs[i].toNat < Y.room.length := fun i hi => isLane_at (List.all_eq_true.1 hbs _ (List.getElem_mem hi))
  refine floop_intro (fun z => z.d = [] ∧ Ge H1 z.H ∧ H1.next < z.H.next ∧ z.t 2 = .pointer (some ⟨H.next, 0, none⟩) ∧ z.t 5 = .pointer (some ⟨H1.next, 0, none⟩) ∧ z.t 23 = v ∧ z.t 24 = .int .i64 xs.length ∧ ∃ (i : Nat) (C : List Value), i ≤ xs.length ∧ z.t 25 = .int .i64 i ∧ z.H.get H1.next = .cells true C 3 ∧ CntAt C 3 (xs.take i)) (fun z => xs.length - (intOf (z.t 25)).toNat) ?_ ?_
  · exact ⟨rfl, by simp, by simp, by simp, by simp, by simp, by simp [hl2], 0, _, by simp, by simp, by simp, cnt_zero⟩
  · rintro ⟨t, _, A⟩ ⟨rfl, g, nA, t2, t5, t23, t24, i, C, hi, t25, aC, hC⟩
    dsimp only at g nA t2 t5 t23 t24 t25 aC
    have gA := G1.trans g
    simp [t24, t25]
    refine fcond_intro (fun hc => ?_) (fun hc => ?_)
    · have hi' : i < xs.length := by simpa using hc
      obtain ⟨q1, q2⟩ := hat i hi'
      obtain ⟨p, e1, e2⟩ := hv.atAll hi'
      have i1 : iarV 3 1 (.pointer (some ⟨H1.next, 0, none⟩)) (.int .i64 xs[i]) = some (.pointer (some ⟨H1.next, xs[i].toNat, none⟩)) := by
        rw [iarV_in q1 (by omega)]; simp
      have c1 := hC.at q1 (show xs[i].toNat < 3 by omega)
      have cl := hC.1
      have hcn : (xs.take i).count xs[i] + 1 < 2 ^ 63 := by
        have := List.count_le_length (a := xs[i]) (l := xs.take i)
        rw [List.length_take] at this; omega
      simp [t5, t23, t25, e1, e2 _ gA, i1, aC, c1]
      rw [add_in (x := (((xs.take i).count xs[i] : Nat) : Int)) (y := 1) (by omega) (by omega)]
      simp [t5, i1, aC, cl]
      rw [if_pos (by omega), wrL_one _ _ _ (by omega)]
      simp [t25, add_in (x := i) (y := 1) (by omega) (by omega)]
      exact ⟨⟨g.setNew (Nat.le_refl _) _, nA, t2, t5, t23, t24, i + 1, by omega, by omega, hC.step hi' q1 (by omega)⟩, by omega⟩
    · have h1 : i = xs.length := by simp at hc; omega
      subst h1
      rw [List.take_length] at hC
      have kA := g.got (by omega) k1
      simp [t2, kA, h.room.lenV]
      refine floop_intro (fun z => z.d = [] ∧ z.H = A ∧ z.t 5 = .pointer (some ⟨H1.next, 0, none⟩) ∧ z.t 36 = r ∧ z.t 37 = .int .i64 Y.room.length ∧ ∃ l : Nat, l ≤ Y.room.length ∧ z.t 38 = .int .i64 l ∧ ∀ j, j < l → (xs.count (j : Int) : Int) ≤ Y.room[j]?.getD 0) (fun z => Y.room.length - (intOf (z.t 38)).toNat) ?_ ?_
      · exact ⟨rfl, rfl, by simp [t5], by simp, by simp, 0, by simp, by simp, fun j hj => by omega⟩
      clear t25 t24 t23 t2 t5
      rintro ⟨t, _, A'⟩ ⟨rfl, eA, t5, t36, t37, l, hl', t38, hall⟩
      dsimp only at eA t5 t36 t37 t38
      subst eA
      simp [t37, t38]
      refine fcond_intro (fun hc => ?_) (fun hc => ?_)
      · have hlr : l < Y.room.length := by simpa using hc
        obtain ⟨p, e1, e2⟩ := h.room.atAll hlr
        have i1 : iarV 3 1 (.pointer (some ⟨H1.next, 0, none⟩)) (.int .i64 (l : Int)) = some (.pointer (some ⟨H1.next, l, none⟩)) := by
          rw [iarV_in (by omega) (by omega)]; simp
        have c1 := hC.2 l (by omega)
        have hrl : Y.room[l]?.getD 0 = Y.room[l] := by simp [hlr]
        simp [t5, t36, t38, e1, e2 _ gA, i1, aC, c1]
        by_cases hx : Y.room[l] < (xs.count (l : Int) : Int)
        · have : lanesB Y xs = false := by
            rw [hlb, List.all_eq_false]
            exact ⟨l, by simp [hlr], by simp [hlr]; omega⟩
          simp [hx, this, gA]
        · simp [hx, t38, add_in (x := l) (y := 1) (by have := h.room.2; omega) (by have := h.room.2; omega)]
          refine ⟨⟨t5, t36, t37, l + 1, by omega, by omega, fun j hj => ?_⟩, by omega⟩
          by_cases e : j = l
          · subst e; rw [hrl]; omega
          · exact hall j (by omega)
      · have h1 : l = Y.room.length := by simp at hc; omega
        subst h1
        have : lanesB Y xs = true := by
          rw [hlb, List.all_eq_true]
          intro j hj
          rw [decide_eq_true_eq]
          exact hall j (by simpa using hj)
        simp [this, gA]

theorem rising_spec {H : Heap} {v : Value} {xs : List Int} (hv : IntsAt H v xs) : AFun Try.prog 94 [v] H (fun r B => r = .bool (risB xs) ∧ Ge H B) := by
  refine AFun.mk ok94 hm (Nat.le_of_ble_eq_true rfl) ?_
  have h62 := hv.2
  simp [a94, r94]
  refine floop_intro (fun z => z.d = [] ∧ Ge H z.H ∧ z.t 0 = v ∧ ∃ i : Nat, 1 ≤ i ∧ z.t 3 = .int .i64 i ∧ (xs.take i).Pairwise (· < ·)) (fun z => xs.length - (intOf (z.t 3)).toNat) ?_ ?_
  · refine ⟨rfl, by simp, by simp, 1, by simp, by simp, ?_⟩
    cases xs <;> simp
  rintro ⟨t, _, A⟩ ⟨rfl, g, t0, i, hi, t3, hp⟩
  dsimp only at g t0 t3
  simp [t0, t3, hv.lenV]
  refine fcond_intro (fun hc => ?_) (fun hc => ?_)
  case refine_2 =>
    have h1 : xs.length ≤ i := by simp at hc; omega
    rw [List.take_of_length_le h1] at hp
    simp [risB, hp, g]
  have hi' : i < xs.length := by simpa using hc
  obtain ⟨p, e1, e2⟩ := hv.atAll hi'
  obtain ⟨q, f1, f2⟩ := hv.atAll (i := i - 1) (by omega)
  have ei : (((i - 1 : Nat) : Nat) : Int) = (i : Int) - 1 := by omega
  rw [ei] at f1
  have g10 := g.grow 10
  simp [t0, t3, e1, e2 _ g10, sub_in (x := i) (y := 1) (by omega) (by omega), f1, f2 _ g10]
  have eP := List.take_succ_eq_append_getElem hi'
  have hmem : xs[i - 1] ∈ xs.take i := by
    have : i - 1 < (xs.take i).length := by rw [List.length_take]; omega
    have e := List.getElem_take (xs := xs) (j := i) (i := i - 1) (h := this)
    rw [← e]; exact List.getElem_mem this
  by_cases hx : xs[i] ≤ xs[i - 1]
  · have : ¬ xs.Pairwise (· < ·) := fun hh => by
      have := hh.sublist (List.take_sublist (i + 1) xs)
      rw [eP, List.pairwise_append] at this
      have := this.2.2 _ hmem xs[i] (by simp)
      omega
    simp [hx, risB, this, g10]
  · simp [hx, t3, add_in (x := i) (y := 1) (by omega) (by omega)]
    refine ⟨⟨g10, t0, i + 1, by omega, by omega, ?_⟩, by omega⟩
    rw [eP, List.pairwise_append]
    refine ⟨hp, by simp, fun a ha c hc => ?_⟩
    simp at hc; subst hc
    obtain ⟨j, hj, rfl⟩ := List.mem_iff_getElem.1 ha
    rw [List.getElem_take]
    rw [List.length_take] at hj
    by_cases e : j = i - 1
    · subst e; omega
    · have := List.pairwise_iff_getElem.1 hp j (i - 1) (by rw [List.length_take]; omega) (by rw [List.length_take]; omega) (by omega)
      rw [List.getElem_take, List.getElem_take] at this
      omega

theorem mayBreak_spec {Y : Yd} {r b v : Value} {H : Heap} {xs : List Int} (h : YardAt H r b Y) (hv : IntsAt H v xs) : AFun Try.prog 75 [yardV Y r b, v] H (fun w B => w = .bool (brokenB Y xs) ∧ Ge H B) := by
  refine AFun.mk ok75 hm (Nat.le_of_ble_eq_true rfl) ?_
  have hb := h.buses.one
  have hr := h.room.one
  have g0 : Ge H (H.new (.cells true [r, b, .int .i64 Y.broken] 3)) := Ge.new _ _
  simp [a75, r75, hv.lenV]
  by_cases hl : (xs.length : Int) ≤ Y.broken
  case neg =>
    have : brokenB Y xs = false := by simp [brokenB, hl]
    simp [hl, this]
  simp [hl]
  refine fcall_fun (every_int_spec (p := isBusB Y) (hv.ge g0) fun n _ A gA => ACall.of_fun (isBus_spec (h.ge (g0.trans gA)) n)) ?_
  rintro _ H1 ⟨rfl, g1⟩
  have G1 := g0.trans g1
  cases hbs : xs.all (isBusB Y)
  · have : brokenB Y xs = false := by simp only [brokenB, hbs, Bool.false_and, Bool.and_false]
    simp [hl, this, G1]
  simp [hl]
  refine fcall_fun (rising_spec (hv.ge G1)) ?_
  rintro _ H2 ⟨rfl, g2⟩
  have : brokenB Y xs = risB xs := by simp [brokenB, hl, hbs]
  simp [hl, this]
  exact G1.trans g2

theorem checkLanes_spec {Y : Yd} {r b v : Value} {H : Heap} {xs : List Int} (h : YardAt H r b Y) (hv : IntsAt H v xs) :
    AFun Try.prog 63 [yardV Y r b, v] H (fun w B => w = .int .i64 (if checkY Y = 0 then (if lanesB Y xs then 0 else 2) else checkY Y) ∧ Ge H B) := by
  refine AFun.mk ok63 hm (Nat.le_of_ble_eq_true rfl) ?_
  have hb := h.buses.one
  have hr := h.room.one
  have g0 : Ge H (H.new (.cells true [r, b, .int .i64 Y.broken] 3)) := Ge.new _ _
  simp [a63, r63]
  refine fcall_fun (checkYard_spec (h.ge g0)) ?_
  rintro _ H1 ⟨rfl, g1⟩
  have G1 := g0.trans g1
  have k1 := g1.got (n := H.next) (by simp) rfl
  simp at k1
  by_cases hc : checkY Y = 0
  case neg => simp [hc, G1]
  have hr3 : Y.room.length ≤ 3 := by
    unfold checkY at hc
    split at hc
    · omega
    · omega
  simp [hc, k1]
  refine fcall_fun (areLanes_spec (h.ge G1) (hv.ge G1) hr3) ?_
  rintro _ H2 ⟨rfl, g2⟩
  cases hl : lanesB Y xs <;> simp [hc, G1.trans g2]

def checkN (Y : Yd) (ls os bs : List Int) : Int := if checkY Y = 0 then (if lanesB Y ls && (possB Y os && brokenB Y bs) then 0 else 2) else checkY Y
theorem checkNight_spec {Y : Yd} {r b v u w : Value} {H : Heap} {ls os bs : List Int} (h : YardAt H r b Y) (hv : IntsAt H v ls) (hu : IntsAt H u os) (hw : IntsAt H w bs) :
    AFun Try.prog 57 [yardV Y r b, v, u, w] H (fun w B => w = .int .i64 (checkN Y ls os bs) ∧ Ge H B) := by
  refine AFun.mk ok57 hm (Nat.le_of_ble_eq_true rfl) ?_
  have hb := h.buses.one
  have hr := h.room.one
  have g0 : Ge H (H.new (.cells true [r, b, .int .i64 Y.broken] 3)) := Ge.new _ _
  simp [a57, r57]
  refine fcall_fun (checkLanes_spec (xs := ls) (h.ge g0) (hv.ge g0)) ?_
  rintro _ H1 ⟨rfl, g1⟩
  have G1 := g0.trans g1
  have k1 := g1.got (n := H.next) (by simp) rfl
  have n1 := g1.next
  simp at k1 n1
  by_cases hc : checkY Y = 0
  case neg => simp [hc, checkN, G1]
  cases hl : lanesB Y ls
  · simp [hc, hl, checkN, G1]
  simp [hc, k1]
  refine fcall_fun (possible_spec (xs := os) (h.ge G1) (hu.ge G1)) ?_
  rintro _ H2 ⟨rfl, g2⟩
  have G2 := G1.trans g2
  have k2 := g2.got (n := H.next) (by omega) k1
  cases hp : possB Y os
  · simp [hc, hl, hp, checkN, G2]
  simp [k2]
  refine fcall_fun (mayBreak_spec (xs := bs) (h.ge G2) (hw.ge G2)) ?_
  rintro _ H3 ⟨rfl, g3⟩
  cases hbr : brokenB Y bs <;> simp [hc, hl, hp, hbr, checkN, G2.trans g3]

end Go.Proofs.Ytfijnkhiojejfaa


namespace Go.Proofs.Ytfijnkhiojejfaa
open Go Go.Ab

theorem zrep_int (k : Nat) : zrep k [Value.int .i64 0] = List.replicate k (.int .i64 0) := by
  induction k with
  | zero => rfl
  | succ k ih => simp [zrep, List.replicate_succ] at ih ⊢; try exact ih

theorem okY_facts {Y : Yd} (h : checkY Y = 0) : Y.room.length ≤ 3 ∧ Y.buses.length ≤ 8 ∧ Y.room ≠ [] ∧ (∀ x ∈ Y.room, 0 ≤ x ∧ x ≤ 8) ∧ (∀ x ∈ Y.buses, 0 ≤ x.lo ∧ x.lo ≤ x.hi ∧ x.hi ≤ 2000 ∧ 0 ≤ x.turn ∧ x.turn ≤ 2000) ∧ (turnsOf Y).Nodup ∧ 0 ≤ Y.broken ∧ Y.broken ≤ 2 := by
  unfold checkY at h
  split at h
  · omega
  · split at h
    · rename_i h1 h2
      simp [okY, inB, distB, okBus] at h2
      obtain ⟨k1, k2, k3, k4, k5, k6⟩ := h2
      refine ⟨by omega, by omega, k1, k2, fun x hx => ?_, k4, k5, k6⟩
      have := k3 x hx
      omega
    · omega
theorem okY_pos {Y : Yd} (h : checkY Y = 0) (l : Nat) : 0 ≤ Y.room[l]?.getD 0 := by
  obtain ⟨_, _, _, h4, _⟩ := okY_facts h
  cases e : Y.room[l]? with
  | none => simp
  | some x => simp; exact (h4 x (List.mem_of_getElem? e)).1

end Go.Proofs.Ytfijnkhiojejfaa


namespace Go.Proofs.Ytfijnkhiojejfaa
open Go Go.Ab

def updF {α : Type} (f : Nat → α) (k : Nat) (v : α) (j : Nat) : α := if j = k then v else f j
def plC (p : Nat → Int) : List Value := (List.range 8).map fun k => .int .i64 (p k)
def dnC (d : Nat → Bool) : List Value := (List.range 8).map fun k => .bool (d k)
def stC (s : Nat → Int × Int) : List Value := (List.range 8).flatMap fun k => [.int .i64 (s k).1, .int .i64 (s k).2]
def nightC (Y : Yd) (r b : Value) (s : Nat → Int × Int) (d : Nat → Bool) : List Value := r :: b :: .int .i64 Y.broken :: (stC s ++ dnC d)
abbrev nightV (Y : Yd) (r b : Value) (s : Nat → Int × Int) (d : Nat → Bool) : Value := .agg (nightC Y r b s d).toArray
abbrev standV (x : Int × Int) : Value := .agg #[.int .i64 x.1, .int .i64 x.2]

@[simp] theorem plC_len (p : Nat → Int) : (plC p).length = 8 := rfl
@[simp] theorem dnC_len (p : Nat → Bool) : (dnC p).length = 8 := rfl
@[simp] theorem stC_len (p : Nat → Int × Int) : (stC p).length = 16 := rfl
@[simp] theorem nightC_len (Y : Yd) (r b : Value) (s : Nat → Int × Int) (d : Nat → Bool) : (nightC Y r b s d).length = 27 := rfl
@[simp] theorem plC_one (p : Nat → Int) : (plC p).all one = true := rfl
@[simp] theorem dnC_one (p : Nat → Bool) : (dnC p).all one = true := rfl
@[simp] theorem nightC_one {Y : Yd} {r b : Value} {s : Nat → Int × Int} {d : Nat → Bool} (hr : one r = true) (hb : one b = true) : (nightC Y r b s d).all one = true := by
  show (one r && (one b && _)) = true
  rw [hr, hb]; rfl
theorem plC_rd (p : Nat → Int) : rdL (plC p) 0 8 = some (plC p) := rfl
theorem dnC_rd (p : Nat → Bool) : rdL (dnC p) 0 8 = some (dnC p) := rfl
theorem nightC_rd (Y : Yd) (r b : Value) (s : Nat → Int × Int) (d : Nat → Bool) : rdL (nightC Y r b s d) 0 27 = some (nightC Y r b s d) := rfl
theorem plC_at (p : Nat → Int) : ∀ k, k < 8 → (plC p)[k]? = some (.int .i64 (p k))
  | 0, _ | 1, _ | 2, _ | 3, _ | 4, _ | 5, _ | 6, _ | 7, _ => rfl
  | k + 8, h => by omega
theorem plC_set (p : Nat → Int) (v : Int) : ∀ k, k < 8 → (plC p).set k (.int .i64 v) = plC (updF p k v)
  | 0, _ | 1, _ | 2, _ | 3, _ | 4, _ | 5, _ | 6, _ | 7, _ => rfl
  | k + 8, h => by omega
theorem dnC_set (p : Nat → Bool) (v : Bool) : ∀ k, k < 8 → (dnC p).set k (.bool v) = dnC (updF p k v)
  | 0, _ | 1, _ | 2, _ | 3, _ | 4, _ | 5, _ | 6, _ | 7, _ => rfl
  | k + 8, h => by omega
theorem nightC_stand (Y : Yd) (r b : Value) (s : Nat → Int × Int) (d : Nat → Bool) : ∀ k, k < 8 → rdL (nightC Y r b s d) (3 + k * 2) 2 = some [.int .i64 (s k).1, .int .i64 (s k).2]
  | 0, _ | 1, _ | 2, _ | 3, _ | 4, _ | 5, _ | 6, _ | 7, _ => rfl
  | k + 8, h => by omega
theorem nightC_down (Y : Yd) (r b : Value) (s : Nat → Int × Int) (d : Nat → Bool) : ∀ k, k < 8 → (nightC Y r b s d)[19 + k]? = some (.bool (d k))
  | 0, _ | 1, _ | 2, _ | 3, _ | 4, _ | 5, _ | 6, _ | 7, _ => rfl
  | k + 8, h => by omega
theorem nightC_put (Y : Yd) (r b : Value) (s : Nat → Int × Int) (d : Nat → Bool) (v : Int × Int) : ∀ k, k < 8 → wrL (nightC Y r b s d) (3 + k * 2) [.int .i64 v.1, .int .i64 v.2] = nightC Y r b (updF s k v) d
  | 0, _ | 1, _ | 2, _ | 3, _ | 4, _ | 5, _ | 6, _ | 7, _ => rfl
  | k + 8, h => by omega
theorem night_zero (Y : Yd) (r b : Value) (d : Nat → Bool) : nightC Y r b (fun _ => (0, 0)) d = [r, b, .int .i64 Y.broken, .int .i64 0, .int .i64 0, .int .i64 0, .int .i64 0, .int .i64 0, .int .i64 0, .int .i64 0, .int .i64 0, .int .i64 0, .int .i64 0, .int .i64 0, .int .i64 0, .int .i64 0, .int .i64 0, .int .i64 0, .int .i64 0] ++ dnC d := rfl
def placeTo (xs : List Int) : Nat → Nat → Int
  | 0, _ => 0
  | i + 1, k => if xs[i]? = some (k : Int) then i else placeTo xs i k
theorem placeTo_step {xs : List Int} {i : Nat} (hi : i < xs.length) (h0 : 0 ≤ xs[i]) : updF (placeTo xs i) xs[i].toNat (i : Int) = placeTo xs (i + 1) := by
  funext k
  simp only [updF, placeTo, List.getElem?_eq_getElem hi, Option.some.injEq]
  by_cases e : k = xs[i].toNat
  · rw [if_pos e, if_pos (by omega)]
  · rw [if_neg e, if_neg (by omega)]

theorem placesIn_spec {H : Heap} {v : Value} {xs : List Int} (hv : IntsAt H v xs) (h8 : ∀ x ∈ xs, 0 ≤ x ∧ x < 8) : AFun Try.prog 59 [v] H (fun r B => r = .agg (plC (placeTo xs xs.length)).toArray ∧ Ge H B) := by
  refine AFun.mk ok59 hm (Nat.le_of_ble_eq_true rfl) ?_
  have h62 := hv.2
  simp [a59, r59, hv.lenV]
  have g0 : Ge H ((H.new (.cells true [.int .i64 0, .int .i64 0, .int .i64 0, .int .i64 0, .int .i64 0, .int .i64 0, .int .i64 0, .int .i64 0] 8)).new (.cells true [.int .i64 0, .int .i64 0, .int .i64 0, .int .i64 0, .int .i64 0, .int .i64 0, .int .i64 0, .int .i64 0] 8)) := (Ge.new _ _).newOf _
  refine floop_intro (fun z => z.d = [] ∧ Ge H z.H ∧ H.next + 2 ≤ z.H.next ∧ z.t 2 = .pointer (some ⟨H.next, 0, none⟩) ∧ z.t 3 = .pointer (some ⟨H.next + 1, 0, none⟩) ∧ z.t 6 = v ∧ z.t 7 = .int .i64 xs.length ∧ z.H.get H.next = .cells true (plC fun _ => 0) 8 ∧ ∃ i : Nat, i ≤ xs.length ∧ z.t 8 = .int .i64 i ∧ z.H.get (H.next + 1) = .cells true (plC (placeTo xs i)) 8) (fun z => xs.length - (intOf (z.t 8)).toNat) ?_ ?_
  · exact ⟨rfl, g0, by simp, by simp, by simp, by simp, by simp, by simp; rfl, 0, by simp, by simp, by simp; rfl⟩
  rintro ⟨t, _, A⟩ ⟨rfl, g, nA, t2, t3, t6, t7, a0, i, hi, t8, a1⟩
  dsimp only at g nA t2 t3 t6 t7 a0 t8 a1
  simp [t7, t8]
  refine fcond_intro (fun hc => ?_) (fun hc => ?_)
  · have hi' : i < xs.length := by simpa using hc
    obtain ⟨q1, q2⟩ := h8 _ (List.getElem_mem hi')
    obtain ⟨p, e1, e2⟩ := hv.atAll hi'
    have i1 : iarV 8 1 (.pointer (some ⟨H.next + 1, 0, none⟩)) (.int .i64 xs[i]) = some (.pointer (some ⟨H.next + 1, xs[i].toNat, none⟩)) := by
      rw [iarV_in q1 (by omega)]; simp
    have hlt : xs[i].toNat < 8 := by omega
    simp [t3, t6, t8, e1, e2 _ g, i1, a1]
    rw [if_pos (by omega), wrL_one _ _ _ (by rw [plC_len]; omega), plC_set _ _ _ hlt, placeTo_step hi' q1]
    simp [t8, add_in (x := i) (y := 1) (by omega) (by omega)]
    exact ⟨⟨g.setNew (by omega) _, nA, t2, t3, t6, t7, a0, i + 1, by omega, by omega, by simp⟩, by omega⟩
  · have h1 : i = xs.length := by simp at hc; omega
    subst h1
    have e0 : plC (fun _ => 0) = [.int .i64 0, .int .i64 0, .int .i64 0, .int .i64 0, .int .i64 0, .int .i64 0, .int .i64 0, .int .i64 0] := rfl
    rw [e0] at a0
    simp [t2, t3, a1, plC_rd, a0]
    exact g.setNew (by omega) _

def inF (xs : List Int) (k : Nat) : Bool := decide ((k : Int) ∈ xs)
theorem inF_step {xs : List Int} {i : Nat} (hi : i < xs.length) (h0 : 0 ≤ xs[i]) : updF (inF (xs.take i)) xs[i].toNat true = inF (xs.take (i + 1)) := by
  funext k
  simp only [updF, inF, List.take_succ_eq_append_getElem hi, List.mem_append, List.mem_singleton]
  by_cases e : k = xs[i].toNat
  · rw [if_pos e]
    have : (k : Int) = xs[i] := by omega
    simp [this]
  · rw [if_neg e]
    have : ¬ (k : Int) = xs[i] := by omega
    simp [this]

theorem choose_spec {H : Heap} {v : Value} {xs : List Int} (hv : IntsAt H v xs) (h8 : ∀ x ∈ xs, 0 ≤ x ∧ x < 8) : AFun Try.prog 60 [v] H (fun r B => r = .agg (dnC (inF xs)).toArray ∧ Ge H B) := by
  refine AFun.mk ok60 hm (Nat.le_of_ble_eq_true rfl) ?_
  have h62 := hv.2
  simp [a60, r60, hv.lenV]
  have g0 : Ge H ((H.new (.cells true [.bool false, .bool false, .bool false, .bool false, .bool false, .bool false, .bool false, .bool false] 8)).new (.cells true [.bool false, .bool false, .bool false, .bool false, .bool false, .bool false, .bool false, .bool false] 8)) := (Ge.new _ _).newOf _
  refine floop_intro (fun z => z.d = [] ∧ Ge H z.H ∧ H.next + 2 ≤ z.H.next ∧ z.t 2 = .pointer (some ⟨H.next, 0, none⟩) ∧ z.t 3 = .pointer (some ⟨H.next + 1, 0, none⟩) ∧ z.t 6 = v ∧ z.t 7 = .int .i64 xs.length ∧ z.H.get H.next = .cells true (dnC fun _ => false) 8 ∧ ∃ i : Nat, i ≤ xs.length ∧ z.t 8 = .int .i64 i ∧ z.H.get (H.next + 1) = .cells true (dnC (inF (xs.take i))) 8) (fun z => xs.length - (intOf (z.t 8)).toNat) ?_ ?_
  · exact ⟨rfl, g0, by simp, by simp, by simp, by simp, by simp, by simp; rfl, 0, by simp, by simp, by simp; rfl⟩
  rintro ⟨t, _, A⟩ ⟨rfl, g, nA, t2, t3, t6, t7, a0, i, hi, t8, a1⟩
  dsimp only at g nA t2 t3 t6 t7 a0 t8 a1
  simp [t7, t8]
  refine fcond_intro (fun hc => ?_) (fun hc => ?_)
  · have hi' : i < xs.length := by simpa using hc
    obtain ⟨q1, q2⟩ := h8 _ (List.getElem_mem hi')
    obtain ⟨p, e1, e2⟩ := hv.atAll hi'
    have i1 : iarV 8 1 (.pointer (some ⟨H.next + 1, 0, none⟩)) (.int .i64 xs[i]) = some (.pointer (some ⟨H.next + 1, xs[i].toNat, none⟩)) := by
      rw [iarV_in q1 (by omega)]; simp
    have hlt : xs[i].toNat < 8 := by omega
    simp [t3, t6, t8, e1, e2 _ g, i1, a1]
    rw [if_pos (by omega), wrL_one _ _ _ (by rw [dnC_len]; omega), dnC_set _ _ _ hlt, inF_step hi' q1]
    simp [t8, add_in (x := i) (y := 1) (by omega) (by omega)]
    exact ⟨⟨g.setNew (by omega) _, nA, t2, t3, t6, t7, a0, i + 1, by omega, by omega, by simp⟩, by omega⟩
  · have h1 : i = xs.length := by simp at hc; omega
    subst h1
    rw [List.take_length] at a1
    have e0 : dnC (fun _ => false) = [.bool false, .bool false, .bool false, .bool false, .bool false, .bool false, .bool false, .bool false] := rfl
    rw [e0] at a0
    simp [t2, t3, a1, dnC_rd, a0]
    exact g.setNew (by omega) _

def standF (ls : List Int) (p : Nat → Int) (k : Nat) : Int × Int := if k < ls.length then (ls[k]?.getD 0, p k) else (0, 0)
theorem standF_zero (ls : List Int) (p : Nat → Int) : standF (ls.take 0) p = fun _ => (0, 0) := by
  funext k; simp [standF]
theorem standF_step {ls : List Int} {p : Nat → Int} {i : Nat} (hi : i < ls.length) : updF (standF (ls.take i) p) i (ls[i], p i) = standF (ls.take (i + 1)) p := by
  funext k
  simp only [updF, standF, List.length_take]
  by_cases e : k = i
  · subst e
    rw [if_pos rfl, if_pos (by omega)]
    simp [hi]
  · rw [if_neg e]
    by_cases h : k < i
    · rw [if_pos (by omega), if_pos (by omega), List.getElem?_take_of_lt h, List.getElem?_take_of_lt (by omega)]
    · rw [if_neg (by omega), if_neg (by omega)]

set_option maxHeartbeats 1000000 in
theorem newNight_spec {Y : Yd} {r b v : Value} {H : Heap} {ls : List Int} {p : Nat → Int} {d : Nat → Bool} (h : YardAt H r b Y) (hv : IntsAt H v ls) (h8 : ls.length ≤ 8) :
    AFun Try.prog 58 [yardV Y r b, v, .agg (plC p).toArray, .agg (dnC d).toArray] H (fun w B => w = nightV Y r b (standF ls p) d ∧ Ge H B) := by
  refine AFun.mk ok58 hm (Nat.le_of_ble_eq_true rfl) ?_
  have hb := h.buses.one
  have hr := h.room.one
  simp [a58, r58, hb, hr, hv.lenV, dnC_rd]
  have g0 : ∀ x4 x6 x7 x8 x9 : AObj, Ge H ((((((H.new x4).new x6).new x7).new x8).new x9)) := fun _ _ _ _ _ => ((((Ge.new _ _).newOf _).newOf _).newOf _).newOf _
  refine floop_intro (fun z => z.d = [] ∧ Ge H z.H ∧ H.next + 5 ≤ z.H.next ∧ z.t 6 = .pointer (some ⟨H.next + 1, 0, none⟩) ∧ z.t 8 = .pointer (some ⟨H.next + 3, 0, none⟩) ∧ z.t 9 = .pointer (some ⟨H.next + 4, 0, none⟩) ∧ z.t 15 = v ∧ z.t 16 = .int .i64 ls.length ∧ z.H.get (H.next + 1) = .cells true (plC p) 8 ∧
    z.H.get (H.next + 3) = .cells true [.slice none 0 0, .slice none 0 0, .int .i64 0, .int .i64 0, .int .i64 0, .int .i64 0, .int .i64 0, .int .i64 0, .int .i64 0, .int .i64 0, .int .i64 0, .int .i64 0, .int .i64 0, .int .i64 0, .int .i64 0, .int .i64 0, .int .i64 0, .int .i64 0, .int .i64 0, .bool false, .bool false, .bool false, .bool false, .bool false, .bool false, .bool false, .bool false] 27 ∧
    ∃ i : Nat, i ≤ ls.length ∧ z.t 17 = .int .i64 i ∧ z.H.get (H.next + 4) = .cells true (nightC Y r b (standF (ls.take i) p) d) 27) (fun z => ls.length - (intOf (z.t 17)).toNat) ?_ ?_
  · refine ⟨rfl, ?_, by simp, by simp, by simp, by simp, by simp, by simp, by simp, by simp, 0, by simp, by simp, ?_⟩
    · exact ((((((Ge.new _ _).newOf _).newOf _).newOf _).newOf _)).setNew (by omega) _
    · rw [standF_zero, night_zero]; simp
  rintro ⟨t, _, A⟩ ⟨rfl, g, nA, t6, t8, t9, t15, t16, a1, a3, i, hi, t17, a4⟩
  dsimp only at g nA t6 t8 t9 t15 t16 a1 a3 t17 a4
  simp [t16, t17]
  refine fcond_intro (fun hc => ?_) (fun hc => ?_)
  · have hi' : i < ls.length := by simpa using hc
    have hi8 : i < 8 := by omega
    obtain ⟨q, e1, e2⟩ := hv.atAll hi'
    have i1 : iarV 8 1 (.pointer (some ⟨H.next + 1, 0, none⟩)) (.int .i64 (i : Int)) = some (.pointer (some ⟨H.next + 1, i, none⟩)) := by
      rw [iarV_in (by omega) (by omega)]; simp
    have i2 : iarV 8 2 (.pointer (some ⟨H.next + 4, 3, none⟩)) (.int .i64 (i : Int)) = some (.pointer (some ⟨H.next + 4, 3 + i * 2, none⟩)) := by
      rw [iarV_in (by omega) (by omega)]; simp
    have hp := plC_at p i hi8
    simp [t6, t9, t15, t17, e1, e2 _ g, i1, i2, a1, a4, hp]
    rw [if_pos (by omega)]
    have hput := nightC_put Y r b (standF (ls.take i) p) d (ls[i], p i) i hi8
    rw [standF_step hi'] at hput
    simp only at hput
    rw [hput]
    simp [t17, add_in (x := i) (y := 1) (by omega) (by omega)]
    exact ⟨⟨g.setNew (by omega) _, nA, t6, t8, t9, t15, t16, a1, a3, i + 1, by omega, by omega, rfl⟩, by omega⟩
  · have h1 : i = ls.length := by simp at hc; omega
    subst h1
    rw [List.take_length] at a4
    simp [t8, t9, a3, a4, nightC_rd, nightC_one hr hb]
    exact g.setNew (by omega) _

end Go.Proofs.Ytfijnkhiojejfaa


namespace Go.Proofs.Ytfijnkhiojejfaa
open Go Go.Ab

section
variable {α : Type}
def swapL (l : List α) (j : Nat) : List α := match l[j]?, l[j + 1]? with
  | some x, some y => (l.set (j + 1) x).set j y
  | _, _ => l
def sink (lt : α → α → Bool) (l : List α) : Nat → List α
  | 0 => l
  | j + 1 => match l[j]?, l[j + 1]? with
    | some x, some y => if lt y x then sink lt (swapL l j) j else l
    | _, _ => l
def insTo (lt : α → α → Bool) (l : List α) : Nat → List α
  | 0 => l
  | i + 1 => sink lt (insTo lt l i) i
def insSort (lt : α → α → Bool) (l : List α) : List α := insTo lt l l.length

theorem swapL_length (l : List α) (j : Nat) : (swapL l j).length = l.length := by
  unfold swapL; split <;> simp
theorem swapL_eq {l : List α} {j : Nat} (hj : j + 1 < l.length) : swapL l j = (l.set (j + 1) l[j]).set j l[j + 1] := by
  simp [swapL, (by omega : j < l.length), hj]
theorem swapL_get {l : List α} {j : Nat} (hj : j + 1 < l.length) (k : Nat) : (swapL l j)[k]? = if k = j then l[j + 1]? else if k = j + 1 then l[j]? else l[k]? := by
  rw [swapL_eq hj]
  by_cases e1 : k = j
  · subst e1
    rw [if_pos rfl, List.getElem?_set_self (by simp; omega), List.getElem?_eq_getElem hj]
  · rw [if_neg e1, List.getElem?_set_ne (Ne.symm e1)]
    by_cases e2 : k = j + 1
    · subst e2
      rw [if_pos rfl, List.getElem?_set_self hj, List.getElem?_eq_getElem (by omega)]
    · rw [if_neg e2, List.getElem?_set_ne (Ne.symm e2)]
theorem sink_length (lt : α → α → Bool) : ∀ (j : Nat) (l : List α), (sink lt l j).length = l.length
  | 0, _ => rfl
  | j + 1, l => by
    unfold sink
    split
    · split
      · rw [sink_length lt j, swapL_length]
      · rfl
    · rfl
theorem insTo_length (lt : α → α → Bool) (l : List α) : ∀ i, (insTo lt l i).length = l.length
  | 0 => rfl
  | i + 1 => by rw [insTo, sink_length, insTo_length lt l i]
theorem swapL_perm (l : List α) (j : Nat) : (swapL l j).Perm l := by
  unfold swapL
  split
  · rename_i x y h1 h2
    obtain ⟨a1, rfl⟩ := List.getElem?_eq_some_iff.1 h1
    obtain ⟨a2, rfl⟩ := List.getElem?_eq_some_iff.1 h2
    exact List.set_set_perm a2 a1
  · exact List.Perm.refl _
theorem sink_perm (lt : α → α → Bool) : ∀ (j : Nat) (l : List α), (sink lt l j).Perm l
  | 0, _ => List.Perm.refl _
  | j + 1, l => by
    unfold sink
    split
    · split
      · exact (sink_perm lt j _).trans (swapL_perm l j)
      · exact List.Perm.refl _
    · exact List.Perm.refl _
theorem insTo_perm (lt : α → α → Bool) (l : List α) : ∀ i, (insTo lt l i).Perm l
  | 0 => List.Perm.refl _
  | i + 1 => (sink_perm lt i _).trans (insTo_perm lt l i)
theorem sink_stop {lt : α → α → Bool} {m : List α} {j : Nat} (hj : j + 1 < m.length) (h : lt m[j + 1] m[j] = false) : sink lt m (j + 1) = m := by
  simp [sink, hj, (by omega : j < m.length), h]
theorem sink_go {lt : α → α → Bool} {m : List α} {j : Nat} (hj : j + 1 < m.length) (h : lt m[j + 1] m[j] = true) : sink lt m (j + 1) = sink lt (swapL m j) j := by
  simp [sink, hj, (by omega : j < m.length), h]
def SortedTo (f : α → Int) (l : List α) (i : Nat) : Prop := ∀ a b x y, a < b → b ≤ i → l[a]? = some x → l[b]? = some y → f x ≤ f y
theorem sink_sorted {f : α → Int} {lt : α → α → Bool} (hlt : ∀ x y, lt x y = decide (f x < f y)) : ∀ (j : Nat) (l : List α) (i : Nat), j ≤ i →
    (∀ a b x y, a < b → b ≤ i → a ≠ j → b ≠ j → l[a]? = some x → l[b]? = some y → f x ≤ f y) → (∀ b x y, j < b → b ≤ i → l[j]? = some x → l[b]? = some y → f x ≤ f y) → SortedTo f (sink lt l j) i
  | 0, l, i, _, h1, h2 => fun a b x y hab hb ha hb' => by
    by_cases e : a = 0
    · subst e; exact h2 b x y hab hb ha hb'
    · exact h1 a b x y hab hb e (by omega) ha hb'
  | j + 1, l, i, hji, h1, h2 => by
    by_cases hj : j + 1 < l.length
    case neg =>
      have e : sink lt l (j + 1) = l := by
        unfold sink
        rw [List.getElem?_eq_none (show l.length ≤ j + 1 by omega)]
        split
        · rename_i h; cases h
        · rfl
      rw [e]
      intro a b x y hab hb ha hb'
      have := (List.getElem?_eq_some_iff.1 hb').1
      exact h1 a b x y hab hb (by omega) (by omega) ha hb'
    have gj : l[j]? = some l[j] := List.getElem?_eq_getElem (by omega)
    have gj1 : l[j + 1]? = some l[j + 1] := List.getElem?_eq_getElem hj
    cases h : lt l[j + 1] l[j]
    · rw [sink_stop hj h]
      rw [hlt, decide_eq_false_iff_not] at h
      intro a b x y hab hb ha hb'
      by_cases ea : a = j + 1
      · subst ea; exact h2 b x y hab hb ha hb'
      by_cases eb : b = j + 1
      · subst eb
        rw [gj1] at hb'; cases hb'
        by_cases e : a = j
        · subst e; rw [gj] at ha; cases ha; omega
        · have := h1 a j x _ (by omega) (by omega) ea (by omega) ha gj
          omega
      · exact h1 a b x y hab hb ea eb ha hb'
    · rw [sink_go hj h]
      rw [hlt, decide_eq_true_eq] at h
      refine sink_sorted hlt j _ i (by omega) (fun a b x y hab hb ea eb ha hb' => ?_) (fun b x y hab hb ha hb' => ?_)
      · rw [swapL_get hj, if_neg ea] at ha
        rw [swapL_get hj, if_neg eb] at hb'
        by_cases ea1 : a = j + 1
        · rw [if_pos ea1] at ha
          rw [if_neg (by omega)] at hb'
          exact h1 j b x y (by omega) hb (by omega) (by omega) ha hb'
        · rw [if_neg ea1] at ha
          by_cases eb1 : b = j + 1
          · rw [if_pos eb1] at hb'
            exact h1 a j x y (by omega) (by omega) ea1 (by omega) ha hb'
          · rw [if_neg eb1] at hb'
            exact h1 a b x y hab hb ea1 eb1 ha hb'
      · rw [swapL_get hj, if_pos rfl, gj1] at ha
        cases ha
        rw [swapL_get hj, if_neg (by omega)] at hb'
        by_cases eb1 : b = j + 1
        · rw [if_pos eb1, gj] at hb'
          cases hb'; omega
        · rw [if_neg eb1] at hb'
          exact h2 b _ y (by omega) hb gj1 hb'

theorem sink_next {f : α → Int} {lt : α → α → Bool} (hlt : ∀ x y, lt x y = decide (f x < f y)) {l : List α} {i : Nat} (h : ∀ k, k < i → SortedTo f l k) : SortedTo f (sink lt l i) i :=
  sink_sorted hlt i l i (Nat.le_refl _) (fun a b x y hab hb ea eb ha hb' => h b (by omega) a b x y hab (Nat.le_refl _) ha hb') (fun b x y hb1 hb2 _ _ => by omega)
theorem insTo_sorted {f : α → Int} {lt : α → α → Bool} (hlt : ∀ x y, lt x y = decide (f x < f y)) (l : List α) : ∀ i, ∀ k, k < i → SortedTo f (insTo lt l i) k
  | 0, k, hk => by omega
  | i + 1, k, hk => by
    have := sink_next hlt (l := insTo lt l i) (i := i) (insTo_sorted hlt l i)
    intro a b x y hab hb ha hb'
    exact this a b x y hab (by omega) ha hb'
theorem insSort_perm (lt : α → α → Bool) (l : List α) : (insSort lt l).Perm l := insTo_perm lt l _
theorem insSort_sorted {f : α → Int} {lt : α → α → Bool} (hlt : ∀ x y, lt x y = decide (f x < f y)) (l : List α) : (insSort lt l).Pairwise fun x y => f x ≤ f y := by
  rw [List.pairwise_iff_getElem]
  intro a b ha hb hab
  have hl : (insSort lt l).length = l.length := insTo_length lt l _
  exact insTo_sorted hlt l l.length b (by omega) a b _ _ hab (Nat.le_refl _) (List.getElem?_eq_getElem ha) (List.getElem?_eq_getElem hb)

theorem sorted_uniq {f : α → Int} : ∀ {A B : List α}, A.Pairwise (fun x y => f x < f y) → B.Pairwise (fun x y => f x < f y) → (∀ x, x ∈ A ↔ x ∈ B) → A = B
  | [], [], _, _, _ => rfl
  | [], b :: B, _, _, h => by have := (h b).2 (by simp); simp at this
  | a :: A, [], _, _, h => by have := (h a).1 (by simp); simp at this
  | a :: A, b :: B, hA, hB, h => by
    rw [List.pairwise_cons] at hA hB
    have e : a = b := by
      rcases List.mem_cons.1 ((h a).1 (by simp)) with e | e
      · exact e
      · rcases List.mem_cons.1 ((h b).2 (by simp)) with e2 | e2
        · exact e2.symm
        · have h1 := hB.1 a e
          have h2 := hA.1 b e2
          omega
    subst e
    congr 1
    refine sorted_uniq hA.2 hB.2 fun x => ⟨fun hx => ?_, fun hx => ?_⟩
    · rcases List.mem_cons.1 ((h x).1 (by simp [hx])) with e | e
      · subst e; have := hA.1 x hx; omega
      · exact e
    · rcases List.mem_cons.1 ((h x).2 (by simp [hx])) with e | e
      · subst e; have := hB.1 x hx; omega
      · exact e
end

end Go.Proofs.Ytfijnkhiojejfaa


namespace Go.Proofs.Ytfijnkhiojejfaa
open Go Go.Ab

theorem isNaN_spec (x : Int) (H : Heap) : AFun Try.prog 107 [.int .i64 x] H (fun r B => r = .bool false ∧ B = H) := by
  refine AFun.mk ok107 hm (Nat.le_of_ble_eq_true rfl) ?_
  simp [a107, r107]
def cmpI (x y : Int) : Int := if x < y then -1 else if y < x then 1 else 0
theorem compare_spec (x y : Int) (H : Heap) : AFun Try.prog 102 [.int .i64 x, .int .i64 y] H (fun r B => r = .int .i64 (cmpI x y) ∧ B = H) := by
  refine AFun.mk ok102 hm (Nat.le_of_ble_eq_true rfl) ?_
  simp [a102, r102]
  refine fcall_fun (isNaN_spec _ _) ?_
  rintro _ B ⟨rfl, e⟩
  rw [e]
  simp
  refine fcall_fun (isNaN_spec _ _) ?_
  rintro _ B ⟨rfl, e⟩
  rw [e]
  simp
  unfold cmpI
  by_cases h1 : x < y
  · simp [h1]
  · by_cases h2 : y < x
    · simp [h1, h2]
    · simp [h1, h2]

theorem st_ints {H : Heap} {n cc : Nat} {m : List Int} {j : Nat} (hj : j < m.length) (y : Int) : stA H n j 1 (.int .i64 y) (.cells true (m.map (.int .i64)) cc) = some (H.set n (.cells true ((m.set j y).map (.int .i64)) cc)) := by
  rw [stA_cells]
  have e : (Value.int .i64 y).cells.toList = [.int .i64 y] := rfl
  rw [if_pos ⟨rfl, by rw [List.length_map]; omega, rfl⟩, e, wrL_one _ _ _ (by rw [List.length_map]; exact hj), List.map_set]

set_option maxHeartbeats 1000000 in
theorem insertion_spec {A : Heap} {lo : Nat} {v cmp : Value} {l : List Int} {c : Int → Int → Int}
    (hv : OwnSl A lo v (l.map (.int .i64))) (hl : l.length ≤ 16)
    (hcmp : ∀ B x y, A.next ≤ B.next → (∀ n, n < A.next → slName v ≠ some n → B.get n = A.get n) → x ∈ l → y ∈ l → ACall Try.prog cmp [.int .i64 x, .int .i64 y] B (fun r C => r = .int .i64 (c x y) ∧ Ge B C)) :
    AFun Try.prog 108 [v, .int .i64 0, .int .i64 l.length, cmp] A (fun _ B => OwnSl B lo v ((insSort (fun x y => decide (c x y < 0)) l).map (.int .i64)) ∧ A.next ≤ B.next ∧ ∀ n, n < A.next → slName v ≠ some n → B.get n = A.get n) := by
  refine AFun.mk ok108 hm (Nat.le_of_ble_eq_true rfl) ?_
  generalize hlt : (fun x y : Int => decide (c x y < 0)) = lt
  have hlt' : ∀ x y, lt x y = decide (c x y < 0) := fun x y => by rw [← hlt]
  simp [a108, r108, add_in (x := 0) (y := 1) (by omega) (by omega)]
  refine floop_intro (fun z => z.d = [] ∧ z.t 0 = v ∧ z.t 1 = .int .i64 0 ∧ z.t 2 = .int .i64 l.length ∧ z.t 3 = cmp ∧ A.next ≤ z.H.next ∧ (∀ n, n < A.next → slName v ≠ some n → z.H.get n = A.get n) ∧ ∃ i : Nat, 1 ≤ i ∧ i ≤ max 1 l.length ∧ z.t 8 = .int .i64 i ∧ OwnSl z.H lo v ((insTo lt l i).map (.int .i64))) (fun z => l.length - (intOf (z.t 8)).toNat) ?_ ?_
  · refine ⟨rfl, by simp, by simp, by simp, by simp, by simp, fun _ _ _ => by simp, 1, by omega, by omega, by simp, ?_⟩
    simpa [insTo, sink] using hv
  rintro ⟨t, _, B⟩ ⟨rfl, t0, t1, t2, t3, hn, hkeep, i, hi1, hi2, t8, hown⟩
  dsimp only at t0 t1 t2 t3 hn hkeep t8 hown
  simp [t8, t2]
  refine fcond_intro (fun hc => ?_) (fun hc => ?_)
  case refine_2 =>
    have hle : l.length ≤ i := by simp at hc; omega
    have hfin : insSort lt l = insTo lt l i := by
      unfold insSort
      by_cases h0 : l.length = 0
      · have : l = [] := List.length_eq_zero_iff.1 h0
        subst this
        have : ∀ k, insTo lt ([] : List Int) k = [] := fun k => List.length_eq_zero_iff.1 (by rw [insTo_length]; rfl)
        rw [this, this]
      · have : i = l.length := by omega
        rw [this]
    simp [hfin]
    exact ⟨hown, hn, hkeep⟩
  have hi' : i < l.length := by simpa using hc
  have hil : (insTo lt l i).length = l.length := insTo_length lt l i
  simp [t8]
  refine floop_intro (fun z => z.d = [] ∧ z.t 0 = v ∧ z.t 1 = .int .i64 0 ∧ z.t 2 = .int .i64 l.length ∧ z.t 3 = cmp ∧ z.t 8 = .int .i64 i ∧ A.next ≤ z.H.next ∧ (∀ n, n < A.next → slName v ≠ some n → z.H.get n = A.get n) ∧ ∃ j : Nat, j ≤ i ∧ z.t 9 = .int .i64 j ∧ ∃ m : List Int, m.length = l.length ∧ (∀ x ∈ m, x ∈ l) ∧ sink lt m j = sink lt (insTo lt l i) i ∧ OwnSl z.H lo v (m.map (.int .i64))) (fun z => (intOf (z.t 9)).toNat) ?_ ?_
  · exact ⟨rfl, by simp [t0], by simp [t1], by simp [t2], by simp [t3], by simp [t8], hn, hkeep, i, Nat.le_refl _, by simp, insTo lt l i, hil, fun x hx => (insTo_perm lt l i).mem_iff.1 hx, rfl, hown⟩
  have t8o := t8
  clear t0 t1 t2 t3 hn hkeep t8 hown hc
  rintro ⟨t, _, B⟩ ⟨rfl, t0, t1, t2, t3, t8, hn, hkeep, j, hj, t9, m, hml, hmm, hsink, hown⟩
  dsimp only at t0 t1 t2 t3 t8 hn hkeep t9 hown
  have hstop : sink lt m j = m → OwnSl B lo v ((insTo lt l (i + 1)).map (.int .i64)) := fun e => by
    rw [insTo, ← hsink, e]; exact hown
  by_cases hj0 : j = 0
  · have hjn : ¬ (0 : Int) < j := by omega
    have hjn2 : ¬ 0 < j := by omega
    have hs0 := hstop (by rw [hj0]; rfl)
    simp [t9, t1, hjn2, t8, add_in (x := i) (y := 1) (by omega) (by omega)]
    exact ⟨⟨t0, t2, t3, by omega, hkeep, i + 1, by omega, by omega, by simp, hs0.keep (by simp) fun _ _ => rfl⟩, by rw [t8o]; simp; omega⟩
  obtain ⟨j', rfl⟩ : ∃ j', j = j' + 1 := ⟨j - 1, by omega⟩
  rcases hown with ⟨_, h0⟩ | ⟨n, cap, cc, hvn, h2, h3, h4, h5, h6⟩
  · have : m = [] := by simpa using h0
    rw [this] at hml; simp at hml; omega
  rw [List.length_map, hml] at hvn
  rw [List.length_map, hml] at h5
  subst hvn
  have i1 : islV 1 (.slice (some ⟨n, 0, none⟩) l.length cap) (.int .i64 ((j' : Int) + 1)) = some (.pointer (some ⟨n, j' + 1, none⟩)) := by
    rw [islV_in (by omega) (by omega)]; simp
  have i0 : islV 1 (.slice (some ⟨n, 0, none⟩) l.length cap) (.int .i64 (j' : Int)) = some (.pointer (some ⟨n, j', none⟩)) := by
    rw [islV_in (by omega) (by omega)]; simp
  have hm1 : j' + 1 < m.length := by omega
  have hm0 : j' < m.length := by omega
  have l1 : ∀ B' : Heap, B'.get n = .cells true (m.map (.int .i64)) cc → ldA (B'.get n) false 1 (j' + 1) = some (.int .i64 m[j' + 1]) := fun B' e => by
    rw [e, ldA_one]; simp [hm1]
  have l0 : ∀ B' : Heap, B'.get n = .cells true (m.map (.int .i64)) cc → ldA (B'.get n) false 1 j' = some (.int .i64 m[j']) := fun B' e => by
    rw [e, ldA_one]; simp [hm0]
  have hjn2 : (0 : Int) < (j' : Int) + 1 := by omega
  simp [t9, t1, hjn2, t0, t3, i1, i0, l1 B h4, l0 B h4, sub_in (x := (j' : Int) + 1) (y := 1) (by omega) (by omega)]
  refine fcall_intro ((hcmp _ m[j' + 1] m[j'] ?_ ?_ (hmm _ (List.getElem_mem hm1)) (hmm _ (List.getElem_mem hm0))).mono ?_)
  · simp; omega
  · intro k hk1 hk2; simpa using hkeep k hk1 hk2
  rintro _ C ⟨rfl, gC⟩
  have h4C : C.get n = .cells true (m.map (.int .i64)) cc := gC.got (by simp; omega) (by simpa using h4)
  have nC := gC.next
  simp at nC
  have hkC : ∀ k, k < A.next → n ≠ k → C.get k = A.get k := fun k h1 h2 => by
    rw [gC.get k (by simp; omega)]; exact hkeep k h1 (by simpa [slName] using h2)
  by_cases hlt2 : c m[j' + 1] m[j'] < 0
  case neg =>
    have hs1 : sink lt m (j' + 1) = m := sink_stop hm1 (by rw [hlt']; simp; omega)
    simp [hlt2, t8, add_in (x := i) (y := 1) (by omega) (by omega)]
    have hC : OwnSl C lo (.slice (some ⟨n, 0, none⟩) l.length cap) ((insTo lt l (i + 1)).map (.int .i64)) := by
      rw [insTo, ← hsink, hs1]; exact .inr ⟨n, cap, cc, by rw [List.length_map, hml], h2, by omega, h4C, by rw [List.length_map, hml]; exact h5, h6⟩
    exact ⟨⟨t0, t1, t2, t3, by omega, fun k h1 h2 => hkC k h1 (by simpa [slName] using h2), i + 1, by omega, by omega, by simp, hC⟩, by rw [t8o]; simp; omega⟩
  simp [hlt2, t9, t0, i1, i0, l1 C h4C, l0 C h4C, sub_in (x := (j' : Int) + 1) (y := 1) (by omega) (by omega)]
  rw [h4C]
  rw [st_ints hm1]
  simp [i0, -stA_cells]
  rw [← List.map_set, st_ints (by simp; omega)]
  have hsw : (m.set (j' + 1) m[j']).set j' m[j' + 1] = swapL m j' := (swapL_eq hm1).symm
  rw [hsw]
  simp [t9, sub_in (x := (j' : Int) + 1) (y := 1) (by omega) (by omega)]
  refine ⟨t0, t1, t2, t3, t8, by omega, fun k h1 h2 => ?_, j', by omega, rfl, swapL m j', by rw [swapL_length]; exact hml, fun x hx => hmm x ((swapL_perm m j').mem_iff.1 hx), ?_, .inr ⟨n, cap, cc, by rw [List.length_map, swapL_length, hml], h2, by simp; omega, by simp, by rw [List.length_map, swapL_length, hml]; exact h5, h6⟩⟩
  · have hkn : k ≠ n := fun e => h2 (by rw [e]; rfl)
    simp [hkn]
    exact hkC k h1 (Ne.symm hkn)
  · rw [← hsink, sink_go hm1]
    rw [hlt']; simp; omega

theorem stable_spec {A : Heap} {lo : Nat} {v cmp : Value} {l : List Int} {c : Int → Int → Int}
    (hv : OwnSl A lo v (l.map (.int .i64))) (hl : l.length ≤ 16)
    (hcmp : ∀ B x y, A.next ≤ B.next → (∀ n, n < A.next → slName v ≠ some n → B.get n = A.get n) → x ∈ l → y ∈ l → ACall Try.prog cmp [.int .i64 x, .int .i64 y] B (fun r C => r = .int .i64 (c x y) ∧ Ge B C)) :
    AFun Try.prog 100 [v, cmp] A (fun _ B => OwnSl B lo v ((insSort (fun x y => decide (c x y < 0)) l).map (.int .i64)) ∧ A.next ≤ B.next ∧ ∀ n, n < A.next → slName v ≠ some n → B.get n = A.get n) := by
  refine AFun.mk ok100 hm (Nat.le_of_ble_eq_true rfl) ?_
  have hlen := hv.lenV
  rw [List.length_map] at hlen
  simp [a100, r100, hlen]
  refine fcall_fun (f := 106) (R' := fun _ B => OwnSl B lo v ((insSort (fun x y => decide (c x y < 0)) l).map (.int .i64)) ∧ A.next ≤ B.next ∧ ∀ n, n < A.next → slName v ≠ some n → B.get n = A.get n) ?_ ?_
  case refine_2 => rintro _ B hB; simpa using hB
  refine AFun.mk ok106 hm (Nat.le_of_ble_eq_true rfl) ?_
  simp [a106, r106]
  refine floop_intro (fun z => z.d = [] ∧ z.H = A ∧ z.t 0 = v ∧ z.t 1 = .int .i64 l.length ∧ z.t 2 = cmp ∧ z.t 6 = .int .i64 20 ∧ z.t 7 = .int .i64 0 ∧ z.t 8 = .int .i64 20) (fun _ => 0) ⟨rfl, rfl, by simp, by simp, by simp, by simp, by simp, by simp⟩ ?_
  rintro ⟨t, _, A'⟩ ⟨rfl, eA, t0, t1, t2, t6, t7, t8⟩
  dsimp only at eA t0 t1 t2 t6 t7 t8
  subst eA
  have h20 : ¬ (20 : Int) ≤ l.length := by omega
  have h20' : ¬ 20 ≤ l.length := by omega
  simp [t8, t1, h20, t0, t7, t2]
  refine fcall_fun (insertion_spec hv hl hcmp) ?_
  rintro _ B ⟨oB, nB, kB⟩
  simp
  refine floop_intro (fun z => z.d = [] ∧ z.H = B ∧ z.t 1 = .int .i64 l.length ∧ z.t 6 = .int .i64 20) (fun _ => 0) ⟨rfl, rfl, by simp [t1], by simp [t6]⟩ ?_
  clear t0 t1 t2 t6 t7 t8
  rintro ⟨t, _, B'⟩ ⟨rfl, eB, t1, t6⟩
  dsimp only at eB t1 t6
  subst eB
  have h21 : ¬ (20 : Int) < l.length := by omega
  have h21' : ¬ 20 < l.length := by omega
  simp [t6, t1, h21]
  exact ⟨oB, nB, kB⟩

end Go.Proofs.Ytfijnkhiojejfaa


namespace Go.Proofs.Ytfijnkhiojejfaa
open Go Go.Ab

theorem nightC_b (Y : Yd) (r b : Value) (s : Nat → Int × Int) (d : Nat → Bool) : (nightC Y r b s d)[1]? = some b := rfl

theorem turnQ_spec {Y : Yd} {r b : Value} {s : Nat → Int × Int} {d : Nat → Bool} {H : Heap} {nb c : Nat} {w : Bool} {x : Int} (h : YardAt H r b Y) (hn : H.get nb = .cells w (nightC Y r b s d) c) (hx : isBusB Y x = true) :
    AFun Try.prog 96 [.int .i64 x, .pointer (some ⟨nb, 0, none⟩)] H (fun v B => v = .int .i64 (bAt Y x).turn ∧ Ge H B) := by
  refine AFun.mk ok96 hm (Nat.le_of_ble_eq_true rfl) ?_
  obtain ⟨n, o, e1, _, e2⟩ := BssAt.atB h hx
  simp [a96, r96, hn, nightC_b, e1, (e2 H (Ge.refl _)).2.2.2]

def cmpQ : List (Int → Int) → Int → Int → Int
  | [], _, _ => 0
  | f :: r, x, y => if cmpI (f x) (f y) = 0 then cmpQ r x y else cmpI (f x) (f y)
theorem cmpQ_drop {fs : List (Int → Int)} {i : Nat} (hi : i < fs.length) (x y : Int) : cmpQ (fs.drop i) x y = if cmpI (fs[i] x) (fs[i] y) = 0 then cmpQ (fs.drop (i + 1)) x y else cmpI (fs[i] x) (fs[i] y) := by
  rw [List.drop_eq_getElem_cons hi]; rfl

theorem cmp_spec {H : Heap} {nq c : Nat} {w : Bool} {qs : Value} {qv : List Value} {fs : List (Int → Int)} {x y : Int} (hn : H.get nq = .cells w [qs] c) (_hnl : nq < H.next) (hs : SlR H 1 qs fs.length qv) (hl : fs.length < 2 ^ 62) (hql : qv.length = fs.length)
    (hq : ∀ j (h1 : j < fs.length) (h2 : j < qv.length) A, Ge H A → ACall Try.prog qv[j] [.int .i64 x] A (fun r B => r = .int .i64 (fs[j] x) ∧ Ge A B) ∧ ACall Try.prog qv[j] [.int .i64 y] A (fun r B => r = .int .i64 (fs[j] y) ∧ Ge A B)) :
    AFun Try.prog 101 [.int .i64 x, .int .i64 y, .pointer (some ⟨nq, 0, none⟩)] H (fun v B => v = .int .i64 (cmpQ fs x y) ∧ Ge H B) := by
  refine AFun.mk ok101 hm (Nat.le_of_ble_eq_true rfl) ?_
  simp [a101, r101, hn, hs.lenV]
  refine floop_intro (fun z => z.d = [] ∧ Ge H z.H ∧ z.t 0 = .int .i64 x ∧ z.t 1 = .int .i64 y ∧ z.t 9 = qs ∧ z.t 10 = .int .i64 fs.length ∧ ∃ i : Nat, i ≤ fs.length ∧ z.t 11 = .int .i64 i ∧ cmpQ fs x y = cmpQ (fs.drop i) x y) (fun z => fs.length - (intOf (z.t 11)).toNat) ?_ ?_
  · exact ⟨rfl, by simp, by simp, by simp, by simp, by simp, 0, by simp, by simp, by simp⟩
  rintro ⟨t, _, A⟩ ⟨rfl, g, t0, t1, t9, t10, i, hi, t11, hd⟩
  dsimp only at g t0 t1 t9 t10 t11
  simp [t10, t11]
  refine fcond_intro (fun hc => ?_) (fun hc => ?_)
  case refine_2 =>
    have h1 : fs.length ≤ i := by simp at hc; omega
    rw [List.drop_of_length_le h1] at hd
    simp [hd, cmpQ, g]
  have hi' : i < fs.length := by simpa using hc
  have hiq : i < qv.length := by omega
  obtain ⟨p, e1, e2⟩ := (hs.ge g).at1 (k := .i64) hi'
  rw [List.getElem?_eq_getElem hiq] at e2
  simp [t0, t9, t11, e1, e2]
  refine fcall_intro ((hq i hi' hiq A g).1.mono ?_)
  rintro _ B ⟨rfl, gB⟩
  simp [t1]
  refine fcall_intro ((hq i hi' hiq B (g.trans gB)).2.mono ?_)
  rintro _ C ⟨rfl, gC⟩
  simp
  refine fcall_fun (compare_spec _ _ _) ?_
  rintro _ C' ⟨rfl, eC⟩
  rw [eC]
  have hst := cmpQ_drop hi' x y
  have gAC := g.trans (gB.trans gC)
  by_cases hz : cmpI (fs[i] x) (fs[i] y) = 0
  · rw [if_pos hz] at hst
    simp [hz, t11, add_in (x := i) (y := 1) (by omega) (by omega)]
    exact ⟨⟨gAC, t0, t1, t9, t10, i + 1, by omega, by omega, hd.trans hst⟩, by omega⟩
  · rw [if_neg hz] at hst
    simp [hz, hd, hst, gAC]

def busesL (Y : Yd) : List Int := (List.range Y.buses.length).map fun k : Nat => (k : Int)
theorem busesL_len (Y : Yd) : (busesL Y).length = Y.buses.length := by simp [busesL]
theorem busesL_mem {Y : Yd} {x : Int} : x ∈ busesL Y ↔ isBusB Y x = true := by
  simp [busesL, isBusB, inB]
  constructor
  · rintro ⟨k, h1, rfl⟩; omega
  · rintro ⟨h1, h2⟩; exact ⟨x.toNat, by omega, by omega⟩
theorem busesL_take {Y : Yd} {i : Nat} (hi : i < Y.buses.length) : (busesL Y).take (i + 1) = (busesL Y).take i ++ [(i : Int)] := by
  rw [List.take_succ_eq_append_getElem (by rw [busesL_len]; exact hi)]
  simp [busesL]
def sortL (fs : List (Int → Int)) (Y : Yd) : List Int := insSort (fun x y => decide (cmpQ fs x y < 0)) (busesL Y)
theorem sortL_mem {fs : List (Int → Int)} {Y : Yd} {x : Int} : x ∈ sortL fs Y ↔ isBusB Y x = true := ((insSort_perm _ _).mem_iff).trans busesL_mem

set_option maxHeartbeats 1000000 in
theorem sorted_spec {Y : Yd} {r b qs : Value} {s : Nat → Int × Int} {d : Nat → Bool} {H : Heap} {qv : List Value} {fs : List (Int → Int)} (h : YardAt H r b Y) (h8 : Y.buses.length ≤ 8) (hs : SlR H 1 qs fs.length qv) (hl : fs.length < 2 ^ 62) (hql : qv.length = fs.length)
    (hq : ∀ j (h1 : j < fs.length) (h2 : j < qv.length) x A, isBusB Y x = true → Ge H A → ACall Try.prog qv[j] [.int .i64 x] A (fun r B => r = .int .i64 (fs[j] x) ∧ Ge A B)) :
    AFun Try.prog 87 [nightV Y r b s d, qs] H (fun v B => OwnSl B H.next v ((sortL fs Y).map (.int .i64)) ∧ Ge H B) := by
  refine AFun.mk ok87 hm (Nat.le_of_ble_eq_true rfl) ?_
  have hqs := SlR.one hs
  simp [a87, r87, hqs, nightC_b, one_cells, h.buses.lenV]
  refine floop_intro (fun z => z.d = [] ∧ Ge H z.H ∧ z.t 3 = .pointer (some ⟨H.next + 1, 0, none⟩) ∧ z.H.get (H.next + 1) = .cells true [qs] 1 ∧ H.next + 2 ≤ z.H.next ∧ z.t 11 = .int .i64 Y.buses.length ∧ ∃ i : Nat, i ≤ Y.buses.length ∧ z.t 12 = .int .i64 i ∧ OwnSl z.H (H.next + 2) (z.t 5) (((busesL Y).take i).map (.int .i64))) (fun z => Y.buses.length - (intOf (z.t 12)).toNat) ?_ ?_
  · refine ⟨rfl, ((Ge.new _ _).newOf _).newOf _, by simp, by simp, by simp, by simp, 0, by simp, by simp, .inr ⟨H.next + 2, 0, 0, by simp, Nat.le_refl _, by simp, by simp, by simp, Nat.le_refl _⟩⟩
  rintro ⟨t, _, A⟩ ⟨rfl, g, t3, a1, nA, t11, i, hi, t12, own⟩
  dsimp only at g t3 a1 nA t11 t12 own
  simp [t11, t12]
  refine fcond_intro (fun hc => ?_) (fun hc => ?_)
  · have hi' : i < Y.buses.length := by simpa using hc
    simp [t12]
    have gX := Ge.new A (.cells true [.int .i64 (i : Int)] 1)
    have oX := own.ge gX
    have xX : (A.new (.cells true [.int .i64 (i : Int)] 1)).get A.next = .cells true [.int .i64 (i : Int)] 1 := by simp
    refine fapp_own oX (slCells_new xX) rfl (by simp only [List.length_map, List.length_take]; omega) (by omega) (by simp) (by simp) (by simp; omega) ?_
    rintro u B o1 s1 n1 k1
    have gB : Ge H B := oX.geApp (by omega) (g.trans gX) (by omega) (by simp; omega) k1
    have b1 : B.get (H.next + 1) = .cells true [qs] 1 := by
      rw [k1 _ (by omega) (fun e => by have := (own.names e).1; omega)]
      exact gX.got (by omega) a1
    simp [t12, add_in (x := i) (y := 1) (by omega) (by omega)]
    refine ⟨⟨gB, t3, b1, by omega, t11, i + 1, by omega, by omega, ?_⟩, by omega⟩
    rw [← List.map_take, busesL_take hi', List.map_append]
    exact o1
  · have h1 : i = Y.buses.length := by simp at hc; omega
    subst h1
    rw [← busesL_len, List.take_length] at own
    simp [t3]
    have hnv : ∀ n, slName (t 5) = some n → H.next + 2 ≤ n := fun n hn => (own.names hn).1
    refine fcall_fun (stable_spec (c := cmpQ fs) own (by rw [busesL_len]; omega) fun B x y nB kB hx hy => ?_) ?_
    · rw [busesL_mem] at hx hy
      have gB : Ge H B := ⟨by omega, fun n hn => by
        rw [kB n (by omega) (fun e => by have := hnv n e; omega)]; exact g.get n hn⟩
      have bq : B.get (H.next + 1) = .cells true [qs] 1 := by
        rw [kB _ (by omega) (fun e => by have := hnv _ e; omega)]; exact a1
      exact ACall.of_fun (cmp_spec bq (by omega) (hs.ge gB) hl hql fun j h1 h2 A' gA' => ⟨hq j h1 h2 x A' hx (gB.trans gA'), hq j h1 h2 y A' hy (gB.trans gA')⟩)
    rintro _ B ⟨oB, nB, kB⟩
    simp
    refine ⟨oB.lower (by omega), ⟨by omega, fun n hn => ?_⟩⟩
    rw [kB n (by omega) (fun e => by have := hnv n e; omega)]
    exact g.get n hn

def turnF (Y : Yd) (x : Int) : Int := (bAt Y x).turn
theorem cmpI_lt {x y : Int} : cmpI x y < 0 ↔ x < y := by
  unfold cmpI
  split
  · simp; assumption
  · split
    · simp; omega
    · simp; omega
theorem cmpI_zero {x y : Int} : cmpI x y = 0 ↔ x = y := by
  unfold cmpI
  split
  · simp; omega
  · split
    · simp; omega
    · simp; omega
theorem cmpQ_one {f : Int → Int} {x y : Int} : decide (cmpQ [f] x y < 0) = decide (f x < f y) := by
  have e : cmpQ [f] x y = if cmpI (f x) (f y) = 0 then 0 else cmpI (f x) (f y) := rfl
  have : cmpQ [f] x y < 0 ↔ f x < f y := by
    rw [e]
    by_cases h : cmpI (f x) (f y) = 0
    · rw [if_pos h]
      rw [cmpI_zero] at h
      omega
    · rw [if_neg h]
      exact cmpI_lt
  rw [Bool.eq_iff_iff, decide_eq_true_eq, decide_eq_true_eq]
  exact this

def goL (Y : Yd) (d : Nat → Bool) : List Int := (sortL [turnF Y] Y).filter fun x => !d x.toNat
theorem turn_inj {Y : Yd} (hd : (turnsOf Y).Nodup) {x y : Int} (hx : isBusB Y x = true) (hy : isBusB Y y = true) (h : turnF Y x = turnF Y y) : x = y := by
  obtain ⟨x0, x1, x2⟩ := isBus_at hx
  obtain ⟨y0, y1, y2⟩ := isBus_at hy
  unfold turnF at h
  rw [x2 x1, y2 y1, ← turnsOf_at Y x1, ← turnsOf_at Y y1] at h
  have := (List.getElem_inj hd).1 h
  omega
theorem sortL_strict {Y : Yd} (hd : (turnsOf Y).Nodup) : (sortL [turnF Y] Y).Pairwise fun x y => turnF Y x < turnF Y y := by
  have h1 : (sortL [turnF Y] Y).Pairwise fun x y => turnF Y x ≤ turnF Y y := insSort_sorted (fun x y => cmpQ_one) _
  have h2 : (sortL [turnF Y] Y).Nodup := (insSort_perm _ _).nodup_iff.2 (by
    unfold busesL
    rw [List.nodup_iff_pairwise_ne, List.pairwise_map]
    exact List.Pairwise.imp (fun h e => h (by omega)) (List.nodup_iff_pairwise_ne.1 List.nodup_range))
  have h3 := List.pairwise_and_iff.2 ⟨h1, List.nodup_iff_pairwise_ne.1 h2⟩
  refine List.Pairwise.imp_of_mem ?_ h3
  rintro x y hx hy ⟨k1, k2⟩
  have : turnF Y x ≠ turnF Y y := fun e => k2 (turn_inj hd (sortL_mem.1 hx) (sortL_mem.1 hy) e)
  omega
theorem goL_strict {Y : Yd} (hd : (turnsOf Y).Nodup) (d : Nat → Bool) : (goL Y d).Pairwise fun x y => turnF Y x < turnF Y y := (sortL_strict hd).sublist (List.filter_sublist)
theorem goL_mem {Y : Yd} {d : Nat → Bool} {x : Int} : x ∈ goL Y d ↔ isBusB Y x = true ∧ d x.toNat = false := by
  unfold goL
  rw [List.mem_filter, sortL_mem]
  simp

end Go.Proofs.Ytfijnkhiojejfaa


namespace Go.Proofs.Ytfijnkhiojejfaa
open Go Go.Ab

theorem isDown_spec {Y : Yd} {r b : Value} {s : Nat → Int × Int} {d : Nat → Bool} {H : Heap} {x : Int} (h0 : 0 ≤ x) (h8 : x < 8) : AFun Try.prog 89 [nightV Y r b s d, .int .i64 x] H (fun v B => v = .bool (d x.toNat) ∧ Ge H B) := by
  refine AFun.mk ok89 hm (Nat.le_of_ble_eq_true rfl) ?_
  have i1 : iarV 8 1 (.pointer (some ⟨H.next, 19, none⟩)) (.int .i64 x) = some (.pointer (some ⟨H.next, 19 + x.toNat, none⟩)) := by
    rw [iarV_in h0 (by omega)]; simp
  have hd := nightC_down Y r b s d x.toNat (by omega)
  simp [a89, r89, i1, hd]

def befB (p q : Int × Int) : Bool := decide (p.1 = q.1) && decide (p.2 < q.2)
theorem before_stand_spec (p q : Int × Int) (H : Heap) : AFun Try.prog 79 [standV p, standV q] H (fun v B => v = .bool (befB p q) ∧ Ge H B) := by
  refine AFun.mk ok79 hm (Nat.le_of_ble_eq_true rfl) ?_
  simp [a79, r79, befB]
  by_cases h1 : p.1 = q.1 <;> by_cases h2 : p.2 < q.2 <;> simp [h1, h2]

theorem filter_at {α : Type} {p : α → Bool} {S : List α} {j : Nat} (hj : j < S.length) (h : p S[j] = true) : ∃ hi : ((S.take j).filter p).length < (S.filter p).length, (S.filter p)[((S.take j).filter p).length] = S[j] := by
  have e : S.filter p = (S.take j).filter p ++ S[j] :: (S.drop (j + 1)).filter p := by
    conv => lhs; rw [← List.take_append_drop j S, List.drop_eq_getElem_cons hj]
    rw [List.filter_append, List.filter_cons, if_pos h]
  refine ⟨by rw [e, List.length_append, List.length_cons]; omega, ?_⟩
  simp only [e]
  rw [List.getElem_append_right (Nat.le_refl _)]
  simp
theorem filter_step {α : Type} {p : α → Bool} {S : List α} {j : Nat} (hj : j < S.length) : ((S.take (j + 1)).filter p).length = ((S.take j).filter p).length + if p S[j] then 1 else 0 := by
  rw [List.take_succ_eq_append_getElem hj, List.filter_append, List.length_append]
  cases h : p S[j] <;> simp [h]

theorem slr_fun (H : Heap) (n c : Nat) (v : Value) (h : H.get n = .cells true [v] c) (hn : n < H.next) : SlR H 1 (.slice (some ⟨n, 0, none⟩) 1 1) 1 [v] := by
  refine ⟨slCells_new h, fun a m q e => ?_⟩
  simp at e; rw [← e.1]; exact hn

set_option maxHeartbeats 1000000 in
theorem goOut_spec {Y : Yd} {r b yv : Value} {s : Nat → Int × Int} {d : Nat → Bool} {H : Heap} {nb c : Nat} {w : Bool} {I : Nat → Nat → Heap → Prop} {F : Heap → Prop} (h : YardAt H r b Y) (h8 : Y.buses.length ≤ 8) (hn : H.get nb = .cells w (nightC Y r b s d) c) (hnl : nb < H.next)
    (h0 : ∀ A, Ge H A → I A.next 0 A) (hge : ∀ L i A B, I L i A → Ge A B → I L i B) (hK : ∀ L i A, I L i A → A.get nb = .cells w (nightC Y r b s d) c)
    (hy : ∀ L i A (hi : i < (goL Y d).length), H.next ≤ L → L ≤ A.next → I L i A → ACall Try.prog yv [.int .i64 (goL Y d)[i]] A (fun v B => ∃ k, v = .bool k ∧ A.next ≤ B.next ∧ (∀ n, H.next ≤ n → n < L → B.get n = A.get n) ∧ (k = true → I L (i + 1) B) ∧ (k = false → F B))) :
    AFun Try.prog 95 [yv, .pointer (some ⟨nb, 0, none⟩)] H (fun _ B => (∃ L, H.next ≤ L ∧ L ≤ B.next ∧ I L (goL Y d).length B) ∨ F B) := by
  refine AFun.mk ok95 hm (Nat.le_of_ble_eq_true rfl) ?_
  have hSl : (sortL [turnF Y] Y).length = Y.buses.length := by
    unfold sortL insSort
    rw [insTo_length, busesL_len]
  simp [a95, r95, hn, nightC_rd]
  have gX := Ge.new H (.cells true [.func (.func 96) #[] #[.pointer (some ⟨nb, 0, none⟩)]] 1)
  refine fcall_fun (sorted_spec (fs := [turnF Y]) (qv := [.func (.func 96) #[] #[.pointer (some ⟨nb, 0, none⟩)]]) (h.ge gX) h8 (slr_fun _ H.next 1 _ (by simp) (by simp)) (by simp) rfl fun j h1 h2 x A hx gA => ?_) ?_
  · have hj : j = 0 := by simp at h1; omega
    subst hj
    exact ACall.of_fun (turnQ_spec ((h.ge gX).ge gA) (gA.got (by simp; omega) (gX.got hnl hn)) hx)
  rintro v H1 ⟨oS, g1⟩
  have G1 := gX.trans g1
  have n1 := g1.next
  simp at n1
  have hlen := oS.lenV
  rw [List.length_map, hSl] at hlen
  simp [hlen]
  generalize hS : sortL [turnF Y] Y = S at oS hSl
  have hgo : goL Y d = S.filter fun x => !d x.toNat := by unfold goL; rw [hS]
  have hmem : ∀ j (hj : j < S.length), isBusB Y S[j] = true := fun j hj => by
    have hm' : S[j] ∈ sortL [turnF Y] Y := by rw [hS]; exact List.getElem_mem hj
    exact sortL_mem.1 hm'
  have vn : ∀ n, slName v = some n → H.next ≤ n ∧ n < H1.next := fun n hn' => by
    have := oS.names hn'
    simp at this; omega
  refine floop_intro (fun z => z.d = [] ∧ H1.next ≤ z.H.next ∧ z.t 0 = yv ∧ z.t 1 = .pointer (some ⟨nb, 0, none⟩) ∧ z.t 8 = v ∧ z.t 9 = .int .i64 S.length ∧ OwnSl z.H (H.next + 1) v (S.map (.int .i64)) ∧ ∃ j : Nat, j ≤ S.length ∧ z.t 10 = .int .i64 j ∧ I H1.next ((S.take j).filter fun x => !d x.toNat).length z.H) (fun z => S.length - (intOf (z.t 10)).toNat) ?_ ?_
  · exact ⟨rfl, by simp, by simp, by simp, by simp, by simp [hSl], by simpa using oS, 0, by simp, by simp, by simpa using h0 H1 G1⟩
  rintro ⟨t, _, A⟩ ⟨rfl, nA, t0, t1, t8, t9, own, j, hj, t10, hI⟩
  dsimp only at nA t0 t1 t8 t9 own t10 hI
  simp [t9, t10]
  refine fcond_intro (fun hc => ?_) (fun hc => ?_)
  case refine_2 =>
    have hj0 : j = S.length := by simp at hc; omega
    subst hj0
    rw [List.take_length, ← hgo] at hI
    simp
    exact .inl ⟨H1.next, by omega, nA, hI⟩
  have hj' : j < S.length := by simpa using hc
  have hx := hmem j hj'
  obtain ⟨x0, x1, _⟩ := isBus_at hx
  obtain ⟨p, e1, e2⟩ := (own_ints own (by omega)).at hj'
  have kb := hK _ _ _ hI
  simp [t1, t8, t10, e1, e2, kb, nightC_rd]
  refine fcall_fun (isDown_spec x0 (by omega)) ?_
  rintro _ B ⟨rfl, gB⟩
  have hIB := hge _ _ _ _ hI gB
  have oB := own.ge gB
  have nB := gB.next
  have hst := filter_step (p := fun x => !d x.toNat) hj'
  cases hdn : d S[j].toNat
  case true =>
    have e3 : ((S.take (j + 1)).filter fun x => !d x.toNat).length = ((S.take j).filter fun x => !d x.toNat).length := by rw [hst]; simp [hdn]
    simp [t10, add_in (x := j) (y := 1) (by omega) (by omega)]
    exact ⟨⟨by omega, t0, t1, t8, t9, oB, j + 1, by omega, by omega, by rw [e3]; exact hIB⟩, by omega⟩
  obtain ⟨hi, he⟩ := filter_at (p := fun x => !d x.toNat) hj' (by simp [hdn])
  simp [t0]
  have hyc := hy H1.next _ B (by rw [hgo]; exact hi) (by omega) (by omega) hIB
  have he' : (goL Y d)[((S.take j).filter fun x => !d x.toNat).length]'(by rw [hgo]; exact hi) = S[j] := by
    simp only [hgo]; exact he
  rw [he'] at hyc
  refine fcall_intro (hyc.mono ?_)
  rintro _ C ⟨k, rfl, nC, kC, hT, hF⟩
  cases k
  · simp
    exact .inr (hF rfl)
  · have e3 : ((S.take (j + 1)).filter fun x => !d x.toNat).length = ((S.take j).filter fun x => !d x.toNat).length + 1 := by rw [hst]; simp [hdn]
    simp [t10, add_in (x := j) (y := 1) (by omega) (by omega)]
    exact ⟨⟨by omega, t0, t1, t8, t9, oB.keep nC fun n hn' => kC n (vn n hn').1 (vn n hn').2, j + 1, by omega, by omega, by rw [e3]; exact hT rfl⟩, by omega⟩

theorem goingOut_spec (v : Value) (H : Heap) : AFun Try.prog 78 [v] H (fun r B => r = .func (.func 95) #[] #[.pointer (some ⟨H.next, 0, none⟩)] ∧ B = H.new (.cells true v.cells.toList v.cells.size)) := by
  refine AFun.mk ok78 hm (Nat.le_of_ble_eq_true rfl) ?_
  simp [a78, r78]

end Go.Proofs.Ytfijnkhiojejfaa

