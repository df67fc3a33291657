/-
  Joined texts of a calculus of abstract memory, of the program's code in it, and of contracts.
-/
import Derived.Test.YtllkhaabcfnlpaaDoorJ6
import Derived.Test.YtllkhaabcfnlpaaDoorJ7
import Derived.Test.YtllkhaabcfnlpaaDoorJ8
import Derived.Test.YtllkhaabcfnlpaaDoorChecked
import Derived.Tactics
import Derived.Tactics2
import Derived.Laws.StructEq
import Derived.KernelRfl
/-
  The code of all functions, by their numbers.
-/
namespace Go.Proofs.YtllkhaabcfnlpaaDoor
open Go Go.Ab

noncomputable def codeT : Tri (Nat × ACode × List AOp) := (.node (.node (.node (.node (.node (.node (.node (.node .leaf (some (Tryd.f127.ntmps, a127, r127)) .leaf) none .leaf) none (.node .leaf (some (Tryd.f95.ntmps, a95, r95)) .leaf)) none (.node (.node .leaf (some (Tryd.f79.ntmps, a79, r79)) .leaf) none (.node .leaf (some (Tryd.f111.ntmps, a111, r111)) .leaf))) (some (Tryd.f7.ntmps, a7, r7)) (.node (.node (.node .leaf (some (Tryd.f71.ntmps, a71, r71)) .leaf) none (.node .leaf (some (Tryd.f103.ntmps, a103, r103)) .leaf)) none (.node (.node .leaf (some (Tryd.f87.ntmps, a87, r87)) .leaf) (some (Tryd.f55.ntmps, a55, r55)) (.node .leaf (some (Tryd.f119.ntmps, a119, r119)) .leaf)))) none (.node (.node (.node (.node (.node .leaf (some (Tryd.f131.ntmps, a131, r131)) .leaf) (some (Tryd.f67.ntmps, a67, r67)) .leaf) none (.node .leaf (some (Tryd.f99.ntmps, a99, r99)) .leaf)) (some (Tryd.f19.ntmps, a19, r19)) (.node .leaf none (.node .leaf (some (Tryd.f115.ntmps, a115, r115)) .leaf))) none (.node (.node (.node .leaf (some (Tryd.f75.ntmps, a75, r75)) .leaf) none (.node .leaf (some (Tryd.f107.ntmps, a107, r107)) .leaf)) (some (Tryd.f27.ntmps, a27, r27)) (.node (.node .leaf (some (Tryd.f91.ntmps, a91, r91)) .leaf) (some (Tryd.f59.ntmps, a59, r59)) (.node .leaf (some (Tryd.f123.ntmps, a123, r123)) .leaf))))) none (.node (.node (.node (.node (.node (.node .leaf (some (Tryd.f129.ntmps, a129, r129)) .leaf) none .leaf) (some (Tryd.f33.ntmps, a33, r33)) (.node .leaf (some (Tryd.f97.ntmps, a97, r97)) .leaf)) (some (Tryd.f17.ntmps, a17, r17)) (.node (.node .leaf (some (Tryd.f81.ntmps, a81, r81)) .leaf) none (.node .leaf (some (Tryd.f113.ntmps, a113, r113)) .leaf))) none (.node (.node (.node .leaf (some (Tryd.f73.ntmps, a73, r73)) .leaf) (some (Tryd.f41.ntmps, a41, r41)) (.node .leaf (some (Tryd.f105.ntmps, a105, r105)) .leaf)) none (.node (.node .leaf (some (Tryd.f89.ntmps, a89, r89)) .leaf) (some (Tryd.f57.ntmps, a57, r57)) (.node .leaf (some (Tryd.f121.ntmps, a121, r121)) .leaf)))) none (.node (.node (.node (.node (.node .leaf (some (Tryd.f133.ntmps, a133, r133)) .leaf) none .leaf) none (.node .leaf (some (Tryd.f101.ntmps, a101, r101)) .leaf)) (some (Tryd.f21.ntmps, a21, r21)) (.node (.node .leaf (some (Tryd.f85.ntmps, a85, r85)) .leaf) none (.node .leaf (some (Tryd.f117.ntmps, a117, r117)) .leaf))) none (.node (.node (.node .leaf (some (Tryd.f77.ntmps, a77, r77)) .leaf) (some (Tryd.f45.ntmps, a45, r45)) (.node .leaf (some (Tryd.f109.ntmps, a109, r109)) .leaf)) none (.node (.node .leaf (some (Tryd.f93.ntmps, a93, r93)) .leaf) (some (Tryd.f61.ntmps, a61, r61)) (.node .leaf (some (Tryd.f125.ntmps, a125, r125)) .leaf)))))) none (.node (.node (.node (.node (.node (.node (.node .leaf (some (Tryd.f128.ntmps, a128, r128)) .leaf) none .leaf) none (.node .leaf (some (Tryd.f96.ntmps, a96, r96)) .leaf)) (some (Tryd.f16.ntmps, a16, r16)) (.node (.node .leaf (some (Tryd.f80.ntmps, a80, r80)) .leaf) none (.node .leaf (some (Tryd.f112.ntmps, a112, r112)) .leaf))) none (.node (.node (.node .leaf (some (Tryd.f72.ntmps, a72, r72)) .leaf) none (.node .leaf (some (Tryd.f104.ntmps, a104, r104)) .leaf)) none (.node (.node .leaf (some (Tryd.f88.ntmps, a88, r88)) .leaf) (some (Tryd.f56.ntmps, a56, r56)) (.node .leaf (some (Tryd.f120.ntmps, a120, r120)) .leaf)))) none (.node (.node (.node (.node (.node .leaf (some (Tryd.f132.ntmps, a132, r132)) .leaf) (some (Tryd.f68.ntmps, a68, r68)) .leaf) none (.node .leaf (some (Tryd.f100.ntmps, a100, r100)) .leaf)) none (.node .leaf none (.node .leaf (some (Tryd.f116.ntmps, a116, r116)) .leaf))) none (.node (.node (.node .leaf (some (Tryd.f76.ntmps, a76, r76)) .leaf) (some (Tryd.f44.ntmps, a44, r44)) (.node .leaf (some (Tryd.f108.ntmps, a108, r108)) .leaf)) none (.node (.node .leaf (some (Tryd.f92.ntmps, a92, r92)) .leaf) (some (Tryd.f60.ntmps, a60, r60)) (.node .leaf (some (Tryd.f124.ntmps, a124, r124)) .leaf))))) none (.node (.node (.node (.node (.node (.node .leaf (some (Tryd.f130.ntmps, a130, r130)) .leaf) (some (Tryd.f66.ntmps, a66, r66)) .leaf) none (.node .leaf (some (Tryd.f98.ntmps, a98, r98)) .leaf)) none (.node .leaf none (.node .leaf (some (Tryd.f114.ntmps, a114, r114)) .leaf))) none (.node (.node .leaf none (.node .leaf (some (Tryd.f106.ntmps, a106, r106)) .leaf)) none (.node (.node .leaf (some (Tryd.f90.ntmps, a90, r90)) .leaf) (some (Tryd.f58.ntmps, a58, r58)) (.node .leaf (some (Tryd.f122.ntmps, a122, r122)) .leaf)))) none (.node (.node (.node .leaf (some (Tryd.f38.ntmps, a38, r38)) (.node .leaf (some (Tryd.f102.ntmps, a102, r102)) .leaf)) none (.node (.node .leaf (some (Tryd.f86.ntmps, a86, r86)) .leaf) none (.node .leaf (some (Tryd.f118.ntmps, a118, r118)) .leaf))) none (.node (.node (.node .leaf (some (Tryd.f78.ntmps, a78, r78)) .leaf) (some (Tryd.f46.ntmps, a46, r46)) (.node .leaf (some (Tryd.f110.ntmps, a110, r110)) .leaf)) none (.node (.node .leaf (some (Tryd.f94.ntmps, a94, r94)) .leaf) (some (Tryd.f62.ntmps, a62, r62)) (.node .leaf (some (Tryd.f126.ntmps, a126, r126)) .leaf)))))))
noncomputable def tab : Tab := fun f => codeT.get f

theorem tabOk : TabOk Tryd.prog tab := TabOk.of (.node Tri.hn (.node Tri.hn (.node Tri.hn (.node (Tri.hs ok7) (.node Tri.hn (.node Tri.hn (.node Tri.hn (.node (Tri.hs ok127) .leaf .leaf) .leaf) (.node (Tri.hs ok95) .leaf .leaf)) (.node Tri.hn (.node (Tri.hs ok79) .leaf .leaf) (.node (Tri.hs ok111) .leaf .leaf))) (.node Tri.hn (.node Tri.hn (.node (Tri.hs ok71) .leaf .leaf) (.node (Tri.hs ok103) .leaf .leaf)) (.node (Tri.hs ok55) (.node (Tri.hs ok87) .leaf .leaf) (.node (Tri.hs ok119) .leaf .leaf)))) (.node Tri.hn (.node (Tri.hs ok19) (.node Tri.hn (.node (Tri.hs ok67) (.node (Tri.hs ok131) .leaf .leaf) .leaf) (.node (Tri.hs ok99) .leaf .leaf)) (.node Tri.hn .leaf (.node (Tri.hs ok115) .leaf .leaf))) (.node (Tri.hs ok27) (.node Tri.hn (.node (Tri.hs ok75) .leaf .leaf) (.node (Tri.hs ok107) .leaf .leaf)) (.node (Tri.hs ok59) (.node (Tri.hs ok91) .leaf .leaf) (.node (Tri.hs ok123) .leaf .leaf))))) (.node Tri.hn (.node Tri.hn (.node (Tri.hs ok17) (.node (Tri.hs ok33) (.node Tri.hn (.node (Tri.hs ok129) .leaf .leaf) .leaf) (.node (Tri.hs ok97) .leaf .leaf)) (.node Tri.hn (.node (Tri.hs ok81) .leaf .leaf) (.node (Tri.hs ok113) .leaf .leaf))) (.node Tri.hn (.node (Tri.hs ok41) (.node (Tri.hs ok73) .leaf .leaf) (.node (Tri.hs ok105) .leaf .leaf)) (.node (Tri.hs ok57) (.node (Tri.hs ok89) .leaf .leaf) (.node (Tri.hs ok121) .leaf .leaf)))) (.node Tri.hn (.node (Tri.hs ok21) (.node Tri.hn (.node Tri.hn (.node (Tri.hs ok133) .leaf .leaf) .leaf) (.node (Tri.hs ok101) .leaf .leaf)) (.node Tri.hn (.node (Tri.hs ok85) .leaf .leaf) (.node (Tri.hs ok117) .leaf .leaf))) (.node Tri.hn (.node (Tri.hs ok45) (.node (Tri.hs ok77) .leaf .leaf) (.node (Tri.hs ok109) .leaf .leaf)) (.node (Tri.hs ok61) (.node (Tri.hs ok93) .leaf .leaf) (.node (Tri.hs ok125) .leaf .leaf)))))) (.node Tri.hn (.node Tri.hn (.node Tri.hn (.node (Tri.hs ok16) (.node Tri.hn (.node Tri.hn (.node (Tri.hs ok128) .leaf .leaf) .leaf) (.node (Tri.hs ok96) .leaf .leaf)) (.node Tri.hn (.node (Tri.hs ok80) .leaf .leaf) (.node (Tri.hs ok112) .leaf .leaf))) (.node Tri.hn (.node Tri.hn (.node (Tri.hs ok72) .leaf .leaf) (.node (Tri.hs ok104) .leaf .leaf)) (.node (Tri.hs ok56) (.node (Tri.hs ok88) .leaf .leaf) (.node (Tri.hs ok120) .leaf .leaf)))) (.node Tri.hn (.node Tri.hn (.node Tri.hn (.node (Tri.hs ok68) (.node (Tri.hs ok132) .leaf .leaf) .leaf) (.node (Tri.hs ok100) .leaf .leaf)) (.node Tri.hn .leaf (.node (Tri.hs ok116) .leaf .leaf))) (.node Tri.hn (.node (Tri.hs ok44) (.node (Tri.hs ok76) .leaf .leaf) (.node (Tri.hs ok108) .leaf .leaf)) (.node (Tri.hs ok60) (.node (Tri.hs ok92) .leaf .leaf) (.node (Tri.hs ok124) .leaf .leaf))))) (.node Tri.hn (.node Tri.hn (.node Tri.hn (.node Tri.hn (.node (Tri.hs ok66) (.node (Tri.hs ok130) .leaf .leaf) .leaf) (.node (Tri.hs ok98) .leaf .leaf)) (.node Tri.hn .leaf (.node (Tri.hs ok114) .leaf .leaf))) (.node Tri.hn (.node Tri.hn .leaf (.node (Tri.hs ok106) .leaf .leaf)) (.node (Tri.hs ok58) (.node (Tri.hs ok90) .leaf .leaf) (.node (Tri.hs ok122) .leaf .leaf)))) (.node Tri.hn (.node Tri.hn (.node (Tri.hs ok38) .leaf (.node (Tri.hs ok102) .leaf .leaf)) (.node Tri.hn (.node (Tri.hs ok86) .leaf .leaf) (.node (Tri.hs ok118) .leaf .leaf))) (.node Tri.hn (.node (Tri.hs ok46) (.node (Tri.hs ok78) .leaf .leaf) (.node (Tri.hs ok110) .leaf .leaf)) (.node (Tri.hs ok62) (.node (Tri.hs ok94) .leaf .leaf) (.node (Tri.hs ok126) .leaf .leaf)))))))

end Go.Proofs.YtllkhaabcfnlpaaDoor

/-
  Structs that the package compares: of numbers.
-/
namespace Go.Proofs.YtllkhaabcfnlpaaDoor
open Go Go.Ab

/-- Numbers of the kinds that are told, compared one by one (by the recursors: the kernel reckons these fastest). -/
noncomputable def eqKs (ks : List Nat) : List Value → List Value → Option Bool :=
  List.rec (motive := fun _ => List Value → List Value → Option Bool)
    (fun xs ys => List.rec (motive := fun _ => Option Bool) (List.rec (motive := fun _ => Option Bool) (some true) (fun _ _ _ => none) ys) (fun _ _ _ => none) xs)
    (fun k _ ih xs ys => List.rec (motive := fun _ => Option Bool) none (fun x xs _ => List.rec (motive := fun _ => Option Bool) none (fun y ys _ =>
      Option.rec (motive := fun _ => Option Bool) none (fun p => Option.rec (motive := fun _ => Option Bool) none (fun q =>
        Bool.rec (motive := fun _ => Option Bool) none (Option.rec (motive := fun _ => Option Bool) none (fun b => Bool.rec (motive := fun _ => Option Bool) (some false) (some b) (eqZ p.2 q.2)) (ih xs ys)) (Nat.beq (kIx p.1) k && Nat.beq (kIx q.1) k)) (dInt y)) (dInt x)) ys) xs) ks
/-- Where the first ones differ, the others are not asked. -/
noncomputable def eqFst (k : Nat) (xs ys : List Value) (all : Option Bool) : Option Bool :=
  List.rec (motive := fun _ => Option Bool) none (fun x _ _ => List.rec (motive := fun _ => Option Bool) none (fun y _ _ => Option.rec (motive := fun _ => Option Bool) none (fun p => Option.rec (motive := fun _ => Option Bool) none (fun q =>
    Bool.rec (motive := fun _ => Option Bool) none (Bool.rec (motive := fun _ => Option Bool) (some false) all (eqZ p.2 q.2)) (Nat.beq (kIx p.1) k && Nat.beq (kIx q.1) k)) (dInt y)) (dInt x)) ys) xs
noncomputable def eo : EqO := fun T xs ys => Bool.rec (motive := fun _ => Option Bool) (Bool.rec (motive := fun _ => Option Bool) none (eqFst 7 xs ys (eqKs [7, 3, 3, 3, 3] xs ys)) (Nat.beq T 149)) (eqFst 3 xs ys (eqKs [3, 3] xs ys)) (Nat.beq T 147)

def kOf (n : Nat) : IntKind := match n with | 0 => .i8 | 1 => .i16 | 2 => .i32 | 3 => .i64 | 4 => .u8 | 5 => .u16 | 6 => .u32 | _ => .u64
theorem kIx_of {j : IntKind} {n : Nat} (h : Nat.beq (kIx j) n = true) : j = kOf n := by
  have := Nat.eq_of_beq_eq_true h
  subst this
  cases j <;> rfl
theorem eqKs_nil {xs ys : List Value} {b : Bool} (h : eqKs [] xs ys = some b) : xs = [] ∧ ys = [] ∧ b = true := by
  cases xs with
  | nil => cases ys with
    | nil => cases h; exact ⟨rfl, rfl, rfl⟩
    | cons _ _ => cases h
  | cons _ _ => cases h
theorem eqKs_cons {k : Nat} {ks : List Nat} {xs ys : List Value} {b : Bool} (h : eqKs (k :: ks) xs ys = some b) : ∃ a c xs' ys' b', xs = .int (kOf k) a :: xs' ∧ ys = .int (kOf k) c :: ys' ∧ eqKs ks xs' ys' = some b' ∧ b = (a == c && b') := by
  cases xs with
  | nil => cases h
  | cons x xs => cases ys with
    | nil => cases h
    | cons y ys =>
      have h' : Option.rec (motive := fun _ => Option Bool) none (fun p => Option.rec (motive := fun _ => Option Bool) none (fun q =>
        Bool.rec (motive := fun _ => Option Bool) none (Option.rec (motive := fun _ => Option Bool) none (fun b => Bool.rec (motive := fun _ => Option Bool) (some false) (some b) (eqZ p.2 q.2)) (eqKs ks xs ys)) (Nat.beq (kIx p.1) k && Nat.beq (kIx q.1) k)) (dInt y)) (dInt x) = some b := h
      clear h
      cases h1 : dInt x with
      | none => rw [h1] at h'; cases h'
      | some p => cases h2 : dInt y with
        | none => rw [h1, h2] at h'; cases h'
        | some q =>
          rw [h1, h2] at h'
          simp only at h'
          cases hc : (Nat.beq (kIx p.1) k && Nat.beq (kIx q.1) k) with
          | false => rw [hc] at h'; cases h'
          | true =>
            rw [hc] at h'
            simp only at h'
            rw [Bool.and_eq_true] at hc
            cases h3 : eqKs ks xs ys with
            | none => rw [h3] at h'; cases h'
            | some b' =>
              rw [h3] at h'
              simp only at h'
              obtain ⟨k1, a⟩ := p
              obtain ⟨k2, c⟩ := q
              have e1 := kIx_of hc.1
              have e2 := kIx_of hc.2
              simp only at e1 e2 h'
              subst e1; subst e2
              refine ⟨a, c, xs, ys, b', by rw [dInt_ok h1], by rw [dInt_ok h2], h3, ?_⟩
              rw [eqZ_eq] at h'
              by_cases e : a = c
              · rw [decide_eq_true e] at h'
                rw [beq_iff_eq.2 e]
                exact (Option.some.inj h').symm
              · rw [decide_eq_false e] at h'
                have : (a == c) = false := by simpa using e
                rw [this]
                exact (Option.some.inj h').symm
theorem eqFst_ok {k : Nat} {xs ys : List Value} {all : Option Bool} {b : Bool} (h : eqFst k xs ys all = some b) : ∃ a c xs' ys', xs = .int (kOf k) a :: xs' ∧ ys = .int (kOf k) c :: ys' ∧ ((a ≠ c ∧ b = false) ∨ (a = c ∧ all = some b)) := by
  cases xs with
  | nil => cases h
  | cons x xs => cases ys with
    | nil => cases h
    | cons y ys =>
      have h' : Option.rec (motive := fun _ => Option Bool) none (fun p => Option.rec (motive := fun _ => Option Bool) none (fun q =>
        Bool.rec (motive := fun _ => Option Bool) none (Bool.rec (motive := fun _ => Option Bool) (some false) all (eqZ p.2 q.2)) (Nat.beq (kIx p.1) k && Nat.beq (kIx q.1) k)) (dInt y)) (dInt x) = some b := h
      clear h
      cases h1 : dInt x with
      | none => rw [h1] at h'; cases h'
      | some p => cases h2 : dInt y with
        | none => rw [h1, h2] at h'; cases h'
        | some q =>
          rw [h1, h2] at h'
          simp only at h'
          cases hc : (Nat.beq (kIx p.1) k && Nat.beq (kIx q.1) k) with
          | false => rw [hc] at h'; cases h'
          | true =>
            rw [hc] at h'
            simp only at h'
            rw [Bool.and_eq_true] at hc
            obtain ⟨k1, a⟩ := p
            obtain ⟨k2, c⟩ := q
            have e1 := kIx_of hc.1
            have e2 := kIx_of hc.2
            simp only at e1 e2 h'
            subst e1; subst e2
            refine ⟨a, c, xs, ys, by rw [dInt_ok h1], by rw [dInt_ok h2], ?_⟩
            rw [eqZ_eq] at h'
            by_cases e : a = c
            · rw [decide_eq_true e] at h'
              exact .inr ⟨e, h'⟩
            · rw [decide_eq_false e] at h'
              exact .inl ⟨e, (Option.some.inj h').symm⟩

theorem run_eq147 (n : Nat) (a b c d : Int) (w : World) : (Op.equalIn (n + 2) 147 (.agg ⟨[.int .i64 a, .int .i64 b]⟩) (.agg ⟨[.int .i64 c, .int .i64 d]⟩)).run Tryd.prog w = .ok (a == c && b == d) w := by
  have hS : Tryd.prog.underlying 147 = some (.struct (Tryd.prog.fieldsOf 147)) := by kernel_rfl
  rw [run_equalIn_agg w (n + 1) 147 _ _ hS (by kernel_rfl)]
  simp only [Program.fieldsOf, Tryd.underlying147]
  have ha : ∀ w, (isAgg 3).run Tryd.prog w = .ok false w := fun w => run_isAgg Tryd.underlying3 w
  have he : ∀ (a b : Int) w, (Op.equalIn (n + 1) 3 (.int .i64 a) (.int .i64 b)).run Tryd.prog w = .ok (a == b) w := fun a b w => run_equalIn_int w n 3 .i64 .i64 a b Tryd.underlying3
  simp [Op.eqFields, part, ha, he]
  by_cases h1 : a = c <;> by_cases h2 : b = d <;> simp [h1, h2]

theorem run_eq149 (n : Nat) (s a b c d s' a' b' c' d' : Int) (w : World) : (Op.equalIn (n + 3) 149 (.agg ⟨[.int .u64 s, .int .i64 a, .int .i64 b, .int .i64 c, .int .i64 d]⟩) (.agg ⟨[.int .u64 s', .int .i64 a', .int .i64 b', .int .i64 c', .int .i64 d']⟩)).run Tryd.prog w
    = .ok (s == s' && (a == a' && (b == b' && (c == c' && d == d')))) w := by
  have hS : Tryd.prog.underlying 149 = some (.struct (Tryd.prog.fieldsOf 149)) := by kernel_rfl
  rw [run_equalIn_agg w (n + 2) 149 _ _ hS (by kernel_rfl)]
  simp only [Program.fieldsOf, Tryd.underlying149]
  have ha : ∀ w, (isAgg 102).run Tryd.prog w = .ok false w := fun w => run_isAgg Tryd.underlying102 w
  have hb : ∀ w, (isAgg 147).run Tryd.prog w = .ok true w := fun w => run_isAgg Tryd.underlying147 w
  have he : ∀ (a b : Int) w, (Op.equalIn (n + 2) 102 (.int .u64 a) (.int .u64 b)).run Tryd.prog w = .ok (a == b) w := fun a b w => run_equalIn_int w (n + 1) 102 .u64 _ a b Tryd.underlying102
  have hz0 : (Tryd.prog.info? 147).map (·.size) = some 2 := by kernel_rfl
  have hz : ∀ w, (sizeOf 147).run Tryd.prog w = .ok 2 w := fun w => by
    obtain ⟨j, h1, h2⟩ := Option.map_eq_some_iff.1 hz0
    rw [Go.Ab.run_sizeOf h1, h2]
  have hq := fun a b c d w => run_eq147 n a b c d w
  simp [Op.eqFields, part, ha, hb, he, hz, hq]
  by_cases h1 : s = s' <;> by_cases h2 : a = a' <;> by_cases h3 : b = b' <;> by_cases h4 : c = c' <;> by_cases h5 : d = d' <;> simp [h1, h2, h3, h4, h5]

theorem run_ne147 (n : Nat) (a c : Int) (xs ys : List Value) (w : World) (h : a ≠ c) : (Op.equalIn (n + 2) 147 (.agg ⟨.int .i64 a :: xs⟩) (.agg ⟨.int .i64 c :: ys⟩)).run Tryd.prog w = .ok false w := by
  have hS : Tryd.prog.underlying 147 = some (.struct (Tryd.prog.fieldsOf 147)) := by kernel_rfl
  rw [run_equalIn_agg w (n + 1) 147 _ _ hS (by kernel_rfl)]
  simp only [Program.fieldsOf, Tryd.underlying147]
  have ha : ∀ w, (isAgg 3).run Tryd.prog w = .ok false w := fun w => run_isAgg Tryd.underlying3 w
  have he : ∀ (a b : Int) w, (Op.equalIn (n + 1) 3 (.int .i64 a) (.int .i64 b)).run Tryd.prog w = .ok (a == b) w := fun a b w => run_equalIn_int w n 3 .i64 .i64 a b Tryd.underlying3
  simp [Op.eqFields, part, ha, he, h]
theorem run_ne149 (n : Nat) (a c : Int) (xs ys : List Value) (w : World) (h : a ≠ c) : (Op.equalIn (n + 3) 149 (.agg ⟨.int .u64 a :: xs⟩) (.agg ⟨.int .u64 c :: ys⟩)).run Tryd.prog w = .ok false w := by
  have hS : Tryd.prog.underlying 149 = some (.struct (Tryd.prog.fieldsOf 149)) := by kernel_rfl
  rw [run_equalIn_agg w (n + 2) 149 _ _ hS (by kernel_rfl)]
  simp only [Program.fieldsOf, Tryd.underlying149]
  have ha : ∀ w, (isAgg 102).run Tryd.prog w = .ok false w := fun w => run_isAgg Tryd.underlying102 w
  have he : ∀ (a b : Int) w, (Op.equalIn (n + 2) 102 (.int .u64 a) (.int .u64 b)).run Tryd.prog w = .ok (a == b) w := fun a b w => run_equalIn_int w (n + 1) 102 .u64 _ a b Tryd.underlying102
  simp [Op.eqFields, part, ha, he, h]

theorem eoOk : EqOk Tryd.prog eo := by
  intro T xs ys b h
  unfold eo at h
  cases h1 : Nat.beq T 147 with
  | true =>
    have := Nat.eq_of_beq_eq_true h1; subst this
    rw [h1] at h
    refine ⟨by kernel_rfl, fun w => ?_⟩
    obtain ⟨a, c, xs', ys', rfl, rfl, ⟨hne, rfl⟩ | ⟨he, g⟩⟩ := eqFst_ok (show eqFst 3 xs ys (eqKs [3, 3] xs ys) = some b from h)
    · exact run_ne147 9998 a c xs' ys' w hne
    · obtain ⟨a, c, _, _, _, q1, q2, g1, rfl⟩ := eqKs_cons g
      obtain ⟨a', c', _, _, _, rfl, rfl, g2, rfl⟩ := eqKs_cons g1
      obtain ⟨rfl, rfl, rfl⟩ := eqKs_nil g2
      rw [q1, q2]
      have := run_eq147 9998 a a' c c' w
      rw [Bool.and_true]; exact this
  | false =>
    rw [h1] at h
    cases h2 : Nat.beq T 149 with
    | true =>
      have := Nat.eq_of_beq_eq_true h2; subst this
      rw [h2] at h
      refine ⟨by kernel_rfl, fun w => ?_⟩
      obtain ⟨a, c, xs', ys', rfl, rfl, ⟨hne, rfl⟩ | ⟨he, g⟩⟩ := eqFst_ok (show eqFst 7 xs ys (eqKs [7, 3, 3, 3, 3] xs ys) = some b from h)
      · exact run_ne149 9997 a c xs' ys' w hne
      · obtain ⟨a, c, _, _, _, q1, q2, g0, rfl⟩ := eqKs_cons g
        obtain ⟨a1, c1, _, _, _, rfl, rfl, g1, rfl⟩ := eqKs_cons g0
        obtain ⟨a2, c2, _, _, _, rfl, rfl, g2, rfl⟩ := eqKs_cons g1
        obtain ⟨a3, c3, _, _, _, rfl, rfl, g3, rfl⟩ := eqKs_cons g2
        obtain ⟨a4, c4, _, _, _, rfl, rfl, g4, rfl⟩ := eqKs_cons g3
        obtain ⟨rfl, rfl, rfl⟩ := eqKs_nil g4
        rw [q1, q2]
        have := run_eq149 9997 a a1 a2 a3 a4 c c1 c2 c3 c4 w
        rw [Bool.and_true]; exact this
    | false => rw [h2] at h; cases h

/-- The tables of math/bits. -/
def gl0 : CObj := some (false, [.int .u8 0, .int .u8 1, .int .u8 28, .int .u8 2, .int .u8 29, .int .u8 14, .int .u8 24, .int .u8 3, .int .u8 30, .int .u8 22, .int .u8 20, .int .u8 15, .int .u8 25, .int .u8 17, .int .u8 4, .int .u8 8, .int .u8 31, .int .u8 27, .int .u8 13, .int .u8 23, .int .u8 21, .int .u8 19, .int .u8 16, .int .u8 7, .int .u8 26, .int .u8 12, .int .u8 18, .int .u8 6, .int .u8 11, .int .u8 5, .int .u8 10, .int .u8 9], 32)
def gl1 : CObj := some (false, [.int .u8 0, .int .u8 1, .int .u8 56, .int .u8 2, .int .u8 57, .int .u8 49, .int .u8 28, .int .u8 3, .int .u8 61, .int .u8 58, .int .u8 42, .int .u8 50, .int .u8 38, .int .u8 29, .int .u8 17, .int .u8 4, .int .u8 62, .int .u8 47, .int .u8 59, .int .u8 36, .int .u8 45, .int .u8 43, .int .u8 51, .int .u8 22, .int .u8 53, .int .u8 39, .int .u8 33, .int .u8 30, .int .u8 24, .int .u8 18, .int .u8 12, .int .u8 5, .int .u8 63, .int .u8 55, .int .u8 48, .int .u8 27, .int .u8 60, .int .u8 41, .int .u8 37, .int .u8 16, .int .u8 46, .int .u8 35, .int .u8 44, .int .u8 21, .int .u8 52, .int .u8 32, .int .u8 23, .int .u8 11, .int .u8 54, .int .u8 26, .int .u8 40, .int .u8 15, .int .u8 34, .int .u8 20, .int .u8 31, .int .u8 10, .int .u8 25, .int .u8 14, .int .u8 19, .int .u8 9, .int .u8 13, .int .u8 8, .int .u8 7, .int .u8 6], 64)
theorem mixed : Tryd.prog.follows .mixedOrders = true := by kernel_rfl

end Go.Proofs.YtllkhaabcfnlpaaDoor
