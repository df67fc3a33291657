/-
  DutyCut answers true for every day, every byte, every number of 16 bits, of whatever size, and leaves them as they were (the tables of math/bits as the program's text lays them): no other condition.
-/
import Derived.Test.YtjbbcpeidnkjlaaDoorJ15
import Derived.Test.YtjbbcpeidnkjlaaDoorJ18
namespace Go.Proofs.YtjbbcpeidnkjlaaDoor
open Go Go.Ab Go.ChangeShapes Go.WideShapes Go.ChangeAt Go.RowKit

theorem laid_met (os : Os) : laidMet Tryd.prog Rows.dutyCutRow.laid ((laidWorld os #[.agg #[.int .i64 0, .int .i64 0, .int .i64 0, .int .i64 0, .int .i64 0, .int .i64 0, .int .i64 0, .int .i64 0, .slice none 0 0, .slice none 0 0], .int .u8 0, .int .u8 0, .int .u16 0, .int .u16 0, .int .u16 0]).forCall (fun _ _ => 0) ⟨#[], #[.agg #[.int .i64 0, .int .i64 0, .int .i64 0, .int .i64 0, .int .i64 0, .int .i64 0, .int .i64 0, .int .i64 0, .slice none 0 0, .slice none 0 0], .int .u8 0, .int .u8 0, .int .u16 0, .int .u16 0, .int .u16 0], []⟩).memory :=
  laidMet_of_run' 8 (by kernel_rfl) (by kernel_rfl)
theorem reads (os : Os) {H : Type} (enc : TypeId × Value → H) : ∃ x, DataW.whole enc Tryd.prog ((laidWorld os #[.agg #[.int .i64 0, .int .i64 0, .int .i64 0, .int .i64 0, .int .i64 0, .int .i64 0, .int .i64 0, .int .i64 0, .slice none 0 0, .slice none 0 0], .int .u8 0, .int .u8 0, .int .u16 0, .int .u16 0, .int .u16 0]).forCall (fun _ _ => 0) ⟨#[], #[.agg #[.int .i64 0, .int .i64 0, .int .i64 0, .int .i64 0, .int .i64 0, .int .i64 0, .int .i64 0, .int .i64 0, .slice none 0 0, .slice none 0 0], .int .u8 0, .int .u8 0, .int .u16 0, .int .u16 0, .int .u16 0], []⟩).memory Tryd.f13.params.toList Rows.dutyCutSpec.vars false (#[.agg #[.int .i64 0, .int .i64 0, .int .i64 0, .int .i64 0, .int .i64 0, .int .i64 0, .int .i64 0, .int .i64 0, .slice none 0 0, .slice none 0 0], .int .u8 0, .int .u8 0, .int .u16 0, .int .u16 0, .int .u16 0] : Array Value).toList 8 = some x :=
  Option.isSome_iff_exists.1 (by kernel_rfl)

set_option maxRecDepth 100000 in
theorem dutyCut_lifted (os : Os) (started : os.Started) (H : Type) (enc : TypeId × Value → H) (F : Stop.Interp) :
    ReturnsInHanded {} Tryd.checked os 13 .any ((OpenSpec.ofChange Rows.dutyCutSpec).preRow enc Tryd.prog Tryd.f13 Rows.dutyCutRow.domain false Rows.dutyCutRow.laid) (((OpenSpec.ofChange Rows.dutyCutSpec).at F).post enc Tryd.prog Tryd.f13 false true false false) := by
  obtain ⟨⟨xs, gs, places⟩, hx⟩ := reads os enc
  refine returnsInHanded_of_row (C := Tryd.checked) (s := OpenSpec.ofChange Rows.dutyCutSpec) ownT started (by kernel_rfl) Tryd.func13
    (witness_row_at (enc := enc) (C := Tryd.checked) false (laidWorld os #[.agg #[.int .i64 0, .int .i64 0, .int .i64 0, .int .i64 0, .int .i64 0, .int .i64 0, .int .i64 0, .int .i64 0, .slice none 0 0, .slice none 0 0], .int .u8 0, .int .u8 0, .int .u16 0, .int .u16 0, .int .u16 0]) #[.agg #[.int .i64 0, .int .i64 0, .int .i64 0, .int .i64 0, .int .i64 0, .int .i64 0, .int .i64 0, .int .i64 0, .slice none 0 0, .slice none 0 0], .int .u8 0, .int .u8 0, .int .u16 0, .int .u16 0, .int .u16 0] rfl (by kernel_rfl) (by kernel_rfl) (by kernel_rfl)
      (OpenSpec.preRow_of_cond 8 hx (by kernel_rfl) (fun k hk => by cases hk) (by kernel_rfl) (laid_met os))) ?_
  intro W base args ds gs before hval0 hW _ _ _ hL _ _
  have hval : ∀ (j : Nat) t v, Tryd.f13.params[j]? = some t → args[j]? = some v → Value.okWide Tryd.prog W .any base t v := hval0
  have hW' := hW
  obtain ⟨p, q, hA0, hV, rfl, hfz, hnd⟩ := hW
  have hA : DataW.TrodAll enc Tryd.prog W 0 (fun _ => true) true Tryd.f13.params.toList args.toList ds p := hA0
  rw [Tryd.params13] at hA hval
  obtain ⟨v0, vs0, d0, ds0, p0, q0, hargs, rfl, rfl, h0, r0⟩ := trodAll_cons hA
  obtain ⟨v1, vs1, d1, ds1, p1, q1, rfl, rfl, rfl, h1, r1⟩ := trodAll_cons r0
  obtain ⟨v2, vs2, d2, ds2, p2, q2, rfl, rfl, rfl, h2, r2⟩ := trodAll_cons r1
  obtain ⟨v3, vs3, d3, ds3, p3, q3, rfl, rfl, rfl, h3, r3⟩ := trodAll_cons r2
  obtain ⟨v4, vs4, d4, ds4, p4, q4, rfl, rfl, rfl, h4, r4⟩ := trodAll_cons r3
  obtain ⟨v5, vs5, d5, ds5, p5, q5, rfl, rfl, rfl, h5, r5⟩ := trodAll_cons r4
  obtain ⟨rfl, rfl, rfl⟩ := trodAll_nil r5
  obtain rfl : args = #[v0, v1, v2, v3, v4, v5] := by cases args; simp_all
  obtain ⟨rfl, rfl⟩ := trodVars_none hV
  obtain ⟨hgl, hgc⟩ := tables hL
  have hwk : ∀ A, Ge (absH W.heap) A → AFun Tryd.prog 16 [] A (fun r B => r = .bool true ∧ Ge A B) := fun A gA =>
    (Entry.closed eWakes_ok rfl rfl rfl (fun g hg => by
      obtain ⟨cs, c, k1, k2, k3⟩ := hgc g hg
      exact ⟨cs, c, k1, k2, gA.got (n := g) (Nat.lt_of_lt_of_le hg (Nat.le_trans hgl (abs_size _))) k3⟩)).mono fun _ _ h => ⟨h.1, h.2 ▸ Ge.refl _⟩
  have hG := gl_of hgl hgc
  obtain ⟨D0, b0, w0, g0, c0⟩ := read_dayV (hval 0 27 v0 rfl rfl) h0
  obtain ⟨x1, g1, c1⟩ := read_u8V (hval 1 5 v1 rfl rfl) h1
  obtain ⟨x2, g2, c2⟩ := read_u8V (hval 2 5 v2 rfl rfl) h2
  obtain ⟨x3, g3, c3⟩ := read_u16V (hval 3 71 v3 rfl rfl) h3
  obtain ⟨x4, g4, c4⟩ := read_u16V (hval 4 71 v4 rfl rfl) h4
  obtain ⟨x5, g5, c5⟩ := read_u16V (hval 5 71 v5 rfl rfl) h5
  refine (law_calls (P := Tryd.prog) (args := #[v0, v1, v2, v3, v4, v5]) hgl ((dutyCut_of c0 c1 c2 c3 c4 c5 hG hwk).mono fun _ _ h => h) ⟨g0, g1, g2, g3, g4, g5, trivial⟩).mono fun e W' ⟨he, hB⟩ => ?_
  subst he
  exact ⟨_, rfl, post_true laidT (readT (by kernel_rfl)) (tb := 4) (by kernel_rfl) Tryd.underlying4 rfl hW' rfl hB⟩

theorem dutyCut_said : Rows.DutyCutSaid :=
  OpenClaim.holds_of_cond 13 Tryd.f13 rfl rfl rfl rfl rfl rfl rfl ⟨rfl, rfl, rfl, rfl, rfl⟩ rfl rfl rfl rfl rfl (by kernel_rfl) Tryd.func13 (by kernel_rfl)
    (of_decide_eq_true (by kernel_rfl)) (by unfold Func.isWrapper; first | (rw [if_pos (by decide +kernel)]; kernel_rfl) | (rw [if_neg (by decide +kernel)]; exact ⟨rfl, rfl⟩))
    (fun os started H enc _ F => by rw [OpenClaim.pre_eq_preRow]; exact dutyCut_lifted os started H enc F)

/-- No parameter wants a stand-in; the program's own looks are off. -/
theorem dutyCut_plain (f : FuncId) (fn : Func) (hf : Tryd.pinned.checked.prog.funcNamed "layover/layoverlaw02.DutyCut" = some f) (hfn : Tryd.pinned.checked.prog.funcs[f]? = some fn) :
    false = Tryd.pinned.checked.prog.looks [] ∧ ∀ (j : Nat) t, fn.params[j]? = some t → Tryd.pinned.checked.prog.wantsStandIn t = false := by
  obtain rfl : f = 13 := Option.some.inj ((show Tryd.prog.funcNamed "layover/layoverlaw02.DutyCut" = some 13 by kernel_rfl).symm.trans hf) |>.symm
  obtain rfl : fn = Tryd.f13 := (Option.some.inj (Tryd.func13.symm.trans hfn)).symm
  refine ⟨by kernel_rfl, fun j t ht => ?_⟩
  rw [Tryd.params13] at ht
  have hall : ([27, 5, 5, 71, 71, 71] : List Nat).all (fun t => !(Tryd.pinned.checked.prog.wantsStandIn t)) = true := by kernel_rfl
  have hmem : t ∈ ([27, 5, 5, 71, 71, 71] : List Nat) := by
    have := List.mem_of_getElem? (show ([27, 5, 5, 71, 71, 71] : List Nat)[j]? = some t by simpa using ht)
    exact this
  simpa using List.all_eq_true.1 hall t hmem

theorem dutyCut_holds : Rows.DutyCutCardSaid :=
  Claim7.holds_tied_plain_at .later [] _ _ _ _ dutyCut_said (fun _ h => by cases h) (by kernel_rfl) (fun _ h => by cases h) dutyCut_row_tie rfl ⟨rfl, rfl⟩ (by kernel_rfl) rfl dutyCut_plain (by kernel_rfl)

#print axioms dutyCut_holds
end Go.Proofs.YtjbbcpeidnkjlaaDoor
