/-
  Joined texts of a calculus of abstract memory, of the program's code in it, and of contracts.
-/
import Derived.Test.YtjbbcpeidnkjlaaDoorJ6
namespace Go.Ab

section
variable {P : Program} {t : Nat → Value} {H : Heap} {sz n o len cap k : Nat} {x y : Opd} {kd : IntKind}
theorem aval_sl_to (hx : x.ev t = .slice (some ⟨n, o, none⟩) len cap) (hy : y.ev t = .int kd (k : Int)) (h : k ≤ len) (h0 : 0 < k) : aval P t H (.sl sz x none (some y)) = some (.slice (some ⟨n, o, none⟩) k cap) := by
  have e2 : (k : Int) ≤ (cap : Int) ∨ (k : Int) ≤ (len : Int) := .inr (by omega)
  simp only [aval, hx, hy, Option.getD_some, Option.getD_none]
  rw [if_pos ⟨by omega, e2, by omega, by omega⟩, if_pos ⟨trivial, .inr (by omega)⟩, Int.toNat_natCast]
theorem aval_sl_from (hx : x.ev t = .slice (some ⟨n, o, none⟩) len cap) (hy : y.ev t = .int kd (k : Int)) (h : k < len) (h0 : 0 < k) : aval P t H (.sl sz x (some y) none) = some (.slice (some ⟨n, o + k * sz, none⟩) (len - k) 0) := by
  have e2 : (len : Int) ≤ (cap : Int) ∨ (len : Int) ≤ (len : Int) := .inr (Int.le_refl _)
  simp only [aval, hx, hy, Option.getD_some, Option.getD_none]
  rw [if_pos ⟨by omega, e2, by omega, by omega⟩, if_neg (by omega), if_pos (by omega), Int.toNat_natCast, Int.toNat_natCast]

theorem slCells_to {rw : Bool} {ds cs : List Value} {c : Nat} {cap' : Nat} (hg : H.get n = .cells rw ds c) (hr : rdL ds o (len * sz) = some cs) (h : k ≤ len) : slCells H sz (.slice (some ⟨n, o, none⟩) k cap') = some (k, cs.take (k * sz)) := by
  obtain ⟨h1, h2, h3⟩ := rdL_some hr
  have hm := Nat.mul_le_mul_right sz h
  simp only [slCells, hg]
  unfold rdL
  rw [if_pos (by omega), h1, List.take_take, Nat.min_eq_left hm]
  rfl
theorem slCells_from {rw : Bool} {ds cs : List Value} {c : Nat} {cap' : Nat} (hg : H.get n = .cells rw ds c) (hr : rdL ds o (len * sz) = some cs) (h : k ≤ len) : slCells H sz (.slice (some ⟨n, o + k * sz, none⟩) (len - k) cap') = some (len - k, cs.drop (k * sz)) := by
  obtain ⟨h1, h2, h3⟩ := rdL_some hr
  have hm := Nat.mul_le_mul_right sz h
  have e : k * sz + (len - k) * sz = len * sz := by rw [← Nat.add_mul]; congr 1; omega
  simp only [slCells, hg]
  unfold rdL
  rw [if_pos (by omega), h1, List.drop_take, List.drop_drop]
  simp only [Option.map_some]
  congr 4
  omega
end

end Go.Ab

