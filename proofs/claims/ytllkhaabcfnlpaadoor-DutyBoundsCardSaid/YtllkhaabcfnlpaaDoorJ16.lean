/-
  Joined texts of a calculus of abstract memory, of the program's code in it, and of contracts.
-/
import Derived.Test.YtllkhaabcfnlpaaDoorJ11
import Derived.Test.YtllkhaabcfnlpaaDoorJ15
import Derived.KernelRfl
/-
  Closed calls, carried out.
-/
namespace Go.Proofs.YtllkhaabcfnlpaaDoor
open Go Go.Ab

/-- Function 17. -/
noncomputable def e0 : Entry := ⟨[.agg ⟨[.int .i64 240, .int .i64 420, .int .i64 600, .int .i64 30, .int .i64 10, .int .i64 10, .int .i64 300, .int .i64 2, .slice (some ⟨2, 0, none⟩) 2 2, .slice (some ⟨3, 0, none⟩) 2 2]⟩], [gl0, gl1, some (true, [.slice (some ⟨4, 0, none⟩) 4 4, .slice (some ⟨5, 0, none⟩) 3 3], 2), some (true, [.slice (some ⟨6, 0, none⟩) 2 2, .slice (some ⟨7, 0, none⟩) 2 2], 2), some (true, [.int .i64 0, .int .i64 300, .int .i64 300, .int .i64 1, .int .i64 420, .int .i64 430, .int .i64 0, .int .i64 530, .int .i64 550, .int .i64 0, .int .i64 650, .int .i64 670], 12), some (true, [.int .i64 0, .int .i64 400, .int .i64 400, .int .i64 1, .int .i64 500, .int .i64 510, .int .i64 0, .int .i64 600, .int .i64 620], 9), some (true, [.int .i64 0, .int .i64 5], 2), some (true, [.int .i64 5, .int .i64 0], 2)], .int .i64 0, []⟩
set_option maxRecDepth 1000000 in
theorem e0_ok : e0.Ok Tryd.prog 17 := entryK_ok mixed tabOk (runK_ok mixed tabOk eoOk (WOk.id _) 100000000) (by kernel_rfl)

/-- Function 21. -/
noncomputable def e1 : Entry := ⟨[.agg ⟨[.int .i64 240, .int .i64 420, .int .i64 600, .int .i64 30, .int .i64 10, .int .i64 10, .int .i64 300, .int .i64 2, .slice (some ⟨2, 0, none⟩) 2 2, .slice (some ⟨3, 0, none⟩) 2 2]⟩, .slice (some ⟨4, 0, none⟩) 2 2], [gl0, gl1, some (true, [.slice (some ⟨5, 0, none⟩) 4 4, .slice (some ⟨6, 0, none⟩) 3 3], 2), some (true, [.slice (some ⟨7, 0, none⟩) 2 2, .slice (some ⟨8, 0, none⟩) 2 2], 2), some (true, [.int .i64 0, .int .i64 2], 2), some (true, [.int .i64 0, .int .i64 300, .int .i64 300, .int .i64 1, .int .i64 420, .int .i64 430, .int .i64 0, .int .i64 530, .int .i64 550, .int .i64 0, .int .i64 650, .int .i64 670], 12), some (true, [.int .i64 0, .int .i64 400, .int .i64 400, .int .i64 1, .int .i64 500, .int .i64 510, .int .i64 0, .int .i64 600, .int .i64 620], 9), some (true, [.int .i64 0, .int .i64 5], 2), some (true, [.int .i64 5, .int .i64 0], 2)], .tuple ⟨[.int .i64 390, .int .i64 0]⟩, []⟩
set_option maxRecDepth 1000000 in
theorem e1_ok : e1.Ok Tryd.prog 21 := entryK_ok mixed tabOk (runK_ok mixed tabOk eoOk (WOk.id _) 100000000) (by kernel_rfl)

/-- Function 21. -/
noncomputable def e2 : Entry := ⟨[.agg ⟨[.int .i64 240, .int .i64 420, .int .i64 600, .int .i64 30, .int .i64 10, .int .i64 10, .int .i64 300, .int .i64 2, .slice (some ⟨2, 0, none⟩) 2 2, .slice (some ⟨3, 0, none⟩) 2 2]⟩, .slice (some ⟨4, 0, none⟩) 2 2], [gl0, gl1, some (true, [.slice (some ⟨5, 0, none⟩) 4 4, .slice (some ⟨6, 0, none⟩) 3 3], 2), some (true, [.slice (some ⟨7, 0, none⟩) 2 2, .slice (some ⟨8, 0, none⟩) 2 2], 2), some (true, [.int .i64 3, .int .i64 4], 2), some (true, [.int .i64 0, .int .i64 300, .int .i64 300, .int .i64 1, .int .i64 420, .int .i64 430, .int .i64 0, .int .i64 530, .int .i64 550, .int .i64 0, .int .i64 650, .int .i64 670], 12), some (true, [.int .i64 0, .int .i64 400, .int .i64 400, .int .i64 1, .int .i64 500, .int .i64 510, .int .i64 0, .int .i64 600, .int .i64 620], 9), some (true, [.int .i64 0, .int .i64 5], 2), some (true, [.int .i64 5, .int .i64 0], 2)], .tuple ⟨[.int .i64 300, .int .i64 0]⟩, []⟩
set_option maxRecDepth 1000000 in
theorem e2_ok : e2.Ok Tryd.prog 21 := entryK_ok mixed tabOk (runK_ok mixed tabOk eoOk (WOk.id _) 100000000) (by kernel_rfl)

/-- Function 27. -/
noncomputable def e3 : Entry := ⟨[.agg ⟨[.int .i64 240, .int .i64 420, .int .i64 600, .int .i64 30, .int .i64 10, .int .i64 10, .int .i64 300, .int .i64 2, .slice (some ⟨2, 0, none⟩) 2 2, .slice (some ⟨3, 0, none⟩) 2 2]⟩, .slice (some ⟨4, 0, none⟩) 2 2, .slice (some ⟨5, 0, none⟩) 2 2], [gl0, gl1, some (true, [.slice (some ⟨6, 0, none⟩) 4 4, .slice (some ⟨7, 0, none⟩) 3 3], 2), some (true, [.slice (some ⟨8, 0, none⟩) 2 2, .slice (some ⟨9, 0, none⟩) 2 2], 2), some (true, [.int .i64 0, .int .i64 2], 2), some (true, [.slice (some ⟨10, 0, none⟩) 4 4, .slice (some ⟨11, 0, none⟩) 3 3], 2), some (true, [.int .i64 0, .int .i64 300, .int .i64 300, .int .i64 1, .int .i64 420, .int .i64 430, .int .i64 0, .int .i64 530, .int .i64 550, .int .i64 0, .int .i64 650, .int .i64 670], 12), some (true, [.int .i64 0, .int .i64 400, .int .i64 400, .int .i64 1, .int .i64 500, .int .i64 510, .int .i64 0, .int .i64 600, .int .i64 620], 9), some (true, [.int .i64 0, .int .i64 5], 2), some (true, [.int .i64 5, .int .i64 0], 2), some (true, [.int .i64 300, .int .i64 425, .int .i64 540, .int .i64 660], 4), some (true, [.int .i64 400, .int .i64 505, .int .i64 610], 3)], .tuple ⟨[.agg ⟨[.int .i64 245, .int .i64 380, .slice (some ⟨12, 0, none⟩) 1 1, .bool true]⟩, .int .i64 0]⟩, [some (true, [.int .i64 115], 1)]⟩
set_option maxRecDepth 1000000 in
theorem e3_ok : e3.Ok Tryd.prog 27 := entryK_ok mixed tabOk (runK_ok mixed tabOk eoOk (WOk.id _) 100000000) (by kernel_rfl)

/-- Function 17. -/
noncomputable def e5 : Entry := ⟨[.agg ⟨[.int .i64 125, .int .i64 420, .int .i64 600, .int .i64 30, .int .i64 10, .int .i64 10, .int .i64 300, .int .i64 2, .slice (some ⟨2, 0, none⟩) 2 2, .slice (some ⟨3, 0, none⟩) 2 2]⟩], [gl0, gl1, some (true, [.slice (some ⟨4, 0, none⟩) 4 4, .slice (some ⟨5, 0, none⟩) 3 3], 2), some (true, [.slice (some ⟨6, 0, none⟩) 2 2, .slice (some ⟨7, 0, none⟩) 2 2], 2), some (true, [.int .i64 0, .int .i64 300, .int .i64 300, .int .i64 1, .int .i64 420, .int .i64 430, .int .i64 0, .int .i64 530, .int .i64 550, .int .i64 0, .int .i64 650, .int .i64 670], 12), some (true, [.int .i64 0, .int .i64 400, .int .i64 400, .int .i64 1, .int .i64 500, .int .i64 510, .int .i64 0, .int .i64 600, .int .i64 620], 9), some (true, [.int .i64 0, .int .i64 5], 2), some (true, [.int .i64 5, .int .i64 0], 2)], .int .i64 0, []⟩
set_option maxRecDepth 1000000 in
theorem e5_ok : e5.Ok Tryd.prog 17 := entryK_ok mixed tabOk (runK_ok mixed tabOk eoOk (WOk.id _) 100000000) (by kernel_rfl)

/-- Function 46. -/
noncomputable def e7 : Entry := ⟨[.agg ⟨[.int .i64 240, .int .i64 420, .int .i64 600, .int .i64 30, .int .i64 10, .int .i64 10, .int .i64 300, .int .i64 2, .slice (some ⟨2, 0, none⟩) 2 2, .slice (some ⟨3, 0, none⟩) 2 2]⟩, .slice (some ⟨4, 0, none⟩) 3 3], [gl0, gl1, some (true, [.slice (some ⟨5, 0, none⟩) 4 4, .slice (some ⟨6, 0, none⟩) 3 3], 2), some (true, [.slice (some ⟨7, 0, none⟩) 2 2, .slice (some ⟨8, 0, none⟩) 2 2], 2), some (true, [.slice (some ⟨9, 0, none⟩) 2 2, .slice (some ⟨10, 0, none⟩) 1 1, .slice (some ⟨11, 0, none⟩) 2 2], 3), some (true, [.int .i64 0, .int .i64 300, .int .i64 300, .int .i64 1, .int .i64 420, .int .i64 430, .int .i64 0, .int .i64 530, .int .i64 550, .int .i64 0, .int .i64 650, .int .i64 670], 12), some (true, [.int .i64 0, .int .i64 400, .int .i64 400, .int .i64 1, .int .i64 500, .int .i64 510, .int .i64 0, .int .i64 600, .int .i64 620], 9), some (true, [.int .i64 0, .int .i64 5], 2), some (true, [.int .i64 5, .int .i64 0], 2), some (true, [.int .i64 0, .int .i64 2], 2), some (true, [.int .i64 1], 1), some (true, [.int .i64 3, .int .i64 4], 2)], .bool true, []⟩
set_option maxRecDepth 1000000 in
theorem e7_ok : e7.Ok Tryd.prog 46 := entryK_ok mixed tabOk (runK_ok mixed tabOk eoOk (WOk.id _) 100000000) (by kernel_rfl)

/-- Function 46. -/
noncomputable def e8 : Entry := ⟨[.agg ⟨[.int .i64 240, .int .i64 420, .int .i64 600, .int .i64 30, .int .i64 10, .int .i64 10, .int .i64 300, .int .i64 2, .slice (some ⟨2, 0, none⟩) 2 2, .slice (some ⟨3, 0, none⟩) 2 2]⟩, .slice (some ⟨4, 1, none⟩) 2 0], [gl0, gl1, some (true, [.slice (some ⟨5, 0, none⟩) 4 4, .slice (some ⟨6, 0, none⟩) 3 3], 2), some (true, [.slice (some ⟨7, 0, none⟩) 2 2, .slice (some ⟨8, 0, none⟩) 2 2], 2), some (true, [.slice (some ⟨9, 0, none⟩) 2 2, .slice (some ⟨10, 0, none⟩) 1 1, .slice (some ⟨11, 0, none⟩) 2 2], 3), some (true, [.int .i64 0, .int .i64 300, .int .i64 300, .int .i64 1, .int .i64 420, .int .i64 430, .int .i64 0, .int .i64 530, .int .i64 550, .int .i64 0, .int .i64 650, .int .i64 670], 12), some (true, [.int .i64 0, .int .i64 400, .int .i64 400, .int .i64 1, .int .i64 500, .int .i64 510, .int .i64 0, .int .i64 600, .int .i64 620], 9), some (true, [.int .i64 0, .int .i64 5], 2), some (true, [.int .i64 5, .int .i64 0], 2), some (true, [.int .i64 0, .int .i64 2], 2), some (true, [.int .i64 1], 1), some (true, [.int .i64 3, .int .i64 4], 2)], .bool false, []⟩
set_option maxRecDepth 1000000 in
theorem e8_ok : e8.Ok Tryd.prog 46 := entryK_ok mixed tabOk (runK_ok mixed tabOk eoOk (WOk.id _) 100000000) (by kernel_rfl)

/-- Function 19. -/
noncomputable def e9 : Entry := ⟨[.agg ⟨[.int .i64 240, .int .i64 420, .int .i64 600, .int .i64 30, .int .i64 10, .int .i64 10, .int .i64 300, .int .i64 2, .slice (some ⟨2, 0, none⟩) 2 2, .slice (some ⟨3, 0, none⟩) 2 2]⟩, .slice (some ⟨4, 0, none⟩) 2 2], [gl0, gl1, some (true, [.slice (some ⟨5, 0, none⟩) 4 4, .slice (some ⟨6, 0, none⟩) 3 3], 2), some (true, [.slice (some ⟨7, 0, none⟩) 2 2, .slice (some ⟨8, 0, none⟩) 2 2], 2), some (true, [.int .i64 2, .int .i64 0], 2), some (true, [.int .i64 0, .int .i64 300, .int .i64 300, .int .i64 1, .int .i64 420, .int .i64 430, .int .i64 0, .int .i64 530, .int .i64 550, .int .i64 0, .int .i64 650, .int .i64 670], 12), some (true, [.int .i64 0, .int .i64 400, .int .i64 400, .int .i64 1, .int .i64 500, .int .i64 510, .int .i64 0, .int .i64 600, .int .i64 620], 9), some (true, [.int .i64 0, .int .i64 5], 2), some (true, [.int .i64 5, .int .i64 0], 2)], .tuple ⟨[.bool false, .int .i64 2]⟩, []⟩
set_option maxRecDepth 1000000 in
theorem e9_ok : e9.Ok Tryd.prog 19 := entryK_ok mixed tabOk (runK_ok mixed tabOk eoOk (WOk.id _) 100000000) (by kernel_rfl)

/-- Function 19. -/
noncomputable def e10 : Entry := ⟨[.agg ⟨[.int .i64 240, .int .i64 420, .int .i64 600, .int .i64 30, .int .i64 10, .int .i64 10, .int .i64 300, .int .i64 2, .slice (some ⟨2, 0, none⟩) 2 2, .slice (some ⟨3, 0, none⟩) 2 2]⟩, .slice none 0 0], [gl0, gl1, some (true, [.slice (some ⟨4, 0, none⟩) 4 4, .slice (some ⟨5, 0, none⟩) 3 3], 2), some (true, [.slice (some ⟨6, 0, none⟩) 2 2, .slice (some ⟨7, 0, none⟩) 2 2], 2), some (true, [.int .i64 0, .int .i64 300, .int .i64 300, .int .i64 1, .int .i64 420, .int .i64 430, .int .i64 0, .int .i64 530, .int .i64 550, .int .i64 0, .int .i64 650, .int .i64 670], 12), some (true, [.int .i64 0, .int .i64 400, .int .i64 400, .int .i64 1, .int .i64 500, .int .i64 510, .int .i64 0, .int .i64 600, .int .i64 620], 9), some (true, [.int .i64 0, .int .i64 5], 2), some (true, [.int .i64 5, .int .i64 0], 2)], .tuple ⟨[.bool false, .int .i64 2]⟩, []⟩
set_option maxRecDepth 1000000 in
theorem e10_ok : e10.Ok Tryd.prog 19 := entryK_ok mixed tabOk (runK_ok mixed tabOk eoOk (WOk.id _) 100000000) (by kernel_rfl)

/-- Function 21. -/
noncomputable def e11 : Entry := ⟨[.agg ⟨[.int .i64 240, .int .i64 420, .int .i64 600, .int .i64 30, .int .i64 10, .int .i64 10, .int .i64 300, .int .i64 2, .slice (some ⟨2, 0, none⟩) 2 2, .slice (some ⟨3, 0, none⟩) 2 2]⟩, .slice (some ⟨4, 0, none⟩) 2 2], [gl0, gl1, some (true, [.slice (some ⟨5, 0, none⟩) 4 4, .slice (some ⟨6, 0, none⟩) 3 3], 2), some (true, [.slice (some ⟨7, 0, none⟩) 2 2, .slice (some ⟨8, 0, none⟩) 2 2], 2), some (true, [.int .i64 0, .int .i64 1], 2), some (true, [.int .i64 0, .int .i64 300, .int .i64 300, .int .i64 1, .int .i64 420, .int .i64 430, .int .i64 0, .int .i64 530, .int .i64 550, .int .i64 0, .int .i64 650, .int .i64 670], 12), some (true, [.int .i64 0, .int .i64 400, .int .i64 400, .int .i64 1, .int .i64 500, .int .i64 510, .int .i64 0, .int .i64 600, .int .i64 620], 9), some (true, [.int .i64 0, .int .i64 5], 2), some (true, [.int .i64 5, .int .i64 0], 2)], .tuple ⟨[.int .i64 0, .int .i64 10]⟩, []⟩
set_option maxRecDepth 1000000 in
theorem e11_ok : e11.Ok Tryd.prog 21 := entryK_ok mixed tabOk (runK_ok mixed tabOk eoOk (WOk.id _) 100000000) (by kernel_rfl)

/-- Function 27. -/
noncomputable def e12 : Entry := ⟨[.agg ⟨[.int .i64 240, .int .i64 420, .int .i64 600, .int .i64 30, .int .i64 10, .int .i64 10, .int .i64 300, .int .i64 2, .slice (some ⟨2, 0, none⟩) 2 2, .slice (some ⟨3, 0, none⟩) 2 2]⟩, .slice (some ⟨4, 0, none⟩) 2 2, .slice (some ⟨5, 0, none⟩) 2 2], [gl0, gl1, some (true, [.slice (some ⟨6, 0, none⟩) 4 4, .slice (some ⟨7, 0, none⟩) 3 3], 2), some (true, [.slice (some ⟨8, 0, none⟩) 2 2, .slice (some ⟨9, 0, none⟩) 2 2], 2), some (true, [.int .i64 0, .int .i64 2], 2), some (true, [.slice (some ⟨10, 0, none⟩) 4 4, .slice (some ⟨11, 0, none⟩) 3 3], 2), some (true, [.int .i64 0, .int .i64 300, .int .i64 300, .int .i64 1, .int .i64 420, .int .i64 430, .int .i64 0, .int .i64 530, .int .i64 550, .int .i64 0, .int .i64 650, .int .i64 670], 12), some (true, [.int .i64 0, .int .i64 400, .int .i64 400, .int .i64 1, .int .i64 500, .int .i64 510, .int .i64 0, .int .i64 600, .int .i64 620], 9), some (true, [.int .i64 0, .int .i64 5], 2), some (true, [.int .i64 5, .int .i64 0], 2), some (true, [.int .i64 300, .int .i64 425, .int .i64 540, .int .i64 660], 4), some (true, [.int .i64 400, .int .i64 505, .int .i64 621], 3)], .tuple ⟨[.agg ⟨[.int .i64 0, .int .i64 0, .slice none 0 0, .bool false]⟩, .int .i64 2]⟩, []⟩
set_option maxRecDepth 1000000 in
theorem e12_ok : e12.Ok Tryd.prog 27 := entryK_ok mixed tabOk (runK_ok mixed tabOk eoOk (WOk.id _) 100000000) (by kernel_rfl)

/-- Function 41. -/
noncomputable def e16 : Entry := ⟨[.agg ⟨[.int .i64 240, .int .i64 420, .int .i64 600, .int .i64 30, .int .i64 10, .int .i64 10, .int .i64 300, .int .i64 2, .slice (some ⟨2, 0, none⟩) 2 2, .slice (some ⟨3, 0, none⟩) 2 2]⟩, .slice (some ⟨4, 0, none⟩) 1 1], [gl0, gl1, some (true, [.slice (some ⟨5, 0, none⟩) 4 4, .slice (some ⟨6, 0, none⟩) 3 3], 2), some (true, [.slice (some ⟨7, 0, none⟩) 2 2, .slice (some ⟨8, 0, none⟩) 2 2], 2), some (true, [.int .i64 1000], 1), some (true, [.int .i64 0, .int .i64 300, .int .i64 300, .int .i64 1, .int .i64 420, .int .i64 430, .int .i64 0, .int .i64 530, .int .i64 550, .int .i64 0, .int .i64 650, .int .i64 670], 12), some (true, [.int .i64 0, .int .i64 400, .int .i64 400, .int .i64 1, .int .i64 500, .int .i64 510, .int .i64 0, .int .i64 600, .int .i64 620], 9), some (true, [.int .i64 0, .int .i64 5], 2), some (true, [.int .i64 5, .int .i64 0], 2)], .tuple ⟨[.int .i64 0, .int .i64 2]⟩, []⟩
set_option maxRecDepth 1000000 in
theorem e16_ok : e16.Ok Tryd.prog 41 := entryK_ok mixed tabOk (runK_ok mixed tabOk eoOk (WOk.id _) 100000000) (by kernel_rfl)

/-- Function 17. -/
noncomputable def e17 : Entry := ⟨[.agg ⟨[.int .i64 240, .int .i64 420, .int .i64 600, .int .i64 30, .int .i64 10, .int .i64 10, .int .i64 300, .int .i64 2, .slice none 0 0, .slice (some ⟨2, 0, none⟩) 2 2]⟩], [gl0, gl1, some (true, [.slice (some ⟨3, 0, none⟩) 2 2, .slice (some ⟨4, 0, none⟩) 2 2], 2), some (true, [.int .i64 0, .int .i64 5], 2), some (true, [.int .i64 5, .int .i64 0], 2)], .int .i64 0, []⟩
set_option maxRecDepth 1000000 in
theorem e17_ok : e17.Ok Tryd.prog 17 := entryK_ok mixed tabOk (runK_ok mixed tabOk eoOk (WOk.id _) 100000000) (by kernel_rfl)

/-- Function 45. -/
noncomputable def e18 : Entry := ⟨[.agg ⟨[.int .i64 240, .int .i64 420, .int .i64 600, .int .i64 30, .int .i64 10, .int .i64 10, .int .i64 300, .int .i64 2, .slice none 0 0, .slice (some ⟨2, 0, none⟩) 2 2]⟩], [gl0, gl1, some (true, [.slice (some ⟨3, 0, none⟩) 2 2, .slice (some ⟨4, 0, none⟩) 2 2], 2), some (true, [.int .i64 0, .int .i64 5], 2), some (true, [.int .i64 5, .int .i64 0], 2)], .tuple ⟨[.slice (some ⟨5, 0, none⟩) 0 0, .int .i64 0, .int .i64 0]⟩, [some (true, [], 0)]⟩
set_option maxRecDepth 1000000 in
theorem e18_ok : e18.Ok Tryd.prog 45 := entryK_ok mixed tabOk (runK_ok mixed tabOk eoOk (WOk.id _) 100000000) (by kernel_rfl)

/-- Function 17. -/
noncomputable def e19 : Entry := ⟨[.agg ⟨[.int .i64 240, .int .i64 420, .int .i64 600, .int .i64 0, .int .i64 10, .int .i64 10, .int .i64 300, .int .i64 2, .slice (some ⟨2, 0, none⟩) 2 2, .slice (some ⟨3, 0, none⟩) 2 2]⟩], [gl0, gl1, some (true, [.slice (some ⟨4, 0, none⟩) 4 4, .slice (some ⟨5, 0, none⟩) 3 3], 2), some (true, [.slice (some ⟨6, 0, none⟩) 2 2, .slice (some ⟨7, 0, none⟩) 2 2], 2), some (true, [.int .i64 0, .int .i64 300, .int .i64 300, .int .i64 1, .int .i64 420, .int .i64 430, .int .i64 0, .int .i64 530, .int .i64 550, .int .i64 0, .int .i64 650, .int .i64 670], 12), some (true, [.int .i64 0, .int .i64 400, .int .i64 400, .int .i64 1, .int .i64 500, .int .i64 510, .int .i64 0, .int .i64 600, .int .i64 620], 9), some (true, [.int .i64 0, .int .i64 5], 2), some (true, [.int .i64 5, .int .i64 0], 2)], .int .i64 1, []⟩
set_option maxRecDepth 1000000 in
theorem e19_ok : e19.Ok Tryd.prog 17 := entryK_ok mixed tabOk (runK_ok mixed tabOk eoOk (WOk.id _) 100000000) (by kernel_rfl)

/-- Function 17. -/
noncomputable def e20 : Entry := ⟨[.agg ⟨[.int .i64 0, .int .i64 0, .int .i64 0, .int .i64 0, .int .i64 0, .int .i64 0, .int .i64 0, .int .i64 0, .slice none 0 0, .slice none 0 0]⟩], [gl0, gl1], .int .i64 1, []⟩
set_option maxRecDepth 1000000 in
theorem e20_ok : e20.Ok Tryd.prog 17 := entryK_ok mixed tabOk (runK_ok mixed tabOk eoOk (WOk.id _) 100000000) (by kernel_rfl)

/-- Function 17. -/
noncomputable def e21 : Entry := ⟨[.agg ⟨[.int .i64 240, .int .i64 420, .int .i64 600, .int .i64 30, .int .i64 10, .int .i64 10, .int .i64 300, .int .i64 2, .slice (some ⟨2, 0, none⟩) 7 7, .slice (some ⟨3, 0, none⟩) 2 2]⟩], [gl0, gl1, some (true, [.slice none 0 0, .slice none 0 0, .slice none 0 0, .slice none 0 0, .slice none 0 0, .slice none 0 0, .slice none 0 0], 7), some (true, [.slice (some ⟨4, 0, none⟩) 2 2, .slice (some ⟨5, 0, none⟩) 2 2], 2), some (true, [.int .i64 0, .int .i64 5], 2), some (true, [.int .i64 5, .int .i64 0], 2)], .int .i64 3, []⟩
set_option maxRecDepth 1000000 in
theorem e21_ok : e21.Ok Tryd.prog 17 := entryK_ok mixed tabOk (runK_ok mixed tabOk eoOk (WOk.id _) 100000000) (by kernel_rfl)

/-- Function 19. -/
noncomputable def e22 : Entry := ⟨[.agg ⟨[.int .i64 240, .int .i64 420, .int .i64 600, .int .i64 30, .int .i64 10, .int .i64 10, .int .i64 300, .int .i64 2, .slice (some ⟨2, 0, none⟩) 2 2, .slice (some ⟨3, 0, none⟩) 2 2]⟩, .slice (some ⟨4, 0, none⟩) 2 2], [gl0, gl1, some (true, [.slice (some ⟨5, 0, none⟩) 4 4, .slice (some ⟨6, 0, none⟩) 3 3], 2), some (true, [.slice (some ⟨7, 0, none⟩) 2 2, .slice (some ⟨8, 0, none⟩) 2 2], 2), some (true, [.int .i64 0, .int .i64 2], 2), some (true, [.int .i64 0, .int .i64 300, .int .i64 300, .int .i64 1, .int .i64 420, .int .i64 430, .int .i64 0, .int .i64 530, .int .i64 550, .int .i64 0, .int .i64 650, .int .i64 670], 12), some (true, [.int .i64 0, .int .i64 400, .int .i64 400, .int .i64 1, .int .i64 500, .int .i64 510, .int .i64 0, .int .i64 600, .int .i64 620], 9), some (true, [.int .i64 0, .int .i64 5], 2), some (true, [.int .i64 5, .int .i64 0], 2)], .tuple ⟨[.bool true, .int .i64 0]⟩, []⟩
set_option maxRecDepth 1000000 in
theorem e22_ok : e22.Ok Tryd.prog 19 := entryK_ok mixed tabOk (runK_ok mixed tabOk eoOk (WOk.id _) 100000000) (by kernel_rfl)

/-- Function 19. -/
noncomputable def e23 : Entry := ⟨[.agg ⟨[.int .i64 240, .int .i64 420, .int .i64 600, .int .i64 30, .int .i64 10, .int .i64 10, .int .i64 300, .int .i64 2, .slice (some ⟨2, 0, none⟩) 2 2, .slice (some ⟨3, 0, none⟩) 2 2]⟩, .slice (some ⟨4, 0, none⟩) 2 2], [gl0, gl1, some (true, [.slice (some ⟨5, 0, none⟩) 4 4, .slice (some ⟨6, 0, none⟩) 3 3], 2), some (true, [.slice (some ⟨7, 0, none⟩) 2 2, .slice (some ⟨8, 0, none⟩) 2 2], 2), some (true, [.int .i64 0, .int .i64 1], 2), some (true, [.int .i64 0, .int .i64 300, .int .i64 300, .int .i64 1, .int .i64 420, .int .i64 430, .int .i64 0, .int .i64 530, .int .i64 550, .int .i64 0, .int .i64 650, .int .i64 670], 12), some (true, [.int .i64 0, .int .i64 400, .int .i64 400, .int .i64 1, .int .i64 500, .int .i64 510, .int .i64 0, .int .i64 600, .int .i64 620], 9), some (true, [.int .i64 0, .int .i64 5], 2), some (true, [.int .i64 5, .int .i64 0], 2)], .tuple ⟨[.bool false, .int .i64 0]⟩, []⟩
set_option maxRecDepth 1000000 in
theorem e23_ok : e23.Ok Tryd.prog 19 := entryK_ok mixed tabOk (runK_ok mixed tabOk eoOk (WOk.id _) 100000000) (by kernel_rfl)

end Go.Proofs.YtllkhaabcfnlpaaDoor
