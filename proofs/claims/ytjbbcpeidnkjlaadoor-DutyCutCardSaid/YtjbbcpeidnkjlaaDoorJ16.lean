/-
  Joined texts of a calculus of abstract memory, of the program's code in it, and of contracts.
-/
import Derived.Test.YtjbbcpeidnkjlaaDoorJ8
import Derived.Test.YtjbbcpeidnkjlaaDoorJ10
import Derived.KernelRfl
namespace Go.Proofs.YtjbbcpeidnkjlaaDoor
open Go Go.Ab

noncomputable def e22 : Entry := ⟨[.agg ⟨[.int .i64 240, .int .i64 420, .int .i64 600, .int .i64 30, .int .i64 10, .int .i64 10, .int .i64 300, .int .i64 2, .slice (some ⟨2, 0, none⟩) 2 2, .slice (some ⟨3, 0, none⟩) 2 2]⟩, .slice (some ⟨4, 0, none⟩) 2 2], [gl0, gl1, some (true, [.slice (some ⟨5, 0, none⟩) 4 4, .slice (some ⟨6, 0, none⟩) 3 3], 2), some (true, [.slice (some ⟨7, 0, none⟩) 2 2, .slice (some ⟨8, 0, none⟩) 2 2], 2), some (true, [.int .i64 0, .int .i64 2], 2), some (true, [.int .i64 0, .int .i64 300, .int .i64 300, .int .i64 1, .int .i64 420, .int .i64 430, .int .i64 0, .int .i64 530, .int .i64 550, .int .i64 0, .int .i64 650, .int .i64 670], 12), some (true, [.int .i64 0, .int .i64 400, .int .i64 400, .int .i64 1, .int .i64 500, .int .i64 510, .int .i64 0, .int .i64 600, .int .i64 620], 9), some (true, [.int .i64 0, .int .i64 5], 2), some (true, [.int .i64 5, .int .i64 0], 2)], .tuple ⟨[.bool true, .int .i64 0]⟩, []⟩
set_option maxRecDepth 1000000 in
theorem e22_ok : e22.Ok Tryd.prog 19 := entryK_ok mixed tabOk (runK_ok mixed tabOk eoOk (WOk.id _) 100000000) (by kernel_rfl)

noncomputable def e23 : Entry := ⟨[.agg ⟨[.int .i64 240, .int .i64 420, .int .i64 600, .int .i64 30, .int .i64 10, .int .i64 10, .int .i64 300, .int .i64 2, .slice (some ⟨2, 0, none⟩) 2 2, .slice (some ⟨3, 0, none⟩) 2 2]⟩, .slice (some ⟨4, 0, none⟩) 2 2], [gl0, gl1, some (true, [.slice (some ⟨5, 0, none⟩) 4 4, .slice (some ⟨6, 0, none⟩) 3 3], 2), some (true, [.slice (some ⟨7, 0, none⟩) 2 2, .slice (some ⟨8, 0, none⟩) 2 2], 2), some (true, [.int .i64 0, .int .i64 1], 2), some (true, [.int .i64 0, .int .i64 300, .int .i64 300, .int .i64 1, .int .i64 420, .int .i64 430, .int .i64 0, .int .i64 530, .int .i64 550, .int .i64 0, .int .i64 650, .int .i64 670], 12), some (true, [.int .i64 0, .int .i64 400, .int .i64 400, .int .i64 1, .int .i64 500, .int .i64 510, .int .i64 0, .int .i64 600, .int .i64 620], 9), some (true, [.int .i64 0, .int .i64 5], 2), some (true, [.int .i64 5, .int .i64 0], 2)], .tuple ⟨[.bool false, .int .i64 0]⟩, []⟩
set_option maxRecDepth 1000000 in
theorem e23_ok : e23.Ok Tryd.prog 19 := entryK_ok mixed tabOk (runK_ok mixed tabOk eoOk (WOk.id _) 100000000) (by kernel_rfl)

noncomputable def e24 : Entry := ⟨[.agg ⟨[.int .i64 240, .int .i64 420, .int .i64 600, .int .i64 30, .int .i64 10, .int .i64 10, .int .i64 300, .int .i64 2, .slice (some ⟨2, 0, none⟩) 2 2, .slice (some ⟨3, 0, none⟩) 2 2]⟩, .slice (some ⟨4, 0, none⟩) 5 5], [gl0, gl1, some (true, [.slice (some ⟨5, 0, none⟩) 4 4, .slice (some ⟨6, 0, none⟩) 3 3], 2), some (true, [.slice (some ⟨7, 0, none⟩) 2 2, .slice (some ⟨8, 0, none⟩) 2 2], 2), some (true, [.int .i64 1000, .int .i64 1000, .int .i64 0, .int .i64 1000, .int .i64 0], 5), some (true, [.int .i64 0, .int .i64 300, .int .i64 300, .int .i64 1, .int .i64 420, .int .i64 430, .int .i64 0, .int .i64 530, .int .i64 550, .int .i64 0, .int .i64 650, .int .i64 670], 12), some (true, [.int .i64 0, .int .i64 400, .int .i64 400, .int .i64 1, .int .i64 500, .int .i64 510, .int .i64 0, .int .i64 600, .int .i64 620], 9), some (true, [.int .i64 0, .int .i64 5], 2), some (true, [.int .i64 5, .int .i64 0], 2)], .tuple ⟨[.int .i64 3, .int .i64 0]⟩, []⟩
set_option maxRecDepth 1000000 in
theorem e24_ok : e24.Ok Tryd.prog 41 := entryK_ok mixed tabOk (runK_ok mixed tabOk eoOk (WOk.id _) 100000000) (by kernel_rfl)

end Go.Proofs.YtjbbcpeidnkjlaaDoor

