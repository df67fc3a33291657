/-
  Joined texts of a calculus of abstract memory, of the program's code in it, and of contracts.
-/
import Derived.Test.YtfijnkhiojejfaaJ1
import Derived.TacticsIn
import Derived.LoopNIn
import Derived.Scope
namespace Go.Ab

def zrep (n : Nat) (zero : List Value) : List Value := (List.replicate n zero).flatten

theorem zrep_succ (n : Nat) (zero : List Value) : zrep (n + 1) zero = zero ++ zrep n zero := by simp [zrep, List.replicate_succ]

theorem zrep_flat {zero : List Value} (h : zero.all flat1 = true) (n : Nat) : (zrep n zero).all flat1 = true := by
  induction n with
  | zero => rfl
  | succ n ih => rw [zrep_succ, List.all_append, h, ih]; rfl

theorem zrep_length (n : Nat) (zero : List Value) : (zrep n zero).length = n * zero.length := by
  induction n with
  | zero => simp [zrep]
  | succ n ih => rw [zrep_succ, List.length_append, ih, Nat.succ_mul, Nat.add_comm]

theorem zrep_get (zero : List Value) : ∀ (n i : Nat), i < n * zero.length → (zrep n zero)[i]? = zero[i % zero.length]?
  | 0, i, h => by simp at h
  | n + 1, i, h => by
    rw [zrep_succ, List.getElem?_append]
    split
    · rename_i hlt; rw [Nat.mod_eq_of_lt hlt]
    · rename_i hge
      have hlt : i - zero.length < n * zero.length := by rw [Nat.succ_mul] at h; omega
      rw [zrep_get zero n (i - zero.length) hlt, ← Nat.mod_eq_sub_mod (by omega)]

theorem zero_cells {z : Array Value} (n : Nat) (hz : 0 < z.size) : ((Array.range (n * z.size)).map (z[· % z.size]!)).toList = zrep n z.toList := by
  apply List.ext_getElem?
  intro i
  by_cases h : i < n * z.size
  · rw [zrep_get _ _ _ (by simpa using h)]
    have hm : i % z.size < z.size := Nat.mod_lt _ hz
    simp [h, getElem!_pos, hm]
  · rw [List.getElem?_eq_none (by simp; omega), List.getElem?_eq_none (by rw [zrep_length]; simpa using h)]

def amake (t : Nat → Value) (n : Nat) : AOp → Option (AObj × Value)
  | .new z => some (.cells true z z.length, .pointer (some ⟨n, 0, none⟩))
  | .box x => some (.cells true (x.ev t).cells.toList (x.ev t).cells.size, .pointer (some ⟨n, 0, none⟩))
  | .bsl len zero parts => (fillA zero (parts.map fun (off, sz, x) => (off, sz, x.ev t))).map fun l => (.cells true l l.length, .slice (some ⟨n, 0, none⟩) len len)
  | .mks sz bytes zero len cap => match len.ev t, cap.ev t with
    | .int _ l, .int _ c => if 0 ≤ l ∧ l ≤ c ∧ (bytes : Int) * c ≤ 2 ^ 48 ∧ c < 2 ^ 62 then
        some (.cells true (zrep c.toNat zero) (c.toNat * sz), .slice (some ⟨n, 0, none⟩) l.toNat c.toNat) else none
    | _, _ => none
  | .mkm => some (.map [] 0, .map (some n))
  | _ => none

def cmake (P : Program) (N : Nat) (o : Oper) : Option AOp :=
  match o.op with
  | .alloc T => (tinfo P T).map fun i => .new i.zero
  | .box _ x => (copd N x).map .box
  | .buildSlice T len parts => match P.underlying T with
    | some (.slice e) => match tinfo P e with
      | some i => if i.size = 0 ∨ 2 ^ 24 < len * i.size then none else (cparts N (fun k => some (k * i.size, i.size)) parts.toList).map (.bsl len (zrep len i.zero))
      | none => none
    | _ => none
  | .makeSlice T len cap => match P.underlying T, copd N len, copd N cap with
    | some (.slice e), some l, some c => match tinfo P e with
      | some i => if i.size = 0 then none else some (.mks i.size i.bytes i.zero l c)
      | none => none
    | _, _, _ => none
  | .makeMap _ none => some .mkm
  | _ => none

theorem wrap64_id {n : Int} (h0 : 0 ≤ n) (h1 : n < 2 ^ 62) : IntKind.i64.wrap n = n := by
  unfold IntKind.wrap
  simp only [IntKind.bits, IntKind.signed, Bool.true_and]
  have e : n % 2 ^ 64 = n := Int.emod_eq_of_lt h0 (by omega)
  simp only [e]
  rw [if_neg (by simp; omega)]

section
variable {P : Program} {β β' : Places} {N : Nat} {t : Nat → Value} {a : Act} {H : Heap} {w : World} {v : Value} {o : Oper}

theorem OR.new_cells {l : List Value} {c ka es km : Nat} {arr : Array Value} {T : TypeId} (hl : VL β' l (arr.toList.take l.length)) (hlen : l.length ≤ c) (hc : c ≤ arr.size) (hs : ka = 0 ∨ (c = ka * es ∧ km * es ≤ arr.size)) :
    OR β' ⟨w.heap.size, 0, ka, es, km⟩ (w.heap.push (.cells arr T)) (.cells true l c) :=
  ⟨hlen, arr, T, (0, 0), by simp, ⟨by simpa using hc, by simpa [Slack] using hs⟩, fun _ => rfl, by simpa using hl⟩

theorem cmake_sound {ao : AOp} {n : Nat} {x : AObj} (hc : cmake P N o = some ao) (ht : TR β N t a.tmps) (he : Ext β β') (hn : β' n = some ⟨w.heap.size, 0, 0, 0, 0⟩) (h : amake t n ao = some (x, v)) :
    ∃ u ob, (execOp a.eval o).run P w = .ok (.value u) { w with heap := w.heap.push ob } ∧ OR β' ⟨w.heap.size, 0, 0, 0, 0⟩ (w.heap.push ob) x ∧ VR β' v u := by
  have hptr : VR β' (.pointer (some ⟨n, 0, none⟩)) (.pointer (some ⟨w.heap.size, 0, none⟩)) := by simpa using (VR.ptr (β := β') (off := 0) hn)
  have hsl : ∀ len cap, len ≤ cap → VR β' (.slice (some ⟨n, 0, none⟩) len cap) (.slice (some ⟨w.heap.size, 0, none⟩) len cap) := fun len cap hlc => by simpa using (VR.slice (β := β') (off := 0) (len := len) (cap := cap) hn ⟨hlc, .inl rfl⟩)
  cases ho : o.op with
  | alloc T =>
    simp only [cmake, ho, Option.map_eq_some_iff] at hc
    obtain ⟨i, hi, rfl⟩ := hc
    obtain ⟨d, j, z, h1, h2, h3, h4, h5, h6, h7, h8, h9⟩ := tinfo_spec hi
    simp only [amake, Option.some.injEq, Prod.mk.injEq] at h
    obtain ⟨rfl, rfl⟩ := h
    refine ⟨_, .cells z.cells T, ?_, ?_, hptr⟩
    · simp [execOp, ho, Instr.alloc, run_zeroValue h2 h3, newVar, newRow]
    · refine OR.new_cells ?_ (Nat.le_refl _) (by rw [h7]; simp) (.inl rfl)
      rw [h7, List.take_length]
      exact flatL_VR β' (h7 ▸ h9)
  | box T y =>
    simp only [cmake, ho, Option.map_eq_some_iff] at hc
    obtain ⟨z, hz, rfl⟩ := hc
    simp only [amake, Option.some.injEq, Prod.mk.injEq] at h
    obtain ⟨rfl, rfl⟩ := h
    have hv := ((copd_VR hz ht).ext he).cells
    refine ⟨_, .cells (a.eval y).cells T, ?_, ?_, hptr⟩
    · simp [execOp, ho, Instr.box, newVar, newRow]
    · have hs := hv.length
      simp only [Array.length_toList] at hs
      refine OR.new_cells ?_ (by simp) (by omega) (.inl rfl)
      rw [List.take_of_length_le (by simp; omega)]
      exact hv
  | buildSlice T len parts =>
    simp only [cmake, ho] at hc
    split at hc
    · rename_i e hT
      split at hc
      · rename_i i hi
        split at hc
        · cases hc
        · rename_i hsz
          simp only [Option.map_eq_some_iff] at hc
          obtain ⟨ps, hps, rfl⟩ := hc
          obtain ⟨d, j, z, h1, h2, h3, h4, h5, h6, h7, h8, h9⟩ := tinfo_spec hi
          simp only [amake, Option.map_eq_some_iff, Prod.mk.injEq] at h
          obtain ⟨out, hf, rfl, rfl⟩ := h
          simp only [not_or, Nat.not_lt] at hsz
          have hzs : z.cells.size = i.size := by rw [← h8, h7]; simp
          have hzc : VL β (zrep len i.zero) ((Array.range (len * i.size)).map (z.cells[· % z.cells.size]!)).toList := by
            rw [← hzs, zero_cells len (by omega), ← h7]
            exact flatL_VR β (zrep_flat h9 len)
          obtain ⟨out', ho', hvl⟩ := parts_run ht hps hf hzc
          have hll := hvl.length
          simp only [Array.length_toList] at hll
          refine ⟨_, .cells out' e, ?_, ?_, hsl len len (Nat.le_refl _)⟩
          · have ho2 : Instr.fill (fun k => some (k * j.size, j.size)) ((Array.range (len * i.size)).map (z.cells[· % z.cells.size]!)) (parts.toList.map fun (i, x) => (i, a.eval x)) = some out' := by rw [← h5]; exact ho'
            have hle : ¬ 2 ^ 24 < len * j.size := by rw [← h5]; exact Nat.not_lt.2 hsz.2
            simp only [execOp, ho, Instr.buildSlice, Sem.run_bind, run_underlying hT, run_sizeOf h2, Result.andThen_ok, Array.toList_map]
            rw [if_neg hle]
            simp only [Sem.run_pure]
            rw [h5] at ho2
            by_cases hlen : len * j.size = 0
            · simp only [hlen, if_true, Sem.run_bind, Sem.run_pure, Result.andThen_ok]
              have e0 : ∀ z : Array Value, (Array.range 0).map (z[· % z.size]!) = #[] := fun z => by simp
              rw [hlen, e0] at ho2
              rw [e0, ho2]
              simp [newRow]
            · simp only [hlen, if_false, Sem.run_bind, run_zeroValue h2 h3, Result.andThen_ok, Sem.run_pure]
              rw [ho2]
              simp [newRow]
          · refine OR.new_cells ?_ (Nat.le_refl _) (by omega) (.inl rfl)
            rw [List.take_of_length_le (by simp; omega)]
            exact hvl.ext he
      · cases hc
    · cases hc
  | makeSlice T len cap =>
    simp only [cmake, ho] at hc
    split at hc
    · rename_i e l c hT hl hcp
      split at hc
      · rename_i i hi
        split at hc
        · cases hc
        · rename_i hsz
          simp only [Option.some.injEq] at hc; subst hc
          obtain ⟨d, j, z, h1, h2, h3, h4, h5, h6, h7, h8, h9⟩ := tinfo_spec hi
          simp only [amake] at h
          split at h
          · rename_i kl nl kc nc e1 e2
            split at h
            · rename_i hb
              obtain ⟨b1, b2, b3, b4⟩ := hb
              simp only [Option.some.injEq, Prod.mk.injEq] at h
              obtain ⟨rfl, rfl⟩ := h
              have q1 := copd_VR hl ht
              have q2 := copd_VR hcp ht
              rw [e1] at q1; rw [e2] at q2
              have hzs : z.cells.size = i.size := by rw [← h8, h7]; simp
              have wl := wrap64_id b1 (by omega)
              have wc := wrap64_id (by omega) b4
              have hcells : ((Array.range (nc.toNat * j.size)).map (z.cells[· % z.cells.size]!)).toList = zrep nc.toNat i.zero := by
                rw [← h5, ← hzs, zero_cells _ (by omega), ← h7]
              refine ⟨_, .cells ((Array.range (nc.toNat * j.size)).map (z.cells[· % z.cells.size]!)) e, ?_, ?_, hsl _ _ (by omega)⟩
              · simp only [execOp, ho, Instr.makeSlice, Sem.run_bind, run_underlying hT, Result.andThen_ok, q1.of_int, q2.of_int, asInt, asIntOf, Sem.run_pure, run_typeInfo h2, wl, wc]
                rw [if_neg (by simp only [Bool.or_eq_true, decide_eq_true_eq, not_or]; rw [h6] at b3; omega)]
                simp only [Sem.run_bind, run_askRoom, Result.andThen_ok, run_sizeOf h2]
                by_cases hz : nc.toNat * j.size = 0
                · have e0 : ∀ z : Array Value, (Array.range 0).map (z[· % z.size]!) = #[] := fun z => by simp
                  simp only [hz, if_true, Sem.run_bind, Sem.run_pure, Result.andThen_ok, e0]
                  simp [newRow]
                · simp only [hz, if_false, Sem.run_bind, run_zeroValue h2 h3, Result.andThen_ok, Sem.run_pure]
                  simp [newRow]
              · have hln : (zrep nc.toNat i.zero).length = nc.toNat * i.size := by rw [zrep_length, h8]
                refine OR.new_cells ?_ (by omega) (by simp [h5]) (.inl rfl)
                rw [hcells, List.take_length]
                exact flatL_VR β' (zrep_flat h9 _)
            · cases h
          · cases h
      · cases hc
    · cases hc
  | makeMap T r =>
    cases r with
    | none =>
      simp only [cmake, ho, Option.some.injEq] at hc; subst hc
      simp only [amake, Option.some.injEq, Prod.mk.injEq] at h
      obtain ⟨rfl, rfl⟩ := h
      refine ⟨.map (some w.heap.size), .map #[] 0, by simp [execOp, ho, Instr.makeMap], ⟨rfl, #[], by simp, trivial⟩, by simpa using (VR.map hn)⟩
    | some r => simp only [cmake, ho] at hc; cases hc
  | _ => simp only [cmake, ho] at hc; cases hc

end

end Go.Ab


namespace Go.Ab

def wrL (cs : List Value) (off : Nat) (vs : List Value) : List Value := cs.take off ++ (vs ++ cs.drop (off + vs.length))

theorem wrL_length {cs vs : List Value} {off : Nat} (h : off + vs.length ≤ cs.length) : (wrL cs off vs).length = cs.length := by
  simp [wrL]; omega

theorem wrL_one (cs : List Value) (off : Nat) (v : Value) (h : off < cs.length) : wrL cs off [v] = cs.set off v := by
  simp [wrL, List.set_eq_take_append_cons_drop, h]

theorem wrL_take {cs vs : List Value} {off n : Nat} (h : off + vs.length ≤ n) : (wrL cs off vs).take n = wrL (cs.take n) off vs := by
  by_cases hc : off ≤ cs.length
  · simp only [wrL, List.take_append, List.take_take, List.length_take, List.drop_take]
    congr 1
    · congr 1; omega
    · congr 1
      · rw [List.take_of_length_le (by omega)]
      · congr 1; omega
  · simp only [wrL]
    rw [List.drop_of_length_le (by omega), List.drop_of_length_le (by simp; omega)]
    simp only [List.append_nil, List.take_append, List.take_take, List.length_take]
    congr 1
    · congr 1; omega
    · rw [List.take_of_length_le (by omega)]

theorem wrL_drop (cs vs : List Value) (o off : Nat) (h : o + off + vs.length ≤ cs.length) : (wrL cs (o + off) vs).drop o = wrL (cs.drop o) off vs := by
  simp only [wrL, List.drop_append, List.length_take, List.drop_drop]
  rw [List.drop_take]
  have e : o - min (o + off) cs.length = 0 := by omega
  rw [e]
  simp only [List.drop_zero]
  have e2 : o + off - o = off := by omega
  rw [e2]
  congr 2
  simp only [Nat.add_assoc, Nat.zero_sub, Nat.add_zero]

theorem VL.wr {β : Places} {cs ds us vs : List Value} (h : VL β cs ds) (off : Nat) (k : VL β us vs) : VL β (wrL cs off us) (wrL ds off vs) := by
  unfold wrL
  rw [k.length]
  exact (h.take _).append (k.append (h.drop _))

theorem one_cell {v : Value} (h : one v = true) : v.oneCell' = true := by cases v <;> simp_all [one, Value.oneCell']

theorem run_store1 {P : Program} {w : World} {b o : Nat} {v : Value} {arr : Array Value} {el : TypeId} (hb : w.heap[b]? = some (.cells arr el (0, 0))) (hlt : o < arr.size) (hv : one v = true) :
    (store ⟨b, o, none⟩ v).run P w = .ok () (w.setCell ⟨b, o, none⟩ v) := by
  rw [run_store P w _ v .plain (one_cell hv)]
  have hc : w.cell? ⟨b, o, none⟩ = some arr[o] := by simp [World.cell?, hb, hlt]
  have hf : w.frozen? ⟨b, o, none⟩ = false := by simp [World.frozen?, hb]
  simp [hc, hf]

theorem setCell_same {w : World} {b o : Nat} {v : Value} {arr : Array Value} {el : TypeId} (hb : w.heap[b]? = some (.cells arr el (0, 0))) :
    (w.setCell ⟨b, o, none⟩ v).heap[b]? = some (.cells (arr.setIfInBounds o v) el (0, 0)) := by
  simp [World.setCell, Array.getElem?_modify, hb]

theorem setCell_other {w : World} {b o b' : Nat} {v : Value} (h : b' ≠ b) : (w.setCell ⟨b, o, none⟩ v).heap[b']? = w.heap[b']? := by
  simp [World.setCell, Array.getElem?_modify, Ne.symm h]

theorem run_storeRow {P : Program} {b o : Nat} {el : TypeId} : ∀ (us : List Value) (i : Nat) (w : World) (arr : Array Value), w.heap[b]? = some (.cells arr el (0, 0)) → o + i + us.length ≤ arr.size → us.all one = true →
    ∃ w' arr', (storeCells ⟨b, o, none⟩ us i).run P w = .ok () w' ∧ w'.heap[b]? = some (.cells arr' el (0, 0)) ∧ arr'.toList = wrL arr.toList (o + i) us ∧ (∀ b', b' ≠ b → w'.heap[b']? = w.heap[b']?) ∧
      w'.os = w.os ∧ w'.tape = w.tape ∧ w'.output = w.output ∧ w'.heap.size = w.heap.size
  | [], i, w, arr, hb, _, _ => ⟨w, arr, by simp [storeCells], hb, by simp [wrL], fun _ _ => rfl, rfl, rfl, rfl, rfl⟩
  | u :: us, i, w, arr, hb, hle, hall => by
    simp only [List.all_cons, Bool.and_eq_true] at hall
    simp only [List.length_cons] at hle
    have h1 := run_store1 (P := P) hb (o := o + i) (by omega) hall.1
    obtain ⟨w', arr', hr, hb', ha, ho, q1, q2, q3, q4⟩ := run_storeRow (P := P) (b := b) (o := o) (el := el) us (i + 1) (w.setCell ⟨b, o + i, none⟩ u) (arr.setIfInBounds (o + i) u) (setCell_same hb) (by simp; omega) hall.2
    refine ⟨w', arr', ?_, hb', ?_, fun b' hne => (ho b' hne).trans (setCell_other hne), q1, q2, q3, by rw [q4]; simp [World.setCell]⟩
    · simp only [storeCells, Sem.run_bind, addr_add, h1, Result.andThen_ok, hr]
    · rw [ha]
      simp only [wrL, Array.toList_setIfInBounds, List.length_cons]
      rw [List.set_eq_take_append_cons_drop, if_pos (by simp; omega)]
      have e1 : List.take (o + (i + 1)) (List.take (o + i) arr.toList ++ u :: List.drop (o + i + 1) arr.toList) = List.take (o + i) arr.toList ++ [u] := by
        rw [List.take_append, List.take_of_length_le (by simp; omega)]
        have : o + (i + 1) - (List.take (o + i) arr.toList).length = 1 := by simp; omega
        rw [this]; simp
      have e2 : List.drop (o + (i + 1) + us.length) (List.take (o + i) arr.toList ++ u :: List.drop (o + i + 1) arr.toList) = List.drop (o + i + (us.length + 1)) arr.toList := by
        rw [List.drop_append, List.drop_of_length_le (by simp; omega)]
        have : o + (i + 1) + us.length - (List.take (o + i) arr.toList).length = us.length + 1 := by simp; omega
        rw [this]
        simp only [List.nil_append, List.drop_succ_cons, List.drop_drop]
        congr 1; omega
      rw [e1, e2]
      simp

noncomputable def astore (P : Program) (t : Nat → Value) (H : Heap) : AOp → Option Heap
  | .st sz x v => match x.ev t with
    | .pointer (some ⟨n, off, none⟩) => match H.get n with
      | .cells true cs c =>
        if (v.ev t).cells.size = sz ∧ off + sz ≤ cs.length ∧ (v.ev t).cells.toList.all one = true then some (H.set n (.cells true (wrL cs off (v.ev t).cells.toList) c)) else none
      | _ => none
    | _ => none
  | .mup T x k v => match x.ev t with
    | .map (some n) => match H.get n with
      | .map es clock => if flat (k.ev t) = true ∧ (es.map (·.1)).all flat = true then match keyV P T (k.ev t) (es.map (·.1)) with
          | some none => some (H.set n (.map (es ++ [(k.ev t, v.ev t, clock)]) (clock + 1)))
          | some (some i) => match es[i]? with
            | some e => if Instr.sameBits 10000 e.1 (k.ev t) = true then some (H.set n (.map (es.set i (k.ev t, v.ev t, e.2.2)) clock)) else none
            | none => none
          | none => none
        else none
      | _ => none
    | _ => none
  | _ => none

def cstore (P : Program) (N : Nat) (o : Oper) : Option AOp :=
  match o.op with
  | .store T x v => match P.info? T, copd N x, copd N v with
    | some j, some x, some v => some (.st j.size x v)
    | _, _, _ => none
  | .mapUpdate U m k v => match P.underlying U, copd N m, copd N k, copd N v with
    | some (.map kt _), some m, some k, some v => some (.mup kt m k v)
    | _, _, _, _ => none
  | .insert U m k v => match P.underlying U, copd N m, copd N k, copd N v with
    | some (.map kt _), some m, some k, some v => some (.mup kt m k v)
    | _, _, _, _ => none
  | _ => none

section
variable {P : Program} {β₀ β : Places} {N : Nat} {t : Nat → Value} {a : Act} {H₀ H H' : Heap} {w₀ w : World} {v : Value} {o : Oper}

theorem all_one_VL : ∀ {xs ys : List Value}, VL β xs ys → xs.all one = true → ys.all one = true
  | [], [], _, _ => rfl
  | x :: xs, y :: ys, h, k => by
    simp only [List.all_cons, Bool.and_eq_true] at k ⊢
    exact ⟨by rw [h.1.one]; exact k.1, all_one_VL h.2 k.2⟩
  | [], _ :: _, h, _ => h.elim
  | _ :: _, [], h, _ => h.elim

theorem ER_push {es : List (Value × Value × Nat)} {fs : List MapEntry} (h : ER β es fs) {k v v' : Value} {n : Nat} (hk : VR β k k) (hv : VR β v v') : ER β (es ++ [(k, v, n)]) (fs ++ [{ key := k, val := v', born := n }]) := by
  induction es generalizing fs with
  | nil => cases fs with
    | nil => exact ⟨hk, hv, rfl, trivial⟩
    | cons f fs => exact h.elim
  | cons e es ih =>
    obtain ⟨k0, v0, n0⟩ := e
    cases fs with
    | nil => exact h.elim
    | cons f fs => exact ⟨h.1, h.2.1, h.2.2.1, ih h.2.2.2⟩

theorem ER_at {es : List (Value × Value × Nat)} {fs : List MapEntry} (h : ER β es fs) {i : Nat} {e : Value × Value × Nat} (he : es[i]? = some e) : ∃ f, fs[i]? = some f ∧ f.born = e.2.2 := by
  induction es generalizing fs i with
  | nil => simp at he
  | cons e' es ih =>
    obtain ⟨k, v, n⟩ := e'
    cases fs with
    | nil => exact h.elim
    | cons f fs =>
      cases i with
      | zero => simp at he; subst he; exact ⟨f, by simp, h.2.2.1⟩
      | succ i => simpa using ih h.2.2.2 (by simpa using he)

theorem ER_set {es : List (Value × Value × Nat)} {fs : List MapEntry} (h : ER β es fs) {i : Nat} {e : Value × Value × Nat} (he : es[i]? = some e) {k v v' : Value} (hk : VR β k k) (hv : VR β v v') :
    ER β (es.set i (k, v, e.2.2)) (fs.modify i fun q => { q with key := k, val := v' }) := by
  induction es generalizing fs i with
  | nil => simp at he
  | cons e' es ih =>
    obtain ⟨k0, v0, n⟩ := e'
    cases fs with
    | nil => exact h.elim
    | cons f fs =>
      cases i with
      | zero =>
        simp at he; subst he
        simp only [List.set_cons_zero, List.modify_zero_cons]
        exact ⟨hk, hv, h.2.2.1, h.2.2.2⟩
      | succ i =>
        simp only [List.set_cons_succ, List.modify_succ_cons]
        exact ⟨h.1, h.2.1, h.2.2.1, ih h.2.2.2 (by simpa using he)⟩

theorem cstore_sound {ao : AOp} (hc : cstore P N o = some ao) (ht : TR β N t a.tmps) (hw : WR β H w.heap) (hf : FR β₀ H₀ w₀ β H w) (h : astore P t H ao = some H') :
    ∃ w', (execOp a.eval o).run P w = .ok .skip w' ∧ WR β H' w'.heap ∧ FR β₀ H₀ w₀ β H' w' := by
  unfold cstore at hc
  split at hc
  · rename_i T x y ho
    split at hc
    · rename_i j x' y' h1 h2 h3
      simp only [Option.some.injEq] at hc; subst hc
      simp only [astore] at h
      split at h
      · rename_i n off he
        split at h
        · rename_i cs c hg
          split at h
          · rename_i hb
            obtain ⟨hsz, hoff, hall⟩ := hb
            simp only [Option.some.injEq] at h; subst h
            have hp := copd_VR h2 ht
            rw [he] at hp
            obtain ⟨l, hl, _, hev⟩ := hp.of_ptr
            have hob := hw.obj n l hl
            rw [hg] at hob
            obtain ⟨hcl, arr, el, fr, hh, hle, hfr, hvl⟩ := hob
            have hfr0 := hfr rfl
            subst hfr0
            have hvc := (copd_VR h3 ht).cells
            have hlen := hvc.length
            simp only [Array.length_toList] at hlen
            have hal : arr.toList.length = arr.size := by simp
            obtain ⟨w', arr', hr, hb', ha, hoth, q1, q2, q3, q4⟩ := run_storeRow (P := P) (b := l.b) (o := l.o + off) (el := el) (a.eval y).cells.toList 0 w arr hh (by simp; omega) (all_one_VL hvc hall)
            have how : (H.get n).owns = true := by rw [hg]; rfl
            refine ⟨w', ?_, ?_, ?_⟩
            · simp only [execOp, ho, Instr.storeAt, hev, Instr.sureAddr, Sem.run_bind, Sem.run_pure, Result.andThen_ok, storeVar, run_sizeOf h1]
              rw [if_neg (by simp; omega)]
              simp [hr]
            · refine hw.turn hl how ?_ (fun _ => by rw [hg]; rfl) hoth
              refine ⟨by rw [wrL_length (by simp; omega)]; exact hcl, arr', el, (0, 0), hb', ?_, fun _ => rfl, ?_⟩
              · have : arr'.toList.length = arr.toList.length := by rw [ha, wrL_length (by simp; omega)]
                simp only [Array.length_toList] at this
                rw [this]
                exact hle
              · rw [ha, Nat.add_zero, wrL_drop _ _ _ _ (by simp; omega), wrL_length (by simp; omega), wrL_take (by simp; omega)]
                exact hvl.wr off hvc
            · exact hf.turn hl how _ q1 q2 q3 q4 hoth
          · cases h
        · cases h
      · cases h
    · cases hc
  · rename_i U m k y ho
    split at hc
    · rename_i kt et m' k' y' h1 h2 h3 h4
      simp only [Option.some.injEq] at hc; subst hc
      simp only [astore] at h
      split at h
      · rename_i n he
        split at h
        · rename_i es clock hg
          split at h
          · rename_i hb
            obtain ⟨hf1, hf2⟩ := hb
            have hp := copd_VR h2 ht
            rw [he] at hp
            have hkp := copd_VR h3 ht
            have hke := flat_eq hf1 hkp
            have hvp := copd_VR h4 ht
            cases hev : a.eval m <;> rw [hev] at hp <;> cases hp
            rename_i l hl
            have hob := hw.obj n l hl
            rw [hg] at hob
            obtain ⟨hl0, fs, hfs, her⟩ := hob
            have hlt : l.b < w.heap.size := (Array.getElem?_eq_some_iff.1 hfs).1
            have hget : (getObj l.b).run P w = .ok (.map fs clock) w := by simp [getObj, Sem.run, hfs]
            have hkeys := ER_keys her hf2
            have how : (H.get n).owns = true := by rw [hg]; rfl
            split at h
            · rename_i hk
              simp only [Option.some.injEq] at h; subst h
              obtain ⟨hck, hfk⟩ := keyV_some hk w fs.toList hkeys
              simp only [Option.bind_none] at hfk
              have hoth : ∀ b, b ≠ l.b → (w.heap.setIfInBounds l.b (.map (fs.push { key := k'.ev t, val := a.eval y, born := clock }) (clock + 1)))[b]? = w.heap[b]? := fun b hb => by
                rw [Array.getElem?_setIfInBounds, if_neg (Ne.symm hb)]
              refine ⟨{ w with heap := w.heap.setIfInBounds l.b (.map (fs.push { key := k'.ev t, val := a.eval y, born := clock }) (clock + 1)) }, ?_, ?_, ?_⟩
              · simp only [execOp, ho, hev, Instr.mapUpdate, Sem.run_bind, run_underlying h1, Result.andThen_ok, hget, hke, hck, hfk]
                simp [setObj, Sem.run, hfs]
              · refine hw.turn hl how ?_ (fun _ => by rw [hg]; rfl) hoth
                refine ⟨hl0, fs.push { key := k'.ev t, val := a.eval y, born := clock }, by simp [hlt], ?_⟩
                rw [Array.toList_push]
                exact ER_push her (hke ▸ hkp) hvp
              · exact hf.turn hl how _ rfl rfl rfl (by simp) hoth
            · rename_i i hk
              split at h
              · rename_i e hei
                split at h
                · rename_i hsame
                  simp only [Option.some.injEq] at h; subst h
                  obtain ⟨hck, hfk⟩ := keyV_some hk w fs.toList hkeys
                  obtain ⟨f, hfi, hfr⟩ := ER_at her hei
                  have hfi' : fs[i]? = some f := by simpa using hfi
                  have hil : i < fs.size := (Array.getElem?_eq_some_iff.1 hfi').1
                  have hfkey : f.key = e.1 := by
                    have q1 : (fs.toList.map (·.key))[i]? = some f.key := by simp [hfi']
                    have q2 : (es.map (·.1))[i]? = some e.1 := by simp [hei]
                    rw [hkeys, q2] at q1
                    simpa using q1.symm
                  simp only [Option.bind_some, hfi, Option.map_some] at hfk
                  have hoth : ∀ b, b ≠ l.b → (w.heap.setIfInBounds l.b (.map (fs.modify i fun q => { q with key := k'.ev t, val := a.eval y }) clock))[b]? = w.heap[b]? := fun b hb => by
                    rw [Array.getElem?_setIfInBounds, if_neg (Ne.symm hb)]
                  refine ⟨{ w with heap := w.heap.setIfInBounds l.b (.map (fs.modify i fun q => { q with key := k'.ev t, val := a.eval y }) clock) }, ?_, ?_, ?_⟩
                  · have hsb : Instr.sameBits 10000 f.key (k'.ev t) = true := by rw [hfkey]; exact hsame
                    simp only [execOp, ho, hev, Instr.mapUpdate, Sem.run_bind, run_underlying h1, Result.andThen_ok, hget, hke, hck, hfk, hfi', Option.map_some, Option.getD_some, Instr.keyThatStays, hsb, if_true, Sem.run_pure]
                    simp [setObj, Sem.run, hfs]
                  · refine hw.turn hl how ?_ (fun _ => by rw [hg]; rfl) hoth
                    refine ⟨hl0, fs.modify i fun q => { q with key := k'.ev t, val := a.eval y }, by simp [hlt], ?_⟩
                    have := ER_set her hei (hke ▸ hkp) hvp
                    rw [Array.toList_modify]
                    exact this
                  · exact hf.turn hl how _ rfl rfl rfl (by simp) hoth
                · cases h
              · cases h
            · cases h
          · cases h
        · cases h
      · cases h
    · cases hc
  · rename_i U m k y ho
    split at hc
    · rename_i kt et m' k' y' h1 h2 h3 h4
      simp only [Option.some.injEq] at hc; subst hc
      simp only [astore] at h
      split at h
      · rename_i n he
        split at h
        · rename_i es clock hg
          split at h
          · rename_i hb
            obtain ⟨hf1, hf2⟩ := hb
            have hp := copd_VR h2 ht
            rw [he] at hp
            have hkp := copd_VR h3 ht
            have hke := flat_eq hf1 hkp
            have hvp := copd_VR h4 ht
            cases hev : a.eval m <;> rw [hev] at hp <;> cases hp
            rename_i l hl
            have hob := hw.obj n l hl
            rw [hg] at hob
            obtain ⟨hl0, fs, hfs, her⟩ := hob
            have hlt : l.b < w.heap.size := (Array.getElem?_eq_some_iff.1 hfs).1
            have hget : (getObj l.b).run P w = .ok (.map fs clock) w := by simp [getObj, Sem.run, hfs]
            have hkeys := ER_keys her hf2
            have how : (H.get n).owns = true := by rw [hg]; rfl
            split at h
            · rename_i hk
              simp only [Option.some.injEq] at h; subst h
              obtain ⟨hck, hfk⟩ := keyV_some hk w fs.toList hkeys
              simp only [Option.bind_none] at hfk
              have hoth : ∀ b, b ≠ l.b → (w.heap.setIfInBounds l.b (.map (fs.push { key := k'.ev t, val := a.eval y, born := clock }) (clock + 1)))[b]? = w.heap[b]? := fun b hb => by
                rw [Array.getElem?_setIfInBounds, if_neg (Ne.symm hb)]
              refine ⟨{ w with heap := w.heap.setIfInBounds l.b (.map (fs.push { key := k'.ev t, val := a.eval y, born := clock }) (clock + 1)) }, ?_, ?_, ?_⟩
              · simp only [execOp, ho, hev, Instr.mapUpdate, Sem.run_bind, run_underlying h1, Result.andThen_ok, hget, hke, hck, hfk]
                simp [setObj, Sem.run, hfs]
              · refine hw.turn hl how ?_ (fun _ => by rw [hg]; rfl) hoth
                refine ⟨hl0, fs.push { key := k'.ev t, val := a.eval y, born := clock }, by simp [hlt], ?_⟩
                rw [Array.toList_push]
                exact ER_push her (hke ▸ hkp) hvp
              · exact hf.turn hl how _ rfl rfl rfl (by simp) hoth
            · rename_i i hk
              split at h
              · rename_i e hei
                split at h
                · rename_i hsame
                  simp only [Option.some.injEq] at h; subst h
                  obtain ⟨hck, hfk⟩ := keyV_some hk w fs.toList hkeys
                  obtain ⟨f, hfi, hfr⟩ := ER_at her hei
                  have hfi' : fs[i]? = some f := by simpa using hfi
                  have hil : i < fs.size := (Array.getElem?_eq_some_iff.1 hfi').1
                  have hfkey : f.key = e.1 := by
                    have q1 : (fs.toList.map (·.key))[i]? = some f.key := by simp [hfi']
                    have q2 : (es.map (·.1))[i]? = some e.1 := by simp [hei]
                    rw [hkeys, q2] at q1
                    simpa using q1.symm
                  simp only [Option.bind_some, hfi, Option.map_some] at hfk
                  have hoth : ∀ b, b ≠ l.b → (w.heap.setIfInBounds l.b (.map (fs.modify i fun q => { q with key := k'.ev t, val := a.eval y }) clock))[b]? = w.heap[b]? := fun b hb => by
                    rw [Array.getElem?_setIfInBounds, if_neg (Ne.symm hb)]
                  refine ⟨{ w with heap := w.heap.setIfInBounds l.b (.map (fs.modify i fun q => { q with key := k'.ev t, val := a.eval y }) clock) }, ?_, ?_, ?_⟩
                  · have hsb : Instr.sameBits 10000 f.key (k'.ev t) = true := by rw [hfkey]; exact hsame
                    simp only [execOp, ho, hev, Instr.mapUpdate, Sem.run_bind, run_underlying h1, Result.andThen_ok, hget, hke, hck, hfk, hfi', Option.map_some, Option.getD_some, Instr.keyThatStays, hsb, if_true, Sem.run_pure]
                    simp [setObj, Sem.run, hfs]
                  · refine hw.turn hl how ?_ (fun _ => by rw [hg]; rfl) hoth
                    refine ⟨hl0, fs.modify i fun q => { q with key := k'.ev t, val := a.eval y }, by simp [hlt], ?_⟩
                    have := ER_set her hei (hke ▸ hkp) hvp
                    rw [Array.toList_modify]
                    exact this
                  · exact hf.turn hl how _ rfl rfl rfl (by simp) hoth
                · cases h
              · cases h
            · cases h
          · cases h
        · cases h
      · cases h
    · cases hc
  · cases hc

theorem WR.alias {hp hp' : Array Obj} (h : WR β H hp) {n n' k : Nat} {l : Loc} (hn : β n = some l) (ho : (H.get n).owns = true) (hn' : β n' = none) (hk : H.next ≤ k) (hlt : n' < k) {x : AObj} {o ka es km : Nat}
    (hx : OR (β.at_ n' ⟨l.b, o, ka, es, km⟩) ⟨l.b, o, ka, es, km⟩ hp' x) (hs : ∀ b, b ≠ l.b → hp'[b]? = hp[b]?) :
    WR (β.at_ n' ⟨l.b, o, ka, es, km⟩) { get := fun m => if m = n' then x else if m = n then .gone else H.get m, next := k } hp' where
  obj m j hm := by
    by_cases e : m = n'
    · subst e
      rw [Places.at_self] at hm; cases hm
      simpa using hx
    · rw [Places.at_ne _ _ e] at hm
      simp only [if_neg e]
      split
      · trivial
      · rename_i e2
        have h1 := h.obj m j hm
        by_cases hl : (H.get m).live = true
        · exact (h1.same (hs _ (fun e' => h.apart n m l j hn hm ho hl (Ne.symm e2) e'.symm))).ext (Places.ext_at hn' _)
        · have : H.get m = .gone := by cases hg : H.get m <;> simp_all [AObj.live]
          rw [this]; trivial
  apart p q kp kq hp1 hq1 op oq hne := by
    have hnn : n ≠ n' := fun e => by subst e; rw [hn] at hn'; cases hn'
    simp only at op oq
    by_cases ep : p = n'
    · subst ep
      rw [Places.at_self] at hp1; cases hp1
      rw [Places.at_ne _ _ (Ne.symm hne)] at hq1
      rw [if_neg (Ne.symm hne)] at oq
      split at oq
      · cases oq
      · rename_i e2
        exact h.apart n q l kq hn hq1 ho oq (Ne.symm e2)
    · rw [Places.at_ne _ _ ep] at hp1
      rw [if_neg ep] at op
      split at op
      · cases op
      · rename_i ep2
        by_cases eq : q = n'
        · subst eq
          rw [Places.at_self] at hq1; cases hq1
          have := h.apart n p l kp hn hp1 ho (AObj.live_of_owns op) (Ne.symm ep2)
          exact fun e => this e.symm
        · rw [Places.at_ne _ _ eq] at hq1
          rw [if_neg eq] at oq
          split at oq
          · cases oq
          · exact h.apart p q kp kq hp1 hq1 op oq hne
  fresh m hm := by
    have : m ≠ n' := by simp only at hm; omega
    rw [Places.at_ne _ _ this]
    exact h.fresh m (Nat.le_trans hk hm)
  clean m hm := by
    have : m ≠ n' := by simp only at hm; omega
    simp only [if_neg this]
    split
    · rfl
    · exact h.clean m (Nat.le_trans hk hm)
  glob g hg := Places.ext_at hn' _ _ _ (h.glob g hg)

theorem FR.alias {w' : World} (h : FR β₀ H₀ w₀ β H w) {n n' k : Nat} {l : Loc} (hn : β n = some l) (ho : (H.get n).owns = true) (hn' : β n' = none) (hn0 : H₀.next ≤ n') (hk : H.next ≤ k) (x : AObj) (o ka es km : Nat)
    (h1 : w'.os = w.os) (h2 : w'.tape = w.tape) (h3 : w'.output = w.output) (h4 : w'.heap.size = w.heap.size) (hs : ∀ b, b ≠ l.b → w'.heap[b]? = w.heap[b]?) :
    FR β₀ H₀ w₀ (β.at_ n' ⟨l.b, o, ka, es, km⟩) { get := fun m => if m = n' then x else if m = n then .gone else H.get m, next := k } w' where
  os := h1.trans h.os
  tape := h2.trans h.tape
  output := h3.trans h.output
  size := by rw [h4]; exact h.size
  names m hm := by rw [Places.at_ne _ _ (by omega)]; exact h.names m hm
  next := Nat.le_trans h.next hk
  keep b hb hno := by
    rw [hs b fun e => ?_]
    · exact h.keep b hb hno
    · subst e
      obtain ⟨m, k, hm, hk, e⟩ := h.own n l hn ho hb
      exact hno m k hm hk e
  own m j hm hj hb := by
    by_cases e : m = n'
    · subst e
      rw [Places.at_self] at hm; cases hm
      exact h.own n l hn ho hb
    · rw [Places.at_ne _ _ e] at hm
      simp only [if_neg e] at hj
      split at hj
      · cases hj
      · exact h.own m j hm hj hb
  phant m hm h0 := by
    have e1 : m ≠ n' := by omega
    have e2 : m ≠ n := fun e => by subst e; have := h.names m hm; rw [hn, h0] at this; cases this
    simp only [if_neg e1, if_neg e2]
    exact h.phant m hm h0

end

end Go.Ab


namespace Go.Ab

theorem growBy_le (newLen : Nat) : ∀ r c, Builtin.growBy newLen r c ≤ max c (2 * newLen + 192)
  | 0, c => by simp only [Builtin.growBy]; omega
  | r + 1, c => by
    simp only [Builtin.growBy]
    split
    · omega
    · have := growBy_le newLen r (c + (c + 768) / 4)
      omega

theorem nextslicecap_le {newLen oldCap : Nat} (h : oldCap < newLen) : Builtin.nextslicecap newLen oldCap ≤ 4 * newLen + 4096 := by
  unfold Builtin.nextslicecap
  split
  · omega
  · split
    · omega
    · have := growBy_le newLen 4 oldCap
      omega

theorem wrL_tail (A q : List Value) (p : Nat) : wrL (A.take (p + q.length)) p q = A.take p ++ q := by
  unfold wrL
  rw [List.drop_take, List.take_take, Nat.sub_self, List.take_zero, List.append_nil, Nat.min_eq_left (Nat.le_add_right _ _)]

def slCells (H : Heap) (sz : Nat) : Value → Option (Nat × List Value)
  | .slice none 0 0 => some (0, [])
  | .slice (some ⟨m, o, none⟩) k _ => match H.get m with
    | .cells _ cs _ => (rdL cs o (k * sz)).map fun l => (k, l)
    | _ => none
  | .slice (some ⟨0, 0, some 0⟩) 0 0 => some (0, [])
  | _ => none

def baseOf (H : Heap) (sz : Nat) : Value → Option (Nat × List Value × Option Nat × Nat)
  | .slice none 0 0 => some (0, [], none, 0)
  | .slice (some ⟨n, o, none⟩) len cap => match H.get n with
    | .cells true cs c => if o + len * sz = cs.length ∧ o + cap * sz ≤ c ∧ len ≤ cap then some (len, cs.drop o, some n, cap) else none
    | _ => none
  | _ => none

def appHeap (H : Heap) (n k : Nat) (old : Option Nat) (cs : List Value) (c : Nat) : Heap :=
  { get := fun m => if m = n then .cells true cs c else if some m = old then .gone else H.get m, next := k }

def capN (cap len m : Nat) : Nat := if m = 0 then cap else len + m

def aapp (t : Nat → Value) (H : Heap) (n k : Nat) (K : Value → Heap → Prop) : AOp → Prop
  | .app sz bytes s x => ∃ len cs old cap m new, baseOf H sz (s.ev t) = some (len, cs, old, cap) ∧ slCells H sz (x.ev t) = some (m, new) ∧ new.all one = true ∧ (4 * (len + m) + 4096) * bytes ≤ 2 ^ 48 ∧
      (if old = none ∧ m = 0 then K (.slice none 0 0) { H with next := k } else
        K (.slice (some ⟨n, 0, none⟩) (len + m) (capN cap len m)) (appHeap H n k old (cs ++ new) (capN cap len m * sz)))
  | _ => False

def capp (P : Program) (N : Nat) (o : Oper) : Option AOp :=
  match o.op with
  | .call c => match c.callee with
    | .builtin .append => match c.args.toList, c.argTypes.toList with
      | [s, x], [T, U] => match P.underlying T, P.underlying U, copd N s, copd N x with
        | some (.slice e), some (.slice _), some s, some x => match tinfo P e with
          | some i => if i.size = 0 ∨ i.bytes = 0 then none else some (.app i.size i.bytes s x)
          | none => none
        | _, _, _, _ => none
      | _, _ => none
    | _ => none
  | _ => none

section
variable {P : Program} {β₀ β : Places} {N : Nat} {t : Nat → Value} {a : Act} {H₀ H : Heap} {w₀ w : World} {o : Oper}

theorem run_slCells {sz : Nat} {v u : Value} {m : Nat} {new : List Value} (hw : WR β H w.heap) (hv : VR β v u) (h : slCells H sz v = some (m, new)) :
    (∀ w : World, (Builtin.lenOf u).run P w = .ok m w) ∧ ∃ ys : Array Value, (Builtin.firstCells sz m u).run P w = .ok ys w ∧ VL β new ys.toList ∧ new.length = m * sz ∧ ∃ x cap, u = .slice x m cap := by
  unfold slCells at h
  split at h
  · simp only [Option.some.injEq, Prod.mk.injEq] at h
    obtain ⟨rfl, rfl⟩ := h
    cases hv
    exact ⟨fun w => by simp [Builtin.lenOf], #[], by simp [Builtin.firstCells], trivial, by simp, _, _, rfl⟩
  · rename_i n off k cap
    split at h
    · rename_i rw cs c hg
      simp only [Option.map_eq_some_iff, Prod.mk.injEq] at h
      obtain ⟨l, hr, rfl, rfl⟩ := h
      obtain ⟨lc, hl, _, _, rfl⟩ := hv.of_slice
      have hob := hw.obj n lc hl
      rw [hg] at hob
      unfold rdL at hr
      split at hr
      · rename_i hle
        simp only [Option.some.injEq] at hr; subst hr
        obtain ⟨ys, hy, hvl⟩ := run_loadRow (P := P) hob hle
        exact ⟨fun w => by simp [Builtin.lenOf], ys, by simp [Builtin.firstCells, hy], hvl, by simp; omega, _, _, rfl⟩
      · cases hr
    · cases h
  · simp only [Option.some.injEq, Prod.mk.injEq] at h
    obtain ⟨rfl, rfl⟩ := h
    cases hv with
    | void a c0 =>
      have hl0 : (loadCells a 0).run P w = .ok #[] w := by simp [loadCells, loadCellsFrom]
      exact ⟨fun w => by simp [Builtin.lenOf], #[], by simp [Builtin.firstCells, hl0], trivial, by simp, _, _, rfl⟩
  · cases h

theorem run_append {T U e e2 : TypeId} {j : TypeInfo} {z : Value} {base : Option Addr} {len cap m : Nat} {u : Value} {ty : TypeId} (hT : P.underlying T = some (.slice e)) (hU : P.underlying U = some (.slice e2))
    (hj : P.info? e = some j) (hz : j.zero = some z) (hb : j.bytes ≠ 0) (hlen : ∀ w : World, (Builtin.lenOf u).run P w = .ok m w) (hroom : (4 * (len + m) + 4096) * j.bytes ≤ 2 ^ 48) (w : World) :
    (Builtin.append_ #[T, U] ty #[.slice base len cap, u]).run P w =
      if len + m ≤ cap then (do
        let new ← Builtin.firstCells j.size m u
        if let some a := base then storeCells (a.add (len * j.size)) new.toList
        pure (.slice base (len + m) cap) : Sem Value).run P w
      else (do
        let newCap ← choose (.appendCap (len + m) cap e)
        let old ← Builtin.firstCells j.size len (.slice base len cap)
        let new ← Builtin.firstCells j.size m u
        let rest := Builtin.zeroCells z.cells (newCap - (len + m))
        pure (.slice (some (← newRow e (old ++ new ++ rest))) (len + m) newCap) : Sem Value).run P w := by
  by_cases hle : len + m ≤ cap
  · cases base <;> simp [Builtin.append_, run_underlying hT, run_underlying hU, run_sizeOf hj, hlen, hle]
  · have hn := nextslicecap_le (Nat.lt_of_not_le hle)
    have h48 : ¬ (2 ^ 48 < Builtin.nextslicecap (len + m) cap * j.bytes) := by
      have := Nat.mul_le_mul_right j.bytes hn
      omega
    simp [Builtin.append_, run_underlying hT, run_underlying hU, run_sizeOf hj, hlen, hle, run_typeInfo hj, hb, h48, run_zeroValue hj hz]

theorem capp_sound {ao : AOp} {n k : Nat} {K : Value → Heap → Prop} (hc : capp P N o = some ao) (ht : TR β N t a.tmps) (hw : WR β H w.heap) (hf : FR β₀ H₀ w₀ β H w)
    (hn : β n = none) (hn0 : H₀.next ≤ n) (hk : H.next ≤ k) (hlt : n < k) (h : aapp t H n k K ao) :
    ∃ u w' v H' β', (execOp a.eval o).run P w = .ok (.value u) w' ∧ VR β' v u ∧ K v H' ∧ WR β' H' w'.heap ∧ FR β₀ H₀ w₀ β' H' w' ∧ Ext β β' ∧
      (∀ m, m ≠ n → β' m = β m) ∧ (∀ m, m ≠ n → β m = none → H'.get m = H.get m) ∧ H'.next = k := by
  unfold capp at hc
  split at hc
  · rename_i c ho
    split at hc
    · rename_i hcal
      split at hc
      · rename_i s x T U hargs htys
        split at hc
        · rename_i e e2 s' x' hT hU hs hx
          split at hc
          · rename_i i hi
            split at hc
            · cases hc
            · rename_i hnz
              simp only [Option.some.injEq] at hc; subst hc
              simp only [not_or] at hnz
              obtain ⟨hsz, hby⟩ := hnz
              obtain ⟨d, j, z, h1, h2, h3, h4, h5, h6, h7, h8, h9⟩ := tinfo_spec hi
              obtain ⟨len, cs, old, cap, m, new, hbase, hnew, hone, hroom, hK⟩ := h
              have hc' : c = { callee := .builtin .append, args := #[s, x], argTypes := #[T, U] } := by
                obtain ⟨callee, args, argTypes⟩ := c
                simp only at hcal hargs htys
                subst hcal
                have ha' : args = #[s, x] := by cases args; simp_all
                have hty' : argTypes = #[T, U] := by cases argTypes; simp_all
                subst ha'; subst hty'; rfl
              subst hc'
              have hvs := copd_VR hs ht
              have hvx := copd_VR hx ht
              obtain ⟨hlen, ys, hys, hvl, hnl, xa, xc, hux⟩ := run_slCells (P := P) hw hvx hnew
              -- the slice that is appended to, as the machine has it
              have key : ∃ base cap', a.eval s = .slice base len cap' ∧ len ≤ cap ∧ cap ≤ cap' ∧ (cap = 0 → cap' = 0) ∧
                  ((base = none ∧ old = none ∧ cs = [] ∧ len = 0 ∧ cap = 0) ∨
                   ∃ n0 l off cs0 c0, base = some ⟨l.b, l.o + off, none⟩ ∧ old = some n0 ∧ β n0 = some l ∧ H.get n0 = .cells true cs0 c0 ∧ off + len * i.size = cs0.length ∧ cs = cs0.drop off ∧
                     ∀ M, l.o + c0 ≤ M → Slack l c0 M → l.o + off + cap' * i.size ≤ M) := by
                unfold baseOf at hbase
                split at hbase
                · rename_i he
                  rw [he] at hvs
                  simp only [Option.some.injEq, Prod.mk.injEq] at hbase
                  obtain ⟨rfl, rfl, rfl, rfl⟩ := hbase
                  obtain ⟨_, _, hu⟩ := hvs.of_snil
                  exact ⟨none, 0, hu, Nat.le_refl _, Nat.le_refl _, fun _ => rfl, .inl ⟨rfl, rfl, rfl, rfl, rfl⟩⟩
                · rename_i n0 off len0 cap0 he
                  rw [he] at hvs
                  split at hbase
                  · rename_i cs0 c0 hg
                    split at hbase
                    · rename_i hcond
                      simp only [Option.some.injEq, Prod.mk.injEq] at hbase
                      obtain ⟨rfl, rfl, rfl, rfl⟩ := hbase
                      obtain ⟨l, hl, cap', ⟨c1, c2⟩, hu⟩ := hvs.of_slice
                      obtain ⟨d1, d2, d3⟩ := hcond
                      have e1 : cap0 ≤ cap' := by rcases c2 with c2 | c2 | c2 <;> omega
                      refine ⟨_, cap', hu, d3, e1, fun h0 => by rcases c2 with c2 | c2 | c2 <;> omega, .inr ⟨n0, l, off, cs0, c0, rfl, rfl, hl, hg, d1, rfl, fun M hM hS => ?_⟩⟩
                      rcases c2 with rfl | c2 | ⟨rfl, k1, k2, k3, k4⟩
                      · omega
                      · omega
                      · rcases hS with hS | ⟨s1, s2⟩
                        · omega
                        · have hse : i.size ≤ l.esz := by
                            rw [s1, ← k1, Nat.zero_add] at d2
                            exact Nat.le_of_mul_le_mul_left d2 k3
                          have := Nat.mul_le_mul_left cap' hse
                          rw [k2] at this ⊢
                          omega
                    · cases hbase
                  · cases hbase
                · cases hbase
              obtain ⟨base, cap', hus, hlc, hcc', hc0, hcase⟩ := key
              have hzs : z.cells.size = i.size := by rw [← h8, h7]; simp
              have hnotint : (match TypeDesc.slice e2 with | .int _ => true | _ => false) = false := rfl
              have hrun : (execOp a.eval o).run P w = ((Builtin.append_ #[T, U] o.type #[.slice base len cap', a.eval x]).run P w).andThen fun u w' => .ok (.value u) w' := by
                simp [execOp, ho, resolve, invoke, builtin, hus]
              rw [run_append hT hU h2 h3 (by rw [← h6]; exact hby) hlen (by rw [← h6]; exact hroom)] at hrun
              rw [← h5] at hrun
              by_cases hle : len + m ≤ cap'
              · rw [if_pos hle] at hrun
                rcases hcase with ⟨rfl, rfl, rfl, rfl, rfl⟩ | ⟨n0, l, off, cs0, c0, rfl, rfl, hl, hg, hcl, rfl, hroomM⟩
                · have hcz := hc0 rfl
                  subst hcz
                  have hm0 : m = 0 := by omega
                  subst hm0
                  refine ⟨.slice none 0 0, w, .slice none 0 0, { H with next := k }, β, ?_, .snil, by simpa using hK, ⟨hw.obj, hw.apart, fun q hq => hw.fresh q (Nat.le_trans hk hq), fun q hq => hw.clean q (Nat.le_trans hk hq), hw.glob⟩, ?_, Ext.refl β, fun _ _ => rfl, fun _ _ _ => rfl, rfl⟩
                  · rw [hrun]; simp [hys]
                  · exact ⟨hf.os, hf.tape, hf.output, hf.size, hf.names, Nat.le_trans hf.next hk, hf.keep, hf.own, hf.phant⟩
                · have hob := hw.obj n0 l hl
                  rw [hg] at hob
                  obtain ⟨hcl2, arr, el, fr, hh, hle2, hfr, hvl0⟩ := hob
                  have hfr0 := hfr rfl
                  subst hfr0
                  have hyl := hvl.length
                  simp only [Array.length_toList] at hyl
                  have hR := hroomM arr.size hle2.1 hle2.2
                  have hmul : (len + m) * i.size ≤ cap' * i.size := Nat.mul_le_mul_right _ hle
                  rw [Nat.add_mul] at hmul
                  have hN1 : capN cap len m ≤ cap' := by unfold capN; split <;> omega
                  have hN2 : len + m ≤ capN cap len m := by unfold capN; split <;> omega
                  have hmN1 := Nat.mul_le_mul_right i.size hN1
                  have hmN2 := Nat.mul_le_mul_right i.size hN2
                  rw [Nat.add_mul] at hmN2
                  have hal : arr.toList.length = arr.size := by simp
                  obtain ⟨w', arr', hr, hb', ha, hoth, q1, q2, q3, q4⟩ := run_storeRow (P := P) (b := l.b) (o := l.o + off + len * i.size) (el := el) ys.toList 0 w arr hh (by simp; omega) (all_one_VL hvl hone)
                  have how : (H.get n0).owns = true := by rw [hg]; rfl
                  have hnn : some n ≠ some n0 := fun e => by cases e; rw [hl] at hn; cases hn
                  have hOR : OR (β.at_ n ⟨l.b, l.o + off, capN cap len m, i.size, cap'⟩) ⟨l.b, l.o + off, capN cap len m, i.size, cap'⟩ w'.heap (.cells true (cs0.drop off ++ new) (capN cap len m * i.size)) := by
                    have hsz' : arr'.size = arr.size := by
                      have : arr'.toList.length = arr.toList.length := by rw [ha, wrL_length (by simp; omega)]
                      simpa using this
                    refine ⟨by simp only [List.length_append, List.length_drop, hnl]; omega, arr', el, (0, 0), hb', ⟨?_, .inr ⟨rfl, ?_⟩⟩, fun _ => rfl, ?_⟩
                    · show l.o + off + capN cap len m * i.size ≤ arr'.size
                      omega
                    · show l.o + off + cap' * i.size ≤ arr'.size
                      omega
                    · show VL _ _ ((arr'.toList.drop (l.o + off)).take _)
                      rw [ha, Nat.add_zero, wrL_drop _ _ _ _ (by simp; omega)]
                      have e1 : (cs0.drop off ++ new).length = len * i.size + ys.toList.length := by simp only [List.length_append, List.length_drop, hnl, Array.length_toList]; omega
                      rw [e1, wrL_take (Nat.le_refl _)]
                      have h0 := (hvl0.drop off)
                      have e2 : (List.take cs0.length (List.drop l.o arr.toList)).drop off = (arr.toList.drop (l.o + off)).take (len * i.size) := by
                        rw [List.drop_take, List.drop_drop]
                        congr 1; omega
                      rw [e2] at h0
                      rw [wrL_tail]
                      exact VL.append (h0.ext (Places.ext_at hn _)) (hvl.ext (Places.ext_at hn _))
                  refine ⟨.slice (some ⟨l.b, l.o + off, none⟩) (len + m) cap', w', .slice (some ⟨n, 0, none⟩) (len + m) (capN cap len m), _, β.at_ n ⟨l.b, l.o + off, capN cap len m, i.size, cap'⟩, ?_, ?_, (by
                    have := hK
                    rw [if_neg (by simp)] at this
                    exact this), hw.alias (n := n0) hl how hn hk hlt hOR hoth |> fun h => ?_, ?_, Places.ext_at hn _, fun m hm => Places.at_ne _ _ hm, fun m hm h0 => ?_, rfl⟩
                  · rw [hrun]; simp [hys, addr_add, hr]
                  · have := VR.slice (β := β.at_ n ⟨l.b, l.o + off, capN cap len m, i.size, cap'⟩) (n := n) (off := 0) (len := len + m) (cap := capN cap len m) (cap' := cap') (l := ⟨l.b, l.o + off, capN cap len m, i.size, cap'⟩) (Places.at_self _ _ _)
                      ⟨hle, (by
                        by_cases h00 : capN cap len m = 0
                        · have : cap = 0 := by unfold capN at h00; split at h00 <;> omega
                          have := hc0 this
                          exact .inl (by omega)
                        · exact .inr (.inr ⟨rfl, rfl, rfl, by omega, hN1⟩))⟩
                    simpa using this
                  · simpa [appHeap] using h
                  · have := hf.alias (w' := w') (n := n0) (n' := n) (k := k) hl how hn hn0 hk (.cells true (cs0.drop off ++ new) (capN cap len m * i.size)) (l.o + off) (capN cap len m) i.size cap' q1 q2 q3 q4 hoth
                    simpa [appHeap] using this
                  · have e2 : m ≠ n0 := fun e => by subst e; rw [hl] at h0; cases h0
                    simp [appHeap, hm, e2]
              · rw [if_neg hle] at hrun
                obtain ⟨_, ys2, hys2, hvl2, _⟩ := run_slCells (P := P) (w := w.drew) hw hvx hnew
                -- the old cells
                have hold : ∃ zs : Array Value, (Builtin.firstCells i.size len (.slice base len cap')).run P w.drew = .ok zs w.drew ∧ VL β cs zs.toList ∧ cs.length = len * i.size := by
                  rcases hcase with ⟨rfl, rfl, rfl, rfl, rfl⟩ | ⟨n0, l, off, cs0, c0, rfl, rfl, hl, hg, hcl, rfl, hroomM⟩
                  · exact ⟨#[], by simp [Builtin.firstCells], trivial, by simp⟩
                  · have hob := hw.obj n0 l hl
                    rw [hg] at hob
                    obtain ⟨zs, hz1, hz2⟩ := run_loadRow (P := P) (w := w.drew) hob (off := off) (n := len * i.size) (by omega)
                    refine ⟨zs, by simpa [Builtin.firstCells] using hz1, ?_, by simp; omega⟩
                    rwa [List.take_of_length_le (by simp; omega)] at hz2
                obtain ⟨zs, hzs1, hzs2, hcsl⟩ := hold
                have hnf : (Question.appendCap (len + m) cap' e).forced = false := rfl
                obtain ⟨cap2, hcap'⟩ : ∃ cap2, cap2 = (Question.appendCap (len + m) cap' e).cut (w.tape w.drawn (Question.appendCap (len + m) cap' e)) := ⟨_, rfl⟩
                have hge : len + m ≤ cap2 := by rw [hcap']; simp only [Question.cut]; omega
                have hyl := hvl2.length
                have hzl := hzs2.length
                simp only [Array.length_toList] at hyl hzl
                have hnil : ¬ (old = none ∧ m = 0) := by
                  rintro ⟨ho1, ho2⟩
                  rcases hcase with ⟨rfl, rfl, rfl, rfl, rfl⟩ | ⟨n0, l, off, cs0, c0, rfl, rfl, hl, hg, hcl, rfl, hroomM⟩
                  · omega
                  · cases ho1
                rw [if_neg hnil] at hK
                have hm1 : m ≠ 0 := by omega
                have hcN : capN cap len m = len + m := by unfold capN; rw [if_neg hm1]
                rw [hcN] at hK
                have hzc : (Builtin.zeroCells z.cells (cap2 - (len + m))).size = (cap2 - (len + m)) * i.size := by simp [Builtin.zeroCells, hzs]
                have hsize : (zs ++ ys2 ++ Builtin.zeroCells z.cells (cap2 - (len + m))).size = cap2 * i.size := by
                  simp only [Array.size_append, hzc]
                  rw [← hzl, ← hyl, hcsl, hnl, ← Nat.add_mul, ← Nat.add_mul]
                  congr 1; omega
                have hgm := Nat.mul_le_mul_right i.size hge
                have hOR : OR (β.at_ n ⟨w.heap.size, 0, len + m, i.size, cap2⟩) ⟨w.heap.size, 0, len + m, i.size, cap2⟩ (w.heap.push (.cells (zs ++ ys2 ++ Builtin.zeroCells z.cells (cap2 - (len + m))) e)) (.cells true (cs ++ new) ((len + m) * i.size)) := by
                  refine OR.new_cells ?_ ?_ (by rw [hsize]; exact hgm) (.inr ⟨rfl, by rw [hsize]; exact Nat.le_refl _⟩)
                  · have e1 : (zs ++ ys2 ++ Builtin.zeroCells z.cells (cap2 - (len + m))).toList.take (cs ++ new).length = zs.toList ++ ys2.toList := by
                      simp only [Array.toList_append]
                      rw [List.take_append_of_le_length (by simp; omega), List.take_of_length_le (by simp; omega)]
                    rw [e1]
                    exact VL.append (hzs2.ext (Places.ext_at hn _)) (hvl2.ext (Places.ext_at hn _))
                  · simp only [List.length_append, hcsl, hnl, ← Nat.add_mul]
                    exact Nat.le_refl _
                have hW := hw.make (n := n) hn hk hlt hOR
                have hF := (hf.trans (FR.drew (w.drawn + 1))).make (n := n) (x := .cells true (cs ++ new) ((len + m) * i.size)) (ka := len + m) (es := i.size) (km := cap2) (o := .cells (zs ++ ys2 ++ Builtin.zeroCells z.cells (cap2 - (len + m))) e) (k := k) hn0 hk
                -- the old name is given up
                have hdrop : ∃ q, q ≠ n ∧ (old ≠ none → β q ≠ none ∧ old = some q) ∧ (appHeap H n k old (cs ++ new) ((len + m) * i.size)) =
                    (if old = none then { get := fun m' => if m' = n then .cells true (cs ++ new) ((len + m) * i.size) else H.get m', next := k } else
                      ({ get := fun m' => if m' = n then .cells true (cs ++ new) ((len + m) * i.size) else H.get m', next := k } : Heap).set q .gone) := by
                  rcases hcase with ⟨rfl, rfl, rfl, rfl, rfl⟩ | ⟨n0, l, off, cs0, c0, rfl, rfl, hl, hg, hcl, rfl, hroomM⟩
                  · exact ⟨n + 1, by omega, fun h => absurd rfl h, by simp [appHeap]⟩
                  · have hnn : n0 ≠ n := fun e => by subst e; rw [hl] at hn; cases hn
                    refine ⟨n0, hnn, fun _ => ⟨by rw [hl]; simp, rfl⟩, ?_⟩
                    simp only [reduceCtorEq, if_false, appHeap, Heap.set]
                    congr 1
                    funext m'
                    by_cases e1 : m' = n
                    · subst e1; simp [Ne.symm hnn]
                    · by_cases e2 : m' = n0
                      · subst e2; simp [e1]
                      · simp [e1, e2]
                obtain ⟨q, hq, hqp, hap⟩ := hdrop
                refine ⟨.slice (some ⟨w.heap.size, 0, none⟩) (len + m) cap2, { w.drew with heap := w.heap.push (.cells (zs ++ ys2 ++ Builtin.zeroCells z.cells (cap2 - (len + m))) e) }, .slice (some ⟨n, 0, none⟩) (len + m) (len + m),
                  appHeap H n k old (cs ++ new) ((len + m) * i.size), β.at_ n ⟨w.heap.size, 0, len + m, i.size, cap2⟩, ?_, ?_, hK, ?_, ?_, Places.ext_at hn _, fun m hm => Places.at_ne _ _ hm, fun m hm h0 => ?_, rfl⟩
                · rw [hrun]
                  simp only [Sem.run_bind, run_choose, hnf, Bool.false_eq_true, if_false, Result.andThen_ok, ← hcap', World.drew_eq, hzs1, hys2, newRow, run_newObj, Sem.run_pure]
                  rfl
                · have := VR.slice (β := β.at_ n ⟨w.heap.size, 0, len + m, i.size, cap2⟩) (n := n) (off := 0) (len := len + m) (cap := len + m) (cap' := cap2) (l := ⟨w.heap.size, 0, len + m, i.size, cap2⟩) (Places.at_self _ _ _) ⟨hge, .inr (.inr ⟨rfl, rfl, rfl, by omega, hge⟩)⟩
                  simpa using this
                · rw [hap]
                  split
                  · exact hW
                  · exact hW.drop q
                · rw [hap]
                  split
                  · exact hF
                  · rename_i hne
                    refine hF.drop q fun hlt0 e0 => (hqp hne).1 ?_
                    rw [hf.names q hlt0]; exact e0
                · have e2 : some m ≠ old := fun e => by
                    have hne : old ≠ none := by rw [← e]; simp
                    have := (hqp hne).2
                    rw [← e] at this; cases this
                    exact (hqp hne).1 h0
                  simp [appHeap, hm, e2]
          · cases hc
        · cases hc
      · cases hc
    · cases hc
  · cases hc

end

end Go.Ab


namespace Go.Ab

structure St where
  t : Nat → Value
  d : List Nat
  H : Heap

def upd (t : Nat → Value) (d : Nat) (v : Value) : Nat → Value := fun y => if y = d then v else t y
theorem upd_at (t : Nat → Value) (d : Nat) (v : Value) (y : Nat) : upd t d v y = if y = d then v else t y := rfl

def St.put (s : St) (dst : Option Nat) (v : Value) : St :=
  match dst with
  | some d => { s with t := upd s.t d v }
  | none => s

theorem St.put_some (s : St) (d : Nat) (v : Value) : s.put (some d) v = { s with t := upd s.t d v } := rfl
theorem St.put_H (s : St) (dst : Option Nat) (v : Value) : (s.put dst v).H = s.H := by cases dst <;> rfl
theorem St.put_d (s : St) (dst : Option Nat) (v : Value) : (s.put dst v).d = s.d := by cases dst <;> rfl

def DR (β : Places) : List Nat → List Deferred → Prop
  | [], [] => True
  | n :: d, x :: ds => (∃ l, β n = some l ∧ x = { target := .collected l.b, args := #[] }) ∧ DR β d ds
  | _, _ => False

theorem DR.ext {β β' : Places} (he : Ext β β') : ∀ {d : List Nat} {ds : List Deferred}, DR β d ds → DR β' d ds
  | [], [], _ => trivial
  | _ :: _, _ :: _, h => ⟨let ⟨l, h1, h2⟩ := h.1; ⟨l, he _ _ h1, h2⟩, DR.ext he h.2⟩
  | [], _ :: _, h => h.elim
  | _ :: _, [], h => h.elim

structure Rel (β : Places) (N : Nat) (s : St) (a : Act) (w : World) : Prop where
  heap : WR β s.H w.heap
  tmps : TR β N s.t a.tmps
  defs : DR β s.d a.defers

def RoR (β : Places) : Option Nat → Fence → Prop
  | none, F => F = Fence.wide
  | some n, F => ∃ l, β n = some l ∧ F = Fence.wide.inRound l.b

theorem RoR.ext {β β' : Places} (he : Ext β β') {ro : Option Nat} {F : Fence} (h : RoR β ro F) : RoR β' ro F := by
  cases ro with
  | none => exact h
  | some n => obtain ⟨l, h1, h2⟩ := h; exact ⟨l, he _ _ h1, h2⟩

theorem RoR.fn {β : Places} {ro : Option Nat} {F : Fence} (h : RoR β ro F) (f : FuncId) : F.fn f := by
  cases ro with
  | none => cases h; trivial
  | some n => obtain ⟨l, h1, rfl⟩ := h; trivial

theorem RoR.depth {β : Places} {ro : Option Nat} {F : Fence} (h : RoR β ro F) : F.depth = none := by
  cases ro with
  | none => cases h; rfl
  | some n => obtain ⟨l, h1, rfl⟩ := h; rfl

theorem RoR.calls {β : Places} {ro : Option Nat} {F : Fence} (h : RoR β ro F) {P : Program} {f : FuncId} {args : Array Value} {w : World} {R : Ending → World → Prop}
    (hc : CallsIn Fence.wide 0 P f args w R) : CallsIn F 0 P f args w R := by
  cases ro with
  | none => cases h; exact hc
  | some n => obtain ⟨l, h1, rfl⟩ := h; exact hc

theorem RoR.rounds {β : Places} {ro : Option Nat} {F : Fence} (h : RoR β ro F) {P : Program} {l : Nat} {f : FuncId} {tmps : Array Value} {assign body : Code} {w : World} {R : Ending → World → Prop}
    (hc : RoundIn Fence.wide 0 P l f tmps assign body w R) : RoundIn F 0 P l f tmps assign body w R := by
  cases ro with
  | none => cases h; exact hc
  | some n => obtain ⟨l, h1, rfl⟩ := h; exact hc

def Ret (β : Places) (H : Heap) (w : World) (R : Value → Heap → Prop) (u : Value) (w' : World) : Prop :=
  ∃ v H' β', R v H' ∧ VR β' v u ∧ WR β' H' w'.heap ∧ FR β H w β' H' w'

def RetE (R : Value → World → Prop) : Ending → World → Prop
  | .returned u, w' => R u w'
  | _, _ => False

def AFun (P : Program) (f : FuncId) (args : List Value) (H : Heap) (R : Value → Heap → Prop) : Prop :=
  (∀ as w, (callFunc f as).run P w = .ok (.enter f as) w) ∧
  ∀ β w us, WR β H w.heap → VL β args us → CallsIn Fence.wide 0 P f us.toArray w (RetE (Ret β H w R))

def CallV (P : Program) (u : Value) (us : List Value) (w : World) (R : Value → World → Prop) : Prop :=
  ∃ nx, (do let d ← Deferred.ofValue u us.toArray; invoke d.target d.args : Sem Next).run P w = .ok nx w ∧
    match nx with
    | .enter f as => CallsIn Fence.wide 0 P f as w (RetE R)
    | .round l f tmps assign body => RoundIn Fence.wide 0 P l f tmps assign body w (RetE R)
    | _ => False

def ACall (P : Program) (fv : Value) (args : List Value) (H : Heap) (R : Value → Heap → Prop) : Prop :=
  ∀ β w u us, WR β H w.heap → VR β fv u → VL β args us → CallV P u us w (Ret β H w R)

@[congr] theorem ACall_congr {P : Program} {fv fv' : Value} {args args' : List Value} {H H' : Heap} {R : Value → Heap → Prop} (h1 : fv = fv') (h2 : args = args') (h3 : H = H') : ACall P fv args H R = ACall P fv' args' H' R := by
  subst h1; subst h2; subst h3; rfl

theorem RetE.mono {R R' : Value → World → Prop} (h : ∀ u w, R u w → R' u w) (e : Ending) (w : World) : RetE R e w → RetE R' e w := by
  cases e <;> first | exact h _ _ | exact id

theorem CallV.mono {P : Program} {u : Value} {us : List Value} {w : World} {R R' : Value → World → Prop} (h : CallV P u us w R) (k : ∀ u w, R u w → R' u w) : CallV P u us w R' := by
  obtain ⟨nx, hr, hx⟩ := h
  refine ⟨nx, hr, ?_⟩
  cases nx <;> first
    | exact CallsIn.mono hx (RetE.mono k)
    | exact RoundIn.mono hx (RetE.mono k)
    | exact hx

theorem Ret.mono {β : Places} {H : Heap} {w : World} {R R' : Value → Heap → Prop} (k : ∀ v H, R v H → R' v H) {u : Value} {w' : World} (h : Ret β H w R u w') : Ret β H w R' u w' :=
  let ⟨v, H', β', h1, h2⟩ := h; ⟨v, H', β', k _ _ h1, h2⟩

theorem ACall.mono {P : Program} {fv : Value} {args : List Value} {H : Heap} {R R' : Value → Heap → Prop} (h : ACall P fv args H R) (k : ∀ v H, R v H → R' v H) : ACall P fv args H R' :=
  fun β w u us hw hu hus => (h β w u us hw hu hus).mono fun _ _ => Ret.mono k

theorem AFun.mono {P : Program} {f : FuncId} {args : List Value} {H : Heap} {R R' : Value → Heap → Prop} (h : AFun P f args H R) (k : ∀ v H, R v H → R' v H) : AFun P f args H R' :=
  ⟨h.1, fun β w us hw hus => (h.2 β w us hw hus).mono (RetE.mono fun _ _ => Ret.mono k)⟩

theorem ACall.of_fun {P : Program} {f : FuncId} {xs us : Array Value} {args : List Value} {H : Heap} {R : Value → Heap → Prop} (h : AFun P f (xs.toList ++ args ++ us.toList) H R) : ACall P (.func (.func f) xs us) args H R := by
  intro β w u as hw hu has
  cases hu with
  | @func _ _ ys _ vs hfn hs hx ht hy =>
    have hx' := VL.of_arr hs hx
    have hy' := VL.of_arr ht hy
    have e : ys ++ as.toArray ++ vs = (ys.toList ++ as ++ vs.toList).toArray := Array.toList_inj.1 (by simp)
    refine ⟨.enter f (ys ++ as.toArray ++ vs), ?_, ?_⟩
    · simp only [Deferred.ofValue, invoke, Sem.run_bind, Sem.run_pure, Result.andThen_ok, h.1]
    · rw [e]
      exact h.2 β w (ys.toList ++ as ++ vs.toList) hw ((hx'.append has).append hy')

theorem ACall.plain {P : Program} {f : FuncId} {args : List Value} {H : Heap} {R : Value → Heap → Prop} (h : AFun P f args H R) : ACall P (.func (.func f) #[] #[]) args H R :=
  .of_fun (by simpa using h)

def acond (b : Bool) (p q : Prop) : Prop := (b = true → p) ∧ (b = false → q)
@[congr] theorem acond_congr {b b' : Bool} {p q : Prop} (h : b = b') : acond b p q = acond b' p q := by subst h; rfl
theorem acond_true (p q : Prop) : acond true p q = p := by simp [acond]
theorem acond_false (p q : Prop) : acond false p q = q := by simp [acond]
theorem acond_if {b : Bool} {p q : Prop} (h : acond b p q) : if b = true then p else q := by
  cases b
  · simpa using h.2 rfl
  · simpa using h.1 rfl

structure AOper where
  dst : Option Nat
  op : AOp
  guard : Option (Nat × Bool)

def AOp.isMake : AOp → Bool
  | .new _ | .box _ | .bsl .. | .mks .. | .mkm => true
  | _ => false
def AOp.isStore : AOp → Bool
  | .st .. | .mup .. => true
  | _ => false
def AOp.isApp : AOp → Bool
  | .app .. => true
  | _ => false
def AOp.isVal : AOp → Bool
  | .new _ | .box _ | .bsl .. | .mks .. | .mkm | .st .. | .app .. | .mup .. | .call .. => false
  | _ => true

def vop (P : Program) (op : AOp) (dst : Option Nat) (s : St) (K : St → Prop) : Prop :=
  match op with
  | .new z => ∃ x v, amake s.t s.H.next (.new z) = some (x, v) ∧ K (({ s with H := s.H.new x } : St).put dst v)
  | .box y => ∃ x v, amake s.t s.H.next (.box y) = some (x, v) ∧ K (({ s with H := s.H.new x } : St).put dst v)
  | .bsl n z ps => ∃ x v, amake s.t s.H.next (.bsl n z ps) = some (x, v) ∧ K (({ s with H := s.H.new x } : St).put dst v)
  | .mks sz b z l c => ∃ x v, amake s.t s.H.next (.mks sz b z l c) = some (x, v) ∧ K (({ s with H := s.H.new x } : St).put dst v)
  | .mkm => ∃ x v, amake s.t s.H.next .mkm = some (x, v) ∧ K (({ s with H := s.H.new x } : St).put dst v)
  | .st sz x v => ∃ H', astore P s.t s.H (.st sz x v) = some H' ∧ K (({ s with H := H' } : St).put dst undef)
  | .app sz b y x => aapp s.t s.H s.H.next (s.H.next + 1) (fun v H' => K (({ s with H := H' } : St).put dst v)) (.app sz b y x)
  | .mup T x k v => ∃ H', astore P s.t s.H (.mup T x k v) = some H' ∧ K (({ s with H := H' } : St).put dst undef)
  | .call f args => ACall P (f.ev s.t) (args.map (·.ev s.t)) s.H fun v H' => K (({ s with H := H' } : St).put dst v)
  | op => ∃ v, aval P s.t s.H op = some v ∧ K (s.put dst v)

def gval : Value → Bool → Bool
  | .bool b, want => b == want
  | _, _ => false

def vopers (P : Program) : List AOper → St → (St → Prop) → Prop
  | [], s, K => K s
  | o :: os, s, K =>
    match o.guard with
    | none => vop P o.op o.dst s fun s' => vopers P os s' K
    | some (d, want) => acond (gval (s.t d) want) (vop P o.op o.dst s fun s' => vopers P os s' K) (vopers P os (s.put o.dst undef) K)

def ccall (N : Nat) (o : Oper) : Option AOp :=
  match o.op with
  | .call c => match c.callee with
    | .value f => match copd N f, copds N c.args.toList with
      | some f, some args => some (.call f args)
      | _, _ => none
    | _ => none
  | _ => none

def cop (P : Program) (N : Nat) (o : Oper) : Option AOp :=
  match ccall N o with
  | some x => some x
  | none => match cval P N o with
    | some x => if x.isVal then some x else none
    | none => match cmake P N o with
      | some x => if x.isMake then some x else none
      | none => match cstore P N o with
        | some x => if x.isStore then some x else none
        | none => match capp P N o with
          | some x => if x.isApp then some x else none
          | none => none

def notDefer : Op → Bool
  | .defer _ => false
  | _ => true

def dstOk (N : Nat) : Option Nat → Bool
  | none => true
  | some d => decide (d < N)

def coper (P : Program) (N : Nat) (ops : Array Oper) (o : Oper) : Option AOper :=
  match cop P N o with
  | some op => if notDefer o.op && dstOk N o.dst then
      match o.guard with
      | none => some { dst := o.dst, op, guard := none }
      | some (j, want) => match (ops[j]?).bind (·.dst) with
        | some d => if d < N then some { dst := o.dst, op, guard := some (d, want) } else none
        | none => none
    else none
  | none => none

def copers (P : Program) (N : Nat) (ops : Array Oper) : List Oper → Option (List AOper)
  | [] => some []
  | o :: l => match coper P N ops o, copers P N ops l with
    | some x, some xs => some (x :: xs)
    | _, _ => none

end Go.Ab


namespace Go.Ab

section
variable {P : Program} {β₀ β : Places} {N : Nat} {a : Act} {H₀ : Heap} {w₀ w : World} {o : Oper} {s : St} {ro : Option Nat} {F : Fence}

theorem ccall_inv {x : AOp} (h : ccall N o = some x) : ∃ c f f' args', o.op = .call c ∧ c.callee = .value f ∧ copd N f = some f' ∧ copds N c.args.toList = some args' ∧ x = .call f' args' := by
  unfold ccall at h
  split at h
  · rename_i c ho
    split at h
    · rename_i f hf
      split at h
      · rename_i f' args' h1 h2
        simp only [Option.some.injEq] at h
        exact ⟨c, f, f', args', ho, hf, h1, h2, h.symm⟩
      · cases h
    · cases h
  · cases h

theorem cop_inv {x : AOp} (h : cop P N o = some x) :
    ccall N o = some x ∨ (cval P N o = some x ∧ x.isVal = true) ∨ (cmake P N o = some x ∧ x.isMake = true) ∨ (cstore P N o = some x ∧ x.isStore = true) ∨ (capp P N o = some x ∧ x.isApp = true) := by
  unfold cop at h
  split at h
  · rename_i y hy
    simp only [Option.some.injEq] at h; subst h
    exact .inl hy
  · split at h
    · rename_i y hy
      split at h
      · rename_i hv
        simp only [Option.some.injEq] at h; subst h
        exact .inr (.inl ⟨hy, hv⟩)
      · cases h
    · split at h
      · rename_i y hy
        split at h
        · rename_i hv
          simp only [Option.some.injEq] at h; subst h
          exact .inr (.inr (.inl ⟨hy, hv⟩))
        · cases h
      · split at h
        · rename_i y hy
          split at h
          · rename_i hv
            simp only [Option.some.injEq] at h; subst h
            exact .inr (.inr (.inr (.inl ⟨hy, hv⟩)))
          · cases h
        · split at h
          · rename_i y hy
            split at h
            · rename_i hv
              simp only [Option.some.injEq] at h; subst h
              exact .inr (.inr (.inr (.inr ⟨hy, hv⟩)))
            · cases h
          · cases h

theorem vop_val {op : AOp} {dst : Option Nat} {K : St → Prop} (hv : op.isVal = true) (h : vop P op dst s K) : ∃ v, aval P s.t s.H op = some v ∧ K (s.put dst v) := by
  cases op <;> first | exact h | cases hv

theorem vop_make {op : AOp} {dst : Option Nat} {K : St → Prop} (hv : op.isMake = true) (h : vop P op dst s K) :
    ∃ x v, amake s.t s.H.next op = some (x, v) ∧ K (({ s with H := s.H.new x } : St).put dst v) := by
  cases op <;> first | exact h | cases hv

theorem vop_store {op : AOp} {dst : Option Nat} {K : St → Prop} (hv : op.isStore = true) (h : vop P op dst s K) :
    ∃ H', astore P s.t s.H op = some H' ∧ K (({ s with H := H' } : St).put dst undef) := by
  cases op <;> first | exact h | cases hv

theorem vop_app {op : AOp} {dst : Option Nat} {K : St → Prop} (hv : op.isApp = true) (h : vop P op dst s K) :
    aapp s.t s.H s.H.next (s.H.next + 1) (fun v H' => K (({ s with H := H' } : St).put dst v)) op := by
  cases op <;> first | exact h | cases hv

theorem Rel.put (h : Rel β N s a w) {dst : Option Nat} (hd : dstOk N dst = true) {v u : Value} (hv : VR β v u) : Rel β N (s.put dst v) (a.put dst u) w := by
  cases dst with
  | none => exact h
  | some d =>
    simp only [dstOk, decide_eq_true_eq] at hd
    exact ⟨h.heap, h.tmps.put hd hv, h.defs⟩

theorem Rel.turn {β' : Places} {H' : Heap} {w' : World} (h : Rel β N s a w) (he : Ext β β') (hw : WR β' H' w'.heap) : Rel β' N { s with H := H' } a w' := ⟨hw, h.tmps.ext he, h.defs.ext he⟩

def Post (N : Nat) (β₀ : Places) (H₀ : Heap) (w₀ : World) (β : Places) (K : St → Prop) (a' : Act) (w' : World) : Prop :=
  ∃ s' β', K s' ∧ Rel β' N s' a' w' ∧ FR β₀ H₀ w₀ β' s'.H w' ∧ Ext β β'

theorem vop_sound {op : AOp} {K : St → Prop} {Q : Exit → Act → World → Prop} (hc : cop P N o = some op) (hnd : notDefer o.op = true) (hd : dstOk N o.dst = true)
    (hr : Rel β N s a w) (hf : FR β₀ H₀ w₀ β s.H w) (hro : RoR β ro F) (h : vop P op o.dst s K) : o.wpIn F 0 P a w (Post N β₀ H₀ w₀ β K) Q := by
  refine ⟨fun f _ => hro.fn f, ?_⟩
  rw [Oper.semAt_eq F.round a.eval o (by intro c e; rw [e] at hnd; cases hnd)]
  rcases cop_inv hc with hc | ⟨hc, hk⟩ | ⟨hc, hk⟩ | ⟨hc, hk⟩ | ⟨hc, hk⟩
  · obtain ⟨c, f, f', args', ho, hcal, h1, h2, rfl⟩ := ccall_inv hc
    have hcall : ACall P (f'.ev s.t) (args'.map (·.ev s.t)) s.H fun v H' => K (({ s with H := H' } : St).put o.dst v) := h
    obtain ⟨nx, hrun, hnx⟩ := hcall β w (a.eval f) (c.args.toList.map a.eval) hr.heap (copd_VR h1 hr.tmps) (copds_VL hr.tmps h2)
    have hrun' : (execOp a.eval o).run P w = .ok nx w := by
      have e : (c.args.map a.eval) = (c.args.toList.map a.eval).toArray := Array.toList_inj.1 (by simp)
      simp only [execOp, ho, resolve, hcal, e]
      exact hrun
    rw [hrun']
    have fin : ∀ e w', RetE (Ret β s.H w fun v H' => K (({ s with H := H' } : St).put o.dst v)) e w' →
        (match e, w' with
          | .returned v, w'' => Post N β₀ H₀ w₀ β K (a.put o.dst v) w''
          | .panicked chain, w'' => Q (.panic chain) a w''
          | .outgrown, _ => LetsOut Q) := by
      intro e w' he
      cases e with
      | returned u =>
        obtain ⟨v, H', β', hK, hv, hw', hF⟩ := he
        have hx := hF.ext hr.heap
        refine ⟨_, β', hK, ?_, ?_, hx⟩
        · exact (hr.turn hx hw').put hd hv
        · rw [St.put_H]; exact hf.trans hF
      | panicked c => exact he.elim
      | outgrown => exact he.elim
    cases nx with
    | enter f as => exact ⟨fun hs => (by rw [hro.depth] at hs; cases hs), (hro.calls hnx).mono fin⟩
    | round l f tmps assign body => exact ⟨fun hs => (by rw [hro.depth] at hs; cases hs), (hro.rounds hnx).mono fin⟩
    | _ => exact hnx.elim
  · obtain ⟨v, hv, hK⟩ := vop_val hk h
    obtain ⟨u, hu, hrun⟩ := cval_sound (w := w) hc hr.tmps hr.heap hv
    rw [hrun]
    exact ⟨_, β, hK, hr.put hd hu, by rw [St.put_H]; exact hf, Ext.refl β⟩
  · obtain ⟨x, v, hv, hK⟩ := vop_make hk h
    have hn : β s.H.next = none := hr.heap.fresh _ (Nat.le_refl _)
    obtain ⟨u, ob, hrun, hor, hu⟩ := cmake_sound (w := w) (β' := β.at_ s.H.next ⟨w.heap.size, 0, 0, 0, 0⟩) hc hr.tmps (Places.ext_at hn _) (Places.at_self _ _ _) hv
    rw [hrun]
    have hw' := hr.heap.make hn (Nat.le_succ _) (Nat.lt_succ_self _) hor
    have hf' := hf.make0 (n := s.H.next) (x := x) (o := ob) hf.next (Nat.le_succ _)
    refine ⟨_, β.at_ s.H.next ⟨w.heap.size, 0, 0, 0, 0⟩, hK, ?_, ?_, Places.ext_at hn _⟩
    · exact (hr.turn (w' := { w with heap := w.heap.push ob }) (Places.ext_at hn _) hw').put hd hu
    · rw [St.put_H]; exact hf'
  · obtain ⟨H', hv, hK⟩ := vop_store hk h
    obtain ⟨w', hrun, hw', hf'⟩ := cstore_sound hc hr.tmps hr.heap hf hv
    rw [hrun]
    refine ⟨_, β, hK, ?_, ?_, Ext.refl β⟩
    · exact (hr.turn (Ext.refl β) hw').put hd (VR.undef β)
    · rw [St.put_H]; exact hf'
  · have hv := vop_app hk h
    have hn : β s.H.next = none := hr.heap.fresh _ (Nat.le_refl _)
    obtain ⟨u, w', v, H', β', hrun, hu, hK, hw', hf', he, _⟩ := capp_sound hc hr.tmps hr.heap hf hn hf.next (Nat.le_succ _) (Nat.lt_succ_self _) hv
    rw [hrun]
    refine ⟨_, β', hK, ?_, ?_, he⟩
    · exact (hr.turn he hw').put hd hu
    · rw [St.put_H]; exact hf'

theorem gval_wanted {ops : Array Oper} {j d : Nat} {want : Bool} (hd : (ops[j]?).bind (·.dst) = some d) (hlt : d < N) (ht : TR β N s.t a.tmps) (hg : o.guard = some (j, want)) :
    Region.wanted o (yielded ops a.tmps) = gval (s.t d) want := by
  have h := ht.get d hlt
  have hsz : d < a.tmps.size := by rw [ht.size]; exact hlt
  simp only [Region.wanted, hg, yielded, hd, Option.bind_some]
  have e : a.tmps.getD d undef = a.tmps[d] := by simp [Array.getD, hsz]
  rw [e] at h
  rw [Array.getElem?_eq_getElem hsz]
  generalize a.tmps[d] = u at h
  generalize s.t d = v at h
  cases h <;> first
    | (simp only [gval]; cases want <;> rename_i x <;> cases x <;> rfl)
    | rfl

theorem coper_inv {ops : Array Oper} {x : AOper} (h : coper P N ops o = some x) :
    cop P N o = some x.op ∧ notDefer o.op = true ∧ x.dst = o.dst ∧ dstOk N o.dst = true ∧
    ((o.guard = none ∧ x.guard = none) ∨ ∃ j want d, o.guard = some (j, want) ∧ (ops[j]?).bind (·.dst) = some d ∧ d < N ∧ x.guard = some (d, want)) := by
  unfold coper at h
  split at h
  · rename_i op h1
    by_cases h2 : (notDefer o.op && dstOk N o.dst) = true
    · rw [if_pos h2] at h
      simp only [Bool.and_eq_true] at h2
      split at h
      · rename_i hg
        simp only [Option.some.injEq] at h; subst h
        exact ⟨h1, h2.1, rfl, h2.2, .inl ⟨hg, rfl⟩⟩
      · rename_i j want hg
        split at h
        · rename_i d hd
          split at h
          · rename_i hlt
            simp only [Option.some.injEq] at h; subst h
            exact ⟨h1, h2.1, rfl, h2.2, .inr ⟨j, want, d, hg, hd, hlt, rfl⟩⟩
          · cases h
        · cases h
    · rw [if_neg h2] at h; cases h
  · cases h

theorem vopers_sound {ops : Array Oper} {Q : Exit → Act → World → Prop} : ∀ {l : List Oper} {al : List AOper} {s : St} {a : Act} {w : World} {β : Places} {K : St → Prop}, copers P N ops l = some al → Rel β N s a w → FR β₀ H₀ w₀ β s.H w → RoR β ro F →
    (∀ a' w', Post N β₀ H₀ w₀ β K a' w' → Q .normal a' w') → vopers P al s K → wpListIn F 0 P ops Q l a w
  | [], al, s, a, w, β, K, hc, hr, hf, hro, hQ, h => by
    simp only [copers, Option.some.injEq] at hc; subst hc
    exact hQ a w ⟨s, β, h, hr, hf, Ext.refl β⟩
  | o :: l, al, s, a, w, β, K, hc, hr, hf, hro, hQ, h => by
    simp only [copers] at hc
    split at hc
    · rename_i x xs h1 h2
      simp only [Option.some.injEq] at hc; subst hc
      obtain ⟨hop, hnd, hdst, hd, hg⟩ := coper_inv h1
      have yes : vop P x.op x.dst s (fun s' => vopers P xs s' K) → o.wpIn F 0 P a w (wpListIn F 0 P ops Q l) Q := fun hv => by
        rw [hdst] at hv
        refine Oper.wpIn_mono (fun a' w' hp => ?_) (vop_sound (Q := Q) hop hnd hd hr hf hro hv)
        obtain ⟨s', β', hK, hr', hf', he⟩ := hp
        exact vopers_sound h2 hr' hf' (hro.ext he) (fun a'' w'' ⟨s2, β2, k1, k2, k3, k4⟩ => hQ a'' w'' ⟨s2, β2, k1, k2, k3, he.trans k4⟩) hK
      have no : vopers P xs (s.put x.dst undef) K → (∀ f, o.about P w a.eval = some f → F.fn f) ∧ wpListIn F 0 P ops Q l (a.put o.dst undef) w := fun hv => by
        rw [hdst] at hv
        exact ⟨fun f _ => hro.fn f, vopers_sound h2 (hr.put hd (VR.undef β)) (by rw [St.put_H]; exact hf) hro hQ hv⟩
      rcases hg with ⟨hg, hxg⟩ | ⟨j, want, d, hg, hj, hlt, hxg⟩
      · simp only [vopers, hxg] at h
        simp only [wpListIn, Region.wanted, hg, if_true]
        exact yes h
      · simp only [vopers, hxg] at h
        simp only [wpListIn, gval_wanted (s := s) hj hlt hr.tmps hg]
        have := acond_if h
        split
        · rename_i hb; rw [if_pos hb] at this; exact yes this
        · rename_i hb; rw [if_neg hb] at this; exact no this
    · cases hc

end

end Go.Ab


namespace Go.Ab

inductive AExit where
  | normal
  | exit (id : Nat)
  | ret
  deriving DecidableEq

abbrev APost := AExit → St → Prop

structure DStep where
  op : AOper
  i : Nat
  chain : Bool
  loose : List Nat

inductive ACode where
  | skip
  | region (ops : List AOper)
  | draw (n : Nat) (steps : List DStep)
  | seq (a b : ACode)
  | cond (c : Opd) (a b : ACode)
  | block (id : Nat) (b : ACode)
  | loop (b : ACode)
  | exit (id : Nat)
  | ret
  | rangeF (g : Opd) (ps : Array Tmp) (assign body : Code) (x y : ACode)

def thenQ (K : St → Prop) (Q : APost) : APost
  | .normal, s => K s
  | .exit i, s => Q (.exit i) s
  | .ret, s => Q .ret s

def blockQ (id : Nat) (Q : APost) : APost
  | .exit i, s => if i = id then Q .normal s else Q (.exit i) s
  | .normal, s => Q .normal s
  | .ret, s => Q .ret s

def aloop (B : APost → St → Prop) (Q : APost) (s : St) : Prop :=
  ∃ (I : St → Prop) (μ : St → Nat), I s ∧ ∀ s, I s → B (thenQ (fun s' => I s' ∧ μ s' < μ s) Q) s

def jumpQ (Q : APost) (s : St) : Option Code → Prop
  | none => Q .normal s
  | some .ret => Q .ret s
  | some (.exit id) => Q (.exit id) s
  | _ => False

def endQ (Q : APost) (s : St) (n : Nat) (d : List Nat) (H2 : Heap) : Prop :=
  ∃ r, H2.get n = .loop r ∧ r.state ≠ .busy ∧ jumpQ Q { s with d := d, H := H2.set n (.loop { r with state := .exhausted }) } r.pending

def arange (P : Program) (N : Nat) (ro : Option Nat) (g : Opd) (ps : Array Tmp) (assign body : Code) (Q : APost) (s : St) : Prop :=
  ∃ f xs us, g.ev s.t = .func (.func f) xs us ∧
  match ro with
  | none => ∀ fn, AFun P f (xs.toList ++ [.func (.yield (s.H.next + 1)) #[] #[]] ++ us.toList)
      ((s.H.new .dfr).new (.loop { state := .ready, pending := none, fn, t := s.t, N, params := ps, assign, body, defers := s.H.next })) fun _ H2 => endQ Q s (s.H.next + 1) (s.H.next :: s.d) H2
  | some l => ∃ r0, s.H.get l = .loop r0 ∧ ∀ fn, AFun P f (xs.toList ++ [.func (.yield s.H.next) #[] #[]] ++ us.toList)
        (s.H.new (.loop { state := .ready, pending := none, fn, t := s.t, N, params := ps, assign, body, defers := r0.defers })) fun _ H2 => endQ Q s s.H.next s.d H2

def vc (P : Program) (N : Nat) (ro : Option Nat) (D : Nat → List DStep → St → (St → Prop) → Prop) : ACode → APost → St → Prop
  | .skip, Q, s => Q .normal s
  | .region ops, Q, s => vopers P ops s (Q .normal)
  | .draw n steps, Q, s => D n steps s (Q .normal)
  | .seq a b, Q, s => vc P N ro D a (thenQ (vc P N ro D b Q) Q) s
  | .cond c a b, Q, s => ∃ x, c.ev s.t = .bool x ∧ acond x (vc P N ro D a Q s) (vc P N ro D b Q s)
  | .block id b, Q, s => vc P N ro D b (blockQ id Q) s
  | .loop b, Q, s => aloop (vc P N ro D b) Q s
  | .exit id, Q, s => Q (.exit id) s
  | .ret, Q, s => Q .ret s
  | .rangeF g ps assign body _ _, Q, s => arange P N ro g ps assign body Q s

def ccode (P : Program) (N : Nat) (CD : Array Oper → Option (Nat × List DStep)) : Code → Option ACode
  | .skip => some .skip
  | .region _ ops false => (copers P N ops ops.toList).map .region
  | .region _ ops true => (CD ops).map fun (n, l) => .draw n l
  | .seq a b => match ccode P N CD a, ccode P N CD b with
    | some x, some y => some (.seq x y)
    | _, _ => none
  | .cond c a b => match copd N c, ccode P N CD a, ccode P N CD b with
    | some c, some x, some y => some (.cond c x y)
    | _, _, _ => none
  | .block id b => (ccode P N CD b).map (.block id)
  | .loop b => (ccode P N CD b).map .loop
  | .rangeFunc g ps assign body => match copd N g, ccode P N CD assign, ccode P N CD body with
    | some g, some x, some y => some (.rangeF g ps assign body x y)
    | _, _, _ => none
  | .exit id => some (.exit id)
  | .scope b => ccode P N CD b
  | .label _ => some .skip
  | .ret => some .ret
  | _ => none

def PostX (N : Nat) (β₀ : Places) (H₀ : Heap) (w₀ : World) (β : Places) (Q : APost) : Exit → Act → World → Prop
  | .normal, a, w => Post N β₀ H₀ w₀ β (Q .normal) a w
  | .exit id, a, w => Post N β₀ H₀ w₀ β (Q (.exit id)) a w
  | .ret, a, w => Post N β₀ H₀ w₀ β (Q .ret) a w
  | _, _, _ => False

def DSound (P : Program) (N : Nat) (D : Nat → List DStep → St → (St → Prop) → Prop) (CD : Array Oper → Option (Nat × List DStep)) : Prop :=
  ∀ (id : Nat) (ops : Array Oper) (n : Nat) (l : List DStep) (β₀ β : Places) (H₀ : Heap) (w₀ w : World) (s : St) (a : Act) (ro : Option Nat) (F : Fence) (Q : APost),
    CD ops = some (n, l) → Rel β N s a w → FR β₀ H₀ w₀ β s.H w → RoR β ro F → D n l s (Q .normal) → (Code.region id ops true).wpIn F 0 P (PostX N β₀ H₀ w₀ β Q) a w

section
variable {P : Program} {β₀ β : Places} {N : Nat} {a : Act} {H₀ : Heap} {w₀ w : World} {s : St} {ro : Option Nat} {F : Fence}

theorem Post.weaken {β' : Places} {K : St → Prop} (he : Ext β β') {a' : Act} {w' : World} (h : Post N β₀ H₀ w₀ β' K a' w') : Post N β₀ H₀ w₀ β K a' w' :=
  let ⟨s', β2, k1, k2, k3, k4⟩ := h; ⟨s', β2, k1, k2, k3, he.trans k4⟩

theorem PostX.weaken {β' : Places} {Q : APost} (he : Ext β β') {e : Exit} {a' : Act} {w' : World} (h : PostX N β₀ H₀ w₀ β' Q e a' w') : PostX N β₀ H₀ w₀ β Q e a' w' := by
  cases e <;> first | exact Post.weaken he h | exact h

theorem stepR_scope {b : Frame} {k : List Item} {cs : List Frame} {c : Code} : step P (lone (b.atR a (.code (.scope c) :: k)) cs w) = .next (lone (b.atR a (.code c :: .inScope c :: k)) cs w) :=
  step_lone_go (by simp [stepG, stepG.exec, Frame.atR])
theorem stepR_inScope {b : Frame} {k : List Item} {cs : List Frame} {c : Code} : step P (lone (b.atR a (.inScope c :: k)) cs w) = .next (lone (b.atR a k) cs w) :=
  step_lone_go (by simp [stepG, stepG.exec, Frame.atR])

theorem wpIn_scope_straight {n : Nat} {c : Code} {Q : Exit → Act → World → Prop} (h : c.wpIn F n P (Exit.noGoto Q) a w) : (Code.scope c).wpIn F n P Q a w := by
  intro b k cs hro hb hr
  have h0 : (lone (b.atR a (.code (.scope c) :: k)) cs w).fenced P F := fenced_calm hb hr rfl
  obtain ⟨e, a₁, w₁, hq, harr⟩ := h b (.inScope c :: k) cs hro hb hr
  cases e with
  | normal => exact ⟨.normal, a₁, w₁, hq, .head h0 stepR_scope (StepsIn.trans harr (.one (fenced_calm hb hr rfl) stepR_inScope))⟩
  | exit id =>
    have hx : exitTo id (.inScope c :: k) = exitTo id k := by simp [exitTo]
    exact ⟨.exit id, a₁, w₁, hq, fun k' hk => .head h0 stepR_scope (harr.1 k' (by rw [hx]; exact hk)),
      fun hr' hk => let ⟨k₁, h1, h2⟩ := harr.2 hr' (by rw [hx]; exact hk); ⟨k₁, h1, .head h0 stepR_scope h2⟩⟩
  | goto l => exact hq.elim
  | ret => exact ⟨_, a₁, w₁, hq, .of_steps (.one h0 stepR_scope) harr⟩
  | panic ch => exact ⟨_, a₁, w₁, hq, .of_steps (.one h0 stepR_scope) harr⟩
  | outgrown => exact ⟨_, a₁, w₁, hq, .of_steps (.one h0 stepR_scope) harr⟩

theorem Post.self {K : St → Prop} (hr : Rel β N s a w) (hf : FR β₀ H₀ w₀ β s.H w) (h : K s) : Post N β₀ H₀ w₀ β K a w := ⟨s, β, h, hr, hf, Ext.refl β⟩

theorem loop_turn {n : Nat} {l : Loc} {r r' : ALoop} {o : Obj} (hw : WR β s.H w.heap) (hn : β n = some l) (hg : s.H.get n = .loop r) (hor : OR β l (w.heap.setIfInBounds l.b o) (.loop r')) (hf : FR β₀ H₀ w₀ β s.H w) :
    WR β (s.H.set n (.loop r')) (w.heap.setIfInBounds l.b o) ∧ FR β₀ H₀ w₀ β (s.H.set n (.loop r')) { w with heap := w.heap.setIfInBounds l.b o } := by
  have ho : (s.H.get n).owns = true := by rw [hg]; rfl
  have hoth : ∀ b, b ≠ l.b → (w.heap.setIfInBounds l.b o)[b]? = w.heap[b]? := fun b hb => Array.getElem?_setIfInBounds_ne (Ne.symm hb)
  exact ⟨hw.turn hn ho hor (fun _ => by rw [hg]; rfl) hoth, hf.turn (w' := { w with heap := w.heap.setIfInBounds l.b o }) hn ho _ rfl rfl rfl (by simp) hoth⟩

theorem jump_sound {Q : APost} {c : Code} (hr : Rel β N s a w) (hf : FR β₀ H₀ w₀ β s.H w) (h : jumpQ Q s (some c)) : c.wpIn F 0 P (PostX N β₀ H₀ w₀ β Q) a w := by
  cases c with
  | ret => exact wpIn_ret (Post.self (K := Q .ret) hr hf h)
  | exit id => exact wpIn_exit (Post.self (K := Q (.exit id)) hr hf h)
  | _ => exact h.elim

end

end Go.Ab


namespace Go.Ab

section
variable {P : Program} {β₀ β : Places} {N : Nat} {a : Act} {H₀ : Heap} {w₀ w : World} {s : St} {ro : Option Nat} {F : Fence}

theorem endLoop_run {l : Loc} {r : ALoop} (hor : OR β l w.heap (.loop r)) (hs : r.state ≠ .busy) :
    ∃ o, (Instr.endLoop l.b).run P w = .ok r.pending { w with heap := w.heap.setIfInBounds l.b o } ∧ OR β l (w.heap.setIfInBounds l.b o) (.loop { r with state := .exhausted }) := by
  obtain ⟨h0, tm, d, hh, htr, hd⟩ := hor
  have hlt : l.b < w.heap.size := (Array.getElem?_eq_some_iff.1 hh).1
  refine ⟨.loop { state := .exhausted, pending := r.pending, fn := r.fn, tmps := tm, params := r.params, assign := r.assign, body := r.body, defers := d.b }, ?_, h0, tm, d, ?_, htr, hd⟩
  · simp [Instr.endLoop, Instr.getLoop, getObj, setObj, Sem.run, hh, hs]
  · simp [hlt]

theorem func_VR {β : Places} {f : FuncId} {xs us : Array Value} {u : Value} (h : VR β (.func (.func f) xs us) u) : ∃ ys vs, u = .func (.func f) ys vs ∧ VL β xs.toList ys.toList ∧ VL β us.toList vs.toList := by
  cases h with
  | func hfn hs h ht g => exact ⟨_, _, rfl, .of_arr hs h, .of_arr ht g⟩

theorem VL.single {β : Places} {x y : Value} (h : VR β x y) : VL β [x] [y] := ⟨h, trivial⟩

theorem jumpQ_none {Q : APost} {s : St} {p : Option Code} (h : jumpQ Q s p) (e : p = none) : Q .normal s := by subst e; exact h
theorem jumpQ_some {Q : APost} {s : St} {p : Option Code} {c : Code} (h : jumpQ Q s p) (e : p = some c) : jumpQ Q s (some c) := by subst e; exact h

theorem arange_post {Q : APost} {n : Nat} {l : Loc} {H1 : Heap} {w1 : World} {β1 : Places} {d : List Nat} {ds : List Deferred} (hw1 : WR β1 H1 w1.heap) (hf1 : FR β₀ H₀ w₀ β1 H1 w1) (he1 : Ext β β1) (hn : β1 n = some l)
    (ht : TR β1 N s.t a.tmps) (hd : DR β1 d ds) {u : Value} {w2 : World} (h : Ret β1 H1 w1 (fun _ H2 => endQ Q s n d H2) u w2) :
    rangePost F 0 P l.b (PostX N β₀ H₀ w₀ β Q) { a with defers := ds } (.returned u) w2 := by
  obtain ⟨v, H2, β2, ⟨r, hg, hst, hj⟩, hv, hw2, hf2⟩ := h
  have he2 := hf2.ext hw1
  have hn2 := he2 _ _ hn
  have hor := hw2.obj n l hn2
  rw [hg] at hor
  obtain ⟨o, hrun, hor'⟩ := endLoop_run (P := P) hor hst
  have hff := hf1.trans hf2
  obtain ⟨k1, k2⟩ := loop_turn (s := { s with H := H2 }) hw2 hn2 hg hor' hff
  have hrel : Rel β2 N { s with d := d, H := H2.set n (.loop { r with state := .exhausted }) } { a with defers := ds } { w2 with heap := w2.heap.setIfInBounds l.b o } :=
    ⟨k1, ht.ext he2, hd.ext he2⟩
  refine ⟨r.pending, _, hrun, ?_⟩
  have hex := he1.trans he2
  cases hp : r.pending with
  | none => exact Post.weaken hex (Post.self (K := Q .normal) hrel k2 (jumpQ_none hj hp))
  | some c => exact wpIn_mono (jump_sound hrel k2 (jumpQ_some hj hp)) fun e a w q => PostX.weaken hex q

theorem arange_sound {g : Operand} {g' : Opd} {ps : Array Tmp} {assign body : Code} {Q : APost} (hg : copd N g = some g') (hr : Rel β N s a w) (hf : FR β₀ H₀ w₀ β s.H w) (hro : RoR β ro F)
    (h : arange P N ro g' ps assign body Q s) : (Code.rangeFunc g ps assign body).wpIn F 0 P (PostX N β₀ H₀ w₀ β Q) a w := by
  obtain ⟨f, xs, us, hge, h⟩ := h
  have hgv := copd_VR hg hr.tmps
  rw [hge] at hgv
  obtain ⟨ys, vs, hev, hxy, huv⟩ := func_VR hgv
  refine wpIn_rangeFunc ?_
  intro fn hfn
  cases ro with
  | none =>
    cases hro
    have h1 := h fn
    -- the block for deferred calls, and the record
    have hn1 : β s.H.next = none := hr.heap.fresh _ (Nat.le_refl _)
    let β1 := β.at_ s.H.next ⟨w.heap.size, 0, 0, 0, 0⟩
    let w1 : World := { w with heap := w.heap.push (.deferred (some [])) }
    have hwA : WR β1 (s.H.new .dfr) w1.heap := hr.heap.make (x := .dfr) hn1 (Nat.le_succ _) (Nat.lt_succ_self _) ⟨rfl, by simp⟩
    have hfA : FR β₀ H₀ w₀ β1 (s.H.new .dfr) w1 := hf.make0 (n := s.H.next) (x := .dfr) (o := .deferred (some [])) hf.next (Nat.le_succ _)
    have heA : Ext β β1 := Places.ext_at hn1 _
    have hn2 : β1 (s.H.next + 1) = none := hwA.fresh _ (Nat.le_refl _)
    let β2 := β1.at_ (s.H.next + 1) ⟨w1.heap.size, 0, 0, 0, 0⟩
    let rec1 : Loop := { state := .ready, pending := none, fn, tmps := a.tmps, params := ps, assign, body, defers := w.heap.size }
    let w2 : World := { w1 with heap := w1.heap.push (.loop rec1) }
    have heB : Ext β1 β2 := Places.ext_at hn2 _
    have hwB : WR β2 ((s.H.new .dfr).new (.loop { state := .ready, pending := none, fn, t := s.t, N, params := ps, assign, body, defers := s.H.next })) w2.heap :=
      hwA.make (x := .loop { state := .ready, pending := none, fn, t := s.t, N, params := ps, assign, body, defers := s.H.next }) hn2 (Nat.le_succ _) (Nat.lt_succ_self _)
        ⟨rfl, a.tmps, ⟨w.heap.size, 0, 0, 0, 0⟩, by simp [rec1], hr.tmps.ext (heA.trans heB), heB _ _ (Places.at_self _ _ _)⟩
    have hfB : FR β₀ H₀ w₀ β2 ((s.H.new .dfr).new (.loop { state := .ready, pending := none, fn, t := s.t, N, params := ps, assign, body, defers := s.H.next })) w2 :=
      hfA.make0 (n := s.H.next + 1) (o := .loop rec1) hfA.next (Nat.le_succ _)
    have hy : VR β2 (.func (.yield (s.H.next + 1)) #[] #[]) (.func (.yield (w.heap.size + 1)) #[] #[]) := by
      have := VR.yield (β := β2) (n := s.H.next + 1) (l := ⟨w1.heap.size, 0, 0, 0, 0⟩) (Places.at_self _ _ _)
      simpa [w1] using this
    have hcall := h1.2 β2 w2 (ys.toList ++ [Value.func (.yield (w.heap.size + 1)) #[] #[]] ++ vs.toList) hwB (((hxy.ext (heA.trans heB)).append (VL.single hy)).append (huv.ext (heA.trans heB)))
    refine ⟨w.heap.size + 1, [{ target := .collected w.heap.size, args := #[] }], w2, { target := .fn (.func f) vs, args := ys ++ #[Value.func (.yield (w.heap.size + 1)) #[] #[]] }, w2, f,
      (ys.toList ++ [Value.func (.yield (w.heap.size + 1)) #[] #[]] ++ vs.toList).toArray, w2, ?_, ?_, fun _ _ => trivial, ?_, fun hs => (by cases hs), ?_⟩
    · simp [Instr.enterLoop, newObj, Sem.run, w2, w1, rec1]
    · simp [resolve, hev, Deferred.ofValue]
      rfl
    · have e : (ys ++ #[Value.func (.yield (w.heap.size + 1)) #[] #[]]) ++ vs = (ys.toList ++ [Value.func (.yield (w.heap.size + 1)) #[] #[]] ++ vs.toList).toArray := Array.toList_inj.1 (by simp)
      simp only [invoke, e, h1.1]
    · refine hcall.mono fun e w3 he => ?_
      cases e with
      | returned u =>
        refine arange_post (P := P) (F := Fence.wide) (l := ⟨w1.heap.size, 0, 0, 0, 0⟩) (d := s.H.next :: s.d) (ds := { target := .collected w.heap.size, args := #[] } :: a.defers) hwB hfB (heA.trans heB) (Places.at_self _ _ _) (hr.tmps.ext (heA.trans heB)) ⟨⟨⟨w.heap.size, 0, 0, 0, 0⟩, heB _ _ (Places.at_self _ _ _), rfl⟩, hr.defs.ext (heA.trans heB)⟩ he |> fun q => ?_
        simpa [w1] using q
      | panicked c => exact he.elim
      | outgrown => exact he.elim
  | some ln =>
    obtain ⟨lo, hlo, rfl⟩ := hro
    obtain ⟨r0, hg0, h1⟩ := h
    have h1 := h1 fn
    have hor0 := hr.heap.obj ln lo hlo
    rw [hg0] at hor0
    obtain ⟨_, tm0, dl, hh0, htr0, hd0⟩ := hor0
    have hn2 : β s.H.next = none := hr.heap.fresh _ (Nat.le_refl _)
    let β2 := β.at_ s.H.next ⟨w.heap.size, 0, 0, 0, 0⟩
    let rec1 : Loop := { state := .ready, pending := none, fn, tmps := a.tmps, params := ps, assign, body, defers := dl.b }
    let w2 : World := { w with heap := w.heap.push (.loop rec1) }
    have heB : Ext β β2 := Places.ext_at hn2 _
    have hwB : WR β2 (s.H.new (.loop { state := .ready, pending := none, fn, t := s.t, N, params := ps, assign, body, defers := r0.defers })) w2.heap :=
      hr.heap.make (x := .loop { state := .ready, pending := none, fn, t := s.t, N, params := ps, assign, body, defers := r0.defers }) hn2 (Nat.le_succ _) (Nat.lt_succ_self _)
        ⟨rfl, a.tmps, dl, by simp [rec1], hr.tmps.ext heB, heB _ _ hd0⟩
    have hfB : FR β₀ H₀ w₀ β2 (s.H.new (.loop { state := .ready, pending := none, fn, t := s.t, N, params := ps, assign, body, defers := r0.defers })) w2 :=
      hf.make0 (n := s.H.next) (o := .loop rec1) hf.next (Nat.le_succ _)
    have hy : VR β2 (.func (.yield s.H.next) #[] #[]) (.func (.yield w.heap.size) #[] #[]) := VR.yield (β := β2) (n := s.H.next) (l := ⟨w.heap.size, 0, 0, 0, 0⟩) (Places.at_self _ _ _)
    have hcall := h1.2 β2 w2 (ys.toList ++ [Value.func (.yield w.heap.size) #[] #[]] ++ vs.toList) hwB (((hxy.ext heB).append (VL.single hy)).append (huv.ext heB))
    refine ⟨w.heap.size, [], w2, { target := .fn (.func f) vs, args := ys ++ #[Value.func (.yield w.heap.size) #[] #[]] }, w2, f,
      (ys.toList ++ [Value.func (.yield w.heap.size) #[] #[]] ++ vs.toList).toArray, w2, ?_, ?_, fun _ _ => trivial, ?_, fun hs => (by cases hs), ?_⟩
    · simp [Instr.enterLoop, Instr.getLoop, getObj, newObj, Sem.run, hh0, w2, rec1]
    · simp [resolve, hev, Deferred.ofValue]
      rfl
    · have e : (ys ++ #[Value.func (.yield w.heap.size) #[] #[]]) ++ vs = (ys.toList ++ [Value.func (.yield w.heap.size) #[] #[]] ++ vs.toList).toArray := Array.toList_inj.1 (by simp)
      simp only [invoke, e, h1.1]
    · refine CallsIn.mono (RoR.calls (ro := some ln) ⟨lo, hlo, rfl⟩ hcall) fun e w3 he => ?_
      cases e with
      | returned u =>
        exact arange_post (P := P) (l := ⟨w.heap.size, 0, 0, 0, 0⟩) (d := s.d) (ds := a.defers) hwB hfB heB (Places.at_self _ _ _) (hr.tmps.ext heB) (hr.defs.ext heB) he
      | panicked c => exact he.elim
      | outgrown => exact he.elim

variable {D : Nat → List DStep → St → (St → Prop) → Prop} {CD : Array Oper → Option (Nat × List DStep)}

theorem vc_sound (hD : DSound P N D CD) : ∀ (c : Code) {ac : ACode} {Q : APost} {β₀ β : Places} {a : Act} {H₀ : Heap} {w₀ w : World} {s : St} {ro : Option Nat} {F : Fence}, ccode P N CD c = some ac → Rel β N s a w → FR β₀ H₀ w₀ β s.H w → RoR β ro F →
    vc P N ro D ac Q s → c.wpIn F 0 P (PostX N β₀ H₀ w₀ β Q) a w
  | .skip, ac, Q, β₀, β, a, H₀, w₀, w, s, ro, F, hc, hr, hf, hro, h => by
    simp only [ccode, Option.some.injEq] at hc; subst hc
    exact wpIn_skip (Post.self (K := Q .normal) hr hf h)
  | .region id ops false, ac, Q, β₀, β, a, H₀, w₀, w, s, ro, F, hc, hr, hf, hro, h => by
    simp only [ccode, Option.map_eq_some_iff] at hc
    obtain ⟨al, hal, rfl⟩ := hc
    exact wpIn_region_list (vopers_sound hal hr hf hro (fun _ _ p => p) h)
  | .region id ops true, ac, Q, β₀, β, a, H₀, w₀, w, s, ro, F, hc, hr, hf, hro, h => by
    simp only [ccode, Option.map_eq_some_iff] at hc
    obtain ⟨⟨n, l⟩, hal, rfl⟩ := hc
    exact hD id ops n l β₀ β H₀ w₀ w s a ro F Q hal hr hf hro h
  | .seq x y, ac, Q, β₀, β, a, H₀, w₀, w, s, ro, F, hc, hr, hf, hro, h => by
    simp only [ccode] at hc
    split at hc
    · rename_i x' y' h1 h2
      simp only [Option.some.injEq] at hc; subst hc
      refine wpIn_seq (wpIn_mono (vc_sound hD x (Q := thenQ (vc P N ro D y' Q) Q) h1 hr hf hro h) fun e a1 w1 hp => ?_)
      cases e with
      | normal =>
        obtain ⟨s1, β1, hv, hr1, hf1, he1⟩ := hp
        exact wpIn_mono (vc_sound hD y h2 hr1 hf1 (hro.ext he1) hv) fun e a w q => PostX.weaken he1 q
      | exit id => exact hp
      | ret => exact hp
      | goto l => exact hp
      | panic c => exact hp
      | outgrown => exact hp
    · cases hc
  | .cond c x y, ac, Q, β₀, β, a, H₀, w₀, w, s, ro, F, hc, hr, hf, hro, h => by
    simp only [ccode] at hc
    split at hc
    · rename_i c' x' y' h0 h1 h2
      simp only [Option.some.injEq] at hc; subst hc
      obtain ⟨b, hb, hv⟩ := h
      have hcv := copd_VR h0 hr.tmps
      rw [hb] at hcv
      refine wpIn_cond hcv.of_bool ?_
      have := acond_if hv
      split
      · rename_i hb'; rw [if_pos hb'] at this; exact vc_sound hD x h1 hr hf hro this
      · rename_i hb'; rw [if_neg hb'] at this; exact vc_sound hD y h2 hr hf hro this
    · cases hc
  | .block id b, ac, Q, β₀, β, a, H₀, w₀, w, s, ro, F, hc, hr, hf, hro, h => by
    simp only [ccode, Option.map_eq_some_iff] at hc
    obtain ⟨b', hb, rfl⟩ := hc
    refine wpIn_block (wpIn_mono (vc_sound hD b hb hr hf hro h) fun e a1 w1 hp => ?_)
    cases e with
    | exit i =>
      obtain ⟨s2, β2, k1, k2⟩ := hp
      simp only [Exit.inBlock]
      simp only [blockQ] at k1
      by_cases e : i = id
      · simp only [e, if_true] at k1 ⊢; exact ⟨s2, β2, k1, k2⟩
      · simp only [e, if_false] at k1 ⊢; exact ⟨s2, β2, k1, k2⟩
    | normal => exact hp
    | ret => exact hp
    | goto l => exact hp
    | panic c => exact hp
    | outgrown => exact hp
  | .loop b, ac, Q, β₀, β, a, H₀, w₀, w, s, ro, F, hc, hr, hf, hro, h => by
    simp only [ccode, Option.map_eq_some_iff] at hc
    obtain ⟨b', hb, rfl⟩ := hc
    obtain ⟨I, μ, hI, hround⟩ := h
    have key : ∀ (m : Nat) (β1 : Places) (s1 : St) (a1 : Act) (w1 : World), μ s1 < m → I s1 → Rel β1 N s1 a1 w1 → FR β₀ H₀ w₀ β1 s1.H w1 → Ext β β1 →
        Code.roundsIn F 0 P b (PostX N β₀ H₀ w₀ β Q) m a1 w1 := by
      intro m
      induction m with
      | zero => intro β1 s1 a1 w1 hm; exact absurd hm (Nat.not_lt_zero _)
      | succ m ih =>
        intro β1 s1 a1 w1 hm hI1 hr1 hf1 he1
        refine wpIn_mono (vc_sound hD b hb hr1 hf1 (hro.ext he1) (hround s1 hI1)) fun e a2 w2 hp => ?_
        cases e with
        | normal =>
          obtain ⟨s2, β2, ⟨hI2, hlt⟩, hr2, hf2, he2⟩ := hp
          exact ih β2 s2 a2 w2 (by omega) hI2 hr2 hf2 (he1.trans he2)
        | exit id => exact Post.weaken he1 hp
        | ret => exact Post.weaken he1 hp
        | goto l => exact hp
        | panic c => exact hp
        | outgrown => exact hp
    exact wpIn_loop_rounds (μ s + 1) (key (μ s + 1) β s a w (Nat.lt_succ_self _) hI hr hf (Ext.refl β))
  | .rangeFunc g ps assign body, ac, Q, β₀, β, a, H₀, w₀, w, s, ro, F, hc, hr, hf, hro, h => by
    simp only [ccode] at hc
    split at hc
    · rename_i g' x' y' hg _ _
      simp only [Option.some.injEq] at hc; subst hc
      exact arange_sound hg hr hf hro h
    · cases hc
  | .exit id, ac, Q, β₀, β, a, H₀, w₀, w, s, ro, F, hc, hr, hf, hro, h => by
    simp only [ccode, Option.some.injEq] at hc; subst hc
    exact wpIn_exit (Post.self (K := Q (.exit id)) hr hf h)
  | .scope b, ac, Q, β₀, β, a, H₀, w₀, w, s, ro, F, hc, hr, hf, hro, h => by
    simp only [ccode] at hc
    refine wpIn_scope_straight (wpIn_mono (vc_sound hD b hc hr hf hro h) fun e a1 w1 hp => ?_)
    cases e <;> first | exact hp | exact hp.elim
  | .label l, ac, Q, β₀, β, a, H₀, w₀, w, s, ro, F, hc, hr, hf, hro, h => by
    simp only [ccode, Option.some.injEq] at hc; subst hc
    exact wpIn_label (Post.self (K := Q .normal) hr hf h)
  | .ret, ac, Q, β₀, β, a, H₀, w₀, w, s, ro, F, hc, hr, hf, hro, h => by
    simp only [ccode, Option.some.injEq] at hc; subst hc
    exact wpIn_ret (Post.self (K := Q .ret) hr hf h)
  | .goto l, ac, Q, β₀, β, a, H₀, w₀, w, s, ro, F, hc, hr, hf, hro, h => by simp only [ccode] at hc; cases hc
  | .refuse l, ac, Q, β₀, β, a, H₀, w₀, w, s, ro, F, hc, hr, hf, hro, h => by simp only [ccode] at hc; cases hc

end

end Go.Ab

