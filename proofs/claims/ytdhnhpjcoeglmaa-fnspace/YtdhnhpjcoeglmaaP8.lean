/- Contracts that the proof stands on, one behind the other. -/
import Derived.Test.YtdhnhpjcoeglmaaP7
import Derived.Great.BuildSlice
import Derived.Deep.Cut
/- The program's meet: a mark is looked up, or gets the next number; for every state of the search. -/
namespace Go.Proofs.Ytdhnhpjcoeglmaa
open Go.RowKit
open Go.ChangeMaps (setBlock heap_setBlock_same heap_setBlock_other)
set_option maxRecDepth 10000

section
variable {P : Program} {o : Oper} {a : Act} {w : World}

theorem exec_load_row (ty : TypeId) (x : Operand) (ho : o.op = .load ty x) (g : Nat) (hx : a.eval x = .pointer (some ⟨g, 0, none⟩)) (t : TypeId) (cs : Array Value) (fr : Nat × Nat) (d : TypeDesc) (hg : w.heap[g]? = some (.cells cs t fr))
    (hu : P.underlying ty = some d) (hd : (match d with | .struct _ | .array _ _ => true | _ => false) = true) (hi : (P.info? ty).map (·.size) = some cs.size) : (execOp a.eval o).run P w = .ok (.value (.agg cs)) w := by
  unfold execOp
  simp only [ho, hx, Instr.loadAt, Instr.sureAddr, Sem.run_bind, Sem.run_pure, Result.andThen_ok, run_loadVar_row w g t ty cs fr d hg hu hd hi]

theorem exec_val {i : Sem Value} {v : Value} {w' : World} (h : execOp a.eval o = (do pure (.value (← i)))) (hr : i.run P w = .ok v w') : (execOp a.eval o).run P w = .ok (.value v) w' := by
  rw [h]; simp [hr, Result.andThen]

theorem exec_lookup (t : TypeId) (m x : Operand) (c : Bool) (ho : o.op = .lookup t m x c) (mv kv v : Value) (hm : a.eval m = mv) (hx : a.eval x = kv) (hr : (Instr.lookup t mv kv c).run P w = .ok v w) : (execOp a.eval o).run P w = .ok (.value v) w := by
  unfold execOp
  simp [ho, hm, hx, hr, Result.andThen]

theorem exec_len (t : TypeId) (x : Operand) (ho : o.op = .call { callee := .builtin .len, args := #[x], argTypes := #[t] }) (mv v : Value) (hm : a.eval x = mv) (hr : (Builtin.len_ #[t] o.type #[mv]).run P w = .ok v w) : (execOp a.eval o).run P w = .ok (.value v) w := by
  unfold execOp
  simp [ho, resolve, invoke, builtin, hm, hr, Result.andThen]

theorem oper_update {K : Act → World → Prop} {Q : Exit → Act → World → Prop} {w' : World} (t : TypeId) (m x y : Operand) (ho : o.op = .mapUpdate t m x y) (mv kv v : Value) (hm : a.eval m = mv) (hx : a.eval x = kv) (hy : a.eval y = v) (hr : (Instr.mapUpdate t mv kv v).run P w = .ok () w') (hd : o.dst = none) (h : K a w') : Oper.wp P o a w K Q := by
  unfold Oper.wp execOp
  simp only [ho, hm, hx, hy, Sem.run_bind, hr, Result.andThen_ok, Sem.run_pure]
  show K (a.put o.dst undef) _
  rw [hd]
  exact h

theorem oper_append {K : Act → World → Prop} {Q : Exit → Act → World → Prop} {w' : World} (d : Option Tmp) (hd : o.dst = d) (s x : Operand) (t : TypeId) (ho : o.op = .call { callee := .builtin .append, args := #[s, x], argTypes := #[t, t] }) (sv xv v : Value) (hs : a.eval s = sv) (hx : a.eval x = xv)
    (hr : (Builtin.append_ #[t, t] o.type #[sv, xv]).run P w = .ok v w') (h : K (a.put d v) w') : Oper.wp P o a w K Q := by
  subst hd
  unfold Oper.wp execOp
  simp only [ho, resolve, invoke, builtin, Sem.run_bind, Sem.run_pure, Result.andThen_ok, List.map_toArray, List.map_cons, List.map_nil, hs, hx, hr]
  exact h
end

theorem info_splitTQ {P : Program} {e : TypeId} {z : Value} {size bytes : Nat} (h : (P.info? e).map (fun i => (i.zero, i.size, i.bytes)) = some (some z, size, bytes)) : ∃ i, P.info? e = some i ∧ i.zero = some z ∧ i.size = size ∧ i.bytes = bytes := by
  obtain ⟨i, hi, hzz⟩ := Option.map_eq_some_iff.1 h
  simp only [Prod.mk.injEq] at hzz
  exact ⟨i, hi, hzz.1, hzz.2.1, hzz.2.2⟩

theorem Try.infoTQ : (Try.prog.info? 93).map (fun i => (i.zero, i.size, i.bytes)) = some (some (.agg #[.int .u8 0, .int .u8 0, .int .u8 0, .int .u8 0, .int .u8 0, .int .u8 0, .int .u8 0, .int .u8 0, .int .u8 0, .int .u8 0, .int .u8 0, .int .u8 0, .int .u8 0, .int .u8 0, .int .u8 0, .int .u8 0]), 16, 16) := by kernel_rfl

theorem fill_tokQ (f : Nat → Int) (zs : Array Value) (hz : zs.size = 16) : Instr.fill (fun i => some (i * 16, 16)) zs [(0, .agg (tokF f))] = some (tokF f) := by
  have hs : (Value.agg (tokF f)).cells.size = 16 := tokF_size f
  obtain ⟨r, h1, h2, h3⟩ := Great.fill_dense (s := 16) (by omega) [.agg (tokF f)] 0 zs (by intro v hv; obtain rfl := List.mem_singleton.mp hv; exact hs) (by simp [hz])
  have e : r = tokF f := by
    apply Array.ext_getElem?
    intro k
    rw [h3 k]
    by_cases hk : k < 16
    · rw [if_pos (by simp; omega), Nat.div_eq_of_lt hk, Nat.mod_eq_of_lt hk]
      rfl
    · rw [if_neg (by simp; omega), Array.getElem?_eq_none (by omega), Array.getElem?_eq_none (by rw [tokF_size]; omega)]
  rw [e] at h1
  exact h1

/-- A slice literal of one array. -/
theorem exec_build_tok {o : Oper} {a : Act} {w : World} (x : Operand) (ho : o.op = .buildSlice 132 1 #[(0, x)]) (f : Nat → Int) (hx : a.eval x = .agg (tokF f)) :
    (execOp a.eval o).run Try.prog w = .ok (.value (.slice (some ⟨w.heap.size, 0, none⟩) 1 1)) (w.alloc (.cells (tokF f) 93)) := by
  obtain ⟨i0, hi, hz0, hz1, hz2⟩ := info_splitTQ Try.infoTQ
  unfold execOp
  simp only [ho, Sem.run_bind]
  rw [Go.run_buildSlice w 132 93 1 _ (tokF f) i0 _ Try.underlying132 hi hz0 (by rw [hz1]; decide) (by rw [hz1]; decide) ?_]
  · rfl
  · rw [hz1]
    simp only [List.map_toArray, List.map_cons, List.map_nil, hx]
    exact fill_tokQ f _ (by simp)

/-- What a new mark turns: the state, the map, the row of those that wait. -/
structure Turned (w w' : World) (b mb : Nat) (wv wv' : Value) : Prop where
  far : ∀ g, g < w.heap.size → g ≠ b → g ≠ mb → wv.ownBlock ≠ some g → w'.heap[g]? = w.heap[g]?
  own : ∀ g, wv'.ownBlock = some g → wv.ownBlock = some g ∨ w.heap.size ≤ g
  size : w.heap.size ≤ w'.heap.size

theorem tok_oneT (m : List Int) (l : Nat) : ∀ u ∈ (packOf m l).toList, u.oneCell' = true := fun u hu => Array.all_eq_true_iff_forall_mem.1 (packOf_one m l) u (by simpa using hu)

set_option maxHeartbeats 4000000 in
theorem meet_old {W0 w : World} {b BS mb : Nat} {p : Int} {n l Bg : Nat} {L : List (List Int)} {wv av : Value} {ms qs : List (List Int)} {ar : List (Nat × Nat × Nat)} {m : List Int} (hs : Sm W0 w b BS mb p n l Bg L wv av ms qs ar) (hl : l ≤ 16) (hms : ∀ u ∈ ms, u.length = l) (hm : m.length = l) (hq : m ∈ ms) :
    Calls Try.prog 178 #[.pointer (some ⟨b, 0, none⟩), .agg (packOf m l)] w fun e w' => e = .returned (.tuple #[.int .i64 (ms.idxOf m : Int), .bool true]) ∧ Below w.heap.size w w' := by
  have HMS := hide hms
  have HS := hide (hs.go (below_al w (.cells (packOf m l) 93)))
  have PT := hide (heap_alloc_new w (.cells (packOf m l) 93))
  have HB := hide (below_al w (.cells (packOf m l) 93))
  clear hs hms
  go_enter Try.func178, Try.ntmps178
  go_upto_region 1 with fail
  generalize w.alloc (.cells (packOf m l) 93) = v at *
  refine wp_region_held_drew (S := fun W => W.cell? ⟨b, 3, none⟩ = some (.map (some mb)) ∧ W.heap[w.heap.size]? = some (.cells (packOf m l) 93 (0, 0)) ∧ MapIs W mb l ms) (by kernel_rfl) ?_ (fun hHeld => ?_)
  · exact ⟨HS.out.cells.2.2.2.1, PT.out, HS.out.map⟩
  refine take_yes (i := 0) (some 9) (.pointer (some ⟨b, 0, none⟩)) rfl rfl (by kernel_rfl) (by kernel_rfl) (by kernel_rfl) (fun _ _ _ h => h) (by rfl) ?_ (by assumption) ?_
  · intro W' hSw
    go_simp
  simp only [Act.put, List.setIfInBounds_toArray, List.set_cons_zero, List.set_cons_succ]
  refine take_yes (i := 1) (some 10) (.pointer (some ⟨b, 0, none⟩)) rfl rfl (by kernel_rfl) (by kernel_rfl) (by kernel_rfl) (fun _ _ _ h => h) (by rfl) ?_ (by assumption) ?_
  · intro W' hSw
    go_simp
  simp only [Act.put, List.setIfInBounds_toArray, List.set_cons_zero, List.set_cons_succ]
  refine take_yes (i := 2) (some 11) (.pointer (some ⟨b, 3, none⟩)) rfl rfl (by kernel_rfl) (by kernel_rfl) (by kernel_rfl) (fun _ _ _ h => h) (by rfl) ?_ (by assumption) ?_
  · intro W' hSw
    go_simp
  simp only [Act.put, List.setIfInBounds_toArray, List.set_cons_zero, List.set_cons_succ]
  refine take_yes (i := 3) (some 12) (.map (some mb)) rfl rfl (by kernel_rfl) (by kernel_rfl) (by kernel_rfl) (fun _ _ _ h => h) (by rfl) ?_ (by assumption) ?_
  · intro W' hSw
    obtain ⟨hz0, hz1, hz2⟩ := hSw
    go_simp
  simp only [Act.put, List.setIfInBounds_toArray, List.set_cons_zero, List.set_cons_succ]
  refine take_yes (i := 4) (some 13) (.agg (packOf m l)) rfl rfl (by kernel_rfl) (by kernel_rfl) (by kernel_rfl) (fun _ _ _ h => h) (by rfl) ?_ (by assumption) ?_
  · intro W' hSw
    obtain ⟨hz0, hz1, hz2⟩ := hSw
    exact exec_load_row 93 _ rfl _ rfl 93 _ _ _ hz1 Try.underlying93 rfl (by rw [packOf_size]; exact Try.size93)
  simp only [Act.put, List.setIfInBounds_toArray, List.set_cons_zero, List.set_cons_succ]
  refine take_yes (i := 5) (some 14) (.tuple #[.int .i64 (ms.idxOf m : Int), .bool true]) rfl rfl (by kernel_rfl) (by kernel_rfl) (by kernel_rfl) (fun _ _ _ h => h) (by rfl) ?_ (by assumption) ?_
  · intro W' hSw
    obtain ⟨hz0, hz1, hz2⟩ := hSw
    have hr := run_lookTok hl hm HMS.out hz2 true
    rw [if_pos rfl, if_pos hq, decide_eq_true hq] at hr
    exact exec_lookup 131 (.tmp 12) (.tmp 13) true rfl (.map (some mb)) (.agg (packOf m l)) _ rfl rfl hr
  simp only [Act.put, List.setIfInBounds_toArray, List.set_cons_zero, List.set_cons_succ]
  refine take_yes (i := 6) (some 8) (.tuple #[.int .i64 (ms.idxOf m : Int), .bool true]) rfl rfl (by kernel_rfl) (by kernel_rfl) (by kernel_rfl) (fun _ _ _ h => h) (by rfl) ?_ (by assumption) ?_
  · intro W' hSw
    go_simp
  simp only [Act.put, List.setIfInBounds_toArray, List.set_cons_zero, List.set_cons_succ]
  refine take_yes (i := 7) (some 15) (.int .i64 (ms.idxOf m : Int)) rfl rfl (by kernel_rfl) (by kernel_rfl) (by kernel_rfl) (fun _ _ _ h => h) (by rfl) ?_ (by assumption) ?_
  · intro W' hSw
    go_simp
  simp only [Act.put, List.setIfInBounds_toArray, List.set_cons_zero, List.set_cons_succ]
  refine take_yes (i := 8) (some 16) (.bool true) rfl rfl (by kernel_rfl) (by kernel_rfl) (by kernel_rfl) (fun _ _ _ h => h) (by rfl) ?_ (by assumption) ?_
  · intro W' hSw
    go_simp
  simp only [Act.put, List.setIfInBounds_toArray, List.set_cons_zero, List.set_cons_succ]
  refine take_yes (i := 9) (some 6) (.int .i64 (ms.idxOf m : Int)) rfl rfl (by kernel_rfl) (by kernel_rfl) (by kernel_rfl) (fun _ _ _ h => h) (by rfl) ?_ (by assumption) ?_
  · intro W' hSw
    go_simp
  simp only [Act.put, List.setIfInBounds_toArray, List.set_cons_zero, List.set_cons_succ]
  refine take_yes (i := 10) (some 7) (.bool true) rfl rfl (by kernel_rfl) (by kernel_rfl) (by kernel_rfl) (fun _ _ _ h => h) (by rfl) ?_ (by assumption) ?_
  · intro W' hSw
    go_simp
  simp only [Act.put, List.setIfInBounds_toArray, List.set_cons_zero, List.set_cons_succ]
  refine wpAnyH_done (by kernel_rfl) ?_ _
  have HD : Hid (Below w.heap.size w v.drew) := HB.out.drew
  clear HS PT HB hHeld
  generalize v.drew = u at *
  go_wp2_with fail
  go_ret2
  exact ⟨rfl, HD.out⟩

set_option maxHeartbeats 4000000 in
theorem meet_full {W0 w : World} {b BS mb : Nat} {p : Int} {n l Bg : Nat} {L : List (List Int)} {wv av : Value} {ms qs : List (List Int)} {ar : List (Nat × Nat × Nat)} {m : List Int} (hs : Sm W0 w b BS mb p n l Bg L wv av ms qs ar) (hl : l ≤ 16) (hms : ∀ u ∈ ms, u.length = l) (hm : m.length = l) (hq : m ∉ ms) (hf : ms.length = Bg) :
    Calls Try.prog 178 #[.pointer (some ⟨b, 0, none⟩), .agg (packOf m l)] w fun e w' => e = .returned (.tuple #[.int .i64 0, .bool false]) ∧ Below w.heap.size w w' := by
  have HMS := hide hms
  have HS := hide (hs.go (below_al w (.cells (packOf m l) 93)))
  have PT := hide (heap_alloc_new w (.cells (packOf m l) 93))
  have HB := hide (below_al w (.cells (packOf m l) 93))
  clear hs hms
  go_enter Try.func178, Try.ntmps178
  go_upto_region 1 with fail
  generalize w.alloc (.cells (packOf m l) 93) = v at *
  refine wp_region_held_drew (S := fun W => W.cell? ⟨b, 3, none⟩ = some (.map (some mb)) ∧ W.heap[w.heap.size]? = some (.cells (packOf m l) 93 (0, 0)) ∧ MapIs W mb l ms) (by kernel_rfl) ?_ (fun hHeld => ?_)
  · exact ⟨HS.out.cells.2.2.2.1, PT.out, HS.out.map⟩
  refine take_yes (i := 0) (some 9) (.pointer (some ⟨b, 0, none⟩)) rfl rfl (by kernel_rfl) (by kernel_rfl) (by kernel_rfl) (fun _ _ _ h => h) (by rfl) ?_ (by assumption) ?_
  · intro W' hSw
    go_simp
  simp only [Act.put, List.setIfInBounds_toArray, List.set_cons_zero, List.set_cons_succ]
  refine take_yes (i := 1) (some 10) (.pointer (some ⟨b, 0, none⟩)) rfl rfl (by kernel_rfl) (by kernel_rfl) (by kernel_rfl) (fun _ _ _ h => h) (by rfl) ?_ (by assumption) ?_
  · intro W' hSw
    go_simp
  simp only [Act.put, List.setIfInBounds_toArray, List.set_cons_zero, List.set_cons_succ]
  refine take_yes (i := 2) (some 11) (.pointer (some ⟨b, 3, none⟩)) rfl rfl (by kernel_rfl) (by kernel_rfl) (by kernel_rfl) (fun _ _ _ h => h) (by rfl) ?_ (by assumption) ?_
  · intro W' hSw
    go_simp
  simp only [Act.put, List.setIfInBounds_toArray, List.set_cons_zero, List.set_cons_succ]
  refine take_yes (i := 3) (some 12) (.map (some mb)) rfl rfl (by kernel_rfl) (by kernel_rfl) (by kernel_rfl) (fun _ _ _ h => h) (by rfl) ?_ (by assumption) ?_
  · intro W' hSw
    obtain ⟨hz0, hz1, hz2⟩ := hSw
    go_simp
  simp only [Act.put, List.setIfInBounds_toArray, List.set_cons_zero, List.set_cons_succ]
  refine take_yes (i := 4) (some 13) (.agg (packOf m l)) rfl rfl (by kernel_rfl) (by kernel_rfl) (by kernel_rfl) (fun _ _ _ h => h) (by rfl) ?_ (by assumption) ?_
  · intro W' hSw
    obtain ⟨hz0, hz1, hz2⟩ := hSw
    exact exec_load_row 93 _ rfl _ rfl 93 _ _ _ hz1 Try.underlying93 rfl (by rw [packOf_size]; exact Try.size93)
  simp only [Act.put, List.setIfInBounds_toArray, List.set_cons_zero, List.set_cons_succ]
  refine take_yes (i := 5) (some 14) (.tuple #[.int .i64 (0 : Int), .bool false]) rfl rfl (by kernel_rfl) (by kernel_rfl) (by kernel_rfl) (fun _ _ _ h => h) (by rfl) ?_ (by assumption) ?_
  · intro W' hSw
    obtain ⟨hz0, hz1, hz2⟩ := hSw
    have hr := run_lookTok hl hm HMS.out hz2 true
    rw [if_pos rfl, if_neg hq, decide_eq_false hq] at hr
    exact exec_lookup 131 (.tmp 12) (.tmp 13) true rfl (.map (some mb)) (.agg (packOf m l)) _ rfl rfl hr
  simp only [Act.put, List.setIfInBounds_toArray, List.set_cons_zero, List.set_cons_succ]
  refine take_yes (i := 6) (some 8) (.tuple #[.int .i64 (0 : Int), .bool false]) rfl rfl (by kernel_rfl) (by kernel_rfl) (by kernel_rfl) (fun _ _ _ h => h) (by rfl) ?_ (by assumption) ?_
  · intro W' hSw
    go_simp
  simp only [Act.put, List.setIfInBounds_toArray, List.set_cons_zero, List.set_cons_succ]
  refine take_yes (i := 7) (some 15) (.int .i64 (0 : Int)) rfl rfl (by kernel_rfl) (by kernel_rfl) (by kernel_rfl) (fun _ _ _ h => h) (by rfl) ?_ (by assumption) ?_
  · intro W' hSw
    go_simp
  simp only [Act.put, List.setIfInBounds_toArray, List.set_cons_zero, List.set_cons_succ]
  refine take_yes (i := 8) (some 16) (.bool false) rfl rfl (by kernel_rfl) (by kernel_rfl) (by kernel_rfl) (fun _ _ _ h => h) (by rfl) ?_ (by assumption) ?_
  · intro W' hSw
    go_simp
  simp only [Act.put, List.setIfInBounds_toArray, List.set_cons_zero, List.set_cons_succ]
  refine take_yes (i := 9) (some 6) (.int .i64 (0 : Int)) rfl rfl (by kernel_rfl) (by kernel_rfl) (by kernel_rfl) (fun _ _ _ h => h) (by rfl) ?_ (by assumption) ?_
  · intro W' hSw
    go_simp
  simp only [Act.put, List.setIfInBounds_toArray, List.set_cons_zero, List.set_cons_succ]
  refine take_yes (i := 10) (some 7) (.bool false) rfl rfl (by kernel_rfl) (by kernel_rfl) (by kernel_rfl) (fun _ _ _ h => h) (by rfl) ?_ (by assumption) ?_
  · intro W' hSw
    go_simp
  simp only [Act.put, List.setIfInBounds_toArray, List.set_cons_zero, List.set_cons_succ]
  refine wpAnyH_done (by kernel_rfl) ?_ _
  have HS1 : Hid (Sm W0 v.drew b BS mb p n l Bg L wv av ms qs ar) := HS.out.go (Below.refl _ _).drew
  have PT1 : Hid (v.drew.heap[w.heap.size]? = some (.cells (packOf m l) 93 (0, 0))) := keep PT.out (Below.refl _ v).drew
  have HB1 : Hid (Below w.heap.size w v.drew) := HB.out.drew
  clear HS PT HB hHeld
  generalize v.drew = u at *
  go_upto_region 4 with fail
  refine wp_region_held_drew (S := fun W => W.cell? ⟨b, 2, none⟩ = some (.int .i64 (Bg : Int)) ∧ W.cell? ⟨b, 3, none⟩ = some (.map (some mb)) ∧ MapIs W mb l ms) (by kernel_rfl) ?_ (fun hHeld => ?_)
  · exact ⟨HS1.out.cells.2.2.1, HS1.out.cells.2.2.2.1, HS1.out.map⟩
  refine take_yes (i := 0) (some 19) (.pointer (some ⟨b, 0, none⟩)) rfl rfl (by kernel_rfl) (by kernel_rfl) (by kernel_rfl) (fun _ _ _ h => h) (by rfl) ?_ (by assumption) ?_
  · intro W' hSw
    go_simp
  simp only [Act.put, List.setIfInBounds_toArray, List.set_cons_zero, List.set_cons_succ]
  refine take_yes (i := 1) (some 20) (.pointer (some ⟨b, 0, none⟩)) rfl rfl (by kernel_rfl) (by kernel_rfl) (by kernel_rfl) (fun _ _ _ h => h) (by rfl) ?_ (by assumption) ?_
  · intro W' hSw
    go_simp
  simp only [Act.put, List.setIfInBounds_toArray, List.set_cons_zero, List.set_cons_succ]
  refine take_yes (i := 2) (some 21) (.pointer (some ⟨b, 3, none⟩)) rfl rfl (by kernel_rfl) (by kernel_rfl) (by kernel_rfl) (fun _ _ _ h => h) (by rfl) ?_ (by assumption) ?_
  · intro W' hSw
    go_simp
  simp only [Act.put, List.setIfInBounds_toArray, List.set_cons_zero, List.set_cons_succ]
  refine take_yes (i := 3) (some 22) (.map (some mb)) rfl rfl (by kernel_rfl) (by kernel_rfl) (by kernel_rfl) (fun _ _ _ h => h) (by rfl) ?_ (by assumption) ?_
  · intro W' hSw
    obtain ⟨hz0, hz1, hz2⟩ := hSw
    go_simp
  simp only [Act.put, List.setIfInBounds_toArray, List.set_cons_zero, List.set_cons_succ]
  refine take_yes (i := 4) (some 23) (.int .i64 (ms.length : Int)) rfl rfl (by kernel_rfl) (by kernel_rfl) (by kernel_rfl) (fun _ _ _ h => h) (by rfl) ?_ (by assumption) ?_
  · intro W' hSw
    obtain ⟨hz0, hz1, hz2⟩ := hSw
    exact exec_len 131 (.tmp 22) rfl (.map (some mb)) _ rfl (run_lenTok hz2 _)
  simp only [Act.put, List.setIfInBounds_toArray, List.set_cons_zero, List.set_cons_succ]
  refine take_yes (i := 5) (some 24) (.pointer (some ⟨b, 0, none⟩)) rfl rfl (by kernel_rfl) (by kernel_rfl) (by kernel_rfl) (fun _ _ _ h => h) (by rfl) ?_ (by assumption) ?_
  · intro W' hSw
    go_simp
  simp only [Act.put, List.setIfInBounds_toArray, List.set_cons_zero, List.set_cons_succ]
  refine take_yes (i := 6) (some 25) (.pointer (some ⟨b, 0, none⟩)) rfl rfl (by kernel_rfl) (by kernel_rfl) (by kernel_rfl) (fun _ _ _ h => h) (by rfl) ?_ (by assumption) ?_
  · intro W' hSw
    go_simp
  simp only [Act.put, List.setIfInBounds_toArray, List.set_cons_zero, List.set_cons_succ]
  refine take_yes (i := 7) (some 26) (.pointer (some ⟨b, 2, none⟩)) rfl rfl (by kernel_rfl) (by kernel_rfl) (by kernel_rfl) (fun _ _ _ h => h) (by rfl) ?_ (by assumption) ?_
  · intro W' hSw
    go_simp
  simp only [Act.put, List.setIfInBounds_toArray, List.set_cons_zero, List.set_cons_succ]
  refine take_yes (i := 8) (some 27) (.int .i64 (Bg : Int)) rfl rfl (by kernel_rfl) (by kernel_rfl) (by kernel_rfl) (fun _ _ _ h => h) (by rfl) ?_ (by assumption) ?_
  · intro W' hSw
    obtain ⟨hz0, hz1, hz2⟩ := hSw
    go_simp
  simp only [Act.put, List.setIfInBounds_toArray, List.set_cons_zero, List.set_cons_succ]
  refine take_yes (i := 9) (some 28) (.bool true) rfl rfl (by kernel_rfl) (by kernel_rfl) (by kernel_rfl) (fun _ _ _ h => h) (by rfl) ?_ (by assumption) ?_
  · intro W' hSw
    go_simp
  simp only [Act.put, List.setIfInBounds_toArray, List.set_cons_zero, List.set_cons_succ]
  refine wpAnyH_done (by kernel_rfl) ?_ _
  have HD : Hid (Below w.heap.size w u.drew) := HB1.out.drew
  clear HS1 PT1 HB1 hHeld
  generalize u.drew = u1 at *
  go_wp2_with fail
  go_ret2
  exact ⟨rfl, HD.out⟩

set_option maxHeartbeats 4000000 in
theorem meet_new {W0 w : World} {b BS mb : Nat} {p : Int} {n l Bg : Nat} {L : List (List Int)} {wv av : Value} {ms qs : List (List Int)} {ar : List (Nat × Nat × Nat)} {m : List Int} (hs : Sm W0 w b BS mb p n l Bg L wv av ms qs ar) (hl : l ≤ 16) (hms : ∀ u ∈ ms, u.length = l) (hm : m.length = l) (hq : m ∉ ms) (hf : ms.length ≠ Bg) (hB4 : Bg ≤ 400) (hq4 : qs.length ≤ 400) (hms4 : ms.length ≤ Bg) (hbw : Below W0.heap.size W0 w) :
    Calls Try.prog 178 #[.pointer (some ⟨b, 0, none⟩), .agg (packOf m l)] w fun e w' => e = .returned (.tuple #[.int .i64 (ms.length : Int), .bool true]) ∧ ∃ wv', Sm W0 w' b BS mb p n l Bg L wv' av (ms ++ [m]) (qs ++ [m]) ar ∧ Turned w w' b mb wv wv' := by
  have hw0 := hbw.size
  have HMS := hide hms
  have HS := hide (hs.go (below_al w (.cells (packOf m l) 93)))
  have PT := hide (heap_alloc_new w (.cells (packOf m l) 93))
  have HB := hide (below_al w (.cells (packOf m l) 93))
  clear hs hms
  go_enter Try.func178, Try.ntmps178
  go_upto_region 1 with fail
  generalize w.alloc (.cells (packOf m l) 93) = v at *
  refine wp_region_held_drew (S := fun W => W.cell? ⟨b, 3, none⟩ = some (.map (some mb)) ∧ W.heap[w.heap.size]? = some (.cells (packOf m l) 93 (0, 0)) ∧ MapIs W mb l ms) (by kernel_rfl) ?_ (fun hHeld => ?_)
  · exact ⟨HS.out.cells.2.2.2.1, PT.out, HS.out.map⟩
  refine take_yes (i := 0) (some 9) (.pointer (some ⟨b, 0, none⟩)) rfl rfl (by kernel_rfl) (by kernel_rfl) (by kernel_rfl) (fun _ _ _ h => h) (by rfl) ?_ (by assumption) ?_
  · intro W' hSw
    go_simp
  simp only [Act.put, List.setIfInBounds_toArray, List.set_cons_zero, List.set_cons_succ]
  refine take_yes (i := 1) (some 10) (.pointer (some ⟨b, 0, none⟩)) rfl rfl (by kernel_rfl) (by kernel_rfl) (by kernel_rfl) (fun _ _ _ h => h) (by rfl) ?_ (by assumption) ?_
  · intro W' hSw
    go_simp
  simp only [Act.put, List.setIfInBounds_toArray, List.set_cons_zero, List.set_cons_succ]
  refine take_yes (i := 2) (some 11) (.pointer (some ⟨b, 3, none⟩)) rfl rfl (by kernel_rfl) (by kernel_rfl) (by kernel_rfl) (fun _ _ _ h => h) (by rfl) ?_ (by assumption) ?_
  · intro W' hSw
    go_simp
  simp only [Act.put, List.setIfInBounds_toArray, List.set_cons_zero, List.set_cons_succ]
  refine take_yes (i := 3) (some 12) (.map (some mb)) rfl rfl (by kernel_rfl) (by kernel_rfl) (by kernel_rfl) (fun _ _ _ h => h) (by rfl) ?_ (by assumption) ?_
  · intro W' hSw
    obtain ⟨hz0, hz1, hz2⟩ := hSw
    go_simp
  simp only [Act.put, List.setIfInBounds_toArray, List.set_cons_zero, List.set_cons_succ]
  refine take_yes (i := 4) (some 13) (.agg (packOf m l)) rfl rfl (by kernel_rfl) (by kernel_rfl) (by kernel_rfl) (fun _ _ _ h => h) (by rfl) ?_ (by assumption) ?_
  · intro W' hSw
    obtain ⟨hz0, hz1, hz2⟩ := hSw
    exact exec_load_row 93 _ rfl _ rfl 93 _ _ _ hz1 Try.underlying93 rfl (by rw [packOf_size]; exact Try.size93)
  simp only [Act.put, List.setIfInBounds_toArray, List.set_cons_zero, List.set_cons_succ]
  refine take_yes (i := 5) (some 14) (.tuple #[.int .i64 (0 : Int), .bool false]) rfl rfl (by kernel_rfl) (by kernel_rfl) (by kernel_rfl) (fun _ _ _ h => h) (by rfl) ?_ (by assumption) ?_
  · intro W' hSw
    obtain ⟨hz0, hz1, hz2⟩ := hSw
    have hr := run_lookTok hl hm HMS.out hz2 true
    rw [if_pos rfl, if_neg hq, decide_eq_false hq] at hr
    exact exec_lookup 131 (.tmp 12) (.tmp 13) true rfl (.map (some mb)) (.agg (packOf m l)) _ rfl rfl hr
  simp only [Act.put, List.setIfInBounds_toArray, List.set_cons_zero, List.set_cons_succ]
  refine take_yes (i := 6) (some 8) (.tuple #[.int .i64 (0 : Int), .bool false]) rfl rfl (by kernel_rfl) (by kernel_rfl) (by kernel_rfl) (fun _ _ _ h => h) (by rfl) ?_ (by assumption) ?_
  · intro W' hSw
    go_simp
  simp only [Act.put, List.setIfInBounds_toArray, List.set_cons_zero, List.set_cons_succ]
  refine take_yes (i := 7) (some 15) (.int .i64 (0 : Int)) rfl rfl (by kernel_rfl) (by kernel_rfl) (by kernel_rfl) (fun _ _ _ h => h) (by rfl) ?_ (by assumption) ?_
  · intro W' hSw
    go_simp
  simp only [Act.put, List.setIfInBounds_toArray, List.set_cons_zero, List.set_cons_succ]
  refine take_yes (i := 8) (some 16) (.bool false) rfl rfl (by kernel_rfl) (by kernel_rfl) (by kernel_rfl) (fun _ _ _ h => h) (by rfl) ?_ (by assumption) ?_
  · intro W' hSw
    go_simp
  simp only [Act.put, List.setIfInBounds_toArray, List.set_cons_zero, List.set_cons_succ]
  refine take_yes (i := 9) (some 6) (.int .i64 (0 : Int)) rfl rfl (by kernel_rfl) (by kernel_rfl) (by kernel_rfl) (fun _ _ _ h => h) (by rfl) ?_ (by assumption) ?_
  · intro W' hSw
    go_simp
  simp only [Act.put, List.setIfInBounds_toArray, List.set_cons_zero, List.set_cons_succ]
  refine take_yes (i := 10) (some 7) (.bool false) rfl rfl (by kernel_rfl) (by kernel_rfl) (by kernel_rfl) (fun _ _ _ h => h) (by rfl) ?_ (by assumption) ?_
  · intro W' hSw
    go_simp
  simp only [Act.put, List.setIfInBounds_toArray, List.set_cons_zero, List.set_cons_succ]
  refine wpAnyH_done (by kernel_rfl) ?_ _
  have HS1 : Hid (Sm W0 v.drew b BS mb p n l Bg L wv av ms qs ar) := HS.out.go (Below.refl _ _).drew
  have PT1 : Hid (v.drew.heap[w.heap.size]? = some (.cells (packOf m l) 93 (0, 0))) := keep PT.out (Below.refl _ v).drew
  have HB1 : Hid (Below w.heap.size w v.drew) := HB.out.drew
  clear HS PT HB hHeld
  generalize v.drew = u at *
  go_upto_region 4 with fail
  refine wp_region_held_drew (S := fun W => W.cell? ⟨b, 2, none⟩ = some (.int .i64 (Bg : Int)) ∧ W.cell? ⟨b, 3, none⟩ = some (.map (some mb)) ∧ MapIs W mb l ms) (by kernel_rfl) ?_ (fun hHeld => ?_)
  · exact ⟨HS1.out.cells.2.2.1, HS1.out.cells.2.2.2.1, HS1.out.map⟩
  refine take_yes (i := 0) (some 19) (.pointer (some ⟨b, 0, none⟩)) rfl rfl (by kernel_rfl) (by kernel_rfl) (by kernel_rfl) (fun _ _ _ h => h) (by rfl) ?_ (by assumption) ?_
  · intro W' hSw
    go_simp
  simp only [Act.put, List.setIfInBounds_toArray, List.set_cons_zero, List.set_cons_succ]
  refine take_yes (i := 1) (some 20) (.pointer (some ⟨b, 0, none⟩)) rfl rfl (by kernel_rfl) (by kernel_rfl) (by kernel_rfl) (fun _ _ _ h => h) (by rfl) ?_ (by assumption) ?_
  · intro W' hSw
    go_simp
  simp only [Act.put, List.setIfInBounds_toArray, List.set_cons_zero, List.set_cons_succ]
  refine take_yes (i := 2) (some 21) (.pointer (some ⟨b, 3, none⟩)) rfl rfl (by kernel_rfl) (by kernel_rfl) (by kernel_rfl) (fun _ _ _ h => h) (by rfl) ?_ (by assumption) ?_
  · intro W' hSw
    go_simp
  simp only [Act.put, List.setIfInBounds_toArray, List.set_cons_zero, List.set_cons_succ]
  refine take_yes (i := 3) (some 22) (.map (some mb)) rfl rfl (by kernel_rfl) (by kernel_rfl) (by kernel_rfl) (fun _ _ _ h => h) (by rfl) ?_ (by assumption) ?_
  · intro W' hSw
    obtain ⟨hz0, hz1, hz2⟩ := hSw
    go_simp
  simp only [Act.put, List.setIfInBounds_toArray, List.set_cons_zero, List.set_cons_succ]
  refine take_yes (i := 4) (some 23) (.int .i64 (ms.length : Int)) rfl rfl (by kernel_rfl) (by kernel_rfl) (by kernel_rfl) (fun _ _ _ h => h) (by rfl) ?_ (by assumption) ?_
  · intro W' hSw
    obtain ⟨hz0, hz1, hz2⟩ := hSw
    exact exec_len 131 (.tmp 22) rfl (.map (some mb)) _ rfl (run_lenTok hz2 _)
  simp only [Act.put, List.setIfInBounds_toArray, List.set_cons_zero, List.set_cons_succ]
  refine take_yes (i := 5) (some 24) (.pointer (some ⟨b, 0, none⟩)) rfl rfl (by kernel_rfl) (by kernel_rfl) (by kernel_rfl) (fun _ _ _ h => h) (by rfl) ?_ (by assumption) ?_
  · intro W' hSw
    go_simp
  simp only [Act.put, List.setIfInBounds_toArray, List.set_cons_zero, List.set_cons_succ]
  refine take_yes (i := 6) (some 25) (.pointer (some ⟨b, 0, none⟩)) rfl rfl (by kernel_rfl) (by kernel_rfl) (by kernel_rfl) (fun _ _ _ h => h) (by rfl) ?_ (by assumption) ?_
  · intro W' hSw
    go_simp
  simp only [Act.put, List.setIfInBounds_toArray, List.set_cons_zero, List.set_cons_succ]
  refine take_yes (i := 7) (some 26) (.pointer (some ⟨b, 2, none⟩)) rfl rfl (by kernel_rfl) (by kernel_rfl) (by kernel_rfl) (fun _ _ _ h => h) (by rfl) ?_ (by assumption) ?_
  · intro W' hSw
    go_simp
  simp only [Act.put, List.setIfInBounds_toArray, List.set_cons_zero, List.set_cons_succ]
  refine take_yes (i := 8) (some 27) (.int .i64 (Bg : Int)) rfl rfl (by kernel_rfl) (by kernel_rfl) (by kernel_rfl) (fun _ _ _ h => h) (by rfl) ?_ (by assumption) ?_
  · intro W' hSw
    obtain ⟨hz0, hz1, hz2⟩ := hSw
    go_simp
  simp only [Act.put, List.setIfInBounds_toArray, List.set_cons_zero, List.set_cons_succ]
  refine take_yes (i := 9) (some 28) (.bool false) rfl rfl (by kernel_rfl) (by kernel_rfl) (by kernel_rfl) (fun _ _ _ h => h) (by rfl) ?_ (by assumption) ?_
  · intro W' hSw
    go_simp
    omega
  simp only [Act.put, List.setIfInBounds_toArray, List.set_cons_zero, List.set_cons_succ]
  refine wpAnyH_done (by kernel_rfl) ?_ _
  have HS2 : Hid (Sm W0 u.drew b BS mb p n l Bg L wv av ms qs ar) := HS1.out.go (Below.refl _ _).drew
  have PT2 : Hid (u.drew.heap[w.heap.size]? = some (.cells (packOf m l) 93 (0, 0))) := keep PT1.out (Below.refl _ u).drew
  have HB2 : Hid (Below w.heap.size w u.drew) := HB1.out.drew
  clear HS1 PT1 HB1 hHeld
  generalize u.drew = u1 at *
  have hc3 := HS2.out.cells.2.2.2.1
  have hlen := run_lenTok HS2.out.map
  have h7 : (ms.length : Int) ≤ 400 := by omega
  go_upto_region 7 with fail
  clear hlen hc3
  refine wp_region_held_drew (S := fun W => W.cell? ⟨b, 3, none⟩ = some (.map (some mb)) ∧ W.heap[w.heap.size]? = some (.cells (packOf m l) 93 (0, 0))) (by kernel_rfl) ?_ (fun hHeld => ?_)
  · exact ⟨HS2.out.cells.2.2.2.1, PT2.out⟩
  refine take_yes (i := 0) (some 34) (.pointer (some ⟨b, 0, none⟩)) rfl rfl (by kernel_rfl) (by kernel_rfl) (by kernel_rfl) (fun _ _ _ h => h) (by rfl) ?_ (by assumption) ?_
  · intro W' hSw
    go_simp
  simp only [Act.put, List.setIfInBounds_toArray, List.set_cons_zero, List.set_cons_succ]
  refine take_yes (i := 1) (some 35) (.pointer (some ⟨b, 0, none⟩)) rfl rfl (by kernel_rfl) (by kernel_rfl) (by kernel_rfl) (fun _ _ _ h => h) (by rfl) ?_ (by assumption) ?_
  · intro W' hSw
    go_simp
  simp only [Act.put, List.setIfInBounds_toArray, List.set_cons_zero, List.set_cons_succ]
  refine take_yes (i := 2) (some 36) (.pointer (some ⟨b, 3, none⟩)) rfl rfl (by kernel_rfl) (by kernel_rfl) (by kernel_rfl) (fun _ _ _ h => h) (by rfl) ?_ (by assumption) ?_
  · intro W' hSw
    go_simp
  simp only [Act.put, List.setIfInBounds_toArray, List.set_cons_zero, List.set_cons_succ]
  refine take_yes (i := 3) (some 37) (.map (some mb)) rfl rfl (by kernel_rfl) (by kernel_rfl) (by kernel_rfl) (fun _ _ _ h => h) (by rfl) ?_ (by assumption) ?_
  · intro W' hSw
    obtain ⟨hz0, hz1⟩ := hSw
    go_simp
  simp only [Act.put, List.setIfInBounds_toArray, List.set_cons_zero, List.set_cons_succ]
  refine take_yes (i := 4) (some 38) (.agg (packOf m l)) rfl rfl (by kernel_rfl) (by kernel_rfl) (by kernel_rfl) (fun _ _ _ h => h) (by rfl) ?_ (by assumption) ?_
  · intro W' hSw
    obtain ⟨hz0, hz1⟩ := hSw
    exact exec_load_row 93 _ rfl _ rfl 93 _ _ _ hz1 Try.underlying93 rfl (by rw [packOf_size]; exact Try.size93)
  simp only [Act.put, List.setIfInBounds_toArray, List.set_cons_zero, List.set_cons_succ]
  refine take_yes (i := 5) (some 39) (.int .i64 (ms.length : Int)) rfl rfl (by kernel_rfl) (by kernel_rfl) (by kernel_rfl) (fun _ _ _ h => h) (by rfl) ?_ (by assumption) ?_
  · intro W' hSw
    go_simp
  simp only [Act.put, List.setIfInBounds_toArray, List.set_cons_zero, List.set_cons_succ]
  have HS3 : Hid (Sm W0 u1.drew b BS mb p n l Bg L wv av ms qs ar) := HS2.out.go (Below.refl _ _).drew
  have PT3 : Hid (u1.drew.heap[w.heap.size]? = some (.cells (packOf m l) 93 (0, 0))) := keep PT2.out (Below.refl _ u1).drew
  have HB3 : Hid (Below w.heap.size w u1.drew) := HB2.out.drew
  clear HS2 PT2 HB2
  generalize u1.drew = u2 at *
  have HT4 : Hid (w.heap.size ≤ (setBlock u2 mb (.map (entsOf l (ms ++ [m])) (ms.length + 1))).heap.size ∧ ∀ g, g < w.heap.size → g ≠ mb → (setBlock u2 mb (.map (entsOf l (ms ++ [m])) (ms.length + 1))).heap[g]? = w.heap[g]?) :=
    ⟨by have := HB3.out.size; simpa [setBlock] using this, fun g hg hgm => (heap_setBlock_other (es := entsOf l ms) (clock := ms.length) HS3.out.map _ hgm).trans (HB3.out.block g hg)⟩
  have HS4 := hide (HS3.out.put m)
  have PT4 : Hid ((setBlock u2 mb (.map (entsOf l (ms ++ [m])) (ms.length + 1))).heap[w.heap.size]? = some (.cells (packOf m l) 93 (0, 0))) :=
    (heap_setBlock_other (es := entsOf l ms) (clock := ms.length) HS3.out.map _ (by have := HS3.out.map; unfold MapIs at this; intro e; rw [← e, PT3.out] at this; cases this)).trans PT3.out
  refine wpAnyH_ready (rs := [6]) (by kernel_rfl) (by simp) (AllReadyH.cons rfl (fun K hK => ?_) AllReadyH.nil)
  rw [if_pos (by rfl)]
  refine oper_update 131 (.tmp 37) (.tmp 38) (.tmp 39) rfl (.map (some mb)) (.agg (packOf m l)) (.int .i64 (ms.length : Int)) rfl rfl rfl (run_putTok hl hm HMS.out HS3.out.map hq) rfl ?_
  refine hK.out _ _ ⟨HS4.out.cells.2.2.2.1, PT4.out⟩ (fun _ => ?_)
  clear hK K hHeld
  refine wpAnyH_done (by kernel_rfl) ?_ _
  clear HS3 PT3 HB3
  generalize setBlock u2 mb (.map (entsOf l (ms ++ [m])) (ms.length + 1)) = u3 at *
  go_upto_region 8 with fail
  have HS5 : Hid (Sm W0 u3.drew b BS mb p n l Bg L wv av (ms ++ [m]) qs ar) := HS4.out.go (Below.refl _ _).drew
  have PT5 : Hid (u3.drew.heap[w.heap.size]? = some (.cells (packOf m l) 93 (0, 0))) := keep PT4.out (Below.refl _ u3).drew
  clear HS4 PT4
  obtain ⟨wa, wc, hwf⟩ := HS5.out.que.form
  refine wp_region_held_drew (S := fun _ => True) (by kernel_rfl) trivial (fun _ => ?_)
  refine take_yes (i := 0) (some 40) (.pointer (some ⟨b, 0, none⟩)) rfl rfl (by kernel_rfl) (by kernel_rfl) (by kernel_rfl) (fun _ _ _ h => h) (by rfl) ?_ trivial ?_
  · intro W' hSw
    go_simp
  simp only [Act.put, List.setIfInBounds_toArray, List.set_cons_zero, List.set_cons_succ]
  refine take_yes (i := 1) (some 41) (.pointer (some ⟨b, 0, none⟩)) rfl rfl (by kernel_rfl) (by kernel_rfl) (by kernel_rfl) (fun _ _ _ h => h) (by rfl) ?_ trivial ?_
  · intro W' hSw
    go_simp
  simp only [Act.put, List.setIfInBounds_toArray, List.set_cons_zero, List.set_cons_succ]
  refine take_yes (i := 2) (some 42) (.pointer (some ⟨b, 0, none⟩)) rfl rfl (by kernel_rfl) (by kernel_rfl) (by kernel_rfl) (fun _ _ _ h => h) (by rfl) ?_ trivial ?_
  · intro W' hSw
    go_simp
  simp only [Act.put, List.setIfInBounds_toArray, List.set_cons_zero, List.set_cons_succ]
  refine take_yes (i := 3) (some 43) (.pointer (some ⟨b, 4, none⟩)) rfl rfl (by kernel_rfl) (by kernel_rfl) (by kernel_rfl) (fun _ _ _ h => h) (by rfl) ?_ trivial ?_
  · intro W' hSw
    go_simp
  simp only [Act.put, List.setIfInBounds_toArray, List.set_cons_zero, List.set_cons_succ]
  obtain ⟨i1, hi1, hz0, hz1, hz2⟩ := info_splitTQ Try.infoTQ
  have HS6 := HS5
  have PT6 := PT5
  have hHl := row_lt PT6.out
  have HT6 : Hid (w.heap.size ≤ u3.drew.heap.size ∧ ∀ g, g < w.heap.size → g ≠ mb → u3.drew.heap[g]? = w.heap[g]?) := HT4.out
  clear HS5 PT5 HT4
  generalize u3.drew = u4 at *
  refine any_make [4, 5, 6] (fun i => i + 40) (fun i => if i = 6 then [5] else []) u4 (fun i v W => (i = 4 → v = wv) ∧ (i = 5 → v = .agg (packOf m l)) ∧ (i = 6 → ∃ g, v = .slice (some ⟨g, 0, none⟩) 1 1 ∧ W.heap[g]? = some (.cells (packOf m l) 93 (0, 0)))) (fuel := 4) ?_ (by decide) (fun i _ j _ h => by simpa using h) (by kernel_rfl) (by decide) (by kernel_rfl) (by kernel_rfl) (fun _ => trivial) ?_ (Below.refl _ _) ?_
  · rintro i v W W' ⟨h1, h2, h3⟩ hb
    refine ⟨h1, h2, fun e => ?_⟩
    obtain ⟨g, e1, e2⟩ := h3 e
    exact ⟨g, e1, keep e2 hb⟩
  · intro i hi a z W o ho hoth hdeps hb K hK
    simp only [List.mem_cons, List.not_mem_nil, or_false] at hi
    rcases hi with rfl | rfl | rfl
    all_goals obtain rfl := Option.some.inj ho
    · have e1 := evalD (v := .pointer (some ⟨b, 4, none⟩)) ((hoth 43 (by decide)).trans rfl)
      have hcw : W.cell? ⟨b, 4, none⟩ = some wv := (HS6.out.go hb).cells.2.2.2.2.1
      exact oper_val rfl (v := wv) (w' := W) (by go_simp) (hK _ _ ⟨fun _ => rfl, (fun e => absurd e (by decide)), (fun e => absurd e (by decide))⟩ (Below.refl _ _))
    · have e1 : a.eval (.tmp 3) = .pointer (some ⟨w.heap.size, 0, none⟩) := (hoth 3 (by decide)).trans rfl
      have hcw : W.heap[w.heap.size]? = some (.cells (packOf m l) 93 (0, 0)) := keep PT6.out hb
      exact oper_val rfl (v := .agg (packOf m l)) (w' := W) (exec_load_row 93 (.tmp 3) rfl _ e1 93 _ _ _ hcw Try.underlying93 rfl (by rw [packOf_size]; exact Try.size93)) (hK _ _ ⟨(fun e => absurd e (by decide)), (fun _ => rfl), (fun e => absurd e (by decide))⟩ (Below.refl _ _))
    · obtain ⟨e1, g5⟩ := hdeps 5 (by decide)
      have e2 : a.eval (.tmp 45) = .agg (tokF (fOf m l)) := e1.trans (g5.2.1 rfl)
      exact oper_val rfl (exec_build_tok (.tmp 45) rfl (fOf m l) e2) (hK _ _ ⟨(fun e => absurd e (by decide)), (fun e => absurd e (by decide)), fun _ => ⟨_, rfl, heap_alloc_new _ _⟩⟩ (below_al W _))
  · intro z u5 hb5 hG
    have e4 : z 4 = wv := (hG 4 (by decide)).1 rfl
    have e5 : z 5 = .agg (packOf m l) := (hG 5 (by decide)).2.1 rfl
    obtain ⟨g6, e6, hg6⟩ := (hG 6 (by decide)).2.2 rfl
    have HS7 := hide (HS6.out.go hb5)
    clear hG HS6 PT6 hHl
    rw [hwf] at e4
    simp only [frmD, lstD, if_true, Act.put, List.setIfInBounds_toArray, List.set_cons_zero, List.set_cons_succ, e4, e5, e6]
    obtain ⟨v', u6, hrun, r1, r2, r3⟩ := run_append_tail (P := Try.prog) HS7.out.que 132 132 93 i1 _ 16 Try.underlying132 hi1 hz0 hz1 hz2 rfl (by decide) ⟨g6, 0, none⟩ 1 (packOf m l).toList (by simp [packOf_size]) (World.news_of_block hg6) (tok_oneT m l) (by unfold maxLen; omega) (by omega) (by have := HS7.out.bel.size; exact this)
    rw [← toksL_snoc] at r1
    have HS8 := hide (HS7.out.waiting r2 (qs' := qs ++ [m]) (by simpa using r1) r3)
    have hst := (r2.block b HS7.out.blt (fun e => (HS7.out.sepw b e.symm).1 rfl)).trans HS7.out.st
    obtain ⟨va, vc, hvf⟩ := r1.form
    subst hvf hwf
    refine wpAnyH_ready (rs := [7]) (by kernel_rfl) (by simp) (AllReadyH.cons rfl (fun K hK => ?_) AllReadyH.nil)
    rw [if_pos (by rfl)]
    refine oper_append (some 47) rfl (.tmp 44) (.tmp 46) 132 rfl _ _ _ rfl rfl hrun ?_
    refine hK.out _ _ trivial (fun _ => ?_)
    clear hK K
    simp only [Act.put, List.setIfInBounds_toArray, List.set_cons_zero, List.set_cons_succ]
    refine take_yes (i := 8) (some 48) (.pointer (some ⟨b, 0, none⟩)) rfl rfl (by kernel_rfl) (by kernel_rfl) (by kernel_rfl) (fun _ _ _ h => h) (by rfl) ?_ trivial ?_
    · intro W' hSw
      go_simp
    simp only [Act.put, List.setIfInBounds_toArray, List.set_cons_zero, List.set_cons_succ]
    refine take_yes (i := 9) (some 49) (.pointer (some ⟨b, 4, none⟩)) rfl rfl (by kernel_rfl) (by kernel_rfl) (by kernel_rfl) (fun _ _ _ h => h) (by rfl) ?_ trivial ?_
    · intro W' hSw
      go_simp
    simp only [Act.put, List.setIfInBounds_toArray, List.set_cons_zero, List.set_cons_succ]

    refine store_one_next (i := 10) rfl rfl (by kernel_rfl) (by rfl) 132 _ _ rfl b 4 va (qs.length + 1) vc rfl rfl _ 166 hst (by simp) (by kernel_rfl) trivial (fun _ => ?_)
    refine wpAnyH_done (by kernel_rfl) ?_ _
    have HTT : Hid (Turned w (u6.setCell ⟨b, 4, none⟩ (.slice va (qs.length + 1) vc)) b mb (.slice wa qs.length wc) (.slice va (qs.length + 1) vc)) := by
      have hz5 := hb5.size
      have hz6 := r2.size
      have hz := HT6.out.1
      refine ⟨fun g h1 h2 h3 h4 => ?_, fun g hg => (r3 g hg).imp id (fun h => by omega), by rw [size_setCell]; omega⟩
      exact (Below.heap_setCell _ _ _ _ h2).trans ((r2.block g (by omega) (fun e => h4 e.symm)).trans ((hb5.block g (by omega)).trans (HT6.out.2 g h1 h3)))
    clear hst hrun r1 r2 r3 HS7 hg6 hb5 e4 e5 e6 HT6
    generalize u6.setCell ⟨b, 4, none⟩ (.slice va (qs.length + 1) vc) = u7 at *
    go_wp2_with fail
    go_ret2
    exact ⟨rfl, _, HS8.out, HTT.out⟩
end Go.Proofs.Ytdhnhpjcoeglmaa
