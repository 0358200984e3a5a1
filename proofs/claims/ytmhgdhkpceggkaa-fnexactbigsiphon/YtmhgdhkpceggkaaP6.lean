/- Contracts that the proof stands on, one behind the other. -/
import Derived.Test.YtmhgdhkpceggkaaP5
import Derived.Deep.Cut
/- Sets of places held against a net's steps: follows, isSiphon and isTrap of the program. -/
namespace Go.Proofs.Ytmhgdhkpceggkaa
open Go.RowKit
set_option maxRecDepth 10000

/-- The places on one side of a step: b behind it, else ahead of it. -/
def sideB (b : Bool) (s0 s1 : Nat) : Nat := if b then s1 else s0

/-- A step slips: it has a place of the set on its near side, and none on its far side. -/
def slipB (b : Bool) (s0 s1 st : Nat) : Bool := !decide (sideB b s0 s1 &&& st = 0) && decide (sideB (!b) s0 s1 &&& st = 0)

def slipAt (b : Bool) (st i : Nat) (L : List (List Int)) : Bool := slipB b (maskL (L.getD (3 * i) [])) (maskL (L.getD (3 * i + 1) [])) st

def slips (b : Bool) (st n : Nat) (L : List (List Int)) : Bool := (List.range n).any fun i => slipAt b st i L

theorem slips_yes {b : Bool} {st n k : Nat} {L : List (List Int)} (hk : k < n) (h : slipAt b st k L = true) : slips b st n L = true := by
  unfold slips
  rw [List.any_eq_true]
  exact ⟨k, by simpa using hk, h⟩

theorem slips_step {b : Bool} {st k : Nat} {L : List (List Int)} (h : slips b st k L = false) (he : slipAt b st k L = false) : slips b st (k + 1) L = false := by
  unfold slips at *
  rw [List.range_succ, List.any_append, h]
  simp only [List.any_cons, List.any_nil, Bool.or_false, he]

theorem sideB_lt {b : Bool} {s0 s1 : Nat} (h0 : s0 < 2 ^ 16) (h1 : s1 < 2 ^ 16) : sideB b s0 s1 < 2 ^ 16 := by unfold sideB; split <;> assumption

/-- What a function that is handed in tells of a step: one of its sides. -/
def SideOf (F : FuncId) (b : Bool) : Prop := ∀ (s0 s1 s2 : Nat) (W : World), Calls Try.prog F #[.agg #[.int .u16 (s0 : Int), .int .u16 (s1 : Int), .int .u16 (s2 : Int)]] W fun e W' => e = .returned (.int .u16 ((sideB b s0 s1 : Nat) : Int)) ∧ Below W.heap.size W W'

theorem behindA_any : SideOf 71 true := fun s0 s1 s2 w => by
  go_enter Try.func71, Try.ntmps71
  go_wp2_with fail
  go_ret
  exact ⟨rfl, below_al _ _⟩

theorem aheadA_any : SideOf 72 false := fun s0 s1 s2 w => by
  go_enter Try.func72, Try.ntmps72
  go_wp2_with fail
  go_ret
  exact ⟨rfl, below_al _ _⟩

theorem run_callv {P : Program} {o : Oper} {a : Act} {w : World} (t : Tmp) (f : FuncId) (fn : Func) (xs : Array Operand) (ts : Array TypeId) (hop : o.op = Op.call { callee := Callee.value (Operand.tmp t), args := xs, argTypes := ts })
    (ht : a.eval (.tmp t) = .func (.func f) #[] #[]) (hfn : P.funcs[f]? = some fn) (hnm : (fn.name == "runtime.NumGoroutine") = false) (hbd : fn.body.isNone = false) : (execOp a.eval o).run P w = .ok (.enter f (xs.map a.eval)) w := by
  have hnm' : ¬ fn.name = "runtime.NumGoroutine" := by simpa using hnm
  have hbd' : ¬ fn.body = none := by intro e; rw [e] at hbd; simp at hbd
  have ht' : a.tmps[t]?.getD undef = .func (.func f) #[] #[] := by simpa [Act.eval] using ht
  unfold execOp
  simp only [hop]
  simp [resolve, invoke, go_sem, ht', callFunc, hfn, hnm', hbd', Act.eval]

theorem exec_load_rowA {P : Program} {o : Oper} {a : Act} {w : World} (ty : TypeId) (x : Operand) (ho : o.op = .load ty x) (g : Nat) (hx : a.eval x = .pointer (some ⟨g, 0, none⟩)) (t : TypeId) (cs : Array Value) (fr : Nat × Nat) (d : TypeDesc) (hg : w.heap[g]? = some (.cells cs t fr))
    (hu : P.underlying ty = some d) (hd : (match d with | .struct _ | .array _ _ => true | _ => false) = true) (hi : (P.info? ty).map (·.size) = some cs.size) : (execOp a.eval o).run P w = .ok (.value (.agg cs)) w := by
  unfold execOp
  simp only [ho, hx, Instr.loadAt, Instr.sureAddr, Sem.run_bind, Sem.run_pure, Result.andThen_ok, run_loadVar_row w g t ty cs fr d hg hu hd hi]

section
variable {P : Program} {ops : Array Oper} {Q : Exit → Act → World → Prop} {md : Region.Mode} {S : World → Prop}
/-- A call of a function that lies in a slot, which must come up next. -/
theorem callv_next {i : Nat} {oi : Oper} {fuel : Nat} {listed : Array Bool} {a : Act} {w : World} (d : Option Tmp) (hi : ops[i]? = some oi) (hd : oi.dst = d) (hr : Region.ready md ops listed = [i])
    (hw : Region.wanted oi (yielded ops a.tmps) = true) (t : Tmp) (f : FuncId) (fn : Func) (xs : Array Operand) (ts : Array TypeId) (hop : oi.op = Op.call { callee := Callee.value (Operand.tmp t), args := xs, argTypes := ts })
    (ht : a.eval (.tmp t) = .func (.func f) #[] #[]) (hfn : P.funcs[f]? = some fn) (hnm : (fn.name == "runtime.NumGoroutine") = false) (hbd : fn.body.isNone = false) (args : Array Value) (hargs : xs.map a.eval = args) (R : Ending → World → Prop) (hc : Calls P f args w R)
    (h : ∀ e w', R e w' → ∃ v, e = .returned v ∧ S w' ∧ (S w' → wpAnyH P md ops Q S fuel (listed.setIfInBounds i true) (a.put d v) w')) : wpAnyH P md ops Q S (fuel + 1) listed a w := by
  subst hd
  refine wpAnyH_ready hr (by simp) (AllReadyH.cons hi (fun K hK => ?_) AllReadyH.nil)
  rw [if_pos hw]
  unfold Oper.wp
  rw [run_callv t f fn xs ts hop ht hfn hnm hbd, hargs, Oper.upon_enter]
  refine hc.mono fun e w'' hh => ?_
  obtain ⟨v, e1, h1, h2⟩ := h e w'' hh
  subst e1
  exact hK.out _ _ h1 h2
end

set_option maxHeartbeats 2000000 in
theorem slip1S_any (s0 s1 s2 st bn bs bf : Nat) (w : World) (h0 : s0 < 2 ^ 16) (h1 : s1 < 2 ^ 16) (hst : st < 2 ^ 16)
    (hn : w.heap[bn]? = some (.cells #[.func (.func 71) #[] #[]] 95 (0, 0)))
    (hs : w.heap[bs]? = some (.cells #[.int .u16 (st : Int)] 65 (0, 0)))
    (hf : w.heap[bf]? = some (.cells #[.func (.func 72) #[] #[]] 95 (0, 0))) :
    Calls Try.prog 86 #[.agg #[.int .u16 (s0 : Int), .int .u16 (s1 : Int), .int .u16 (s2 : Int)], .pointer (some ⟨bn, 0, none⟩), .pointer (some ⟨bs, 0, none⟩), .pointer (some ⟨bf, 0, none⟩)] w fun e w' => e = .returned (.bool (slipB true s0 s1 st)) ∧ Below w.heap.size w w' := by
  have hA := below_al w (.cells #[.int .u16 (s0 : Int), .int .u16 (s1 : Int), .int .u16 (s2 : Int)] 86)
  have HB0 := hide hA
  have HN := hide (keep hn hA)
  have HS := hide (keep hs hA)
  have HF := hide (keep hf hA)
  have HC := hide (heap_alloc_new w (.cells #[.int .u16 (s0 : Int), .int .u16 (s1 : Int), .int .u16 (s2 : Int)] 86))
  have a0 := and_u16 s1 st h1 hst
  have a1 := and_u16 s0 st h0 hst
  have HD : Hid (slipB true s0 s1 st = (!decide (s1 &&& st = 0) && decide (s0 &&& st = 0))) := rfl
  have HZ0 : (((((s1 &&& st : Nat) : Int)) != 0) = !decide (s1 &&& st = 0)) := by by_cases h : s1 &&& st = 0 <;> simp [h]
  have HZ1 : (((((s0 &&& st : Nat) : Int)) == 0) = decide (s0 &&& st = 0)) := by by_cases h : s0 &&& st = 0 <;> simp [h]
  generalize s1 &&& st = t0 at *
  generalize s0 &&& st = t1 at *
  clear hA hn hs hf
  go_enter Try.func86, Try.ntmps86
  go_upto_region 1 with fail
  generalize w.alloc (.cells #[.int .u16 (s0 : Int), .int .u16 (s1 : Int), .int .u16 (s2 : Int)] 86) = v at *
  obtain ⟨z, hz⟩ : ∃ z, Hid (w.heap.size = z) := ⟨_, rfl⟩
  rw [hz.out] at HC ⊢
  have HB1 := hide HB0.out.drew
  have hS1 : (fun W : World => W.heap[bn]? = some (.cells #[.func (.func 71) #[] #[]] 95 (0, 0)) ∧ W.heap[bs]? = some (.cells #[.int .u16 (st : Int)] 65 (0, 0)) ∧ W.heap[bf]? = some (.cells #[.func (.func 72) #[] #[]] 95 (0, 0)) ∧ W.heap[z]? = some (.cells #[.int .u16 (s0 : Int), .int .u16 (s1 : Int), .int .u16 (s2 : Int)] 86 (0, 0))) v.drew := ⟨HN.out, HS.out, HF.out, HC.out⟩
  refine wp_region_held_drew (S := fun W => W.heap[bn]? = some (.cells #[.func (.func 71) #[] #[]] 95 (0, 0)) ∧ W.heap[bs]? = some (.cells #[.int .u16 (st : Int)] 65 (0, 0)) ∧ W.heap[bf]? = some (.cells #[.func (.func 72) #[] #[]] 95 (0, 0)) ∧ W.heap[z]? = some (.cells #[.int .u16 (s0 : Int), .int .u16 (s1 : Int), .int .u16 (s2 : Int)] 86 (0, 0))) (by kernel_rfl) hS1 (fun hHeld => ?_)
  clear HB0 HN HS HF HC hHeld
  generalize v.drew = w1 at *
  refine take_yes (i := 0) (some 6) (.func (.func 71) #[] #[]) rfl rfl (by kernel_rfl) (by kernel_rfl) (by kernel_rfl) (fun _ _ _ h => h) (by rfl) ?_ (by assumption) ?_
  · intro W' hSw
    obtain ⟨hz0, hz1, hz2, hz3⟩ := hSw
    have hc := cell_of_row W' _ 0 _ _ _ hz0
    simp at hc
    go_simp
  simp only [Act.put, List.setIfInBounds_toArray, List.set_cons_zero, List.set_cons_succ]
  refine take_yes (i := 1) (some 7) (.agg #[.int .u16 (s0 : Int), .int .u16 (s1 : Int), .int .u16 (s2 : Int)]) rfl rfl (by kernel_rfl) (by kernel_rfl) (by kernel_rfl) (fun _ _ _ h => h) (by rfl) ?_ (by assumption) ?_
  · intro W' hSw
    obtain ⟨hz0, hz1, hz2, hz3⟩ := hSw
    exact exec_load_rowA 86 _ rfl _ rfl 86 _ _ _ hz3 Try.underlying86 rfl Try.size86
  simp only [Act.put, List.setIfInBounds_toArray, List.set_cons_zero, List.set_cons_succ]
  refine take_yes (i := 3) (some 9) (.int .u16 (st : Int)) rfl rfl (by kernel_rfl) (by kernel_rfl) (by kernel_rfl) (fun _ _ _ h => h) (by rfl) ?_ (by assumption) ?_
  · intro W' hSw
    obtain ⟨hz0, hz1, hz2, hz3⟩ := hSw
    have hc := cell_of_row W' _ 0 _ _ _ hz1
    simp at hc
    go_simp
  simp only [Act.put, List.setIfInBounds_toArray, List.set_cons_zero, List.set_cons_succ]
  refine callv_next (i := 2) (some 8) rfl rfl (by kernel_rfl) (by rfl) 6 71 _ _ _ rfl rfl Try.func71 (by decide) rfl #[.agg #[.int .u16 (s0 : Int), .int .u16 (s1 : Int), .int .u16 (s2 : Int)]] (mapw1 _ _ _ rfl) _ (behindA_any s0 s1 s2 w1) ?_
  rintro e w2 ⟨rfl, hb2⟩
  have hA2 := hb2
  have HB2 := hide (HB1.out.trans (hb2.mono HB1.out.size))
  have hS2 : (fun W : World => W.heap[bn]? = some (.cells #[.func (.func 71) #[] #[]] 95 (0, 0)) ∧ W.heap[bs]? = some (.cells #[.int .u16 (st : Int)] 65 (0, 0)) ∧ W.heap[bf]? = some (.cells #[.func (.func 72) #[] #[]] 95 (0, 0)) ∧ W.heap[z]? = some (.cells #[.int .u16 (s0 : Int), .int .u16 (s1 : Int), .int .u16 (s2 : Int)] 86 (0, 0))) w2 := ⟨keep hS1.1 hb2, keep hS1.2.1 hb2, keep hS1.2.2.1 hb2, keep hS1.2.2.2 hb2⟩
  refine ⟨_, rfl, hS2, fun _ => ?_⟩
  simp only [Act.put, List.setIfInBounds_toArray, List.set_cons_zero, List.set_cons_succ]
  refine take_yes (i := 4) (some 10) (.int .u16 (t0 : Int)) rfl rfl (by kernel_rfl) (by kernel_rfl) (by kernel_rfl) (fun _ _ _ h => h) (by rfl) ?_ (by assumption) ?_
  · intro W' hSw
    obtain ⟨hz0, hz1, hz2, hz3⟩ := hSw
    simp only [sideB]
    go_simp
  simp only [Act.put, List.setIfInBounds_toArray, List.set_cons_zero, List.set_cons_succ]
  cases hg : decide (t0 = 0)
  · rw [hg] at HZ0 HD
    refine take_yes (i := 5) (some 11) (.bool true) rfl rfl (by kernel_rfl) (by kernel_rfl) (by kernel_rfl) (fun _ _ _ h => h) (by rfl) ?_ (by assumption) ?_
    · intro W' hSw
      obtain ⟨hz0, hz1, hz2, hz3⟩ := hSw
      go_simp
    simp only [Act.put, List.setIfInBounds_toArray, List.set_cons_zero, List.set_cons_succ]
    refine take_yes (i := 6) (some 12) (.bool true) rfl rfl (by kernel_rfl) (by kernel_rfl) (by kernel_rfl) (fun _ _ _ h => h) (by rfl) ?_ (by assumption) ?_
    · intro W' hSw
      obtain ⟨hz0, hz1, hz2, hz3⟩ := hSw
      go_simp
    simp only [Act.put, List.setIfInBounds_toArray, List.set_cons_zero, List.set_cons_succ]
    refine take_yes (i := 7) (some 13) (.func (.func 72) #[] #[]) rfl rfl (by kernel_rfl) (by kernel_rfl) (by kernel_rfl) (fun _ _ _ h => h) (by rfl) ?_ (by assumption) ?_
    · intro W' hSw
      obtain ⟨hz0, hz1, hz2, hz3⟩ := hSw
      have hc := cell_of_row W' _ 0 _ _ _ hz2
      simp at hc
      go_simp
    simp only [Act.put, List.setIfInBounds_toArray, List.set_cons_zero, List.set_cons_succ]
    refine take_yes (i := 8) (some 14) (.agg #[.int .u16 (s0 : Int), .int .u16 (s1 : Int), .int .u16 (s2 : Int)]) rfl rfl (by kernel_rfl) (by kernel_rfl) (by kernel_rfl) (fun _ _ _ h => h) (by rfl) ?_ (by assumption) ?_
    · intro W' hSw
      obtain ⟨hz0, hz1, hz2, hz3⟩ := hSw
      exact exec_load_rowA 86 _ rfl _ rfl 86 _ _ _ hz3 Try.underlying86 rfl Try.size86
    simp only [Act.put, List.setIfInBounds_toArray, List.set_cons_zero, List.set_cons_succ]
    refine take_yes (i := 10) (some 16) (.int .u16 (st : Int)) rfl rfl (by kernel_rfl) (by kernel_rfl) (by kernel_rfl) (fun _ _ _ h => h) (by rfl) ?_ (by assumption) ?_
    · intro W' hSw
      obtain ⟨hz0, hz1, hz2, hz3⟩ := hSw
      have hc := cell_of_row W' _ 0 _ _ _ hz1
      simp at hc
      go_simp
    simp only [Act.put, List.setIfInBounds_toArray, List.set_cons_zero, List.set_cons_succ]
    refine callv_next (i := 9) (some 15) rfl rfl (by kernel_rfl) (by rfl) 13 72 _ _ _ rfl rfl Try.func72 (by decide) rfl #[.agg #[.int .u16 (s0 : Int), .int .u16 (s1 : Int), .int .u16 (s2 : Int)]] (mapw1 _ _ _ rfl) _ (aheadA_any s0 s1 s2 w2) ?_
    rintro e w3 ⟨rfl, hb3⟩
    have hA3 := hb3
    have HB3 := hide (HB2.out.trans (hb3.mono HB2.out.size))
    have hS3 : (fun W : World => W.heap[bn]? = some (.cells #[.func (.func 71) #[] #[]] 95 (0, 0)) ∧ W.heap[bs]? = some (.cells #[.int .u16 (st : Int)] 65 (0, 0)) ∧ W.heap[bf]? = some (.cells #[.func (.func 72) #[] #[]] 95 (0, 0)) ∧ W.heap[z]? = some (.cells #[.int .u16 (s0 : Int), .int .u16 (s1 : Int), .int .u16 (s2 : Int)] 86 (0, 0))) w3 := ⟨keep hS2.1 hb3, keep hS2.2.1 hb3, keep hS2.2.2.1 hb3, keep hS2.2.2.2 hb3⟩
    refine ⟨_, rfl, hS3, fun _ => ?_⟩
    simp only [Act.put, List.setIfInBounds_toArray, List.set_cons_zero, List.set_cons_succ]
    refine take_yes (i := 11) (some 17) (.int .u16 (t1 : Int)) rfl rfl (by kernel_rfl) (by kernel_rfl) (by kernel_rfl) (fun _ _ _ h => h) (by rfl) ?_ (by assumption) ?_
    · intro W' hSw
      obtain ⟨hz0, hz1, hz2, hz3⟩ := hSw
      simp only [sideB]
      go_simp
    simp only [Act.put, List.setIfInBounds_toArray, List.set_cons_zero, List.set_cons_succ]
    refine take_yes (i := 12) (some 18) (.bool (decide (t1 = 0))) rfl rfl (by kernel_rfl) (by kernel_rfl) (by kernel_rfl) (fun _ _ _ h => h) (by rfl) ?_ (by assumption) ?_
    · intro W' hSw
      obtain ⟨hz0, hz1, hz2, hz3⟩ := hSw
      go_simp
    simp only [Act.put, List.setIfInBounds_toArray, List.set_cons_zero, List.set_cons_succ]
    refine take_yes (i := 13) (some 19) (.bool (decide (t1 = 0))) rfl rfl (by kernel_rfl) (by kernel_rfl) (by kernel_rfl) (fun _ _ _ h => h) (by rfl) ?_ (by assumption) ?_
    · intro W' hSw
      obtain ⟨hz0, hz1, hz2, hz3⟩ := hSw
      go_simp
    simp only [Act.put, List.setIfInBounds_toArray, List.set_cons_zero, List.set_cons_succ]
    refine take_yes (i := 14) (some 5) (.bool (decide (t1 = 0))) rfl rfl (by kernel_rfl) (by kernel_rfl) (by kernel_rfl) (fun _ _ _ h => h) (by rfl) ?_ (by assumption) ?_
    · intro W' hSw
      obtain ⟨hz0, hz1, hz2, hz3⟩ := hSw
      go_simp
    simp only [Act.put, List.setIfInBounds_toArray, List.set_cons_zero, List.set_cons_succ]
    refine wpAnyH_done (by kernel_rfl) ?_ _
    go_wp2_with fail
    go_ret
    exact ⟨ret_bool (by rw [HD.out]; rfl), by rw [← hz.out] at *; exact HB3.out⟩
  · rw [hg] at HZ0 HD
    refine take_yes (i := 5) (some 11) (.bool false) rfl rfl (by kernel_rfl) (by kernel_rfl) (by kernel_rfl) (fun _ _ _ h => h) (by rfl) ?_ (by assumption) ?_
    · intro W' hSw
      obtain ⟨hz0, hz1, hz2, hz3⟩ := hSw
      go_simp
    simp only [Act.put, List.setIfInBounds_toArray, List.set_cons_zero, List.set_cons_succ]
    refine take_yes (i := 6) (some 12) (.bool false) rfl rfl (by kernel_rfl) (by kernel_rfl) (by kernel_rfl) (fun _ _ _ h => h) (by rfl) ?_ (by assumption) ?_
    · intro W' hSw
      obtain ⟨hz0, hz1, hz2, hz3⟩ := hSw
      go_simp
    simp only [Act.put, List.setIfInBounds_toArray, List.set_cons_zero, List.set_cons_succ]
    refine take_no (i := 7) (some 13) rfl rfl (by kernel_rfl) (by kernel_rfl) (by kernel_rfl) (fun _ _ _ h => h) (by rfl) (by assumption) ?_
    simp only [Act.put, List.setIfInBounds_toArray, List.set_cons_zero, List.set_cons_succ]
    refine take_no (i := 8) (some 14) rfl rfl (by kernel_rfl) (by kernel_rfl) (by kernel_rfl) (fun _ _ _ h => h) (by rfl) (by assumption) ?_
    simp only [Act.put, List.setIfInBounds_toArray, List.set_cons_zero, List.set_cons_succ]
    refine take_no (i := 10) (some 16) rfl rfl (by kernel_rfl) (by kernel_rfl) (by kernel_rfl) (fun _ _ _ h => h) (by rfl) (by assumption) ?_
    simp only [Act.put, List.setIfInBounds_toArray, List.set_cons_zero, List.set_cons_succ]
    refine take_no (i := 9) (some 15) rfl rfl (by kernel_rfl) (by kernel_rfl) (by kernel_rfl) (fun _ _ _ h => h) (by rfl) (by assumption) ?_
    simp only [Act.put, List.setIfInBounds_toArray, List.set_cons_zero, List.set_cons_succ]
    refine take_no (i := 11) (some 17) rfl rfl (by kernel_rfl) (by kernel_rfl) (by kernel_rfl) (fun _ _ _ h => h) (by rfl) (by assumption) ?_
    simp only [Act.put, List.setIfInBounds_toArray, List.set_cons_zero, List.set_cons_succ]
    refine take_no (i := 12) (some 18) rfl rfl (by kernel_rfl) (by kernel_rfl) (by kernel_rfl) (fun _ _ _ h => h) (by rfl) (by assumption) ?_
    simp only [Act.put, List.setIfInBounds_toArray, List.set_cons_zero, List.set_cons_succ]
    refine take_yes (i := 13) (some 19) (.bool false) rfl rfl (by kernel_rfl) (by kernel_rfl) (by kernel_rfl) (fun _ _ _ h => h) (by rfl) ?_ (by assumption) ?_
    · intro W' hSw
      obtain ⟨hz0, hz1, hz2, hz3⟩ := hSw
      go_simp
    simp only [Act.put, List.setIfInBounds_toArray, List.set_cons_zero, List.set_cons_succ]
    refine take_yes (i := 14) (some 5) (.bool false) rfl rfl (by kernel_rfl) (by kernel_rfl) (by kernel_rfl) (fun _ _ _ h => h) (by rfl) ?_ (by assumption) ?_
    · intro W' hSw
      obtain ⟨hz0, hz1, hz2, hz3⟩ := hSw
      go_simp
    simp only [Act.put, List.setIfInBounds_toArray, List.set_cons_zero, List.set_cons_succ]
    refine wpAnyH_done (by kernel_rfl) ?_ _
    go_wp2_with fail
    go_ret
    exact ⟨ret_bool (by rw [HD.out]; rfl), by rw [← hz.out] at *; exact HB2.out⟩

set_option maxHeartbeats 2000000 in
theorem slip1T_any (s0 s1 s2 st bn bs bf : Nat) (w : World) (h0 : s0 < 2 ^ 16) (h1 : s1 < 2 ^ 16) (hst : st < 2 ^ 16)
    (hn : w.heap[bn]? = some (.cells #[.func (.func 72) #[] #[]] 95 (0, 0)))
    (hs : w.heap[bs]? = some (.cells #[.int .u16 (st : Int)] 65 (0, 0)))
    (hf : w.heap[bf]? = some (.cells #[.func (.func 71) #[] #[]] 95 (0, 0))) :
    Calls Try.prog 86 #[.agg #[.int .u16 (s0 : Int), .int .u16 (s1 : Int), .int .u16 (s2 : Int)], .pointer (some ⟨bn, 0, none⟩), .pointer (some ⟨bs, 0, none⟩), .pointer (some ⟨bf, 0, none⟩)] w fun e w' => e = .returned (.bool (slipB false s0 s1 st)) ∧ Below w.heap.size w w' := by
  have hA := below_al w (.cells #[.int .u16 (s0 : Int), .int .u16 (s1 : Int), .int .u16 (s2 : Int)] 86)
  have HB0 := hide hA
  have HN := hide (keep hn hA)
  have HS := hide (keep hs hA)
  have HF := hide (keep hf hA)
  have HC := hide (heap_alloc_new w (.cells #[.int .u16 (s0 : Int), .int .u16 (s1 : Int), .int .u16 (s2 : Int)] 86))
  have a0 := and_u16 s0 st h0 hst
  have a1 := and_u16 s1 st h1 hst
  have HD : Hid (slipB false s0 s1 st = (!decide (s0 &&& st = 0) && decide (s1 &&& st = 0))) := rfl
  have HZ0 : (((((s0 &&& st : Nat) : Int)) != 0) = !decide (s0 &&& st = 0)) := by by_cases h : s0 &&& st = 0 <;> simp [h]
  have HZ1 : (((((s1 &&& st : Nat) : Int)) == 0) = decide (s1 &&& st = 0)) := by by_cases h : s1 &&& st = 0 <;> simp [h]
  generalize s0 &&& st = t0 at *
  generalize s1 &&& st = t1 at *
  clear hA hn hs hf
  go_enter Try.func86, Try.ntmps86
  go_upto_region 1 with fail
  generalize w.alloc (.cells #[.int .u16 (s0 : Int), .int .u16 (s1 : Int), .int .u16 (s2 : Int)] 86) = v at *
  obtain ⟨z, hz⟩ : ∃ z, Hid (w.heap.size = z) := ⟨_, rfl⟩
  rw [hz.out] at HC ⊢
  have HB1 := hide HB0.out.drew
  have hS1 : (fun W : World => W.heap[bn]? = some (.cells #[.func (.func 72) #[] #[]] 95 (0, 0)) ∧ W.heap[bs]? = some (.cells #[.int .u16 (st : Int)] 65 (0, 0)) ∧ W.heap[bf]? = some (.cells #[.func (.func 71) #[] #[]] 95 (0, 0)) ∧ W.heap[z]? = some (.cells #[.int .u16 (s0 : Int), .int .u16 (s1 : Int), .int .u16 (s2 : Int)] 86 (0, 0))) v.drew := ⟨HN.out, HS.out, HF.out, HC.out⟩
  refine wp_region_held_drew (S := fun W => W.heap[bn]? = some (.cells #[.func (.func 72) #[] #[]] 95 (0, 0)) ∧ W.heap[bs]? = some (.cells #[.int .u16 (st : Int)] 65 (0, 0)) ∧ W.heap[bf]? = some (.cells #[.func (.func 71) #[] #[]] 95 (0, 0)) ∧ W.heap[z]? = some (.cells #[.int .u16 (s0 : Int), .int .u16 (s1 : Int), .int .u16 (s2 : Int)] 86 (0, 0))) (by kernel_rfl) hS1 (fun hHeld => ?_)
  clear HB0 HN HS HF HC hHeld
  generalize v.drew = w1 at *
  refine take_yes (i := 0) (some 6) (.func (.func 72) #[] #[]) rfl rfl (by kernel_rfl) (by kernel_rfl) (by kernel_rfl) (fun _ _ _ h => h) (by rfl) ?_ (by assumption) ?_
  · intro W' hSw
    obtain ⟨hz0, hz1, hz2, hz3⟩ := hSw
    have hc := cell_of_row W' _ 0 _ _ _ hz0
    simp at hc
    go_simp
  simp only [Act.put, List.setIfInBounds_toArray, List.set_cons_zero, List.set_cons_succ]
  refine take_yes (i := 1) (some 7) (.agg #[.int .u16 (s0 : Int), .int .u16 (s1 : Int), .int .u16 (s2 : Int)]) rfl rfl (by kernel_rfl) (by kernel_rfl) (by kernel_rfl) (fun _ _ _ h => h) (by rfl) ?_ (by assumption) ?_
  · intro W' hSw
    obtain ⟨hz0, hz1, hz2, hz3⟩ := hSw
    exact exec_load_rowA 86 _ rfl _ rfl 86 _ _ _ hz3 Try.underlying86 rfl Try.size86
  simp only [Act.put, List.setIfInBounds_toArray, List.set_cons_zero, List.set_cons_succ]
  refine take_yes (i := 3) (some 9) (.int .u16 (st : Int)) rfl rfl (by kernel_rfl) (by kernel_rfl) (by kernel_rfl) (fun _ _ _ h => h) (by rfl) ?_ (by assumption) ?_
  · intro W' hSw
    obtain ⟨hz0, hz1, hz2, hz3⟩ := hSw
    have hc := cell_of_row W' _ 0 _ _ _ hz1
    simp at hc
    go_simp
  simp only [Act.put, List.setIfInBounds_toArray, List.set_cons_zero, List.set_cons_succ]
  refine callv_next (i := 2) (some 8) rfl rfl (by kernel_rfl) (by rfl) 6 72 _ _ _ rfl rfl Try.func72 (by decide) rfl #[.agg #[.int .u16 (s0 : Int), .int .u16 (s1 : Int), .int .u16 (s2 : Int)]] (mapw1 _ _ _ rfl) _ (aheadA_any s0 s1 s2 w1) ?_
  rintro e w2 ⟨rfl, hb2⟩
  have hA2 := hb2
  have HB2 := hide (HB1.out.trans (hb2.mono HB1.out.size))
  have hS2 : (fun W : World => W.heap[bn]? = some (.cells #[.func (.func 72) #[] #[]] 95 (0, 0)) ∧ W.heap[bs]? = some (.cells #[.int .u16 (st : Int)] 65 (0, 0)) ∧ W.heap[bf]? = some (.cells #[.func (.func 71) #[] #[]] 95 (0, 0)) ∧ W.heap[z]? = some (.cells #[.int .u16 (s0 : Int), .int .u16 (s1 : Int), .int .u16 (s2 : Int)] 86 (0, 0))) w2 := ⟨keep hS1.1 hb2, keep hS1.2.1 hb2, keep hS1.2.2.1 hb2, keep hS1.2.2.2 hb2⟩
  refine ⟨_, rfl, hS2, fun _ => ?_⟩
  simp only [Act.put, List.setIfInBounds_toArray, List.set_cons_zero, List.set_cons_succ]
  refine take_yes (i := 4) (some 10) (.int .u16 (t0 : Int)) rfl rfl (by kernel_rfl) (by kernel_rfl) (by kernel_rfl) (fun _ _ _ h => h) (by rfl) ?_ (by assumption) ?_
  · intro W' hSw
    obtain ⟨hz0, hz1, hz2, hz3⟩ := hSw
    simp only [sideB]
    go_simp
  simp only [Act.put, List.setIfInBounds_toArray, List.set_cons_zero, List.set_cons_succ]
  cases hg : decide (t0 = 0)
  · rw [hg] at HZ0 HD
    refine take_yes (i := 5) (some 11) (.bool true) rfl rfl (by kernel_rfl) (by kernel_rfl) (by kernel_rfl) (fun _ _ _ h => h) (by rfl) ?_ (by assumption) ?_
    · intro W' hSw
      obtain ⟨hz0, hz1, hz2, hz3⟩ := hSw
      go_simp
    simp only [Act.put, List.setIfInBounds_toArray, List.set_cons_zero, List.set_cons_succ]
    refine take_yes (i := 6) (some 12) (.bool true) rfl rfl (by kernel_rfl) (by kernel_rfl) (by kernel_rfl) (fun _ _ _ h => h) (by rfl) ?_ (by assumption) ?_
    · intro W' hSw
      obtain ⟨hz0, hz1, hz2, hz3⟩ := hSw
      go_simp
    simp only [Act.put, List.setIfInBounds_toArray, List.set_cons_zero, List.set_cons_succ]
    refine take_yes (i := 7) (some 13) (.func (.func 71) #[] #[]) rfl rfl (by kernel_rfl) (by kernel_rfl) (by kernel_rfl) (fun _ _ _ h => h) (by rfl) ?_ (by assumption) ?_
    · intro W' hSw
      obtain ⟨hz0, hz1, hz2, hz3⟩ := hSw
      have hc := cell_of_row W' _ 0 _ _ _ hz2
      simp at hc
      go_simp
    simp only [Act.put, List.setIfInBounds_toArray, List.set_cons_zero, List.set_cons_succ]
    refine take_yes (i := 8) (some 14) (.agg #[.int .u16 (s0 : Int), .int .u16 (s1 : Int), .int .u16 (s2 : Int)]) rfl rfl (by kernel_rfl) (by kernel_rfl) (by kernel_rfl) (fun _ _ _ h => h) (by rfl) ?_ (by assumption) ?_
    · intro W' hSw
      obtain ⟨hz0, hz1, hz2, hz3⟩ := hSw
      exact exec_load_rowA 86 _ rfl _ rfl 86 _ _ _ hz3 Try.underlying86 rfl Try.size86
    simp only [Act.put, List.setIfInBounds_toArray, List.set_cons_zero, List.set_cons_succ]
    refine take_yes (i := 10) (some 16) (.int .u16 (st : Int)) rfl rfl (by kernel_rfl) (by kernel_rfl) (by kernel_rfl) (fun _ _ _ h => h) (by rfl) ?_ (by assumption) ?_
    · intro W' hSw
      obtain ⟨hz0, hz1, hz2, hz3⟩ := hSw
      have hc := cell_of_row W' _ 0 _ _ _ hz1
      simp at hc
      go_simp
    simp only [Act.put, List.setIfInBounds_toArray, List.set_cons_zero, List.set_cons_succ]
    refine callv_next (i := 9) (some 15) rfl rfl (by kernel_rfl) (by rfl) 13 71 _ _ _ rfl rfl Try.func71 (by decide) rfl #[.agg #[.int .u16 (s0 : Int), .int .u16 (s1 : Int), .int .u16 (s2 : Int)]] (mapw1 _ _ _ rfl) _ (behindA_any s0 s1 s2 w2) ?_
    rintro e w3 ⟨rfl, hb3⟩
    have hA3 := hb3
    have HB3 := hide (HB2.out.trans (hb3.mono HB2.out.size))
    have hS3 : (fun W : World => W.heap[bn]? = some (.cells #[.func (.func 72) #[] #[]] 95 (0, 0)) ∧ W.heap[bs]? = some (.cells #[.int .u16 (st : Int)] 65 (0, 0)) ∧ W.heap[bf]? = some (.cells #[.func (.func 71) #[] #[]] 95 (0, 0)) ∧ W.heap[z]? = some (.cells #[.int .u16 (s0 : Int), .int .u16 (s1 : Int), .int .u16 (s2 : Int)] 86 (0, 0))) w3 := ⟨keep hS2.1 hb3, keep hS2.2.1 hb3, keep hS2.2.2.1 hb3, keep hS2.2.2.2 hb3⟩
    refine ⟨_, rfl, hS3, fun _ => ?_⟩
    simp only [Act.put, List.setIfInBounds_toArray, List.set_cons_zero, List.set_cons_succ]
    refine take_yes (i := 11) (some 17) (.int .u16 (t1 : Int)) rfl rfl (by kernel_rfl) (by kernel_rfl) (by kernel_rfl) (fun _ _ _ h => h) (by rfl) ?_ (by assumption) ?_
    · intro W' hSw
      obtain ⟨hz0, hz1, hz2, hz3⟩ := hSw
      simp only [sideB]
      go_simp
    simp only [Act.put, List.setIfInBounds_toArray, List.set_cons_zero, List.set_cons_succ]
    refine take_yes (i := 12) (some 18) (.bool (decide (t1 = 0))) rfl rfl (by kernel_rfl) (by kernel_rfl) (by kernel_rfl) (fun _ _ _ h => h) (by rfl) ?_ (by assumption) ?_
    · intro W' hSw
      obtain ⟨hz0, hz1, hz2, hz3⟩ := hSw
      go_simp
    simp only [Act.put, List.setIfInBounds_toArray, List.set_cons_zero, List.set_cons_succ]
    refine take_yes (i := 13) (some 19) (.bool (decide (t1 = 0))) rfl rfl (by kernel_rfl) (by kernel_rfl) (by kernel_rfl) (fun _ _ _ h => h) (by rfl) ?_ (by assumption) ?_
    · intro W' hSw
      obtain ⟨hz0, hz1, hz2, hz3⟩ := hSw
      go_simp
    simp only [Act.put, List.setIfInBounds_toArray, List.set_cons_zero, List.set_cons_succ]
    refine take_yes (i := 14) (some 5) (.bool (decide (t1 = 0))) rfl rfl (by kernel_rfl) (by kernel_rfl) (by kernel_rfl) (fun _ _ _ h => h) (by rfl) ?_ (by assumption) ?_
    · intro W' hSw
      obtain ⟨hz0, hz1, hz2, hz3⟩ := hSw
      go_simp
    simp only [Act.put, List.setIfInBounds_toArray, List.set_cons_zero, List.set_cons_succ]
    refine wpAnyH_done (by kernel_rfl) ?_ _
    go_wp2_with fail
    go_ret
    exact ⟨ret_bool (by rw [HD.out]; rfl), by rw [← hz.out] at *; exact HB3.out⟩
  · rw [hg] at HZ0 HD
    refine take_yes (i := 5) (some 11) (.bool false) rfl rfl (by kernel_rfl) (by kernel_rfl) (by kernel_rfl) (fun _ _ _ h => h) (by rfl) ?_ (by assumption) ?_
    · intro W' hSw
      obtain ⟨hz0, hz1, hz2, hz3⟩ := hSw
      go_simp
    simp only [Act.put, List.setIfInBounds_toArray, List.set_cons_zero, List.set_cons_succ]
    refine take_yes (i := 6) (some 12) (.bool false) rfl rfl (by kernel_rfl) (by kernel_rfl) (by kernel_rfl) (fun _ _ _ h => h) (by rfl) ?_ (by assumption) ?_
    · intro W' hSw
      obtain ⟨hz0, hz1, hz2, hz3⟩ := hSw
      go_simp
    simp only [Act.put, List.setIfInBounds_toArray, List.set_cons_zero, List.set_cons_succ]
    refine take_no (i := 7) (some 13) rfl rfl (by kernel_rfl) (by kernel_rfl) (by kernel_rfl) (fun _ _ _ h => h) (by rfl) (by assumption) ?_
    simp only [Act.put, List.setIfInBounds_toArray, List.set_cons_zero, List.set_cons_succ]
    refine take_no (i := 8) (some 14) rfl rfl (by kernel_rfl) (by kernel_rfl) (by kernel_rfl) (fun _ _ _ h => h) (by rfl) (by assumption) ?_
    simp only [Act.put, List.setIfInBounds_toArray, List.set_cons_zero, List.set_cons_succ]
    refine take_no (i := 10) (some 16) rfl rfl (by kernel_rfl) (by kernel_rfl) (by kernel_rfl) (fun _ _ _ h => h) (by rfl) (by assumption) ?_
    simp only [Act.put, List.setIfInBounds_toArray, List.set_cons_zero, List.set_cons_succ]
    refine take_no (i := 9) (some 15) rfl rfl (by kernel_rfl) (by kernel_rfl) (by kernel_rfl) (fun _ _ _ h => h) (by rfl) (by assumption) ?_
    simp only [Act.put, List.setIfInBounds_toArray, List.set_cons_zero, List.set_cons_succ]
    refine take_no (i := 11) (some 17) rfl rfl (by kernel_rfl) (by kernel_rfl) (by kernel_rfl) (fun _ _ _ h => h) (by rfl) (by assumption) ?_
    simp only [Act.put, List.setIfInBounds_toArray, List.set_cons_zero, List.set_cons_succ]
    refine take_no (i := 12) (some 18) rfl rfl (by kernel_rfl) (by kernel_rfl) (by kernel_rfl) (fun _ _ _ h => h) (by rfl) (by assumption) ?_
    simp only [Act.put, List.setIfInBounds_toArray, List.set_cons_zero, List.set_cons_succ]
    refine take_yes (i := 13) (some 19) (.bool false) rfl rfl (by kernel_rfl) (by kernel_rfl) (by kernel_rfl) (fun _ _ _ h => h) (by rfl) ?_ (by assumption) ?_
    · intro W' hSw
      obtain ⟨hz0, hz1, hz2, hz3⟩ := hSw
      go_simp
    simp only [Act.put, List.setIfInBounds_toArray, List.set_cons_zero, List.set_cons_succ]
    refine take_yes (i := 14) (some 5) (.bool false) rfl rfl (by kernel_rfl) (by kernel_rfl) (by kernel_rfl) (fun _ _ _ h => h) (by rfl) ?_ (by assumption) ?_
    · intro W' hSw
      obtain ⟨hz0, hz1, hz2, hz3⟩ := hSw
      go_simp
    simp only [Act.put, List.setIfInBounds_toArray, List.set_cons_zero, List.set_cons_succ]
    refine wpAnyH_done (by kernel_rfl) ?_ _
    go_wp2_with fail
    go_ret
    exact ⟨ret_bool (by rw [HD.out]; rfl), by rw [← hz.out] at *; exact HB2.out⟩
end Go.Proofs.Ytmhgdhkpceggkaa


/- follows, isSiphon and isTrap of the program. -/
namespace Go.Proofs.Ytmhgdhkpceggkaa
open Go.RowKit
set_option maxRecDepth 10000

/-- How the search for a step that slips ends. -/
def SlEnd (b : Bool) (st n : Nat) (L : List (List Int)) (w : World) (e : Ending) (w' : World) : Prop := ∃ z : Int, e = .returned (.int .i64 z) ∧ Hid (decide (0 ≤ z) = slips b st n L) ∧ Below w.heap.size w w'

set_option maxHeartbeats 1000000 in
theorem indexFS_any (B n bn bs bf st : Nat) (L : List (List Int)) (w : World) (h : PartS w B (3 * n) (3 * n) L) (hn : n ≤ 24) (hst : st < 2 ^ 16) (hm : ∀ i, maskL (L.getD i []) < 2 ^ 16)
    (hbn : w.heap[bn]? = some (.cells #[.func (.func 71) #[] #[]] 95 (0, 0))) (hbs : w.heap[bs]? = some (.cells #[.int .u16 (st : Int)] 65 (0, 0))) (hbf : w.heap[bf]? = some (.cells #[.func (.func 72) #[] #[]] 95 (0, 0))) :
    Calls Try.prog 84 #[.slice (some ⟨B, 0, none⟩) n n, .func (.func 86) #[] #[.pointer (some ⟨bn, 0, none⟩), .pointer (some ⟨bs, 0, none⟩), .pointer (some ⟨bf, 0, none⟩)]] w fun e w' => SlEnd true st n L w e w' := by
  have HP := hide h
  have HBN := hide hbn
  have HBS := hide hbs
  have HBF := hide hbf
  clear h hbn hbs hbf
  go_enter Try.func84, Try.ntmps84
  go_wp2_with fail
  go_loopw [8] (fun i wr => ∃ k : Nat, k ≤ n ∧ i = .int .i64 k ∧ Hid (slips true st k L = false) ∧ Hid (Below w.heap.size w wr)) (fun i _ => n - (intOf i).toNat)
  case atStart => exact ⟨0, Nat.zero_le _, rfl, rfl, Below.refl _ _⟩
  case round =>
    obtain ⟨k, hk, rfl, hu, hbw⟩ := hrel
    by_cases hlt : k < n
    rotate_left
    · have hk' : k = n := by omega
      subst hk'
      have HE : Hid (SlEnd true st k L w (.returned (.int .i64 (-1))) wr) := ⟨-1, rfl, by rw [hu.out]; rfl, hbw.out⟩
      go_wp2_with fail
      go_ret
      exact HE.out
    obtain ⟨hc0, hc1, hc2⟩ := (HP.out.grow hbw.out).at3 hlt
    have HH := hide (slip1S_any (maskL (L.getD (3 * k) [])) (maskL (L.getD (3 * k + 1) [])) (maskL (L.getD (3 * k + 2) [])) st bn bs bf wr (hm _) (hm _) hst (keep HBN.out hbw.out) (keep HBS.out hbw.out) (keep HBF.out hbw.out))
    have HHE : Hid (slipB true (maskL (L.getD (3 * k) [])) (maskL (L.getD (3 * k + 1) [])) st = slipAt true st k L) := rfl
    rw [HHE.out] at HH
    cases hh : slipAt true st k L
    · have HU := hide (slips_step hu.out hh)
      rw [hh] at HH
      clear hh hu HHE
      clear hm
      generalize maskL (L.getD (3 * k) []) = s0 at *
      generalize maskL (L.getD (3 * k + 1) []) = s1 at *
      generalize maskL (L.getD (3 * k + 2) []) = s2 at *
      go_wp2_with fail
      refine HH.out.mono ?_
      rintro e w1 ⟨rfl, hb⟩
      have HB := hide (hbw.out.trans (hb.mono hbw.out.size))
      clear hb HH hc0 hc1 hc2
      go_wp2_with fail
      go_roundw
      case rel => exact ⟨k + 1, by omega, by go_num, HU, HB⟩
      case measure => simp [intOf]; omega
    · have HY := hide (slips_yes hlt hh)
      rw [hh] at HH
      clear hh hu HHE
      clear hm
      generalize maskL (L.getD (3 * k) []) = s0 at *
      generalize maskL (L.getD (3 * k + 1) []) = s1 at *
      generalize maskL (L.getD (3 * k + 2) []) = s2 at *
      go_wp2_with fail
      refine HH.out.mono ?_
      rintro e w1 ⟨rfl, hb⟩
      have HE : Hid (SlEnd true st n L w (.returned (.int .i64 (k : Int))) w1) := ⟨k, rfl, by rw [HY.out]; simp [Hid], hbw.out.trans (hb.mono hbw.out.size)⟩
      clear hb HH hc0 hc1 hc2 HY
      go_wp2_with fail
      go_ret
      exact HE.out

set_option maxHeartbeats 400000 in
theorem containsFS_any (B n bn bs bf st : Nat) (L : List (List Int)) (w : World) (h : PartS w B (3 * n) (3 * n) L) (hn : n ≤ 24) (hst : st < 2 ^ 16) (hm : ∀ i, maskL (L.getD i []) < 2 ^ 16)
    (hbn : w.heap[bn]? = some (.cells #[.func (.func 71) #[] #[]] 95 (0, 0))) (hbs : w.heap[bs]? = some (.cells #[.int .u16 (st : Int)] 65 (0, 0))) (hbf : w.heap[bf]? = some (.cells #[.func (.func 72) #[] #[]] 95 (0, 0))) :
    Calls Try.prog 66 #[.slice (some ⟨B, 0, none⟩) n n, .func (.func 86) #[] #[.pointer (some ⟨bn, 0, none⟩), .pointer (some ⟨bs, 0, none⟩), .pointer (some ⟨bf, 0, none⟩)]] w fun e w' => e = .returned (.bool (slips true st n L)) ∧ Below w.heap.size w w' := by
  have HI := hide (indexFS_any B n bn bs bf st L w h hn hst hm hbn hbs hbf)
  clear h hm hbn hbs hbf
  go_enter Try.func66, Try.ntmps66
  go_wp2_with fail
  refine HI.out.mono ?_
  rintro e w1 ⟨z, rfl, hz, hb⟩
  have HB := hide hb
  clear hb HI
  go_wp2_with fail
  go_ret
  exact ⟨ret_bool hz.out, HB.out⟩

set_option maxHeartbeats 1000000 in
theorem followsS_any (p : Int) (B n st : Nat) (L : List (List Int)) (w : World) (h : PartS w B (3 * n) (3 * n) L) (hn : n ≤ 24) (hst : st < 2 ^ 16) (hm : ∀ i, maskL (L.getD i []) < 2 ^ 16) :
    Calls Try.prog 70 #[.agg #[.int .i64 p, .slice (some ⟨B, 0, none⟩) n n], .int .u16 (st : Int), .func (.func 71) #[] #[], .func (.func 72) #[] #[]] w fun e w' => e = .returned (.bool (!slips true st n L)) ∧ Below w.heap.size w w' := by
  have hA0 := below_al w (.cells #[.int .i64 p, .slice (some ⟨B, 0, none⟩) n n] 55)
  have hv0 := heap_alloc_new w (.cells #[.int .i64 p, .slice (some ⟨B, 0, none⟩) n n] 55)
  obtain ⟨w1, hw1⟩ : ∃ x, w.alloc (.cells #[.int .i64 p, .slice (some ⟨B, 0, none⟩) n n] 55) = x := ⟨_, rfl⟩
  rw [hw1] at hA0 hv0
  have hz1 : w1.heap.size = w.heap.size + 1 := by rw [← hw1]; simp
  have hA1 := below_al w1 (.cells #[.int .u16 (st : Int)] 65)
  have hv1 := heap_alloc_new w1 (.cells #[.int .u16 (st : Int)] 65)
  obtain ⟨w2, hw2⟩ : ∃ x, w1.alloc (.cells #[.int .u16 (st : Int)] 65) = x := ⟨_, rfl⟩
  rw [hw2] at hA1 hv1
  have hz2 : w2.heap.size = w.heap.size + 2 := by rw [← hw2]; simp; omega
  have hA2 := below_al w2 (.cells #[.func (.func 71) #[] #[]] 95)
  have hv2 := heap_alloc_new w2 (.cells #[.func (.func 71) #[] #[]] 95)
  obtain ⟨w3, hw3⟩ : ∃ x, w2.alloc (.cells #[.func (.func 71) #[] #[]] 95) = x := ⟨_, rfl⟩
  rw [hw3] at hA2 hv2
  have hz3 : w3.heap.size = w.heap.size + 3 := by rw [← hw3]; simp; omega
  have hA3 := below_al w3 (.cells #[.func (.func 72) #[] #[]] 95)
  have hv3 := heap_alloc_new w3 (.cells #[.func (.func 72) #[] #[]] 95)
  obtain ⟨w4, hw4⟩ : ∃ x, w3.alloc (.cells #[.func (.func 72) #[] #[]] 95) = x := ⟨_, rfl⟩
  rw [hw4] at hA3 hv3
  have hb01 := hA0.trans (hA1.mono hA0.size)
  have hb02 := hb01.trans (hA2.mono hb01.size)
  have HB := hide (hb02.trans (hA3.mono hb02.size))
  have HV0 := hide (keep (keep (keep hv0 hA1) hA2) hA3)
  have HC := hide (containsFS_any B n w2.heap.size w1.heap.size w3.heap.size st L w4 (h.grow HB.out) hn hst hm (keep hv2 hA3) (keep (keep hv1 hA2) hA3) hv3)
  obtain ⟨hc0, hc1⟩ := cells2 HV0.out
  have hlt := row_lt HV0.out
  have hmf : ∀ (fn : Fn) (first cap : Array Value) (w : World), (Instr.makeFunc fn first cap).run Try.prog w = .ok (.func fn first cap) w := fun _ _ _ _ => rfl
  clear hA0 hA1 hA2 hA3 hv0 hv1 hv2 hv3 hb01 hb02 h hm HV0 hz1 hz2 hz3
  go_enter Try.func70, Try.ntmps70
  go_wp2_with fail
  refine HC.out.mono ?_
  rintro e w5 ⟨rfl, hb⟩
  have HB5 := hide (HB.out.trans (hb.mono HB.out.size))
  obtain ⟨r, hr⟩ : ∃ r, Hid (slips true st n L = r) := ⟨_, rfl⟩
  rw [hr.out]
  clear hb HC HB hc0 hc1
  go_wp2_with fail
  go_ret
  exact ⟨ret_bool (by rw [hr.out]), HB5.out⟩

set_option maxHeartbeats 1000000 in
theorem isSiphonP_any (p : Int) (B n st : Nat) (L : List (List Int)) (w : World) (h : PartS w B (3 * n) (3 * n) L) (hn : n ≤ 24) (hst : st < 2 ^ 16) (hm : ∀ i, maskL (L.getD i []) < 2 ^ 16) :
    Calls Try.prog 45 #[.agg #[.int .i64 p, .slice (some ⟨B, 0, none⟩) n n], .int .u16 (st : Int)] w fun e w' => e = .returned (.bool (!slips true st n L)) ∧ Below w.heap.size w w' := by
  have hA := below_al w (.cells #[.int .i64 p, .slice (some ⟨B, 0, none⟩) n n] 55)
  have HB := hide hA
  have HC := hide (followsS_any p B n st L _ (h.grow hA) hn hst hm)
  clear h hA hm
  go_enter Try.func45, Try.ntmps45
  go_wp2_with fail
  refine HC.out.mono ?_
  rintro e w5 ⟨rfl, hb⟩
  have HB5 := hide (HB.out.trans (hb.mono HB.out.size))
  obtain ⟨r, hr⟩ : ∃ r, Hid (slips true st n L = r) := ⟨_, rfl⟩
  rw [hr.out]
  clear hb HC HB
  go_wp2_with fail
  go_ret
  exact ⟨ret_bool (by rw [hr.out]), HB5.out⟩


set_option maxHeartbeats 1000000 in
theorem indexFT_any (B n bn bs bf st : Nat) (L : List (List Int)) (w : World) (h : PartS w B (3 * n) (3 * n) L) (hn : n ≤ 24) (hst : st < 2 ^ 16) (hm : ∀ i, maskL (L.getD i []) < 2 ^ 16)
    (hbn : w.heap[bn]? = some (.cells #[.func (.func 72) #[] #[]] 95 (0, 0))) (hbs : w.heap[bs]? = some (.cells #[.int .u16 (st : Int)] 65 (0, 0))) (hbf : w.heap[bf]? = some (.cells #[.func (.func 71) #[] #[]] 95 (0, 0))) :
    Calls Try.prog 84 #[.slice (some ⟨B, 0, none⟩) n n, .func (.func 86) #[] #[.pointer (some ⟨bn, 0, none⟩), .pointer (some ⟨bs, 0, none⟩), .pointer (some ⟨bf, 0, none⟩)]] w fun e w' => SlEnd false st n L w e w' := by
  have HP := hide h
  have HBN := hide hbn
  have HBS := hide hbs
  have HBF := hide hbf
  clear h hbn hbs hbf
  go_enter Try.func84, Try.ntmps84
  go_wp2_with fail
  go_loopw [8] (fun i wr => ∃ k : Nat, k ≤ n ∧ i = .int .i64 k ∧ Hid (slips false st k L = false) ∧ Hid (Below w.heap.size w wr)) (fun i _ => n - (intOf i).toNat)
  case atStart => exact ⟨0, Nat.zero_le _, rfl, rfl, Below.refl _ _⟩
  case round =>
    obtain ⟨k, hk, rfl, hu, hbw⟩ := hrel
    by_cases hlt : k < n
    rotate_left
    · have hk' : k = n := by omega
      subst hk'
      have HE : Hid (SlEnd false st k L w (.returned (.int .i64 (-1))) wr) := ⟨-1, rfl, by rw [hu.out]; rfl, hbw.out⟩
      go_wp2_with fail
      go_ret
      exact HE.out
    obtain ⟨hc0, hc1, hc2⟩ := (HP.out.grow hbw.out).at3 hlt
    have HH := hide (slip1T_any (maskL (L.getD (3 * k) [])) (maskL (L.getD (3 * k + 1) [])) (maskL (L.getD (3 * k + 2) [])) st bn bs bf wr (hm _) (hm _) hst (keep HBN.out hbw.out) (keep HBS.out hbw.out) (keep HBF.out hbw.out))
    have HHE : Hid (slipB false (maskL (L.getD (3 * k) [])) (maskL (L.getD (3 * k + 1) [])) st = slipAt false st k L) := rfl
    rw [HHE.out] at HH
    cases hh : slipAt false st k L
    · have HU := hide (slips_step hu.out hh)
      rw [hh] at HH
      clear hh hu HHE
      clear hm
      generalize maskL (L.getD (3 * k) []) = s0 at *
      generalize maskL (L.getD (3 * k + 1) []) = s1 at *
      generalize maskL (L.getD (3 * k + 2) []) = s2 at *
      go_wp2_with fail
      refine HH.out.mono ?_
      rintro e w1 ⟨rfl, hb⟩
      have HB := hide (hbw.out.trans (hb.mono hbw.out.size))
      clear hb HH hc0 hc1 hc2
      go_wp2_with fail
      go_roundw
      case rel => exact ⟨k + 1, by omega, by go_num, HU, HB⟩
      case measure => simp [intOf]; omega
    · have HY := hide (slips_yes hlt hh)
      rw [hh] at HH
      clear hh hu HHE
      clear hm
      generalize maskL (L.getD (3 * k) []) = s0 at *
      generalize maskL (L.getD (3 * k + 1) []) = s1 at *
      generalize maskL (L.getD (3 * k + 2) []) = s2 at *
      go_wp2_with fail
      refine HH.out.mono ?_
      rintro e w1 ⟨rfl, hb⟩
      have HE : Hid (SlEnd false st n L w (.returned (.int .i64 (k : Int))) w1) := ⟨k, rfl, by rw [HY.out]; simp [Hid], hbw.out.trans (hb.mono hbw.out.size)⟩
      clear hb HH hc0 hc1 hc2 HY
      go_wp2_with fail
      go_ret
      exact HE.out

set_option maxHeartbeats 400000 in
theorem containsFT_any (B n bn bs bf st : Nat) (L : List (List Int)) (w : World) (h : PartS w B (3 * n) (3 * n) L) (hn : n ≤ 24) (hst : st < 2 ^ 16) (hm : ∀ i, maskL (L.getD i []) < 2 ^ 16)
    (hbn : w.heap[bn]? = some (.cells #[.func (.func 72) #[] #[]] 95 (0, 0))) (hbs : w.heap[bs]? = some (.cells #[.int .u16 (st : Int)] 65 (0, 0))) (hbf : w.heap[bf]? = some (.cells #[.func (.func 71) #[] #[]] 95 (0, 0))) :
    Calls Try.prog 66 #[.slice (some ⟨B, 0, none⟩) n n, .func (.func 86) #[] #[.pointer (some ⟨bn, 0, none⟩), .pointer (some ⟨bs, 0, none⟩), .pointer (some ⟨bf, 0, none⟩)]] w fun e w' => e = .returned (.bool (slips false st n L)) ∧ Below w.heap.size w w' := by
  have HI := hide (indexFT_any B n bn bs bf st L w h hn hst hm hbn hbs hbf)
  clear h hm hbn hbs hbf
  go_enter Try.func66, Try.ntmps66
  go_wp2_with fail
  refine HI.out.mono ?_
  rintro e w1 ⟨z, rfl, hz, hb⟩
  have HB := hide hb
  clear hb HI
  go_wp2_with fail
  go_ret
  exact ⟨ret_bool hz.out, HB.out⟩

set_option maxHeartbeats 1000000 in
theorem followsT_any (p : Int) (B n st : Nat) (L : List (List Int)) (w : World) (h : PartS w B (3 * n) (3 * n) L) (hn : n ≤ 24) (hst : st < 2 ^ 16) (hm : ∀ i, maskL (L.getD i []) < 2 ^ 16) :
    Calls Try.prog 70 #[.agg #[.int .i64 p, .slice (some ⟨B, 0, none⟩) n n], .int .u16 (st : Int), .func (.func 72) #[] #[], .func (.func 71) #[] #[]] w fun e w' => e = .returned (.bool (!slips false st n L)) ∧ Below w.heap.size w w' := by
  have hA0 := below_al w (.cells #[.int .i64 p, .slice (some ⟨B, 0, none⟩) n n] 55)
  have hv0 := heap_alloc_new w (.cells #[.int .i64 p, .slice (some ⟨B, 0, none⟩) n n] 55)
  obtain ⟨w1, hw1⟩ : ∃ x, w.alloc (.cells #[.int .i64 p, .slice (some ⟨B, 0, none⟩) n n] 55) = x := ⟨_, rfl⟩
  rw [hw1] at hA0 hv0
  have hz1 : w1.heap.size = w.heap.size + 1 := by rw [← hw1]; simp
  have hA1 := below_al w1 (.cells #[.int .u16 (st : Int)] 65)
  have hv1 := heap_alloc_new w1 (.cells #[.int .u16 (st : Int)] 65)
  obtain ⟨w2, hw2⟩ : ∃ x, w1.alloc (.cells #[.int .u16 (st : Int)] 65) = x := ⟨_, rfl⟩
  rw [hw2] at hA1 hv1
  have hz2 : w2.heap.size = w.heap.size + 2 := by rw [← hw2]; simp; omega
  have hA2 := below_al w2 (.cells #[.func (.func 72) #[] #[]] 95)
  have hv2 := heap_alloc_new w2 (.cells #[.func (.func 72) #[] #[]] 95)
  obtain ⟨w3, hw3⟩ : ∃ x, w2.alloc (.cells #[.func (.func 72) #[] #[]] 95) = x := ⟨_, rfl⟩
  rw [hw3] at hA2 hv2
  have hz3 : w3.heap.size = w.heap.size + 3 := by rw [← hw3]; simp; omega
  have hA3 := below_al w3 (.cells #[.func (.func 71) #[] #[]] 95)
  have hv3 := heap_alloc_new w3 (.cells #[.func (.func 71) #[] #[]] 95)
  obtain ⟨w4, hw4⟩ : ∃ x, w3.alloc (.cells #[.func (.func 71) #[] #[]] 95) = x := ⟨_, rfl⟩
  rw [hw4] at hA3 hv3
  have hb01 := hA0.trans (hA1.mono hA0.size)
  have hb02 := hb01.trans (hA2.mono hb01.size)
  have HB := hide (hb02.trans (hA3.mono hb02.size))
  have HV0 := hide (keep (keep (keep hv0 hA1) hA2) hA3)
  have HC := hide (containsFT_any B n w2.heap.size w1.heap.size w3.heap.size st L w4 (h.grow HB.out) hn hst hm (keep hv2 hA3) (keep (keep hv1 hA2) hA3) hv3)
  obtain ⟨hc0, hc1⟩ := cells2 HV0.out
  have hlt := row_lt HV0.out
  have hmf : ∀ (fn : Fn) (first cap : Array Value) (w : World), (Instr.makeFunc fn first cap).run Try.prog w = .ok (.func fn first cap) w := fun _ _ _ _ => rfl
  clear hA0 hA1 hA2 hA3 hv0 hv1 hv2 hv3 hb01 hb02 h hm HV0 hz1 hz2 hz3
  go_enter Try.func70, Try.ntmps70
  go_wp2_with fail
  refine HC.out.mono ?_
  rintro e w5 ⟨rfl, hb⟩
  have HB5 := hide (HB.out.trans (hb.mono HB.out.size))
  obtain ⟨r, hr⟩ : ∃ r, Hid (slips false st n L = r) := ⟨_, rfl⟩
  rw [hr.out]
  clear hb HC HB hc0 hc1
  go_wp2_with fail
  go_ret
  exact ⟨ret_bool (by rw [hr.out]), HB5.out⟩

set_option maxHeartbeats 1000000 in
theorem isTrapP_any (p : Int) (B n st : Nat) (L : List (List Int)) (w : World) (h : PartS w B (3 * n) (3 * n) L) (hn : n ≤ 24) (hst : st < 2 ^ 16) (hm : ∀ i, maskL (L.getD i []) < 2 ^ 16) :
    Calls Try.prog 47 #[.agg #[.int .i64 p, .slice (some ⟨B, 0, none⟩) n n], .int .u16 (st : Int)] w fun e w' => e = .returned (.bool (!slips false st n L)) ∧ Below w.heap.size w w' := by
  have hA := below_al w (.cells #[.int .i64 p, .slice (some ⟨B, 0, none⟩) n n] 55)
  have HB := hide hA
  have HC := hide (followsT_any p B n st L _ (h.grow hA) hn hst hm)
  clear h hA hm
  go_enter Try.func47, Try.ntmps47
  go_wp2_with fail
  refine HC.out.mono ?_
  rintro e w5 ⟨rfl, hb⟩
  have HB5 := hide (HB.out.trans (hb.mono HB.out.size))
  obtain ⟨r, hr⟩ : ∃ r, Hid (slips false st n L = r) := ⟨_, rfl⟩
  rw [hr.out]
  clear hb HC HB
  go_wp2_with fail
  go_ret
  exact ⟨ret_bool (by rw [hr.out]), HB5.out⟩

end Go.Proofs.Ytmhgdhkpceggkaa
