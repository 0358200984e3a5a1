/- Contracts that the proof stands on, one behind the other. -/
import Derived.Test.YtdhnhpjcoeglmaaP4
/- The program's fire and Fire, for every net, mark and number in memory. -/
namespace Go.Proofs.Ytdhnhpjcoeglmaa
open Go.RowKit
set_option maxRecDepth 10000

/-- Whether a step of the net fires, by sets. -/
def fireB (n : Nat) (L : List (List Int)) (f : Nat → Int) (t : Int) : Bool :=
  inB t 0 ((n : Int) - 1) && subB (maskL (inOf L t)) (maskL (posL f 16)) && capB (maskL (inOf L t)) (maskL (outOf L t)) (maskL (resOf L t)) f 16

/-- How fire ends. -/
def FiEnd (n : Nat) (L : List (List Int)) (f : Nat → Int) (t : Int) (w : World) (e : Ending) (w' : World) : Prop :=
  ∃ h, e = .returned (.tuple #[.agg (tokF h), .bool (fireB n L f t)]) ∧ Hid (fireB n L f t = true → h = partF (maskL (inOf L t)) (maskL (outOf L t)) (maskL (resOf L t)) f 16) ∧ Below w.heap.size w w'

theorem fiEnd_no {n : Nat} {L : List (List Int)} {f : Nat → Int} {t : Int} {w w' : World} (h : fireB n L f t = false) (hb : Below w.heap.size w w') : FiEnd n L f t w (.returned (.tuple #[.agg #[.int .u8 0, .int .u8 0, .int .u8 0, .int .u8 0, .int .u8 0, .int .u8 0, .int .u8 0, .int .u8 0, .int .u8 0, .int .u8 0, .int .u8 0, .int .u8 0, .int .u8 0, .int .u8 0, .int .u8 0, .int .u8 0], .bool false])) w' :=
  ⟨fun _ => 0, by rw [h, zeros_tok], by rw [h]; intro e; simp at e, hb⟩

theorem PartS.at' {w : World} {B n k : Nat} {L : List (List Int)} (h : PartS w B (3 * n) (3 * n) L) (hk : k < n) :
    w.cell? ⟨B, k * 3, none⟩ = some (.int .u16 (maskL (L.getD (3 * k) []) : Int)) ∧ w.cell? ⟨B, k * 3 + 1, none⟩ = some (.int .u16 (maskL (L.getD (3 * k + 1) []) : Int)) ∧ w.cell? ⟨B, k * 3 + 2, none⟩ = some (.int .u16 (maskL (L.getD (3 * k + 2) []) : Int)) := by
  obtain ⟨C, h1, h2, h3⟩ := h
  refine ⟨?_, ?_, ?_⟩
  · rw [cell_of_row w B _ C _ _ h1, Nat.mul_comm]; exact h3 _ (by omega)
  · rw [cell_of_row w B _ C _ _ h1, Nat.mul_comm]; exact h3 _ (by omega)
  · rw [cell_of_row w B _ C _ _ h1, Nat.mul_comm]; exact h3 _ (by omega)

theorem mask16' {p : Int} {xs : List Int} (h : riseB xs 0 (p - 1) = true) (hp : 1 ≤ p ∧ p ≤ 16) : maskL xs < 2 ^ 16 := by
  refine maskL_lt _ fun x hx => ?_
  have := riseB_mem h x hx
  omega

theorem run_callf {P : Program} {o : Oper} {a : Act} {w : World} (f : FuncId) (fn : Func) (xs : Array Operand) (ts : Array TypeId) (hop : o.op = Op.call { callee := Callee.value (Operand.func f), args := xs, argTypes := ts })
    (hfn : P.funcs[f]? = some fn) (hnm : (fn.name == "runtime.NumGoroutine") = false) (hbd : fn.body.isNone = false) : (execOp a.eval o).run P w = .ok (.enter f (xs.map a.eval)) w := by
  have hnm' : ¬ fn.name = "runtime.NumGoroutine" := by simpa using hnm
  have hbd' : ¬ fn.body = none := by intro e; rw [e] at hbd; simp at hbd
  unfold execOp
  simp only [hop]
  simp [resolve, invoke, go_sem, Act.eval, callFunc, hfn, hnm', hbd']

theorem map1 (g : Operand → Value) (x : Operand) (v : Value) (h : g x = v) : (#[x] : Array Operand).map g = #[v] := by simp [h]
theorem map2 (g : Operand → Value) (x y : Operand) (v u : Value) (h : g x = v) (h2 : g y = u) : (#[x, y] : Array Operand).map g = #[v, u] := by simp [h, h2]

theorem cons_call {P : Program} {md : Region.Mode} {ops : Array Oper} {Q : Exit → Act → World → Prop} {fuel : Nat} {listed : Array Bool} {a : Act} {w : World} {i : Nat} {o : Oper} {rs : List Nat} (ho : ops[i]? = some o)
    (hgd : o.guard = none) (d : Option Tmp) (hd : o.dst = d) (f : FuncId) (fn : Func) (xs : Array Operand) (ts : Array TypeId) (hop : o.op = Op.call { callee := Callee.value (Operand.func f), args := xs, argTypes := ts })
    (hfn : P.funcs[f]? = some fn) (hnm : (fn.name == "runtime.NumGoroutine") = false) (hbd : fn.body.isNone = false) (args : Array Value) (hargs : xs.map a.eval = args) (v : Value) (w' : World) (hc : Calls P f args w fun e w'' => e = .returned v ∧ w'' = w')
    (h : wpAny P md ops Q fuel (listed.setIfInBounds i true) (a.put d v) w')
    (hs : AllReady P md ops Q fuel listed a w rs) : AllReady P md ops Q fuel listed a w (i :: rs) := by
  refine AllReady.cons ho (fun K hK => ?_) hs
  rw [if_pos (by simp [Region.wanted, hgd])]
  unfold Oper.wp
  rw [run_callf f fn xs ts hop hfn hnm hbd, hargs, Oper.upon_enter]
  refine hc.mono fun e w'' hh => ?_
  obtain ⟨rfl, rfl⟩ := hh
  refine hK _ _ ?_
  rw [hd]
  exact h

theorem cons_not {P : Program} {md : Region.Mode} {ops : Array Oper} {Q : Exit → Act → World → Prop} {fuel : Nat} {listed : Array Bool} {a : Act} {w : World} {i : Nat} {o : Oper} {rs : List Nat} (ho : ops[i]? = some o)
    (hgd : o.guard = none) (d : Option Tmp) (hd : o.dst = d) (ty : TypeId) (x : Operand) (hop : o.op = .unOp .not ty x) (b : Bool) (hx : a.eval x = .bool b)
    (h : wpAny P md ops Q fuel (listed.setIfInBounds i true) (a.put d (.bool (!b))) w)
    (hs : AllReady P md ops Q fuel listed a w rs) : AllReady P md ops Q fuel listed a w (i :: rs) := by
  refine AllReady.cons ho (fun K hK => ?_) hs
  rw [if_pos (by simp [Region.wanted, hgd])]
  unfold Oper.wp
  have hr : (execOp a.eval o).run P w = .ok (.value (.bool (!b))) w := by
    unfold execOp
    simp only [hop, hx]
    rfl
  rw [hr, Oper.upon_value]
  refine hK _ _ ?_
  rw [hd]
  exact h

set_option maxHeartbeats 400000 in
theorem lacks_any (p t : Int) (a : Option Addr) (n c : Nat) (w : World) :
    Calls Try.prog 97 #[.agg #[.int .i64 p, .slice a n c], .int .i64 t] w fun e w' => e = .returned (.bool (!inB t 0 ((n : Int) - 1))) ∧ w' = w.alloc (.cells #[.int .i64 p, .slice a n c] 82) := by
  by_cases h0 : t < 0
  · have HB := hide (show (!inB t 0 ((n : Int) - 1)) = true by simp [inB]; omega)
    go_enter Try.func97, Try.ntmps97
    go_wp2_with fail
    go_ret
    exact ⟨ret_bool HB.out.symm, rfl⟩
  by_cases h1 : (n : Int) ≤ t
  · have HB := hide (show (!inB t 0 ((n : Int) - 1)) = true by simp [inB]; omega)
    go_enter Try.func97, Try.ntmps97
    go_wp2_with fail
    go_ret
    exact ⟨ret_bool HB.out.symm, rfl⟩
  · have HB := hide (show (!inB t 0 ((n : Int) - 1)) = false by simp [inB]; omega)
    go_enter Try.func97, Try.ntmps97
    go_wp2_with fail
    go_ret
    exact ⟨ret_bool HB.out.symm, rfl⟩

set_option maxHeartbeats 2000000 in
theorem fireI_any (p t : Int) (B n c : Nat) (L : List (List Int)) (f : Nat → Int) (w : World) (hps : PartS w B (3 * n) (3 * n) L) (hnet : netOk p n L = true) (hp : 1 ≤ p ∧ p ≤ 16) (hf : ∀ i, 0 ≤ f i ∧ f i ≤ 50) :
    Calls Try.prog 69 #[.agg #[.int .i64 p, .slice (some ⟨B, 0, none⟩) n c], .agg (tokF f), .int .i64 t] w fun e w' => FiEnd n L f t w e w' := by
  have hn24 := netOkN hnet
  have HF := hide hf
  have HPS := hide hps
  have HNET := hide hnet
  clear hf hps hnet
  have hAl := ((below_al w (.cells #[.int .i64 p, .slice (some ⟨B, 0, none⟩) n c] 82)).alloc (by simp) (.cells (tokF f) 93)).alloc (by simp; omega) (.cells #[.int .u8 0, .int .u8 0, .int .u8 0, .int .u8 0, .int .u8 0, .int .u8 0, .int .u8 0, .int .u8 0, .int .u8 0, .int .u8 0, .int .u8 0, .int .u8 0, .int .u8 0, .int .u8 0, .int .u8 0, .int .u8 0] 93)
  have P0 : ((((w.alloc (.cells #[.int .i64 p, .slice (some ⟨B, 0, none⟩) n c] 82)).alloc (.cells (tokF f) 93)).alloc (.cells #[.int .u8 0, .int .u8 0, .int .u8 0, .int .u8 0, .int .u8 0, .int .u8 0, .int .u8 0, .int .u8 0, .int .u8 0, .int .u8 0, .int .u8 0, .int .u8 0, .int .u8 0, .int .u8 0, .int .u8 0, .int .u8 0] 93))).heap[w.heap.size]? = some (.cells #[.int .i64 p, .slice (some ⟨B, 0, none⟩) n c] 82 (0, 0)) := by
    rw [heap_al_old _ _ _ (by simp; omega), heap_al_old _ _ _ (by simp)]; exact heap_alloc_new _ _
  have P1 : ((((w.alloc (.cells #[.int .i64 p, .slice (some ⟨B, 0, none⟩) n c] 82)).alloc (.cells (tokF f) 93)).alloc (.cells #[.int .u8 0, .int .u8 0, .int .u8 0, .int .u8 0, .int .u8 0, .int .u8 0, .int .u8 0, .int .u8 0, .int .u8 0, .int .u8 0, .int .u8 0, .int .u8 0, .int .u8 0, .int .u8 0, .int .u8 0, .int .u8 0] 93))).heap[w.heap.size + 1]? = some (.cells (tokF f) 93 (0, 0)) := by
    rw [heap_al_old _ _ _ (by simp)]
    have := heap_alloc_new (w.alloc (.cells #[.int .i64 p, .slice (some ⟨B, 0, none⟩) n c] 82)) (.cells (tokF f) 93)
    simpa using this
  have P2 : ((((w.alloc (.cells #[.int .i64 p, .slice (some ⟨B, 0, none⟩) n c] 82)).alloc (.cells (tokF f) 93)).alloc (.cells #[.int .u8 0, .int .u8 0, .int .u8 0, .int .u8 0, .int .u8 0, .int .u8 0, .int .u8 0, .int .u8 0, .int .u8 0, .int .u8 0, .int .u8 0, .int .u8 0, .int .u8 0, .int .u8 0, .int .u8 0, .int .u8 0] 93))).heap[w.heap.size + 1 + 1]? = some (.cells #[.int .u8 0, .int .u8 0, .int .u8 0, .int .u8 0, .int .u8 0, .int .u8 0, .int .u8 0, .int .u8 0, .int .u8 0, .int .u8 0, .int .u8 0, .int .u8 0, .int .u8 0, .int .u8 0, .int .u8 0, .int .u8 0] 93 (0, 0)) := by
    have := heap_alloc_new ((w.alloc (.cells #[.int .i64 p, .slice (some ⟨B, 0, none⟩) n c] 82)).alloc (.cells (tokF f) 93)) (.cells #[.int .u8 0, .int .u8 0, .int .u8 0, .int .u8 0, .int .u8 0, .int .u8 0, .int .u8 0, .int .u8 0, .int .u8 0, .int .u8 0, .int .u8 0, .int .u8 0, .int .u8 0, .int .u8 0, .int .u8 0, .int .u8 0] 93)
    simpa using this
  have hA0 := below_al (((w.alloc (.cells #[.int .i64 p, .slice (some ⟨B, 0, none⟩) n c] 82)).alloc (.cells (tokF f) 93)).alloc (.cells #[.int .u8 0, .int .u8 0, .int .u8 0, .int .u8 0, .int .u8 0, .int .u8 0, .int .u8 0, .int .u8 0, .int .u8 0, .int .u8 0, .int .u8 0, .int .u8 0, .int .u8 0, .int .u8 0, .int .u8 0, .int .u8 0] 93)) (.cells #[.int .i64 p, .slice (some ⟨B, 0, none⟩) n c] 82)
  have P0' := keep P0 hA0
  have P1' := keep P1 hA0
  have P2' := keep P2 hA0
  have hsz : (((((w.alloc (.cells #[.int .i64 p, .slice (some ⟨B, 0, none⟩) n c] 82)).alloc (.cells (tokF f) 93)).alloc (.cells #[.int .u8 0, .int .u8 0, .int .u8 0, .int .u8 0, .int .u8 0, .int .u8 0, .int .u8 0, .int .u8 0, .int .u8 0, .int .u8 0, .int .u8 0, .int .u8 0, .int .u8 0, .int .u8 0, .int .u8 0, .int .u8 0] 93))).alloc (.cells #[.int .i64 p, .slice (some ⟨B, 0, none⟩) n c] 82)).heap.size = w.heap.size + 1 + 1 + 1 + 1 := by simp
  have HB0 := hide (hAl.trans (hA0.mono hAl.size))
  have HLK := hide (lacks_any p t (some ⟨B, 0, none⟩) n c (((w.alloc (.cells #[.int .i64 p, .slice (some ⟨B, 0, none⟩) n c] 82)).alloc (.cells (tokF f) 93)).alloc (.cells #[.int .u8 0, .int .u8 0, .int .u8 0, .int .u8 0, .int .u8 0, .int .u8 0, .int .u8 0, .int .u8 0, .int .u8 0, .int .u8 0, .int .u8 0, .int .u8 0, .int .u8 0, .int .u8 0, .int .u8 0, .int .u8 0] 93)))
  have HPS' := hide (HPS.out.grow (hAl.trans (hA0.mono hAl.size)))
  clear hAl hA0 P0 P1 P2
  obtain ⟨v3, hV3⟩ : ∃ v3, Hid (((((w.alloc (.cells #[.int .i64 p, .slice (some ⟨B, 0, none⟩) n c] 82)).alloc (.cells (tokF f) 93)).alloc (.cells #[.int .u8 0, .int .u8 0, .int .u8 0, .int .u8 0, .int .u8 0, .int .u8 0, .int .u8 0, .int .u8 0, .int .u8 0, .int .u8 0, .int .u8 0, .int .u8 0, .int .u8 0, .int .u8 0, .int .u8 0, .int .u8 0] 93))).alloc (.cells #[.int .i64 p, .slice (some ⟨B, 0, none⟩) n c] 82) = v3) := ⟨_, rfl⟩
  rw [hV3.out] at P0' P1' P2' hsz HB0 HPS' HLK
  have hv3 := hsz
  clear hsz hV3
  by_cases g2 : inB t 0 ((n : Int) - 1) = true
  rotate_left
  · have hN := hide (fiEnd_no (w := w) (show fireB n L f t = false by unfold fireB; simp [g2]) (below_setRow HB0.out (w.heap.size + 1 + 1) (by omega) #[.int .u8 0, .int .u8 0, .int .u8 0, .int .u8 0, .int .u8 0, .int .u8 0, .int .u8 0, .int .u8 0, .int .u8 0, .int .u8 0, .int .u8 0, .int .u8 0, .int .u8 0, .int .u8 0, .int .u8 0, .int .u8 0]))
    have g2' : inB t 0 ((n : Int) - 1) = false := by simpa using g2
    rw [g2'] at HLK
    clear g2 g2' P0' P1'
    go_enter Try.func69, Try.ntmps69
    go_wp2_with fail
    refine HLK.out.mono ?_
    rintro e w' ⟨rfl, rfl⟩
    go_wp2_with (refine wpList_store_row rfl 93 (.tmp 6) _ rfl _ _ rfl rfl 93 _ P2' Try.size93 rfl lit_one ?_)
    refine bodyPost_ret (v := .tuple #[.agg #[.int .u8 0, .int .u8 0, .int .u8 0, .int .u8 0, .int .u8 0, .int .u8 0, .int .u8 0, .int .u8 0, .int .u8 0, .int .u8 0, .int .u8 0, .int .u8 0, .int .u8 0, .int .u8 0, .int .u8 0, .int .u8 0], .bool false]) ?_ rfl hN.out
    exact after_res Try.results69 _ _ (w.heap.size + 1 + 1) _ (.bool false) rfl rfl rfl (setRow_same P2' _)
  have ht : 0 ≤ t ∧ t ≤ (n : Int) - 1 := by simpa [inB] using g2
  have HG2 := hide g2
  obtain ⟨k, rfl⟩ : ∃ k : Nat, t = (k : Int) := ⟨t.toNat, by omega⟩
  have hkn : k < n := by omega
  have hkn' : (k : Int) < (n : Int) := by omega
  have hk0 : (0 : Int) ≤ (k : Int) := by omega
  have htri := tri_rise (triOkOf HNET.out hkn)
  obtain ⟨x0, hx0⟩ : ∃ x, Hid (L.getD (3 * k) [] = x) := ⟨_, rfl⟩
  obtain ⟨x1, hx1⟩ : ∃ x, Hid (L.getD (3 * k + 1) [] = x) := ⟨_, rfl⟩
  obtain ⟨x2, hx2⟩ : ∃ x, Hid (L.getD (3 * k + 2) [] = x) := ⟨_, rfl⟩
  obtain ⟨hc0, hc1, hc2⟩ := HPS'.out.at' hkn
  obtain ⟨hn0, hn1⟩ := cells2 P0'
  rw [hx0.out] at hc0 htri
  rw [hx1.out] at hc1 htri
  rw [hx2.out] at hc2 htri
  have HS0 := hide (mask16' htri.1 hp)
  have HS1 := hide (mask16' htri.2.1 hp)
  have HS2 := hide (mask16' htri.2.2 hp)
  have HI0 : Hid (inOf L (k : Int) = x0) := hx0.out
  have HI1 : Hid (outOf L (k : Int) = x1) := hx1.out
  have HI2 : Hid (resOf L (k : Int) = x2) := hx2.out
  clear htri hx0 hx1 hx2 g2 ht
  obtain ⟨s0, hs0⟩ : ∃ s, Hid (maskL x0 = s) := ⟨_, rfl⟩
  obtain ⟨s1, hs1⟩ : ∃ s, Hid (maskL x1 = s) := ⟨_, rfl⟩
  obtain ⟨s2, hs2⟩ : ∃ s, Hid (maskL x2 = s) := ⟨_, rfl⟩
  rw [hs0.out] at hc0 HS0
  rw [hs1.out] at hc1 HS1
  rw [hs2.out] at hc2 HS2
  have HFB : Hid (fireB n L f (k : Int) = (subB s0 (maskL (posL f 16)) && capB s0 s1 s2 f 16)) := by show _ = _; unfold fireB; rw [HG2.out, HI0.out, HI1.out, HI2.out, hs0.out, hs1.out, hs2.out]; rfl
  have HPF : Hid (partF (maskL (inOf L (k : Int))) (maskL (outOf L (k : Int))) (maskL (resOf L (k : Int))) f 16 = partF s0 s1 s2 f 16) := by show _ = _; rw [HI0.out, HI1.out, HI2.out, hs0.out, hs1.out, hs2.out]
  have HP1 := hide P1'
  have HP2 := hide P2'
  rw [HG2.out] at HLK
  clear P0' P1' P2'
  go_enter Try.func69, Try.ntmps69
  go_wp2_with fail
  refine HLK.out.mono ?_
  rintro e w' ⟨rfl, hw'⟩
  replace hw' := hw'.symm
  subst hw'
  clear HLK
  go_wp2_with fail
  clear hc0 hc1 hc2 hn0 hn1
  have hA4 := below_al v3 (.cells #[.int .u16 (s0 : Int), .int .u16 (s1 : Int), .int .u16 (s2 : Int)] 88)
  have Q3 := heap_alloc_new v3 (.cells #[.int .u16 (s0 : Int), .int .u16 (s1 : Int), .int .u16 (s2 : Int)] 88)
  rw [hv3] at Q3
  have P1 := keep HP1.out hA4
  have HP2' := hide (keep HP2.out hA4)
  have HB4 := hide (HB0.out.trans (hA4.mono (by omega)))
  have hv4 : w.heap.size + 1 + 1 + 1 + 1 < (v3.alloc (.cells #[.int .u16 (s0 : Int), .int .u16 (s1 : Int), .int .u16 (s2 : Int)] 88)).heap.size := by simp [hv3]
  clear HP1 HP2 HB0 hA4
  generalize v3.alloc (.cells #[.int .u16 (s0 : Int), .int .u16 (s1 : Int), .int .u16 (s2 : Int)] 88) = v4 at *
  clear hv3 HPS' v3
  have hA5 : Below v4.drew.heap.size v4.drew ((v4.drew.alloc (.cells (tokF f) 93)).alloc (.cells #[.int .u16 (s0 : Int), .int .u16 (s1 : Int), .int .u16 (s2 : Int)] 88)) := below_two _ _ _
  obtain ⟨w5, hw5⟩ : ∃ w5, Hid ((v4.drew.alloc (.cells (tokF f) 93)).alloc (.cells #[.int .u16 (s0 : Int), .int .u16 (s1 : Int), .int .u16 (s2 : Int)] 88) = w5) := ⟨_, rfl⟩
  rw [hw5.out] at hA5
  have P1w := keep (v := v4.drew) P1 hA5
  have P2w := keep (v := v4.drew) HP2'.out hA5
  have Q3w := keep (v := v4.drew) Q3 hA5
  have hq0 := cell_of_row w5 (w.heap.size + 1 + 1 + 1 + 1) 0 _ _ _ Q3w
  have hq1 := cell_of_row w5 (w.heap.size + 1 + 1 + 1 + 1) 1 _ _ _ Q3w
  have hq2 := cell_of_row w5 (w.heap.size + 1 + 1 + 1 + 1) 2 _ _ _ Q3w
  simp at hq0 hq1 hq2
  have HB5 := hide (HB4.out.trans ((show Below v4.heap.size v4 w5 from ⟨hA5.os, hA5.tape, hA5.output, hA5.size, hA5.block⟩).mono HB4.out.size))
  clear hA5 Q3w HB4
  have HCA : Hid (subB s0 (maskL (posL f 16)) = true → Calls Try.prog 135 #[.agg #[.int .u16 (s0 : Int), .int .u16 (s1 : Int), .int .u16 (s2 : Int)], .agg (tokF f)] w5 fun e w' => AfEnd s0 s1 s2 f w5 e w') := fun hsub =>
    after_any s0 s1 s2 f w5 HS0.out HS1.out HS2.out HF.out (fun i hi => by
      have := subF_iff.mp hsub i hi
      rw [posL_bit] at this
      simp only [Bool.and_eq_true, decide_eq_true_eq] at this
      exact this.2)
  have HNO : Hid (subB s0 (maskL (posL f 16)) = false → FiEnd n L f (k : Int) w (.returned (.tuple #[.agg #[.int .u8 0, .int .u8 0, .int .u8 0, .int .u8 0, .int .u8 0, .int .u8 0, .int .u8 0, .int .u8 0, .int .u8 0, .int .u8 0, .int .u8 0, .int .u8 0, .int .u8 0, .int .u8 0, .int .u8 0, .int .u8 0], .bool false])) (w5.setRow (w.heap.size + 1 + 1) #[.int .u8 0, .int .u8 0, .int .u8 0, .int .u8 0, .int .u8 0, .int .u8 0, .int .u8 0, .int .u8 0, .int .u8 0, .int .u8 0, .int .u8 0, .int .u8 0, .int .u8 0, .int .u8 0, .int .u8 0, .int .u8 0])) := fun hsub =>
    fiEnd_no (by rw [HFB.out, hsub]; rfl) (below_setRow HB5.out _ (by omega) _)
  have HF2 : Hid (∀ i, 0 ≤ f i ∧ f i ≤ 255) := fun i => by have := HF.out i; omega
  have Q3' : (v4.drew.alloc (.cells (tokF f) 93)).heap[w.heap.size + 1 + 1 + 1 + 1]? = some (.cells #[.int .u16 (s0 : Int), .int .u16 (s1 : Int), .int .u16 (s2 : Int)] 88 (0, 0)) := keep (v := v4.drew) Q3 (below_al v4.drew _)
  refine wp_region_any (by kernel_rfl) ?_
  refine wpAny_ready (rs := [0, 2]) (by kernel_rfl) (by simp) ?_
  refine cons_load rfl rfl (some 18) rfl 93 (.tmp 4) rfl (w.heap.size + 1) (tokF f) rfl 93 _ _ Try.underlying93 P1 (by rw [tokF_size]; exact Try.size93) ?_ (cons_load_s rfl rfl (some 20) rfl 88 (.tmp 8) rfl (w.heap.size + 1 + 1 + 1 + 1) #[.int .u16 (s0 : Int), .int .u16 (s1 : Int), .int .u16 (s2 : Int)] rfl 88 _ Try.underlying88 Q3 Try.size88 ?_ AllReady.nil)
  · refine wpAny_ready (rs := [1, 2]) (by kernel_rfl) (by simp) ?_
    refine cons_call rfl rfl (some 19) rfl 120 _ _ _ rfl Try.func120 (by decide) rfl #[.agg (tokF f)] (map1 _ _ _ rfl) (.int .u16 (maskL (posL f 16) : Int)) (v4.drew.alloc (.cells (tokF f) 93)) (markedI_any f _ HF2.out) ?_ (cons_load_s rfl rfl (some 20) rfl 88 (.tmp 8) rfl (w.heap.size + 1 + 1 + 1 + 1) #[.int .u16 (s0 : Int), .int .u16 (s1 : Int), .int .u16 (s2 : Int)] rfl 88 _ Try.underlying88 Q3 Try.size88 ?_ AllReady.nil)
    · refine wpAny_ready (rs := [2]) (by kernel_rfl) (by simp) ?_
      refine cons_load_s rfl rfl (some 20) rfl 88 (.tmp 8) rfl (w.heap.size + 1 + 1 + 1 + 1) #[.int .u16 (s0 : Int), .int .u16 (s1 : Int), .int .u16 (s2 : Int)] rfl 88 _ Try.underlying88 Q3' Try.size88 ?_ AllReady.nil
      refine wpAny_ready (rs := [3]) (by kernel_rfl) (by simp) ?_
      refine cons_call rfl rfl (some 21) rfl 121 _ _ _ rfl Try.func121 (by decide) rfl #[.int .u16 (maskL (posL f 16) : Int), .agg #[.int .u16 (s0 : Int), .int .u16 (s1 : Int), .int .u16 (s2 : Int)]] (map2 _ _ _ _ _ rfl rfl) (.bool (subB s0 (maskL (posL f 16)))) ((v4.drew.alloc (.cells (tokF f) 93)).alloc (.cells #[.int .u16 (s0 : Int), .int .u16 (s1 : Int), .int .u16 (s2 : Int)] 88)) (enables_any _ _ _ _ _ HS0.out) ?_ AllReady.nil
      refine wpAny_ready (rs := [4]) (by kernel_rfl) (by simp) ?_
      refine cons_not rfl rfl (some 22) rfl _ _ rfl (subB s0 (maskL (posL f 16))) rfl ?_ AllReady.nil
      refine wpAny_done (by kernel_rfl) ?_ _
      rw [hw5.out]
      cases hsub : subB s0 (maskL (posL f 16))
      · have HN := hide (HNO.out hsub)
        clear HNO HCA hsub hq0 hq1 hq2
        go_wp2_with (refine wpList_store_row rfl 93 (.tmp 6) _ rfl _ _ rfl rfl 93 _ P2w Try.size93 rfl lit_one ?_)
        refine bodyPost_ret (v := .tuple #[.agg #[.int .u8 0, .int .u8 0, .int .u8 0, .int .u8 0, .int .u8 0, .int .u8 0, .int .u8 0, .int .u8 0, .int .u8 0, .int .u8 0, .int .u8 0, .int .u8 0, .int .u8 0, .int .u8 0, .int .u8 0, .int .u8 0], .bool false]) ?_ rfl HN.out
        exact after_res Try.results69 _ _ (w.heap.size + 1 + 1) _ (.bool false) rfl rfl rfl (setRow_same P2w _)
      have HC := hide (HCA.out hsub)
      have HFB' : Hid (fireB n L f (k : Int) = capB s0 s1 s2 f 16) := by show _ = _; rw [HFB.out, hsub]; rfl
      clear HNO HCA hsub
      go_wp2_with (refine wpList_load_row rfl 93 (.tmp 4) rfl _ rfl 93 (tokF f) (0, 0) _ P1w Try.underlying93 rfl (by rw [tokF_size]; exact Try.size93) ?_)
      refine HC.out.mono ?_
      rintro e w6 ⟨h, rfl, hh, hb6⟩
      have P2x := keep P2w hb6
      have HB6 := hide (below_setRow (HB5.out.trans (hb6.mono HB5.out.size)) (w.heap.size + 1 + 1) (by omega) (tokF h))
      have HE : Hid (FiEnd n L f (k : Int) w (.returned (.tuple #[.agg (tokF h), .bool (capB s0 s1 s2 f 16)])) (w6.setRow (w.heap.size + 1 + 1) (tokF h))) :=
        ⟨h, by rw [HFB'.out], fun hg => by rw [HPF.out]; exact hh.out (HFB'.out.symm.trans hg), HB6.out⟩
      clear hq0 hq1 hq2 HC hh hb6
      obtain ⟨cb, hcb⟩ : ∃ b, Hid (capB s0 s1 s2 f 16 = b) := ⟨_, rfl⟩
      rw [hcb.out] at HE ⊢
      go_wp2_with (refine wpList_store_row rfl 93 (.tmp 6) _ rfl _ _ rfl rfl 93 _ P2x (by rw [tokF_size]; exact Try.size93) (by rw [tokF_size]; rfl) (tokF_one _) ?_)
      refine bodyPost_ret (v := .tuple #[.agg (tokF h), .bool cb]) ?_ rfl HE.out
      exact after_res Try.results69 _ _ (w.heap.size + 1 + 1) _ (.bool cb) rfl rfl (tokF_size _) (setRow_same P2x _)
    · refine wpAny_ready (rs := [1]) (by kernel_rfl) (by simp) ?_
      refine cons_call rfl rfl (some 19) rfl 120 _ _ _ rfl Try.func120 (by decide) rfl #[.agg (tokF f)] (map1 _ _ _ rfl) (.int .u16 (maskL (posL f 16) : Int)) (v4.drew.alloc (.cells (tokF f) 93)) (markedI_any f _ HF2.out) ?_ AllReady.nil
      refine wpAny_ready (rs := [3]) (by kernel_rfl) (by simp) ?_
      refine cons_call rfl rfl (some 21) rfl 121 _ _ _ rfl Try.func121 (by decide) rfl #[.int .u16 (maskL (posL f 16) : Int), .agg #[.int .u16 (s0 : Int), .int .u16 (s1 : Int), .int .u16 (s2 : Int)]] (map2 _ _ _ _ _ rfl rfl) (.bool (subB s0 (maskL (posL f 16)))) ((v4.drew.alloc (.cells (tokF f) 93)).alloc (.cells #[.int .u16 (s0 : Int), .int .u16 (s1 : Int), .int .u16 (s2 : Int)] 88)) (enables_any _ _ _ _ _ HS0.out) ?_ AllReady.nil
      refine wpAny_ready (rs := [4]) (by kernel_rfl) (by simp) ?_
      refine cons_not rfl rfl (some 22) rfl _ _ rfl (subB s0 (maskL (posL f 16))) rfl ?_ AllReady.nil
      refine wpAny_done (by kernel_rfl) ?_ _
      rw [hw5.out]
      cases hsub : subB s0 (maskL (posL f 16))
      · have HN := hide (HNO.out hsub)
        clear HNO HCA hsub hq0 hq1 hq2
        go_wp2_with (refine wpList_store_row rfl 93 (.tmp 6) _ rfl _ _ rfl rfl 93 _ P2w Try.size93 rfl lit_one ?_)
        refine bodyPost_ret (v := .tuple #[.agg #[.int .u8 0, .int .u8 0, .int .u8 0, .int .u8 0, .int .u8 0, .int .u8 0, .int .u8 0, .int .u8 0, .int .u8 0, .int .u8 0, .int .u8 0, .int .u8 0, .int .u8 0, .int .u8 0, .int .u8 0, .int .u8 0], .bool false]) ?_ rfl HN.out
        exact after_res Try.results69 _ _ (w.heap.size + 1 + 1) _ (.bool false) rfl rfl rfl (setRow_same P2w _)
      have HC := hide (HCA.out hsub)
      have HFB' : Hid (fireB n L f (k : Int) = capB s0 s1 s2 f 16) := by show _ = _; rw [HFB.out, hsub]; rfl
      clear HNO HCA hsub
      go_wp2_with (refine wpList_load_row rfl 93 (.tmp 4) rfl _ rfl 93 (tokF f) (0, 0) _ P1w Try.underlying93 rfl (by rw [tokF_size]; exact Try.size93) ?_)
      refine HC.out.mono ?_
      rintro e w6 ⟨h, rfl, hh, hb6⟩
      have P2x := keep P2w hb6
      have HB6 := hide (below_setRow (HB5.out.trans (hb6.mono HB5.out.size)) (w.heap.size + 1 + 1) (by omega) (tokF h))
      have HE : Hid (FiEnd n L f (k : Int) w (.returned (.tuple #[.agg (tokF h), .bool (capB s0 s1 s2 f 16)])) (w6.setRow (w.heap.size + 1 + 1) (tokF h))) :=
        ⟨h, by rw [HFB'.out], fun hg => by rw [HPF.out]; exact hh.out (HFB'.out.symm.trans hg), HB6.out⟩
      clear hq0 hq1 hq2 HC hh hb6
      obtain ⟨cb, hcb⟩ : ∃ b, Hid (capB s0 s1 s2 f 16 = b) := ⟨_, rfl⟩
      rw [hcb.out] at HE ⊢
      go_wp2_with (refine wpList_store_row rfl 93 (.tmp 6) _ rfl _ _ rfl rfl 93 _ P2x (by rw [tokF_size]; exact Try.size93) (by rw [tokF_size]; rfl) (tokF_one _) ?_)
      refine bodyPost_ret (v := .tuple #[.agg (tokF h), .bool cb]) ?_ rfl HE.out
      exact after_res Try.results69 _ _ (w.heap.size + 1 + 1) _ (.bool cb) rfl rfl (tokF_size _) (setRow_same P2x _)
  · refine wpAny_ready (rs := [0]) (by kernel_rfl) (by simp) ?_
    refine cons_load rfl rfl (some 18) rfl 93 (.tmp 4) rfl (w.heap.size + 1) (tokF f) rfl 93 _ _ Try.underlying93 P1 (by rw [tokF_size]; exact Try.size93) ?_ AllReady.nil
    refine wpAny_ready (rs := [1]) (by kernel_rfl) (by simp) ?_
    refine cons_call rfl rfl (some 19) rfl 120 _ _ _ rfl Try.func120 (by decide) rfl #[.agg (tokF f)] (map1 _ _ _ rfl) (.int .u16 (maskL (posL f 16) : Int)) (v4.drew.alloc (.cells (tokF f) 93)) (markedI_any f _ HF2.out) ?_ AllReady.nil
    refine wpAny_ready (rs := [3]) (by kernel_rfl) (by simp) ?_
    refine cons_call rfl rfl (some 21) rfl 121 _ _ _ rfl Try.func121 (by decide) rfl #[.int .u16 (maskL (posL f 16) : Int), .agg #[.int .u16 (s0 : Int), .int .u16 (s1 : Int), .int .u16 (s2 : Int)]] (map2 _ _ _ _ _ rfl rfl) (.bool (subB s0 (maskL (posL f 16)))) ((v4.drew.alloc (.cells (tokF f) 93)).alloc (.cells #[.int .u16 (s0 : Int), .int .u16 (s1 : Int), .int .u16 (s2 : Int)] 88)) (enables_any _ _ _ _ _ HS0.out) ?_ AllReady.nil
    refine wpAny_ready (rs := [4]) (by kernel_rfl) (by simp) ?_
    refine cons_not rfl rfl (some 22) rfl _ _ rfl (subB s0 (maskL (posL f 16))) rfl ?_ AllReady.nil
    refine wpAny_done (by kernel_rfl) ?_ _
    rw [hw5.out]
    cases hsub : subB s0 (maskL (posL f 16))
    · have HN := hide (HNO.out hsub)
      clear HNO HCA hsub hq0 hq1 hq2
      go_wp2_with (refine wpList_store_row rfl 93 (.tmp 6) _ rfl _ _ rfl rfl 93 _ P2w Try.size93 rfl lit_one ?_)
      refine bodyPost_ret (v := .tuple #[.agg #[.int .u8 0, .int .u8 0, .int .u8 0, .int .u8 0, .int .u8 0, .int .u8 0, .int .u8 0, .int .u8 0, .int .u8 0, .int .u8 0, .int .u8 0, .int .u8 0, .int .u8 0, .int .u8 0, .int .u8 0, .int .u8 0], .bool false]) ?_ rfl HN.out
      exact after_res Try.results69 _ _ (w.heap.size + 1 + 1) _ (.bool false) rfl rfl rfl (setRow_same P2w _)
    have HC := hide (HCA.out hsub)
    have HFB' : Hid (fireB n L f (k : Int) = capB s0 s1 s2 f 16) := by show _ = _; rw [HFB.out, hsub]; rfl
    clear HNO HCA hsub
    go_wp2_with (refine wpList_load_row rfl 93 (.tmp 4) rfl _ rfl 93 (tokF f) (0, 0) _ P1w Try.underlying93 rfl (by rw [tokF_size]; exact Try.size93) ?_)
    refine HC.out.mono ?_
    rintro e w6 ⟨h, rfl, hh, hb6⟩
    have P2x := keep P2w hb6
    have HB6 := hide (below_setRow (HB5.out.trans (hb6.mono HB5.out.size)) (w.heap.size + 1 + 1) (by omega) (tokF h))
    have HE : Hid (FiEnd n L f (k : Int) w (.returned (.tuple #[.agg (tokF h), .bool (capB s0 s1 s2 f 16)])) (w6.setRow (w.heap.size + 1 + 1) (tokF h))) :=
      ⟨h, by rw [HFB'.out], fun hg => by rw [HPF.out]; exact hh.out (HFB'.out.symm.trans hg), HB6.out⟩
    clear hq0 hq1 hq2 HC hh hb6
    obtain ⟨cb, hcb⟩ : ∃ b, Hid (capB s0 s1 s2 f 16 = b) := ⟨_, rfl⟩
    rw [hcb.out] at HE ⊢
    go_wp2_with (refine wpList_store_row rfl 93 (.tmp 6) _ rfl _ _ rfl rfl 93 _ P2x (by rw [tokF_size]; exact Try.size93) (by rw [tokF_size]; rfl) (tokF_one _) ?_)
    refine bodyPost_ret (v := .tuple #[.agg (tokF h), .bool cb]) ?_ rfl HE.out
    exact after_res Try.results69 _ _ (w.heap.size + 1 + 1) _ (.bool cb) rfl rfl (tokF_size _) (setRow_same P2x _)
end Go.Proofs.Ytdhnhpjcoeglmaa


/- The program's Fire, for every net, mark and number in memory. -/
namespace Go.Proofs.Ytdhnhpjcoeglmaa
open Go.RowKit
set_option maxRecDepth 10000

/-- A list in a block of its own and a bool; nothing that was there is written. -/
def LEnd (g : Bool) (r : List Int) (w : World) (e : Ending) (w' : World) : Prop :=
  ∃ a b n, e = .returned (.tuple #[.slice a n n, .bool g]) ∧ Blk w' a b n r ∧ w.heap.size ≤ b ∧ Below w.heap.size w w'

theorem lend_no {p : Int} {n : Nat} {L : List (List Int)} {ys : List Int} {t : Int} {w w' : World} (h : fireOk p n L ys t = false) (hb : Below w.heap.size w w') : LEnd (fireOk p n L ys t) (fireR p n L ys t) w (.returned (.tuple #[.slice none 0 0, .bool false])) w' := by
  refine ⟨none, w.heap.size, 0, by rw [h], ⟨?_, .inl rfl⟩, Nat.le_refl _, hb⟩
  unfold fireR; rw [h]; rfl

theorem lend_yes {p : Int} {n : Nat} {L : List (List Int)} {ys : List Int} {t : Int} {w w' : World} {b m : Nat} (h : fireOk p n L ys t = true) (hl : (firedL L ys t).length = m) (hh : w'.heap[b]? = some (.cells (cellsOf (firedL L ys t)) 3 (0, 0))) (hB : w.heap.size ≤ b) (hb : Below w.heap.size w w') :
    LEnd (fireOk p n L ys t) (fireR p n L ys t) w (.returned (.tuple #[.slice (some ⟨b, 0, none⟩) m m, .bool true])) w' := by
  have hr : fireR p n L ys t = firedL L ys t := by unfold fireR; rw [h]; rfl
  exact ⟨_, b, m, by rw [h], ⟨by rw [hr]; exact hl, .inr ⟨rfl, by rw [hr]; exact hh⟩⟩, hB, hb⟩

theorem fireL_len (x0 x1 x2 ys : List Int) : (fireL x0 x1 x2 ys).length = ys.length := by unfold fireL; rw [updL_len, updL_len, updL_len]

/-- By sets as by lists. -/
theorem fire_eq {p : Int} {n nm : Nat} {L : List (List Int)} {ys : List Int} {t : Int} (hnet : netOk p n L = true) (hg : goodB p ys = true) (hl : ys.length = nm) :
    fireB n L (fOf ys nm) t = fireOk p n L ys t ∧ (fireOk p n L ys t = true → listF (partF (maskL (inOf L t)) (maskL (outOf L t)) (maskL (resOf L t)) (fOf ys nm) 16) nm = firedL L ys t) := by
  obtain ⟨hp, hlp, hy⟩ := goodB_parts hg
  have hnm : (nm : Int) = p := by omega
  unfold fireB fireOk
  rw [hnet, hg]
  by_cases g2 : inB t 0 ((n : Int) - 1) = true
  rotate_left
  · have g2' : inB t 0 ((n : Int) - 1) = false := by simpa using g2
    rw [g2']; exact ⟨rfl, fun h => by simp at h⟩
  have ht : 0 ≤ t ∧ t ≤ (n : Int) - 1 := by simpa [inB] using g2
  have htri := tri_rise (triOkOf hnet (show t.toNat < n by omega))
  obtain ⟨h0, h1, h2⟩ := htri
  have e1 := can_sub (x0 := inOf L t) hp hnm hy h0
  rw [g2, e1]
  by_cases hc : canB (inOf L t) ys = true
  · have e2 := good_cap (x0 := inOf L t) (x1 := outOf L t) (x2 := resOf L t) hp hnm hl hy h0 h1 h2 hc
    refine ⟨?_, fun _ => list_fire (x0 := inOf L t) (x1 := outOf L t) (x2 := resOf L t) hp hnm hl h0 h1 h2⟩
    unfold firedL; rw [e2, hc]; rfl
  · have hc' : canB (inOf L t) ys = false := by simpa using hc
    rw [hc']; exact ⟨rfl, fun h => by simp at h⟩

theorem partF_small {s0 s1 s2 : Nat} {f : Nat → Int} (hf : ∀ i, 0 ≤ f i ∧ f i ≤ 50) (hen : ∀ i, s0.testBit i = true → 0 < f i) (k i : Nat) : 0 ≤ partF s0 s1 s2 f k i ∧ partF s0 s1 s2 f k i ≤ 255 := by
  have h1 := hf i
  have h2 := hen i
  unfold partF stepF
  split
  · cases h3 : s0.testBit i
    · simp only [Bool.false_eq_true, if_false]
      (repeat' split) <;> omega
    · have := h2 h3
      simp only [if_true]
      (repeat' split) <;> omega
  · omega

set_option maxHeartbeats 2000000 in
theorem implFire_any (p : Int) (a am : Option Addr) (n c nm cm : Nat) (L : List (List Int)) (ys : List Int) (t : Int) (w : World) (h : Lists w a (3 * n) L) (rm : Row w am nm ys) (hs : sizeN n L ≤ 1048576) (hnm : nm ≤ 1048576) :
    Calls Try.prog 14 #[.agg #[.int .i64 p, .slice a n c], .slice am nm cm, .int .i64 t] w fun e w' => LEnd (fireOk p n L ys t) (fireR p n L ys t) w e w' := by
  have hAl := below_al w (.cells #[.int .i64 p, .slice a n c] 26)
  have HT := hide (netTok_any p a am n c nm cm L ys _ (h.below hAl) (rm.below hAl) hs hnm)
  have HLY := hide rm.1
  have HB0 := hide hAl
  clear h rm hAl
  go_enter Try.func14, Try.ntmps14
  go_wp2_with fail
  refine HT.out.mono ?_
  rintro e w1 ⟨p', a', m', c', l, rfl, hx, hb⟩
  have hz := HB0.out.size
  have HB1 := hide (HB0.out.trans (hb.mono HB0.out.size))
  have hz1 := HB1.out.size
  have hA1 := below_al w1 (.cells #[.int .i64 p', .slice a' m' c'] 82)
  have hA2 := below_al (w1.alloc (.cells #[.int .i64 p', .slice a' m' c'] 82)) (.cells #[.int .u8 0, .int .u8 0, .int .u8 0, .int .u8 0, .int .u8 0, .int .u8 0, .int .u8 0, .int .u8 0, .int .u8 0, .int .u8 0, .int .u8 0, .int .u8 0, .int .u8 0, .int .u8 0, .int .u8 0, .int .u8 0] 93)
  have hs1 : (w1.alloc (.cells #[.int .i64 p', .slice a' m' c'] 82)).heap.size = w1.heap.size + 1 := by simp
  have hg0 := heap_alloc_new (w1.alloc (.cells #[.int .i64 p', .slice a' m' c'] 82)) (.cells #[.int .u8 0, .int .u8 0, .int .u8 0, .int .u8 0, .int .u8 0, .int .u8 0, .int .u8 0, .int .u8 0, .int .u8 0, .int .u8 0, .int .u8 0, .int .u8 0, .int .u8 0, .int .u8 0, .int .u8 0, .int .u8 0] 93)
  rw [hs1] at hg0
  clear hb HT HB0
  by_cases g1 : (netOk p n L && goodB p ys) = true
  rotate_left
  · have g1' : (netOk p n L && goodB p ys) = false := by simpa using g1
    have HN := hide (fun W (hW : Below w.heap.size w W) => lend_no (w := w) (fireOk_no1 (t := t) g1') hW)
    rw [g1']
    have HBX := hide (below_setRow ((HB1.out.alloc HB1.out.size (.cells #[.int .i64 p', .slice a' m' c'] 82)).alloc (by simp; omega) (.cells #[.int .u8 0, .int .u8 0, .int .u8 0, .int .u8 0, .int .u8 0, .int .u8 0, .int .u8 0, .int .u8 0, .int .u8 0, .int .u8 0, .int .u8 0, .int .u8 0, .int .u8 0, .int .u8 0, .int .u8 0, .int .u8 0] 93)) (w1.heap.size + 1) (by omega) (packOf ys l))
    clear g1 g1' hx
    go_wp2_with (refine wpList_store_row rfl 93 _ _ rfl _ _ rfl rfl 93 _ hg0 (by rw [packOf_size]; exact Try.size93) (by rw [packOf_size]; rfl) (packOf_one _ _) ?_)
    go_ret2
    exact HN.out _ HBX.out
  have hgg := g1
  rw [Bool.and_eq_true] at hgg
  obtain ⟨e1, e2, e3, e4, B, e5, e6, e7⟩ := hx.out g1
  subst e1 e2 e3 e4 e5
  rw [g1]
  have hAA := hA1.trans (hA2.mono hA1.size)
  have HPS := hide ((e7.grow hAA).setRow (show B ≠ w1.heap.size + 1 by obtain ⟨C, q1, _⟩ := e7; have := (Array.getElem?_eq_some_iff.mp q1).1; omega) (packOf ys l))
  have hg1 := setRow_same hg0 (packOf ys l)
  have HBX := hide (below_setRow (HB1.out.trans (hAA.mono HB1.out.size)) (w1.heap.size + 1) (by omega) (packOf ys l))
  have Q7 := keepR (keep (heap_alloc_new w1 (.cells #[.int .i64 p', .slice (some ⟨B, 0, none⟩) c' c'] 82)) hA2) (show w1.heap.size ≠ w1.heap.size + 1 by omega) (packOf ys l)
  obtain ⟨hq0, hq1⟩ := cells2 Q7
  have HQ7 := hide Q7
  have HGP := hide hgg
  clear e6 e7 hx hAA hA1 hA2 g1 hgg Q7
  go_wp2_with (first
    | refine wpList_store_row rfl 93 _ _ rfl _ _ rfl rfl 93 _ hg0 (by rw [packOf_size]; exact Try.size93) (by rw [packOf_size]; rfl) (packOf_one _ _) ?_
    | refine wpList_load_row rfl 93 _ rfl _ rfl 93 (packOf ys l) (0, 0) _ hg1 Try.underlying93 rfl (by rw [packOf_size]; exact Try.size93) ?_)
  obtain ⟨⟨hp1, hp2⟩, hlp, hyb⟩ := goodB_parts HGP.out.2
  have hfs : ∀ i, 0 ≤ fOf ys l i ∧ fOf ys l i ≤ 50 := by
    intro i; unfold fOf; split
    · exact hyb i
    · omega
  have HEQ := hide (fire_eq (t := t) HGP.out.1 HGP.out.2 HLY.out)
  have HFS := hide hfs
  obtain ⟨V, hV⟩ : ∃ V, Hid ((((w1.alloc (.cells #[.int .i64 p', .slice (some ⟨B, 0, none⟩) c' c'] 82)).alloc (.cells #[.int .u8 0, .int .u8 0, .int .u8 0, .int .u8 0, .int .u8 0, .int .u8 0, .int .u8 0, .int .u8 0, .int .u8 0, .int .u8 0, .int .u8 0, .int .u8 0, .int .u8 0, .int .u8 0, .int .u8 0, .int .u8 0] 93)).setRow (w1.heap.size + 1) (packOf ys l)) = V) := ⟨_, rfl⟩
  rw [hV.out] at HPS HBX HQ7 ⊢
  have HFI := hide (fireI_any p' t B c' c' L (fOf ys l) V HPS.out HGP.out.1 ⟨hp1, hp2⟩ hfs)
  clear hq0 hq1 hg0 hg1 hs1 hfs hyb hV
  refine HFI.out.mono ?_
  rintro e w2 ⟨h, rfl, hh, hb2⟩
  rw [HEQ.out.1] at hh ⊢
  have hA3 := below_al w2 (.cells #[.int .u8 0, .int .u8 0, .int .u8 0, .int .u8 0, .int .u8 0, .int .u8 0, .int .u8 0, .int .u8 0, .int .u8 0, .int .u8 0, .int .u8 0, .int .u8 0, .int .u8 0, .int .u8 0, .int .u8 0, .int .u8 0] 93)
  have hg0 := heap_alloc_new w2 (.cells #[.int .u8 0, .int .u8 0, .int .u8 0, .int .u8 0, .int .u8 0, .int .u8 0, .int .u8 0, .int .u8 0, .int .u8 0, .int .u8 0, .int .u8 0, .int .u8 0, .int .u8 0, .int .u8 0, .int .u8 0, .int .u8 0] 93)
  have hg1 := setRow_same hg0 (tokF h)
  have hz7 := row_lt HQ7.out
  have hz2 := hb2.size
  have hvs := HBX.out.size
  have Q8 := keepR (keep (keep HQ7.out hb2) hA3) (show w1.heap.size ≠ w2.heap.size by omega) (tokF h)
  obtain ⟨hq0, hq1⟩ := cells2 Q8
  have HB3 := hide (below_setRow ((HBX.out.trans (hb2.mono HBX.out.size)).trans (hA3.mono (by omega))) w2.heap.size (by omega) (tokF h))
  clear HFI hb2 hA3 Q8 HPS
  by_cases g : fireOk p' c' L ys t = true
  rotate_left
  · have g' : fireOk p' c' L ys t = false := by simpa using g
    have HN := hide (lend_no (w := w) g' HB3.out)
    rw [g']
    clear g g' hh
    go_wp2_with (refine wpList_store_row rfl 93 _ _ rfl _ _ rfl rfl 93 _ hg0 (by rw [tokF_size]; exact Try.size93) (by rw [tokF_size]; rfl) (tokF_one _) ?_)
    go_ret2
    exact HN.out
  have hh2 := hh.out g
  have HG := hide g
  rw [g]
  subst hh2
  have hpl : p' = (l : Int) := by have := HLY.out; omega
  subst hpl
  have hl16 : l ≤ 16 := by omega
  have HSM : Hid (∀ i, 0 ≤ partF (maskL (inOf L t)) (maskL (outOf L t)) (maskL (resOf L t)) (fOf ys l) 16 i ∧ partF (maskL (inOf L t)) (maskL (outOf L t)) (maskL (resOf L t)) (fOf ys l) 16 i ≤ 255) := by
    refine fun i => partF_small HFS.out (fun j hj => ?_) 16 i
    have hb := HEQ.out.1.trans HG.out
    unfold fireB at hb
    simp only [Bool.and_eq_true] at hb
    have := subF_iff.mp hb.1.2 j hj
    rw [posL_bit] at this
    simp only [Bool.and_eq_true, decide_eq_true_eq] at this
    exact this.2
  have HLF := hide (HEQ.out.2 HG.out)
  clear g hh
  obtain ⟨F, hF⟩ : ∃ F, Hid (partF (maskL (inOf L t)) (maskL (outOf L t)) (maskL (resOf L t)) (fOf ys l) 16 = F) := ⟨_, rfl⟩
  rw [hF.out] at hg1 hq0 hq1 HB3 HSM HLF ⊢
  go_wp2_with (first
    | refine wpList_store_row rfl 93 _ _ rfl _ _ rfl rfl 93 _ hg0 (by rw [tokF_size]; exact Try.size93) (by rw [tokF_size]; rfl) (tokF_one _) ?_
    | refine wpList_load_row rfl 93 _ rfl _ rfl 93 (tokF F) (0, 0) _ hg1 Try.underlying93 rfl (by rw [tokF_size]; exact Try.size93) ?_)
  obtain ⟨V2, hV2⟩ : ∃ V2, Hid ((w2.alloc (.cells #[.int .u8 0, .int .u8 0, .int .u8 0, .int .u8 0, .int .u8 0, .int .u8 0, .int .u8 0, .int .u8 0, .int .u8 0, .int .u8 0, .int .u8 0, .int .u8 0, .int .u8 0, .int .u8 0, .int .u8 0, .int .u8 0] 93)).setRow w2.heap.size (tokF F) = V2) := ⟨_, rfl⟩
  rw [hV2.out] at HB3 ⊢
  have HLS := hide (list_any F l V2 hl16 HSM.out)
  clear hg0 hg1 hq0 hq1 hV2
  rw [HLF.out] at HLS
  refine HLS.out.mono ?_
  rintro e w3 ⟨rfl, rfl⟩
  have HY := hide (lend_yes (w := w) (b := V2.heap.size + 1) (m := l) HG.out (by unfold firedL; rw [fireL_len]; exact HLY.out) (heap_alloc2_new V2 (.cells (tokF F) 93) (.cells (cellsOf (firedL L ys t)) 3)) (by have := HB3.out.size; omega) (HB3.out.trans ((below_two V2 (.cells (tokF F) 93) (.cells (cellsOf (firedL L ys t)) 3)).mono HB3.out.size)))
  clear HLS
  go_wp2_with fail
  go_ret2
  exact HY.out
end Go.Proofs.Ytdhnhpjcoeglmaa


/- What the second half of a law over a net and a list keeps in mind: the net and the list handed in, the list answered, each in blocks of their own, and the specification's answer, while memory grows and blocks are marked. -/
namespace Go.Proofs.Ytdhnhpjcoeglmaa
open Go.RowKit

theorem PartF.lists {w : World} {B hi n : Nat} {T : TypeId} {L : List (List Int)} (h : PartF w B hi (3 * n) T (fun j => L.getD j [])) (hl : L.length = 3 * n) (hs : sizeN n L ≤ 1048576) : Lists w (some ⟨B, 0, none⟩) (3 * n) L := by
  obtain ⟨C, f, h1, h2, h3, h4⟩ := h
  refine ⟨hl, .inr ⟨B, 0, rfl, (Array.getElem?_eq_some_iff.mp h1).1, fun j hj => ?_⟩⟩
  obtain ⟨e1, e2, e3, e4⟩ := h3 j hj
  refine ⟨_, _, _, by rw [cell_of_row w B (0 + j) C T _ h1, Nat.zero_add]; exact e1, ?_, e4.row⟩
  have := len_le L j
  show (L.getD j []).length ≤ maxLen
  unfold sizeN at hs; unfold maxLen; omega

theorem cntF_size (L : List (List Int)) (k : Nat) (hk : k ≤ L.length) : cntF (fun j => L.getD j []) k = sizeL (L.take k) := by
  induction k with
  | zero => simp [cntF, sizeL]
  | succ k ih => simp only [cntF]; rw [ih (by omega), sizeL_take_succ L k (by omega)]

theorem cntF_all {L : List (List Int)} {n : Nat} (hl : L.length = 3 * n) : cntF (fun j => L.getD j []) (3 * n) = sizeL L := by
  rw [cntF_size L (3 * n) (by omega), List.take_of_length_le (by omega)]

variable {w u v v' : World} {p : Int} {a : Option Addr} {n c B hi bx : Nat} {M : Nat → List Int} {ax : Option Addr} {b1 nm : Nat} {ly : List Int} {ag : Option Addr} {bg ng : Nat} {lg l : List Int}

theorem PartF.only {w w' : World} {B hi n b : Nat} {T : TypeId} {M : Nat → List Int} (h : PartF w B hi n T M) (ho : Only b w w') (hb : hi ≤ b) (hB : B ≠ b) : PartF w' B hi n T M := by
  obtain ⟨C, f, h1, h2, h3, h4⟩ := h
  refine ⟨C, f, (ho.block B hB).trans h1, h2, fun j hj => ?_, h4⟩
  obtain ⟨e1, e2, e3, e4⟩ := h3 j hj
  exact ⟨e1, e2, e3, e4.only ho (by omega)⟩

theorem blk_new' (w : World) (xs : List Int) (n : Nat) (hl : xs.length = n) : Blk (w.alloc (.cells (cellsOf xs) 3)) (some ⟨w.heap.size, 0, none⟩) w.heap.size n xs :=
  ⟨hl, .inr ⟨rfl, heap_alloc_new _ _⟩⟩
end Go.Proofs.Ytdhnhpjcoeglmaa


/- Lists that an append has made: a block of its own, in which there may be more room; what markIntS writes into one; and the state of a law over a net whose answer is such a list. -/
namespace Go.Proofs.Ytdhnhpjcoeglmaa
open Go.RowKit

/-- A slice of n numbers from the head of the block b, in which there may be more room; or an empty one. -/
def Ob (w : World) (a : Option Addr) (b n : Nat) (xs : List Int) : Prop :=
  xs.length = n ∧ (n = 0 ∨ (a = some ⟨b, 0, none⟩ ∧ ∃ cur, w.heap[b]? = some (.cells cur 3 (0, 0)) ∧ n ≤ cur.size ∧ ∀ i, i < n → cur[i]? = some (.int .i64 (xs.getD i 0))))

theorem Ob.row {w : World} {a : Option Addr} {b n : Nat} {xs : List Int} (h : Ob w a b n xs) : Row w a n xs := by
  rcases h.2 with h0 | ⟨e, cur, h1, h2, h3⟩
  · exact ⟨h.1, .inl h0⟩
  · refine ⟨h.1, .inr ⟨b, 0, e, (Array.getElem?_eq_some_iff.mp h1).1, fun i hi => ?_⟩⟩
    rw [cell_of_row w b (0 + i) _ _ _ h1, Nat.zero_add]
    exact h3 i hi

theorem Ob.grow {w w' : World} {a : Option Addr} {b n : Nat} {xs : List Int} (h : Ob w a b n xs) (hb : Below w.heap.size w w') : Ob w' a b n xs := by
  refine ⟨h.1, ?_⟩
  rcases h.2 with h0 | ⟨e, cur, h1, h2⟩
  · exact .inl h0
  · exact .inr ⟨e, cur, (hb.block b (Array.getElem?_eq_some_iff.mp h1).1).trans h1, h2⟩

theorem Ob.only {w w' : World} {a : Option Addr} {b c n : Nat} {xs : List Int} (h : Ob w a b n xs) (ho : Only c w w') (hB : b ≠ c) : Ob w' a b n xs := by
  refine ⟨h.1, ?_⟩
  rcases h.2 with h0 | ⟨e, cur, h1, h2⟩
  · exact .inl h0
  · exact .inr ⟨e, cur, (ho.block b hB).trans h1, h2⟩

theorem Ob.keeps {w w' : World} {a : Option Addr} {b n lo hi : Nat} {xs : List Int} (h : Ob w a b n xs) (hk : Keeps lo hi w w') (hb : hi ≤ b) : Ob w' a b n xs := by
  refine ⟨h.1, ?_⟩
  rcases h.2 with h0 | ⟨e, cur, h1, h2⟩
  · exact .inl h0
  · exact .inr ⟨e, cur, (hk.top b hb (Array.getElem?_eq_some_iff.mp h1).1).trans h1, h2⟩

/-- The first k of n numbers are there. -/
def FillR (xs : List Int) (n k : Nat) (cs : Array Value) : Prop := n ≤ cs.size ∧ ∀ i, i < k → cs[i]? = some (.int .i64 (xs.getD i 0))

theorem set_fillR {xs : List Int} {n k : Nat} {cs : Array Value} {x : Int} (h : FillR xs n k cs) (hk : k < n) (hx : xs.getD k 0 = x) : FillR xs n (k + 1) (cs.setIfInBounds k (.int .i64 x)) := by
  obtain ⟨h1, h2⟩ := h
  refine ⟨by simp; exact h1, fun i hi => ?_⟩
  rw [Array.getElem?_setIfInBounds]
  by_cases e : k = i
  · subst e; rw [if_pos rfl, if_pos (by omega), hx]
  · rw [if_neg e]; exact h2 i (by omega)

variable {w u v v' : World} {p : Int} {a : Option Addr} {n c B hi bx : Nat} {M : Nat → List Int} {ax : Option Addr} {b1 nm : Nat} {ly : List Int} {ag : Option Addr} {bg ng : Nat} {lg l : List Int}

end Go.Proofs.Ytdhnhpjcoeglmaa


/- The numbers of the transitions of a net that are as asked: the specification's TakersOf and GiversOf. -/
namespace Go.Proofs.Ytdhnhpjcoeglmaa
open Go.RowKit

/-- The numbers below k that are as asked. -/
def numsL (f : Nat → Bool) (k : Nat) : List Int := ((List.range k).filter f).map fun (i : Nat) => (i : Int)

theorem numsL_yes {f : Nat → Bool} {k : Nat} (h : f k = true) : numsL f (k + 1) = numsL f k ++ [(k : Int)] := by simp [numsL, List.range_succ, List.filter_append, h]
theorem numsL_no {f : Nat → Bool} {k : Nat} (h : f k = false) : numsL f (k + 1) = numsL f k := by simp [numsL, List.range_succ, List.filter_append, h]
theorem numsL_len (f : Nat → Bool) (k : Nat) : (numsL f k).length ≤ k := by
  unfold numsL
  rw [List.length_map]
  have := List.length_filter_le f (List.range k)
  rwa [List.length_range] at this

/-- A list that an append has made, handed back alone. -/
def NumsEnd (f : Nat → Bool) (n : Nat) (w : World) (e : Ending) (w' : World) : Prop :=
  ∃ v m, e = .returned v ∧ w'.ownsRow w.heap.size 3 1 v m ((numsL f n).map (Value.int .i64)) ∧ Below w.heap.size w w'

theorem own_below {B : Nat} {w w' : World} {v : Value} {n : Nat} {l : List Value} (hown : w.ownsRow B 3 1 v n l) (hg : w.grownBy w' v.ownBlock) {a : World} {C : Nat} (h : Below C a w) (hC : C ≤ w.heap.size) (hB : C ≤ B) : Below C a w' := by
  refine h.grown hg hC fun k hk => ?_
  rcases hown.2 with ⟨rfl, _⟩ | ⟨g, cap, cur, rfl, hb, _⟩
  · simp [Value.ownBlock] at hk
  · simp [Value.ownBlock] at hk; omega

theorem one_cell (w : World) (v : Value) : ∀ j u, ([v] : List Value)[j]? = some u → (w.alloc (.cells #[v] 3)).cell? ((⟨w.heap.size, 0, none⟩ : Addr).add j) = some u := by
  intro j u hu
  match j, hu with
  | 0, hu =>
    simp at hu; subst hu
    rw [Addr.add_mid]
    exact cell_of_row _ w.heap.size 0 #[v] _ _ (heap_alloc_new _ _)
  | (q + 1), hu => simp at hu

set_option maxHeartbeats 1000000 in
theorem takersS_any (p q : Int) (a : Option Addr) (n c : Nat) (L : List (List Int)) (w : World) (h : Lists w a (3 * n) L) (hs : sizeN n L ≤ 1048576) (hn : n ≤ 24) :
    Calls Try.prog 75 #[.agg #[.int .i64 p, .slice a n c], .int .i64 q] w fun e w' => NumsEnd (fun i => hasB (L.getD (3 * i) []) q) n w e w' := by
  have hAl := below_al w (.cells #[.int .i64 p, .slice a n c] 26)
  have HL := hide h
  have HB0 := hide hAl
  have hs' : n + sizeL L ≤ 1048576 := hs
  obtain ⟨i0, hi, hz0, hz1, hz2⟩ := info_split Try.info3
  clear h hAl
  go_enter Try.func75, Try.ntmps75
  go_wp2_with fail
  obtain ⟨V, hV⟩ : ∃ V, Hid (w.alloc (.cells #[.int .i64 p, .slice a n c] 26) = V) := ⟨_, rfl⟩
  rw [hV.out] at HB0 ⊢
  clear hV
  go_loopw [5, 11] (fun o i wr => ∃ k m : Nat, k ≤ n ∧ i = .int .i64 k ∧ Hid (m ≤ k) ∧ Hid (wr.ownsRow w.heap.size 3 1 o m ((numsL (fun i => hasB (L.getD (3 * i) []) q) k).map (Value.int .i64))) ∧ Hid (Below w.heap.size w wr)) (fun _ i _ => n - (intOf i).toNat)
  case atStart => exact ⟨0, 0, Nat.zero_le _, rfl, Nat.le_refl _, World.ownsRow_nil _ _ _ _, HB0⟩
  case round =>
    obtain ⟨k, m, hk, rfl, hmk, hown, hbw⟩ := hrel
    by_cases hlt : k < n
    rotate_left
    · have hk' : k = n := by omega
      subst hk'
      go_wp2_with fail
      go_ret
      exact ⟨_, m, rfl, hown.out, hbw.out⟩
    obtain ⟨b, off, a0, n0, c0, a1, n1, c1, a2, n2, c2, rfl, hb, hr, m0, m1, m2, r0, r1, r2⟩ := (HL.out.below hbw.out).tri hlt
    obtain ⟨hc0, hc1, hc2⟩ := rangeAt_cells3 hr
    have hl := len_le L (3 * k)
    have hA1 := below_al wr (.cells #[.slice a0 n0 c0, .slice a1 n1 c1, .slice a2 n2 c2] 78)
    have q0 : n0 ≤ 1048576 := by have := r0.1; omega
    have HH := hide (has_any _ _ c0 _ q _ (r0.below hA1) q0)
    have HB1 := hide (hbw.out.trans (hA1.mono hbw.out.size))
    have HO1 := hide (hown.out.alloc (.cells #[.slice a0 n0 c0, .slice a1 n1 c1, .slice a2 n2 c2] 78))
    clear hr r0 r1 r2 m0 m1 m2 hl hA1
    by_cases hh : hasB (L.getD (3 * k) []) q = true
    rotate_left
    · have hh' : hasB (L.getD (3 * k) []) q = false := by simpa using hh
      have HN := hide (numsL_no (f := fun i => hasB (L.getD (3 * i) []) q) hh')
      rw [hh'] at HH
      clear hh hh' hown
      go_wp2_with fail
      refine HH.out.mono ?_
      rintro e w' ⟨rfl, rfl⟩
      go_wp2_with fail
      go_roundw
      case rel => exact ⟨k + 1, m, by omega, by go_num, Nat.le_succ_of_le hmk.out, by rw [HN.out]; exact HO1, HB1⟩
      case measure => simp [intOf]; omega
    have HN := hide (numsL_yes (f := fun i => hasB (L.getD (3 * i) []) q) hh)
    rw [hh] at HH
    clear hh hown
    go_wp2_with fail
    refine HH.out.mono ?_
    rintro e w' ⟨rfl, rfl⟩
    obtain ⟨W1, hW1⟩ : ∃ W1, Hid (wr.alloc (.cells #[.slice a0 n0 c0, .slice a1 n1 c1, .slice a2 n2 c2] 78) = W1) := ⟨_, rfl⟩
    rw [hW1.out] at HB1 HO1 ⊢
    have hA2 := below_al W1 (.cells #[.int .i64 (k : Int)] 3)
    have HO2 := hide (HO1.out.alloc (.cells #[.int .i64 (k : Int)] 3))
    have HB2 := hide (HB1.out.trans (hA2.mono HB1.out.size))
    have HCE : Hid (∀ j u, ([.int .i64 (k : Int)] : List Value)[j]? = some u → (W1.alloc (.cells #[.int .i64 (k : Int)] 3)).cell? ((⟨W1.heap.size, 0, none⟩ : Addr).add j) = some u) := one_cell W1 _
    have H1c : Hid (∀ u ∈ ([.int .i64 (k : Int)] : List Value), u.oneCell' = true) := fun u hu => by simp at hu; subst hu; rfl
    have HX := hide (show m + 1 ≤ maxLen by have := hmk.out; unfold maxLen; omega)
    have HY := hide (show (m + 1) * 8 ≤ 140737488355328 by have := hmk.out; omega)
    have HZ := hide HB2.out.size
    clear hA2 hc0 hc1 hc2 HH hW1
    go_wp2_with (refine wpList_append_own _ rfl (.tmp 20) (.tmp 22) 31 rfl w.heap.size 3 i0 (.int .i64 0) 1 8 Try.underlying31 hi hz0 hz1 hz2 rfl (by decide) u5 m _ rfl HO2.out ⟨W1.heap.size, 0, none⟩ 1 1 [.int .i64 (k : Int)] rfl rfl HCE.out H1c.out HX.out HY.out HZ.out ?_; intro v' W' r1 r2 r3)
    have HR1 : Hid (W'.ownsRow w.heap.size 3 1 v' (m + 1) ((numsL (fun i => hasB (L.getD (3 * i) []) q) (k + 1)).map (Value.int .i64))) := by
      show World.ownsRow _ _ _ _ _ _ _
      rw [HN.out, List.map_append]; exact r1
    have HB3 := hide (own_below HO2.out r2 HB2.out HB2.out.size (Nat.le_refl _))
    clear r1 r2 r3
    go_wp2_with fail
    go_roundw
    case rel => exact ⟨k + 1, m + 1, by omega, by go_num, Nat.succ_le_succ hmk.out, HR1, HB3⟩
    case measure => simp [intOf]; omega

set_option maxHeartbeats 1000000 in
theorem giversS_any (p q : Int) (a : Option Addr) (n c : Nat) (L : List (List Int)) (w : World) (h : Lists w a (3 * n) L) (hs : sizeN n L ≤ 1048576) (hn : n ≤ 24) :
    Calls Try.prog 77 #[.agg #[.int .i64 p, .slice a n c], .int .i64 q] w fun e w' => NumsEnd (fun i => hasB (L.getD (3 * i + 1) []) q) n w e w' := by
  have hAl := below_al w (.cells #[.int .i64 p, .slice a n c] 26)
  have HL := hide h
  have HB0 := hide hAl
  have hs' : n + sizeL L ≤ 1048576 := hs
  obtain ⟨i0, hi, hz0, hz1, hz2⟩ := info_split Try.info3
  clear h hAl
  go_enter Try.func77, Try.ntmps77
  go_wp2_with fail
  obtain ⟨V, hV⟩ : ∃ V, Hid (w.alloc (.cells #[.int .i64 p, .slice a n c] 26) = V) := ⟨_, rfl⟩
  rw [hV.out] at HB0 ⊢
  clear hV
  go_loopw [5, 11] (fun o i wr => ∃ k m : Nat, k ≤ n ∧ i = .int .i64 k ∧ Hid (m ≤ k) ∧ Hid (wr.ownsRow w.heap.size 3 1 o m ((numsL (fun i => hasB (L.getD (3 * i + 1) []) q) k).map (Value.int .i64))) ∧ Hid (Below w.heap.size w wr)) (fun _ i _ => n - (intOf i).toNat)
  case atStart => exact ⟨0, 0, Nat.zero_le _, rfl, Nat.le_refl _, World.ownsRow_nil _ _ _ _, HB0⟩
  case round =>
    obtain ⟨k, m, hk, rfl, hmk, hown, hbw⟩ := hrel
    by_cases hlt : k < n
    rotate_left
    · have hk' : k = n := by omega
      subst hk'
      go_wp2_with fail
      go_ret
      exact ⟨_, m, rfl, hown.out, hbw.out⟩
    obtain ⟨b, off, a0, n0, c0, a1, n1, c1, a2, n2, c2, rfl, hb, hr, m0, m1, m2, r0, r1, r2⟩ := (HL.out.below hbw.out).tri hlt
    obtain ⟨hc0, hc1, hc2⟩ := rangeAt_cells3 hr
    have hl := len_le L (3 * k + 1)
    have hA1 := below_al wr (.cells #[.slice a0 n0 c0, .slice a1 n1 c1, .slice a2 n2 c2] 78)
    have q0 : n1 ≤ 1048576 := by have := r1.1; omega
    have HH := hide (has_any _ _ c1 _ q _ (r1.below hA1) q0)
    have HB1 := hide (hbw.out.trans (hA1.mono hbw.out.size))
    have HO1 := hide (hown.out.alloc (.cells #[.slice a0 n0 c0, .slice a1 n1 c1, .slice a2 n2 c2] 78))
    clear hr r0 r1 r2 m0 m1 m2 hl hA1
    by_cases hh : hasB (L.getD (3 * k + 1) []) q = true
    rotate_left
    · have hh' : hasB (L.getD (3 * k + 1) []) q = false := by simpa using hh
      have HN := hide (numsL_no (f := fun i => hasB (L.getD (3 * i + 1) []) q) hh')
      rw [hh'] at HH
      clear hh hh' hown
      go_wp2_with fail
      refine HH.out.mono ?_
      rintro e w' ⟨rfl, rfl⟩
      go_wp2_with fail
      go_roundw
      case rel => exact ⟨k + 1, m, by omega, by go_num, Nat.le_succ_of_le hmk.out, by rw [HN.out]; exact HO1, HB1⟩
      case measure => simp [intOf]; omega
    have HN := hide (numsL_yes (f := fun i => hasB (L.getD (3 * i + 1) []) q) hh)
    rw [hh] at HH
    clear hh hown
    go_wp2_with fail
    refine HH.out.mono ?_
    rintro e w' ⟨rfl, rfl⟩
    obtain ⟨W1, hW1⟩ : ∃ W1, Hid (wr.alloc (.cells #[.slice a0 n0 c0, .slice a1 n1 c1, .slice a2 n2 c2] 78) = W1) := ⟨_, rfl⟩
    rw [hW1.out] at HB1 HO1 ⊢
    have hA2 := below_al W1 (.cells #[.int .i64 (k : Int)] 3)
    have HO2 := hide (HO1.out.alloc (.cells #[.int .i64 (k : Int)] 3))
    have HB2 := hide (HB1.out.trans (hA2.mono HB1.out.size))
    have HCE : Hid (∀ j u, ([.int .i64 (k : Int)] : List Value)[j]? = some u → (W1.alloc (.cells #[.int .i64 (k : Int)] 3)).cell? ((⟨W1.heap.size, 0, none⟩ : Addr).add j) = some u) := one_cell W1 _
    have H1c : Hid (∀ u ∈ ([.int .i64 (k : Int)] : List Value), u.oneCell' = true) := fun u hu => by simp at hu; subst hu; rfl
    have HX := hide (show m + 1 ≤ maxLen by have := hmk.out; unfold maxLen; omega)
    have HY := hide (show (m + 1) * 8 ≤ 140737488355328 by have := hmk.out; omega)
    have HZ := hide HB2.out.size
    clear hA2 hc0 hc1 hc2 HH hW1
    go_wp2_with (refine wpList_append_own _ rfl (.tmp 20) (.tmp 22) 31 rfl w.heap.size 3 i0 (.int .i64 0) 1 8 Try.underlying31 hi hz0 hz1 hz2 rfl (by decide) u5 m _ rfl HO2.out ⟨W1.heap.size, 0, none⟩ 1 1 [.int .i64 (k : Int)] rfl rfl HCE.out H1c.out HX.out HY.out HZ.out ?_; intro v' W' r1 r2 r3)
    have HR1 : Hid (W'.ownsRow w.heap.size 3 1 v' (m + 1) ((numsL (fun i => hasB (L.getD (3 * i + 1) []) q) (k + 1)).map (Value.int .i64))) := by
      show World.ownsRow _ _ _ _ _ _ _
      rw [HN.out, List.map_append]; exact r1
    have HB3 := hide (own_below HO2.out r2 HB2.out HB2.out.size (Nat.le_refl _))
    clear r1 r2 r3
    go_wp2_with fail
    go_roundw
    case rel => exact ⟨k + 1, m + 1, by omega, by go_num, Nat.succ_le_succ hmk.out, HR1, HB3⟩
    case measure => simp [intOf]; omega

end Go.Proofs.Ytdhnhpjcoeglmaa
