/- The program's fire and Fire, for every net, mark and number in memory. -/
import Derived.Test.YtbobppcnmpiacaaFp
namespace Go.Proofs.Ytbobppcnmpiacaa
open Go.RowKit
set_option maxRecDepth 10000

/-- Whether a step of the net fires, by sets. -/
def fireB (n : Nat) (L : List (List Int)) (f : Nat → Int) (t : Int) : Bool :=
  inB t 0 ((n : Int) - 1) && subB (maskL (inOf L t)) (maskL (posL f 16)) && capB (maskL (inOf L t)) (maskL (outOf L t)) (maskL (resOf L t)) f 16

/-- How fire ends. -/
def FiEnd (n : Nat) (L : List (List Int)) (f : Nat → Int) (t : Int) (w : World) (e : Ending) (w' : World) : Prop :=
  ∃ h, e = .returned (.tuple #[.agg (tokF h), .bool (fireB n L f t)]) ∧ Hid (fireB n L f t = true → h = partF (maskL (inOf L t)) (maskL (outOf L t)) (maskL (resOf L t)) f 16) ∧ Below w.heap.size w w'

theorem fiEnd_no {n : Nat} {L : List (List Int)} {f : Nat → Int} {t : Int} {w w' : World} (h : fireB n L f t = false) (hb : Below w.heap.size w w') : FiEnd n L f t w (.returned (.tuple #[.agg #[.int .u8 0, .int .u8 0, .int .u8 0, .int .u8 0, .int .u8 0, .int .u8 0, .int .u8 0, .int .u8 0, .int .u8 0, .int .u8 0, .int .u8 0, .int .u8 0, .int .u8 0, .int .u8 0, .int .u8 0, .int .u8 0], .bool false])) w' :=
  ⟨fun _ => 0, by rw [h, zeros_tok], by rw [h]; intro e; simp at e, hb⟩

theorem PartS.at' {w : World} {B n k : Nat} {L : List (List Int)} (h : PartS w B (3 * n) (3 * n) L) (hk : k < n) :
    w.cell? ⟨B, k * 3, none⟩ = some (.int .u16 (maskL (L.getD (3 * k) []) : Int)) ∧ w.cell? ⟨B, k * 3 + 1, none⟩ = some (.int .u16 (maskL (L.getD (3 * k + 1) []) : Int)) ∧ w.cell? ⟨B, k * 3 + 2, none⟩ = some (.int .u16 (maskL (L.getD (3 * k + 2) []) : Int)) := by
  obtain ⟨C, h1, h2, h3⟩ := h
  refine ⟨?_, ?_, ?_⟩
  · rw [cell_of_row w B _ C _ _ h1, Nat.mul_comm]; exact h3 _ (by omega)
  · rw [cell_of_row w B _ C _ _ h1, Nat.mul_comm]; exact h3 _ (by omega)
  · rw [cell_of_row w B _ C _ _ h1, Nat.mul_comm]; exact h3 _ (by omega)

theorem mask16' {p : Int} {xs : List Int} (h : riseB xs 0 (p - 1) = true) (hp : 1 ≤ p ∧ p ≤ 16) : maskL xs < 2 ^ 16 := by
  refine maskL_lt _ fun x hx => ?_
  have := riseB_mem h x hx
  omega

theorem run_callf {P : Program} {o : Oper} {a : Act} {w : World} (f : FuncId) (fn : Func) (xs : Array Operand) (ts : Array TypeId) (hop : o.op = Op.call { callee := Callee.value (Operand.func f), args := xs, argTypes := ts })
    (hfn : P.funcs[f]? = some fn) (hnm : (fn.name == "runtime.NumGoroutine") = false) (hbd : fn.body.isNone = false) : (execOp a.eval o).run P w = .ok (.enter f (xs.map a.eval)) w := by
  have hnm' : ¬ fn.name = "runtime.NumGoroutine" := by simpa using hnm
  have hbd' : ¬ fn.body = none := by intro e; rw [e] at hbd; simp at hbd
  unfold execOp
  simp only [hop]
  simp [resolve, invoke, go_sem, Act.eval, callFunc, hfn, hnm', hbd']

theorem map1 (g : Operand → Value) (x : Operand) (v : Value) (h : g x = v) : (#[x] : Array Operand).map g = #[v] := by simp [h]
theorem map2 (g : Operand → Value) (x y : Operand) (v u : Value) (h : g x = v) (h2 : g y = u) : (#[x, y] : Array Operand).map g = #[v, u] := by simp [h, h2]

theorem cons_call {P : Program} {md : Region.Mode} {ops : Array Oper} {Q : Exit → Act → World → Prop} {fuel : Nat} {listed : Array Bool} {a : Act} {w : World} {i : Nat} {o : Oper} {rs : List Nat} (ho : ops[i]? = some o)
    (hgd : o.guard = none) (d : Option Tmp) (hd : o.dst = d) (f : FuncId) (fn : Func) (xs : Array Operand) (ts : Array TypeId) (hop : o.op = Op.call { callee := Callee.value (Operand.func f), args := xs, argTypes := ts })
    (hfn : P.funcs[f]? = some fn) (hnm : (fn.name == "runtime.NumGoroutine") = false) (hbd : fn.body.isNone = false) (args : Array Value) (hargs : xs.map a.eval = args) (v : Value) (w' : World) (hc : Calls P f args w fun e w'' => e = .returned v ∧ w'' = w')
    (h : wpAny P md ops Q fuel (listed.setIfInBounds i true) (a.put d v) w')
    (hs : AllReady P md ops Q fuel listed a w rs) : AllReady P md ops Q fuel listed a w (i :: rs) := by
  refine AllReady.cons ho (fun K hK => ?_) hs
  rw [if_pos (by simp [Region.wanted, hgd])]
  unfold Oper.wp
  rw [run_callf f fn xs ts hop hfn hnm hbd, hargs, Oper.upon_enter]
  refine hc.mono fun e w'' hh => ?_
  obtain ⟨rfl, rfl⟩ := hh
  refine hK _ _ ?_
  rw [hd]
  exact h

theorem cons_not {P : Program} {md : Region.Mode} {ops : Array Oper} {Q : Exit → Act → World → Prop} {fuel : Nat} {listed : Array Bool} {a : Act} {w : World} {i : Nat} {o : Oper} {rs : List Nat} (ho : ops[i]? = some o)
    (hgd : o.guard = none) (d : Option Tmp) (hd : o.dst = d) (ty : TypeId) (x : Operand) (hop : o.op = .unOp .not ty x) (b : Bool) (hx : a.eval x = .bool b)
    (h : wpAny P md ops Q fuel (listed.setIfInBounds i true) (a.put d (.bool (!b))) w)
    (hs : AllReady P md ops Q fuel listed a w rs) : AllReady P md ops Q fuel listed a w (i :: rs) := by
  refine AllReady.cons ho (fun K hK => ?_) hs
  rw [if_pos (by simp [Region.wanted, hgd])]
  unfold Oper.wp
  have hr : (execOp a.eval o).run P w = .ok (.value (.bool (!b))) w := by
    unfold execOp
    simp only [hop, hx]
    rfl
  rw [hr, Oper.upon_value]
  refine hK _ _ ?_
  rw [hd]
  exact h

set_option maxHeartbeats 400000 in
theorem lacks_any (p t : Int) (a : Option Addr) (n c : Nat) (w : World) :
    Calls Try.prog 42 #[.agg #[.int .i64 p, .slice a n c], .int .i64 t] w fun e w' => e = .returned (.bool (!inB t 0 ((n : Int) - 1))) ∧ w' = w.alloc (.cells #[.int .i64 p, .slice a n c] 66) := by
  by_cases h0 : t < 0
  · have HB := hide (show (!inB t 0 ((n : Int) - 1)) = true by simp [inB]; omega)
    go_enter Try.func42, Try.ntmps42
    go_wp2_with fail
    go_ret
    exact ⟨ret_bool HB.out.symm, rfl⟩
  by_cases h1 : (n : Int) ≤ t
  · have HB := hide (show (!inB t 0 ((n : Int) - 1)) = true by simp [inB]; omega)
    go_enter Try.func42, Try.ntmps42
    go_wp2_with fail
    go_ret
    exact ⟨ret_bool HB.out.symm, rfl⟩
  · have HB := hide (show (!inB t 0 ((n : Int) - 1)) = false by simp [inB]; omega)
    go_enter Try.func42, Try.ntmps42
    go_wp2_with fail
    go_ret
    exact ⟨ret_bool HB.out.symm, rfl⟩

set_option maxHeartbeats 2000000 in
theorem fireI_any (p t : Int) (B n c : Nat) (L : List (List Int)) (f : Nat → Int) (w : World) (hps : PartS w B (3 * n) (3 * n) L) (hnet : netOk p n L = true) (hp : 1 ≤ p ∧ p ≤ 16) (hf : ∀ i, 0 ≤ f i ∧ f i ≤ 50) :
    Calls Try.prog 43 #[.agg #[.int .i64 p, .slice (some ⟨B, 0, none⟩) n c], .agg (tokF f), .int .i64 t] w fun e w' => FiEnd n L f t w e w' := by
  have hn24 := netOkN hnet
  have HF := hide hf
  have HPS := hide hps
  have HNET := hide hnet
  clear hf hps hnet
  have hAl := ((below_al w (.cells #[.int .i64 p, .slice (some ⟨B, 0, none⟩) n c] 66)).alloc (by simp) (.cells (tokF f) 68)).alloc (by simp; omega) (.cells #[.int .u8 0, .int .u8 0, .int .u8 0, .int .u8 0, .int .u8 0, .int .u8 0, .int .u8 0, .int .u8 0, .int .u8 0, .int .u8 0, .int .u8 0, .int .u8 0, .int .u8 0, .int .u8 0, .int .u8 0, .int .u8 0] 68)
  have P0 : ((((w.alloc (.cells #[.int .i64 p, .slice (some ⟨B, 0, none⟩) n c] 66)).alloc (.cells (tokF f) 68)).alloc (.cells #[.int .u8 0, .int .u8 0, .int .u8 0, .int .u8 0, .int .u8 0, .int .u8 0, .int .u8 0, .int .u8 0, .int .u8 0, .int .u8 0, .int .u8 0, .int .u8 0, .int .u8 0, .int .u8 0, .int .u8 0, .int .u8 0] 68))).heap[w.heap.size]? = some (.cells #[.int .i64 p, .slice (some ⟨B, 0, none⟩) n c] 66 (0, 0)) := by
    rw [heap_al_old _ _ _ (by simp; omega), heap_al_old _ _ _ (by simp)]; exact heap_alloc_new _ _
  have P1 : ((((w.alloc (.cells #[.int .i64 p, .slice (some ⟨B, 0, none⟩) n c] 66)).alloc (.cells (tokF f) 68)).alloc (.cells #[.int .u8 0, .int .u8 0, .int .u8 0, .int .u8 0, .int .u8 0, .int .u8 0, .int .u8 0, .int .u8 0, .int .u8 0, .int .u8 0, .int .u8 0, .int .u8 0, .int .u8 0, .int .u8 0, .int .u8 0, .int .u8 0] 68))).heap[w.heap.size + 1]? = some (.cells (tokF f) 68 (0, 0)) := by
    rw [heap_al_old _ _ _ (by simp)]
    have := heap_alloc_new (w.alloc (.cells #[.int .i64 p, .slice (some ⟨B, 0, none⟩) n c] 66)) (.cells (tokF f) 68)
    simpa using this
  have P2 : ((((w.alloc (.cells #[.int .i64 p, .slice (some ⟨B, 0, none⟩) n c] 66)).alloc (.cells (tokF f) 68)).alloc (.cells #[.int .u8 0, .int .u8 0, .int .u8 0, .int .u8 0, .int .u8 0, .int .u8 0, .int .u8 0, .int .u8 0, .int .u8 0, .int .u8 0, .int .u8 0, .int .u8 0, .int .u8 0, .int .u8 0, .int .u8 0, .int .u8 0] 68))).heap[w.heap.size + 1 + 1]? = some (.cells #[.int .u8 0, .int .u8 0, .int .u8 0, .int .u8 0, .int .u8 0, .int .u8 0, .int .u8 0, .int .u8 0, .int .u8 0, .int .u8 0, .int .u8 0, .int .u8 0, .int .u8 0, .int .u8 0, .int .u8 0, .int .u8 0] 68 (0, 0)) := by
    have := heap_alloc_new ((w.alloc (.cells #[.int .i64 p, .slice (some ⟨B, 0, none⟩) n c] 66)).alloc (.cells (tokF f) 68)) (.cells #[.int .u8 0, .int .u8 0, .int .u8 0, .int .u8 0, .int .u8 0, .int .u8 0, .int .u8 0, .int .u8 0, .int .u8 0, .int .u8 0, .int .u8 0, .int .u8 0, .int .u8 0, .int .u8 0, .int .u8 0, .int .u8 0] 68)
    simpa using this
  have hA0 := below_al (((w.alloc (.cells #[.int .i64 p, .slice (some ⟨B, 0, none⟩) n c] 66)).alloc (.cells (tokF f) 68)).alloc (.cells #[.int .u8 0, .int .u8 0, .int .u8 0, .int .u8 0, .int .u8 0, .int .u8 0, .int .u8 0, .int .u8 0, .int .u8 0, .int .u8 0, .int .u8 0, .int .u8 0, .int .u8 0, .int .u8 0, .int .u8 0, .int .u8 0] 68)) (.cells #[.int .i64 p, .slice (some ⟨B, 0, none⟩) n c] 66)
  have P0' := keep P0 hA0
  have P1' := keep P1 hA0
  have P2' := keep P2 hA0
  have hsz : (((((w.alloc (.cells #[.int .i64 p, .slice (some ⟨B, 0, none⟩) n c] 66)).alloc (.cells (tokF f) 68)).alloc (.cells #[.int .u8 0, .int .u8 0, .int .u8 0, .int .u8 0, .int .u8 0, .int .u8 0, .int .u8 0, .int .u8 0, .int .u8 0, .int .u8 0, .int .u8 0, .int .u8 0, .int .u8 0, .int .u8 0, .int .u8 0, .int .u8 0] 68))).alloc (.cells #[.int .i64 p, .slice (some ⟨B, 0, none⟩) n c] 66)).heap.size = w.heap.size + 1 + 1 + 1 + 1 := by simp
  have HB0 := hide (hAl.trans (hA0.mono hAl.size))
  have HLK := hide (lacks_any p t (some ⟨B, 0, none⟩) n c (((w.alloc (.cells #[.int .i64 p, .slice (some ⟨B, 0, none⟩) n c] 66)).alloc (.cells (tokF f) 68)).alloc (.cells #[.int .u8 0, .int .u8 0, .int .u8 0, .int .u8 0, .int .u8 0, .int .u8 0, .int .u8 0, .int .u8 0, .int .u8 0, .int .u8 0, .int .u8 0, .int .u8 0, .int .u8 0, .int .u8 0, .int .u8 0, .int .u8 0] 68)))
  have HPS' := hide (HPS.out.grow (hAl.trans (hA0.mono hAl.size)))
  clear hAl hA0 P0 P1 P2
  obtain ⟨v3, hV3⟩ : ∃ v3, Hid (((((w.alloc (.cells #[.int .i64 p, .slice (some ⟨B, 0, none⟩) n c] 66)).alloc (.cells (tokF f) 68)).alloc (.cells #[.int .u8 0, .int .u8 0, .int .u8 0, .int .u8 0, .int .u8 0, .int .u8 0, .int .u8 0, .int .u8 0, .int .u8 0, .int .u8 0, .int .u8 0, .int .u8 0, .int .u8 0, .int .u8 0, .int .u8 0, .int .u8 0] 68))).alloc (.cells #[.int .i64 p, .slice (some ⟨B, 0, none⟩) n c] 66) = v3) := ⟨_, rfl⟩
  rw [hV3.out] at P0' P1' P2' hsz HB0 HPS' HLK
  have hv3 := hsz
  clear hsz hV3
  by_cases g2 : inB t 0 ((n : Int) - 1) = true
  rotate_left
  · have hN := hide (fiEnd_no (w := w) (show fireB n L f t = false by unfold fireB; simp [g2]) (below_setRow HB0.out (w.heap.size + 1 + 1) (by omega) #[.int .u8 0, .int .u8 0, .int .u8 0, .int .u8 0, .int .u8 0, .int .u8 0, .int .u8 0, .int .u8 0, .int .u8 0, .int .u8 0, .int .u8 0, .int .u8 0, .int .u8 0, .int .u8 0, .int .u8 0, .int .u8 0]))
    have g2' : inB t 0 ((n : Int) - 1) = false := by simpa using g2
    rw [g2'] at HLK
    clear g2 g2' P0' P1'
    go_enter Try.func43, Try.ntmps43
    go_wp2_with fail
    refine HLK.out.mono ?_
    rintro e w' ⟨rfl, rfl⟩
    go_wp2_with (refine wpList_store_row rfl 68 (.tmp 6) _ rfl _ _ rfl rfl 68 _ P2' Try.size68 rfl lit_one ?_)
    refine bodyPost_ret (v := .tuple #[.agg #[.int .u8 0, .int .u8 0, .int .u8 0, .int .u8 0, .int .u8 0, .int .u8 0, .int .u8 0, .int .u8 0, .int .u8 0, .int .u8 0, .int .u8 0, .int .u8 0, .int .u8 0, .int .u8 0, .int .u8 0, .int .u8 0], .bool false]) ?_ rfl hN.out
    exact after_res Try.results43 _ _ (w.heap.size + 1 + 1) _ (.bool false) rfl rfl rfl (setRow_same P2' _)
  have ht : 0 ≤ t ∧ t ≤ (n : Int) - 1 := by simpa [inB] using g2
  have HG2 := hide g2
  obtain ⟨k, rfl⟩ : ∃ k : Nat, t = (k : Int) := ⟨t.toNat, by omega⟩
  have hkn : k < n := by omega
  have hkn' : (k : Int) < (n : Int) := by omega
  have hk0 : (0 : Int) ≤ (k : Int) := by omega
  have htri := tri_rise (triOkOf HNET.out hkn)
  obtain ⟨x0, hx0⟩ : ∃ x, Hid (L.getD (3 * k) [] = x) := ⟨_, rfl⟩
  obtain ⟨x1, hx1⟩ : ∃ x, Hid (L.getD (3 * k + 1) [] = x) := ⟨_, rfl⟩
  obtain ⟨x2, hx2⟩ : ∃ x, Hid (L.getD (3 * k + 2) [] = x) := ⟨_, rfl⟩
  obtain ⟨hc0, hc1, hc2⟩ := HPS'.out.at' hkn
  obtain ⟨hn0, hn1⟩ := cells2 P0'
  rw [hx0.out] at hc0 htri
  rw [hx1.out] at hc1 htri
  rw [hx2.out] at hc2 htri
  have HS0 := hide (mask16' htri.1 hp)
  have HS1 := hide (mask16' htri.2.1 hp)
  have HS2 := hide (mask16' htri.2.2 hp)
  have HI0 : Hid (inOf L (k : Int) = x0) := hx0.out
  have HI1 : Hid (outOf L (k : Int) = x1) := hx1.out
  have HI2 : Hid (resOf L (k : Int) = x2) := hx2.out
  clear htri hx0 hx1 hx2 g2 ht
  obtain ⟨s0, hs0⟩ : ∃ s, Hid (maskL x0 = s) := ⟨_, rfl⟩
  obtain ⟨s1, hs1⟩ : ∃ s, Hid (maskL x1 = s) := ⟨_, rfl⟩
  obtain ⟨s2, hs2⟩ : ∃ s, Hid (maskL x2 = s) := ⟨_, rfl⟩
  rw [hs0.out] at hc0 HS0
  rw [hs1.out] at hc1 HS1
  rw [hs2.out] at hc2 HS2
  have HFB : Hid (fireB n L f (k : Int) = (subB s0 (maskL (posL f 16)) && capB s0 s1 s2 f 16)) := by show _ = _; unfold fireB; rw [HG2.out, HI0.out, HI1.out, HI2.out, hs0.out, hs1.out, hs2.out]; rfl
  have HPF : Hid (partF (maskL (inOf L (k : Int))) (maskL (outOf L (k : Int))) (maskL (resOf L (k : Int))) f 16 = partF s0 s1 s2 f 16) := by show _ = _; rw [HI0.out, HI1.out, HI2.out, hs0.out, hs1.out, hs2.out]
  have HP1 := hide P1'
  have HP2 := hide P2'
  rw [HG2.out] at HLK
  clear P0' P1' P2'
  go_enter Try.func43, Try.ntmps43
  go_wp2_with fail
  refine HLK.out.mono ?_
  rintro e w' ⟨rfl, hw'⟩
  replace hw' := hw'.symm
  subst hw'
  clear HLK
  go_wp2_with fail
  clear hc0 hc1 hc2 hn0 hn1
  have hA4 := below_al v3 (.cells #[.int .u16 (s0 : Int), .int .u16 (s1 : Int), .int .u16 (s2 : Int)] 91)
  have Q3 := heap_alloc_new v3 (.cells #[.int .u16 (s0 : Int), .int .u16 (s1 : Int), .int .u16 (s2 : Int)] 91)
  rw [hv3] at Q3
  have P1 := keep HP1.out hA4
  have HP2' := hide (keep HP2.out hA4)
  have HB4 := hide (HB0.out.trans (hA4.mono (by omega)))
  have hv4 : w.heap.size + 1 + 1 + 1 + 1 < (v3.alloc (.cells #[.int .u16 (s0 : Int), .int .u16 (s1 : Int), .int .u16 (s2 : Int)] 91)).heap.size := by simp [hv3]
  clear HP1 HP2 HB0 hA4
  generalize v3.alloc (.cells #[.int .u16 (s0 : Int), .int .u16 (s1 : Int), .int .u16 (s2 : Int)] 91) = v4 at *
  clear hv3 HPS' v3
  have hA5 : Below v4.drew.heap.size v4.drew ((v4.drew.alloc (.cells (tokF f) 68)).alloc (.cells #[.int .u16 (s0 : Int), .int .u16 (s1 : Int), .int .u16 (s2 : Int)] 91)) := below_two _ _ _
  obtain ⟨w5, hw5⟩ : ∃ w5, Hid ((v4.drew.alloc (.cells (tokF f) 68)).alloc (.cells #[.int .u16 (s0 : Int), .int .u16 (s1 : Int), .int .u16 (s2 : Int)] 91) = w5) := ⟨_, rfl⟩
  rw [hw5.out] at hA5
  have P1w := keep (v := v4.drew) P1 hA5
  have P2w := keep (v := v4.drew) HP2'.out hA5
  have Q3w := keep (v := v4.drew) Q3 hA5
  have hq0 := cell_of_row w5 (w.heap.size + 1 + 1 + 1 + 1) 0 _ _ _ Q3w
  have hq1 := cell_of_row w5 (w.heap.size + 1 + 1 + 1 + 1) 1 _ _ _ Q3w
  have hq2 := cell_of_row w5 (w.heap.size + 1 + 1 + 1 + 1) 2 _ _ _ Q3w
  simp at hq0 hq1 hq2
  have HB5 := hide (HB4.out.trans ((show Below v4.heap.size v4 w5 from ⟨hA5.os, hA5.tape, hA5.output, hA5.size, hA5.block⟩).mono HB4.out.size))
  clear hA5 Q3w HB4
  have HCA : Hid (subB s0 (maskL (posL f 16)) = true → Calls Try.prog 76 #[.agg #[.int .u16 (s0 : Int), .int .u16 (s1 : Int), .int .u16 (s2 : Int)], .agg (tokF f)] w5 fun e w' => AfEnd s0 s1 s2 f w5 e w') := fun hsub =>
    after_any s0 s1 s2 f w5 HS0.out HS1.out HS2.out HF.out (fun i hi => by
      have := sub_iff.mp hsub i hi
      rw [posL_bit] at this
      simp only [Bool.and_eq_true, decide_eq_true_eq] at this
      exact this.2)
  have HNO : Hid (subB s0 (maskL (posL f 16)) = false → FiEnd n L f (k : Int) w (.returned (.tuple #[.agg #[.int .u8 0, .int .u8 0, .int .u8 0, .int .u8 0, .int .u8 0, .int .u8 0, .int .u8 0, .int .u8 0, .int .u8 0, .int .u8 0, .int .u8 0, .int .u8 0, .int .u8 0, .int .u8 0, .int .u8 0, .int .u8 0], .bool false])) (w5.setRow (w.heap.size + 1 + 1) #[.int .u8 0, .int .u8 0, .int .u8 0, .int .u8 0, .int .u8 0, .int .u8 0, .int .u8 0, .int .u8 0, .int .u8 0, .int .u8 0, .int .u8 0, .int .u8 0, .int .u8 0, .int .u8 0, .int .u8 0, .int .u8 0])) := fun hsub =>
    fiEnd_no (by rw [HFB.out, hsub]; rfl) (below_setRow HB5.out _ (by omega) _)
  have HF2 : Hid (∀ i, 0 ≤ f i ∧ f i ≤ 255) := fun i => by have := HF.out i; omega
  have Q3' : (v4.drew.alloc (.cells (tokF f) 68)).heap[w.heap.size + 1 + 1 + 1 + 1]? = some (.cells #[.int .u16 (s0 : Int), .int .u16 (s1 : Int), .int .u16 (s2 : Int)] 91 (0, 0)) := keep (v := v4.drew) Q3 (below_al v4.drew _)
  refine wp_region_any (by kernel_rfl) ?_
  refine wpAny_ready (rs := [0, 2]) (by kernel_rfl) (by simp) ?_
  refine cons_load rfl rfl (some 18) rfl 68 (.tmp 4) rfl (w.heap.size + 1) (tokF f) rfl 68 _ _ Try.underlying68 P1 (by rw [tokF_size]; exact Try.size68) ?_ (cons_load_s rfl rfl (some 20) rfl 91 (.tmp 8) rfl (w.heap.size + 1 + 1 + 1 + 1) #[.int .u16 (s0 : Int), .int .u16 (s1 : Int), .int .u16 (s2 : Int)] rfl 91 _ Try.underlying91 Q3 Try.size91 ?_ AllReady.nil)
  · refine wpAny_ready (rs := [1, 2]) (by kernel_rfl) (by simp) ?_
    refine cons_call rfl rfl (some 19) rfl 51 _ _ _ rfl Try.func51 (by decide) rfl #[.agg (tokF f)] (map1 _ _ _ rfl) (.int .u16 (maskL (posL f 16) : Int)) (v4.drew.alloc (.cells (tokF f) 68)) (markedI_any f _ HF2.out) ?_ (cons_load_s rfl rfl (some 20) rfl 91 (.tmp 8) rfl (w.heap.size + 1 + 1 + 1 + 1) #[.int .u16 (s0 : Int), .int .u16 (s1 : Int), .int .u16 (s2 : Int)] rfl 91 _ Try.underlying91 Q3 Try.size91 ?_ AllReady.nil)
    · refine wpAny_ready (rs := [2]) (by kernel_rfl) (by simp) ?_
      refine cons_load_s rfl rfl (some 20) rfl 91 (.tmp 8) rfl (w.heap.size + 1 + 1 + 1 + 1) #[.int .u16 (s0 : Int), .int .u16 (s1 : Int), .int .u16 (s2 : Int)] rfl 91 _ Try.underlying91 Q3' Try.size91 ?_ AllReady.nil
      refine wpAny_ready (rs := [3]) (by kernel_rfl) (by simp) ?_
      refine cons_call rfl rfl (some 21) rfl 52 _ _ _ rfl Try.func52 (by decide) rfl #[.int .u16 (maskL (posL f 16) : Int), .agg #[.int .u16 (s0 : Int), .int .u16 (s1 : Int), .int .u16 (s2 : Int)]] (map2 _ _ _ _ _ rfl rfl) (.bool (subB s0 (maskL (posL f 16)))) ((v4.drew.alloc (.cells (tokF f) 68)).alloc (.cells #[.int .u16 (s0 : Int), .int .u16 (s1 : Int), .int .u16 (s2 : Int)] 91)) (enables_any _ _ _ _ _ HS0.out) ?_ AllReady.nil
      refine wpAny_ready (rs := [4]) (by kernel_rfl) (by simp) ?_
      refine cons_not rfl rfl (some 22) rfl _ _ rfl (subB s0 (maskL (posL f 16))) rfl ?_ AllReady.nil
      refine wpAny_done (by kernel_rfl) ?_ _
      rw [hw5.out]
      cases hsub : subB s0 (maskL (posL f 16))
      · have HN := hide (HNO.out hsub)
        clear HNO HCA hsub hq0 hq1 hq2
        go_wp2_with (refine wpList_store_row rfl 68 (.tmp 6) _ rfl _ _ rfl rfl 68 _ P2w Try.size68 rfl lit_one ?_)
        refine bodyPost_ret (v := .tuple #[.agg #[.int .u8 0, .int .u8 0, .int .u8 0, .int .u8 0, .int .u8 0, .int .u8 0, .int .u8 0, .int .u8 0, .int .u8 0, .int .u8 0, .int .u8 0, .int .u8 0, .int .u8 0, .int .u8 0, .int .u8 0, .int .u8 0], .bool false]) ?_ rfl HN.out
        exact after_res Try.results43 _ _ (w.heap.size + 1 + 1) _ (.bool false) rfl rfl rfl (setRow_same P2w _)
      have HC := hide (HCA.out hsub)
      have HFB' : Hid (fireB n L f (k : Int) = capB s0 s1 s2 f 16) := by show _ = _; rw [HFB.out, hsub]; rfl
      clear HNO HCA hsub
      go_wp2_with (refine wpList_load_row rfl 68 (.tmp 4) rfl _ rfl 68 (tokF f) (0, 0) _ P1w Try.underlying68 rfl (by rw [tokF_size]; exact Try.size68) ?_)
      refine HC.out.mono ?_
      rintro e w6 ⟨h, rfl, hh, hb6⟩
      have P2x := keep P2w hb6
      have HB6 := hide (below_setRow (HB5.out.trans (hb6.mono HB5.out.size)) (w.heap.size + 1 + 1) (by omega) (tokF h))
      have HE : Hid (FiEnd n L f (k : Int) w (.returned (.tuple #[.agg (tokF h), .bool (capB s0 s1 s2 f 16)])) (w6.setRow (w.heap.size + 1 + 1) (tokF h))) :=
        ⟨h, by rw [HFB'.out], fun hg => by rw [HPF.out]; exact hh.out (HFB'.out.symm.trans hg), HB6.out⟩
      clear hq0 hq1 hq2 HC hh hb6
      obtain ⟨cb, hcb⟩ : ∃ b, Hid (capB s0 s1 s2 f 16 = b) := ⟨_, rfl⟩
      rw [hcb.out] at HE ⊢
      go_wp2_with (refine wpList_store_row rfl 68 (.tmp 6) _ rfl _ _ rfl rfl 68 _ P2x (by rw [tokF_size]; exact Try.size68) (by rw [tokF_size]; rfl) (tokF_one _) ?_)
      refine bodyPost_ret (v := .tuple #[.agg (tokF h), .bool cb]) ?_ rfl HE.out
      exact after_res Try.results43 _ _ (w.heap.size + 1 + 1) _ (.bool cb) rfl rfl (tokF_size _) (setRow_same P2x _)
    · refine wpAny_ready (rs := [1]) (by kernel_rfl) (by simp) ?_
      refine cons_call rfl rfl (some 19) rfl 51 _ _ _ rfl Try.func51 (by decide) rfl #[.agg (tokF f)] (map1 _ _ _ rfl) (.int .u16 (maskL (posL f 16) : Int)) (v4.drew.alloc (.cells (tokF f) 68)) (markedI_any f _ HF2.out) ?_ AllReady.nil
      refine wpAny_ready (rs := [3]) (by kernel_rfl) (by simp) ?_
      refine cons_call rfl rfl (some 21) rfl 52 _ _ _ rfl Try.func52 (by decide) rfl #[.int .u16 (maskL (posL f 16) : Int), .agg #[.int .u16 (s0 : Int), .int .u16 (s1 : Int), .int .u16 (s2 : Int)]] (map2 _ _ _ _ _ rfl rfl) (.bool (subB s0 (maskL (posL f 16)))) ((v4.drew.alloc (.cells (tokF f) 68)).alloc (.cells #[.int .u16 (s0 : Int), .int .u16 (s1 : Int), .int .u16 (s2 : Int)] 91)) (enables_any _ _ _ _ _ HS0.out) ?_ AllReady.nil
      refine wpAny_ready (rs := [4]) (by kernel_rfl) (by simp) ?_
      refine cons_not rfl rfl (some 22) rfl _ _ rfl (subB s0 (maskL (posL f 16))) rfl ?_ AllReady.nil
      refine wpAny_done (by kernel_rfl) ?_ _
      rw [hw5.out]
      cases hsub : subB s0 (maskL (posL f 16))
      · have HN := hide (HNO.out hsub)
        clear HNO HCA hsub hq0 hq1 hq2
        go_wp2_with (refine wpList_store_row rfl 68 (.tmp 6) _ rfl _ _ rfl rfl 68 _ P2w Try.size68 rfl lit_one ?_)
        refine bodyPost_ret (v := .tuple #[.agg #[.int .u8 0, .int .u8 0, .int .u8 0, .int .u8 0, .int .u8 0, .int .u8 0, .int .u8 0, .int .u8 0, .int .u8 0, .int .u8 0, .int .u8 0, .int .u8 0, .int .u8 0, .int .u8 0, .int .u8 0, .int .u8 0], .bool false]) ?_ rfl HN.out
        exact after_res Try.results43 _ _ (w.heap.size + 1 + 1) _ (.bool false) rfl rfl rfl (setRow_same P2w _)
      have HC := hide (HCA.out hsub)
      have HFB' : Hid (fireB n L f (k : Int) = capB s0 s1 s2 f 16) := by show _ = _; rw [HFB.out, hsub]; rfl
      clear HNO HCA hsub
      go_wp2_with (refine wpList_load_row rfl 68 (.tmp 4) rfl _ rfl 68 (tokF f) (0, 0) _ P1w Try.underlying68 rfl (by rw [tokF_size]; exact Try.size68) ?_)
      refine HC.out.mono ?_
      rintro e w6 ⟨h, rfl, hh, hb6⟩
      have P2x := keep P2w hb6
      have HB6 := hide (below_setRow (HB5.out.trans (hb6.mono HB5.out.size)) (w.heap.size + 1 + 1) (by omega) (tokF h))
      have HE : Hid (FiEnd n L f (k : Int) w (.returned (.tuple #[.agg (tokF h), .bool (capB s0 s1 s2 f 16)])) (w6.setRow (w.heap.size + 1 + 1) (tokF h))) :=
        ⟨h, by rw [HFB'.out], fun hg => by rw [HPF.out]; exact hh.out (HFB'.out.symm.trans hg), HB6.out⟩
      clear hq0 hq1 hq2 HC hh hb6
      obtain ⟨cb, hcb⟩ : ∃ b, Hid (capB s0 s1 s2 f 16 = b) := ⟨_, rfl⟩
      rw [hcb.out] at HE ⊢
      go_wp2_with (refine wpList_store_row rfl 68 (.tmp 6) _ rfl _ _ rfl rfl 68 _ P2x (by rw [tokF_size]; exact Try.size68) (by rw [tokF_size]; rfl) (tokF_one _) ?_)
      refine bodyPost_ret (v := .tuple #[.agg (tokF h), .bool cb]) ?_ rfl HE.out
      exact after_res Try.results43 _ _ (w.heap.size + 1 + 1) _ (.bool cb) rfl rfl (tokF_size _) (setRow_same P2x _)
  · refine wpAny_ready (rs := [0]) (by kernel_rfl) (by simp) ?_
    refine cons_load rfl rfl (some 18) rfl 68 (.tmp 4) rfl (w.heap.size + 1) (tokF f) rfl 68 _ _ Try.underlying68 P1 (by rw [tokF_size]; exact Try.size68) ?_ AllReady.nil
    refine wpAny_ready (rs := [1]) (by kernel_rfl) (by simp) ?_
    refine cons_call rfl rfl (some 19) rfl 51 _ _ _ rfl Try.func51 (by decide) rfl #[.agg (tokF f)] (map1 _ _ _ rfl) (.int .u16 (maskL (posL f 16) : Int)) (v4.drew.alloc (.cells (tokF f) 68)) (markedI_any f _ HF2.out) ?_ AllReady.nil
    refine wpAny_ready (rs := [3]) (by kernel_rfl) (by simp) ?_
    refine cons_call rfl rfl (some 21) rfl 52 _ _ _ rfl Try.func52 (by decide) rfl #[.int .u16 (maskL (posL f 16) : Int), .agg #[.int .u16 (s0 : Int), .int .u16 (s1 : Int), .int .u16 (s2 : Int)]] (map2 _ _ _ _ _ rfl rfl) (.bool (subB s0 (maskL (posL f 16)))) ((v4.drew.alloc (.cells (tokF f) 68)).alloc (.cells #[.int .u16 (s0 : Int), .int .u16 (s1 : Int), .int .u16 (s2 : Int)] 91)) (enables_any _ _ _ _ _ HS0.out) ?_ AllReady.nil
    refine wpAny_ready (rs := [4]) (by kernel_rfl) (by simp) ?_
    refine cons_not rfl rfl (some 22) rfl _ _ rfl (subB s0 (maskL (posL f 16))) rfl ?_ AllReady.nil
    refine wpAny_done (by kernel_rfl) ?_ _
    rw [hw5.out]
    cases hsub : subB s0 (maskL (posL f 16))
    · have HN := hide (HNO.out hsub)
      clear HNO HCA hsub hq0 hq1 hq2
      go_wp2_with (refine wpList_store_row rfl 68 (.tmp 6) _ rfl _ _ rfl rfl 68 _ P2w Try.size68 rfl lit_one ?_)
      refine bodyPost_ret (v := .tuple #[.agg #[.int .u8 0, .int .u8 0, .int .u8 0, .int .u8 0, .int .u8 0, .int .u8 0, .int .u8 0, .int .u8 0, .int .u8 0, .int .u8 0, .int .u8 0, .int .u8 0, .int .u8 0, .int .u8 0, .int .u8 0, .int .u8 0], .bool false]) ?_ rfl HN.out
      exact after_res Try.results43 _ _ (w.heap.size + 1 + 1) _ (.bool false) rfl rfl rfl (setRow_same P2w _)
    have HC := hide (HCA.out hsub)
    have HFB' : Hid (fireB n L f (k : Int) = capB s0 s1 s2 f 16) := by show _ = _; rw [HFB.out, hsub]; rfl
    clear HNO HCA hsub
    go_wp2_with (refine wpList_load_row rfl 68 (.tmp 4) rfl _ rfl 68 (tokF f) (0, 0) _ P1w Try.underlying68 rfl (by rw [tokF_size]; exact Try.size68) ?_)
    refine HC.out.mono ?_
    rintro e w6 ⟨h, rfl, hh, hb6⟩
    have P2x := keep P2w hb6
    have HB6 := hide (below_setRow (HB5.out.trans (hb6.mono HB5.out.size)) (w.heap.size + 1 + 1) (by omega) (tokF h))
    have HE : Hid (FiEnd n L f (k : Int) w (.returned (.tuple #[.agg (tokF h), .bool (capB s0 s1 s2 f 16)])) (w6.setRow (w.heap.size + 1 + 1) (tokF h))) :=
      ⟨h, by rw [HFB'.out], fun hg => by rw [HPF.out]; exact hh.out (HFB'.out.symm.trans hg), HB6.out⟩
    clear hq0 hq1 hq2 HC hh hb6
    obtain ⟨cb, hcb⟩ : ∃ b, Hid (capB s0 s1 s2 f 16 = b) := ⟨_, rfl⟩
    rw [hcb.out] at HE ⊢
    go_wp2_with (refine wpList_store_row rfl 68 (.tmp 6) _ rfl _ _ rfl rfl 68 _ P2x (by rw [tokF_size]; exact Try.size68) (by rw [tokF_size]; rfl) (tokF_one _) ?_)
    refine bodyPost_ret (v := .tuple #[.agg (tokF h), .bool cb]) ?_ rfl HE.out
    exact after_res Try.results43 _ _ (w.heap.size + 1 + 1) _ (.bool cb) rfl rfl (tokF_size _) (setRow_same P2x _)
end Go.Proofs.Ytbobppcnmpiacaa
