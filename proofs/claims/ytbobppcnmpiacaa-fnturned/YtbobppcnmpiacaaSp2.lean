/- TurnNet of the specification, over a net that can merely be read. -/
import Derived.Test.YtbobppcnmpiacaaSq
import Derived.Test.YtbobppcnmpiacaaLq
namespace Go.Proofs.Ytbobppcnmpiacaa
open Go.RowKit
set_option maxRecDepth 10000

set_option maxHeartbeats 400000 in
theorem own4_any (a : Option Addr) (n c : Nat) (xs : List Int) (w : World) (ha : Row w a n xs) (hn : n ≤ 1048576) :
    Calls Try.prog 38 #[.slice a n c] w fun e w' => ∃ a' g c', e = .returned (.slice a' n c') ∧ w.heap.size ≤ g ∧ Ob w' a' g n xs ∧ Below w.heap.size w w' := by
  obtain ⟨i0, hi, hz0, hz1, hz2⟩ := info_split Try.info3
  have P0 := hide (PutSt.first w)
  have HA := hide (ha.below P0.out.bel)
  have HL := hide ha.1
  clear ha
  go_enter Try.func38, Try.ntmps38
  go_wp2_with (at_builtin; refine wpList_append_any2 _ rfl (.tmp 3) (.tmp 4) 27 rfl w.heap.size 3 i0 (.int .i64 0) 1 8 Try.underlying27 hi hz0 hz1 hz2 rfl (by decide) (.slice (some ⟨w.heap.size, 0, none⟩) 0 0) 0 [] rfl P0.out.own a n c (xs.map (Value.int .i64)) rfl (by rw [List.length_map, Nat.mul_one]; exact HL.out) (fun h => by (rcases HA.out.2 with h0 | ⟨b, off, e, _⟩; exact h0; rw [h] at e; cases e)) HA.out.some_of (ints_oneCell _ _) (by unfold maxLen; omega) (by omega) (by simp) ?_; intro u1 W1 r1 r2; have P1 := hide (P0.out.step (q := n) (zs := xs) r1 r2); clear r1 r2)
  go_ret
  have P2 := P1.out
  rw [Nat.zero_add, List.nil_append] at P2
  obtain ⟨a', g, c', e, hg, ho⟩ := own_ob2 P2.own
  subst e
  exact ⟨a', g, c', rfl, hg, ho, P2.bel⟩

theorem run_callh {P : Program} {o : Oper} {a : Act} {w : World} (f : FuncId) (fn : Func) (xs : Array Operand) (ts : Array TypeId) (hop : o.op = Op.call { callee := Callee.value (Operand.func f), args := xs, argTypes := ts })
    (hfn : P.funcs[f]? = some fn) (hnm : (fn.name == "runtime.NumGoroutine") = false) (hbd : fn.body.isNone = false) : (execOp a.eval o).run P w = .ok (.enter f (xs.map a.eval)) w := by
  have hnm' : ¬ fn.name = "runtime.NumGoroutine" := by simpa using hnm
  have hbd' : ¬ fn.body = none := by intro e; rw [e] at hbd; simp at hbd
  unfold execOp
  simp only [hop]
  simp [resolve, invoke, go_sem, Act.eval, callFunc, hfn, hnm', hbd']

theorem maph1 (g : Operand → Value) (x : Operand) (v : Value) (h : g x = v) : (#[x] : Array Operand).map g = #[v] := by simp [h]

/-- A call as one step of a region that draws its order. -/
theorem step_callE {P : Program} {ops : Array Oper} {o : Oper} {a : Act} {w : World} {K : Act → World → Prop} {Q : Exit → Act → World → Prop} {E : Prop}
    (hg : o.guard = none) (f : FuncId) (fn : Func) (xs : Array Operand) (ts : Array TypeId) (hop : o.op = Op.call { callee := Callee.value (Operand.func f), args := xs, argTypes := ts })
    (hfn : P.funcs[f]? = some fn) (hnm : (fn.name == "runtime.NumGoroutine") = false) (hbd : fn.body.isNone = false) (args : Array Value) (hargs : xs.map a.eval = args) (R : Ending → World → Prop) (hc : Calls P f args w R)
    (h : ∀ e w', R e w' → ∃ v, e = .returned v ∧ K (a.put o.dst v) w') :
    if Region.wanted o (yielded ops a.tmps) = true then Oper.wp P o a w K Q else E := by
  have hw : Region.wanted o (yielded ops a.tmps) = true := by simp [Region.wanted, hg]
  rw [if_pos hw]
  unfold Oper.wp
  rw [run_callh f fn xs ts hop hfn hnm hbd, hargs, Oper.upon_enter]
  refine hc.mono fun e w'' hh => ?_
  obtain ⟨v, rfl, hk⟩ := h e w'' hh
  exact hk

theorem news3 (w : World) (x y z : Value) : ∀ j u, ([x, y, z] : List Value)[j]? = some u → (w.alloc (.cells #[x, y, z] 39)).cell? ((⟨w.heap.size, 0, none⟩ : Addr).add j) = some u := by
  intro j u hu
  rw [Addr.add_mid, cell_of_row _ w.heap.size (0 + j) #[x, y, z] _ _ (heap_alloc_new _ _), Nat.zero_add]
  simpa using hu

/-- How it ends: the net can be read. -/
def SpEnd (g : Bool) (p : Int) (n : Nat) (L : List (List Int)) (w : World) (e : Ending) (w' : World) : Prop :=
  ∃ a c, e = .returned (.tuple #[.agg #[.int .i64 (if g then p else 0), .slice a (if g then n else 0) c], .bool g]) ∧ (g = true → Lists w' a (3 * n) (turnL n L)) ∧ Below w.heap.size w w'

theorem spEnd_no {p : Int} {n : Nat} {L : List (List Int)} {w w' : World} (hb : Below w.heap.size w w') : SpEnd false p n L w (.returned (.tuple #[.agg #[.int .i64 0, .slice none 0 0], .bool false])) w' :=
  ⟨none, 0, rfl, fun h => by simp at h, hb⟩
theorem spEnd_yes {p : Int} {n : Nat} {L : List (List Int)} {w w' : World} {a : Option Addr} {c : Nat} (hl : Lists w' a (3 * n) (turnL n L)) (hb : Below w.heap.size w w') : SpEnd true p n L w (.returned (.tuple #[.agg #[.int .i64 p, .slice a n c], .bool true])) w' :=
  ⟨a, c, rfl, fun _ => hl, hb⟩

theorem SpInv.first (w3 : World) (p : Int) (L : List (List Int)) : SpInv w3 (w3.alloc (.cells #[.int .i64 p, .slice none 0 0] 26)) w3.heap.size p 0 L (.slice none 0 0) [] :=
  ⟨heap_alloc_new _ _, rfl, below_al _ _, ⟨rfl, .inl ⟨rfl, rfl⟩⟩, fun _ => none, fun _ => 0, fun _ => 0, fun j hj => absurd hj (by omega)⟩

set_option maxHeartbeats 8000000 in
theorem turnS2_any (p : Int) (a : Option Addr) (n c : Nat) (L : List (List Int)) (w : World) (h : Lists w a (3 * n) L) (hs : sizeN n L ≤ 1048576) :
    Calls Try.prog 21 #[.agg #[.int .i64 p, .slice a n c]] w fun e w' => SpEnd (turnOk p n L) p n L w e w' := by
  have HA := hide (below_two w (.cells #[.int .i64 p, .slice a n c] 26) (.cells #[.int .i64 0, .slice none 0 0] 26))
  have PAR : Hid (((w.alloc (.cells #[.int .i64 p, .slice a n c] 26)).alloc (.cells #[.int .i64 0, .slice none 0 0] 26)).heap[w.heap.size]? = some (.cells #[.int .i64 p, .slice a n c] 26 (0, 0))) := by
    show ((w.alloc _).alloc _).heap[w.heap.size]? = _
    rw [heap_al_old _ _ _ (by simp)]; exact heap_alloc_new _ _
  have HR0 : Hid (((w.alloc (.cells #[.int .i64 p, .slice a n c] 26)).alloc (.cells #[.int .i64 0, .slice none 0 0] 26)).heap[w.heap.size + 1]? = some (.cells #[.int .i64 0, .slice none 0 0] 26 (0, 0))) := by
    have := heap_alloc_new (w.alloc (.cells #[.int .i64 p, .slice a n c] 26)) (.cells #[.int .i64 0, .slice none 0 0] 26)
    rw [show (w.alloc (.cells #[.int .i64 p, .slice a n c] 26)).heap.size = w.heap.size + 1 by simp] at this
    exact this
  have HG := hide (goodNetS_any p a n c L _ (h.below HA.out) hs)
  have HL := hide h
  obtain ⟨i1, hi1, hz0, hz1, hz2⟩ := info_split2 Try.info39
  clear h
  by_cases hg : netOk p n L = true
  rotate_left
  · have hg' : netOk p n L = false := by simpa using hg
    rw [turnOk_net hg']
    rw [hg'] at HG
    clear hg hg'
    go_enter Try.func21, Try.ntmps21
    go_wp2_with fail
    refine HG.out.mono ?_
    rintro e w2 ⟨rfl, hb⟩
    have HB2 := hide (HA.out.trans (hb.mono HA.out.size))
    have hR := keep HR0.out hb
    have hr0 : w2.cell? ⟨w.heap.size + 1, 0, none⟩ = some (.int .i64 0) := cell_of_row w2 _ 0 _ _ _ hR
    have hr1 : w2.cell? ⟨w.heap.size + 1, 1, none⟩ = some (.slice none 0 0) := cell_of_row w2 _ 1 _ _ _ hR
    have hf0 : w2.frozen? ⟨w.heap.size + 1, 0, none⟩ = false := frozen_of_row w2 _ 0 _ _ hR
    have hf1 : w2.frozen? ⟨w.heap.size + 1, 1, none⟩ = false := frozen_of_row w2 _ 1 _ _ hR
    clear hb HG hR
    go_wp2_with fail
    refine bodyPost_ret (v := .tuple #[.agg #[.int .i64 0, .slice none 0 0], .bool false]) (by simp [results, Try.results21, go_sem, hr0, hr1]) rfl ?_
    exact spEnd_no ((HB2.out.setCell (by simp) _).setCell (by simp) _)
  have hn := netN hg
  have HGO := hide hg
  have HSZ := hide (turnL_size hg)
  rw [hg] at HG
  clear hg
  go_enter Try.func21, Try.ntmps21
  go_wp2_with fail
  refine HG.out.mono ?_
  rintro e w2 ⟨rfl, hb⟩
  have HB2 := hide (HA.out.trans (hb.mono HA.out.size))
  have PAR2 := hide (keep PAR.out hb)
  have HR2 := hide (keep HR0.out hb)
  obtain ⟨hc0, hc1⟩ := cells2 PAR2.out
  have hl2 := row_lt PAR2.out
  clear hb PAR HR0 HG HA
  go_wp2_with fail
  refine (resS_any _ _ _ _ L _ (HL.out.below HB2.out) hn).mono ?_
  rintro e w3 ⟨rfl, hb⟩
  have HB3 := hide (HB2.out.trans (hb.mono HB2.out.size))
  have PAR3 := hide (keep PAR2.out hb)
  have HRW := hide (keep HR2.out hb)
  have HRS := hide (row_lt HRW.out)
  clear hc0 hc1 hl2
  obtain ⟨hc0, hc1⟩ := cells2 PAR3.out
  have hl3 := row_lt PAR3.out
  clear hb PAR2 HR2 HB2 PAR3
  by_cases hrm : resB n L = true
  · have HTO := hide (turnOk_res (p := p) hrm)
    rw [hrm]
    have hR := HRW.out
    have hr0 : w3.cell? ⟨w.heap.size + 1, 0, none⟩ = some (.int .i64 0) := cell_of_row w3 _ 0 _ _ _ hR
    have hr1 : w3.cell? ⟨w.heap.size + 1, 1, none⟩ = some (.slice none 0 0) := cell_of_row w3 _ 1 _ _ _ hR
    have hf0 : w3.frozen? ⟨w.heap.size + 1, 0, none⟩ = false := frozen_of_row w3 _ 0 _ _ hR
    have hf1 : w3.frozen? ⟨w.heap.size + 1, 1, none⟩ = false := frozen_of_row w3 _ 1 _ _ hR
    clear hR hrm
    go_wp2_with fail
    refine bodyPost_ret (v := .tuple #[.agg #[.int .i64 0, .slice none 0 0], .bool false]) (by simp [results, Try.results21, go_sem, hr0, hr1]) rfl ?_
    rw [HTO.out]
    exact spEnd_no ((HB3.out.setCell (by simp) _).setCell (by simp) _)
  have HRB : Hid (resB n L = false) := by simpa [Hid] using hrm
  rw [HRB.out]
  clear hrm
  go_wp2_with fail
  have HI := hide (SpInv.first w3 p L)
  generalize w3.alloc (.cells #[.int .i64 p, .slice none 0 0] 26) = W at HI ⊢
  generalize hVV : w3.heap.size = V at HI ⊢
  clear hc0 hc1 hl3
  go_loopw [21] (fun i wr => ∃ (k : Nat) (v : Value) (cells : List Value), k ≤ n ∧ i = .int .i64 k ∧ Hid (SpInv w3 wr V p k L v cells)) (fun i _ => n - (intOf i).toNat)
  case atStart => exact ⟨0, _, _, Nat.zero_le _, rfl, HI⟩
  case round =>
    obtain ⟨k, v, cells, hk, rfl, hin⟩ := hrel
    clear HI
    by_cases hlt : k < n
    rotate_left
    · have hk' : k = n := by omega
      subst hk'
      obtain ⟨av, cv, rfl, hlv⟩ := hin.out.lists HSZ.out
      have hVr := hin.out.var
      obtain ⟨hV0, hV1⟩ := cells2 hVr
      have hlV := row_lt hVr
      have HGN := hide (goodNetS_any p av k cv (turnL k L) wr hlv HSZ.out)
      have HLV := hide hlv
      clear hVr hlv
      go_wp2_with fail
      refine HGN.out.mono ?_
      rintro e w4 ⟨rfl, hb4⟩
      have h40 : w4.cell? ⟨V, 0, none⟩ = some (.int .i64 p) := (hb4.cell hlV).trans hV0
      have h41 : w4.cell? ⟨V, 1, none⟩ = some (.slice av k cv) := (hb4.cell hlV).trans hV1
      have HB4 := hide (hin.out.bel.trans (hb4.mono hin.out.bel.size))
      have hR4 := (HB4.out.block (w.heap.size + 1) HRS.out).trans HRW.out
      have hr0 : w4.cell? ⟨w.heap.size + 1, 0, none⟩ = some (.int .i64 0) := cell_of_row w4 _ 0 _ _ _ hR4
      have hr1 : w4.cell? ⟨w.heap.size + 1, 1, none⟩ = some (.slice none 0 0) := cell_of_row w4 _ 1 _ _ _ hR4
      have hf0 : w4.frozen? ⟨w.heap.size + 1, 0, none⟩ = false := frozen_of_row w4 _ 0 _ _ hR4
      have hf1 : w4.frozen? ⟨w.heap.size + 1, 1, none⟩ = false := frozen_of_row w4 _ 1 _ _ hR4
      have HBF := hide (HB3.out.trans (HB4.out.mono HB3.out.size))
      have HTO := hide (turnOk_last HGO.out HRB.out)
      have HI4 := hide (hin.out.grow hb4)
      have H41 := hide (show w.heap.size + 1 < V by have := HRS.out; omega)
      clear hV0 hV1 HGN hR4 hin hb4 HLV
      cases hgt : netOk p k (turnL k L)
      · rw [hgt] at HTO
        go_wp2_with fail
        refine bodyPost_ret (v := .tuple #[.agg #[.int .i64 0, .slice none 0 0], .bool false]) (by simp [results, Try.results21, go_sem, hr0, hr1]) rfl ?_
        rw [HTO.out]
        exact spEnd_no ((HBF.out.setCell (by simp) _).setCell (by simp) _)
      · rw [hgt] at HTO
        go_wp2_with fail
        refine bodyPost_ret (v := .tuple #[.agg #[.int .i64 p, .slice av k cv], .bool true]) (by simp [results, Try.results21, go_sem, hr0, hr1]) rfl ?_
        rw [HTO.out]
        obtain ⟨a5, c5, e5, h5⟩ := HI4.out.lists_low HSZ.out (high_set2 w4 V (w.heap.size + 1) 0 1 (.int .i64 p) (.slice av k cv) H41.out)
        obtain ⟨rfl, rfl⟩ : av = a5 ∧ cv = c5 := by simpa using e5
        exact spEnd_yes h5 ((HBF.out.setCell (by simp) _).setCell (by simp) _)
    have HBr := hide (HB3.out.trans (hin.out.bel.mono HB3.out.size))
    obtain ⟨b, off, s0, l0, q0, s1, l1, q1, s2, l2, q2, rfl, hbz, tri⟩ := (HL.out.below HBr.out).tri hlt
    have hx0 : wr.cell? ⟨b, off + k * 3, none⟩ = some (.slice s0 l0 q0) := tri.1 0 _ rfl
    have hx1 : wr.cell? ⟨b, off + k * 3 + 1, none⟩ = some (.slice s1 l1 q1) := tri.1 1 _ rfl
    have hx2 : wr.cell? ⟨b, off + k * 3 + 2, none⟩ = some (.slice s2 l2 q2) := tri.1 2 _ rfl
    have R0 := hide tri.2.2.2.2.1
    have R1 := hide tri.2.2.2.2.2.1
    clear tri
    have hA1 := below_al wr (.cells #[.slice s0 l0 q0, .slice s1 l1 q1, .slice s2 l2 q2] 39)
    have HI1 := hide (hin.out.grow hA1)
    have HR0 := hide (R0.out.below hA1)
    have HR1 := hide (R1.out.below hA1)
    have HC := hide (show (wr.alloc (.cells #[.slice s0 l0 q0, .slice s1 l1 q1, .slice s2 l2 q2] 39)).cell? ⟨wr.heap.size, 0, none⟩ = some (.slice s0 l0 q0) ∧ (wr.alloc (.cells #[.slice s0 l0 q0, .slice s1 l1 q1, .slice s2 l2 q2] 39)).cell? ⟨wr.heap.size, 1, none⟩ = some (.slice s1 l1 q1) by simp)
    have hm0 : l0 ≤ 1048576 := by have h1 := R0.out.1; have h2 := getLen16 HGO.out (3 * k) (by omega); omega
    have hm1 : l1 ≤ 1048576 := by have h1 := R1.out.1; have h2 := getLen16 HGO.out (3 * k + 1) (by omega); omega
    clear hin hA1 R0 R1
    go_wp2_with fail
    clear hx0 hx1 hx2
    generalize wr.alloc (.cells #[.slice s0 l0 q0, .slice s1 l1 q1, .slice s2 l2 q2] 39) = W0 at HI1 HC HR0 HR1 ⊢
    generalize wr.heap.size = tB at HC ⊢
    have HI2 := hide (HI1.out.grow (Below.refl _ W0).drew)
    have hq0 : W0.cell? ⟨V, 1, none⟩ = some v := cell_of_row W0 V 1 _ _ _ HI1.out.var
    obtain ⟨hq1, hq2⟩ := HC.out
    have HQ := hide (show W0.drew.cell? ⟨V, 1, none⟩ = some v ∧ W0.drew.cell? ⟨tB, 0, none⟩ = some (.slice s0 l0 q0) ∧ W0.drew.cell? ⟨tB, 1, none⟩ = some (.slice s1 l1 q1) from ⟨hq0, hq1, hq2⟩)
    have HR0' := hide (HR0.out.below (Below.refl _ W0).drew)
    have HR1' := hide (HR1.out.below (Below.refl _ W0).drew)
    clear HC HI1 HR0 HR1
    go_region_law (first
      | (refine step_callE (by rfl) 38 _ #[.tmp 28] #[27] (by rfl) Try.func38 (by decide) (by rfl) #[.slice s1 l1 q1] (maph1 _ _ _ (by rfl)) _ (own4_any s1 l1 q1 _ _ HR1'.out hm1) ?_; rintro e v1 ⟨a1, b1, c1, rfl, hg1, ho1, hbl1⟩; refine ⟨_, rfl, ?_⟩; obtain ⟨hs0, hs1, hs2⟩ := keep3 hbl1 HQ.out)
      | (refine step_callE (by rfl) 38 _ #[.tmp 31] #[27] (by rfl) Try.func38 (by decide) (by rfl) #[.slice s0 l0 q0] (maph1 _ _ _ (by rfl)) _ (own4_any s0 l0 q0 _ _ (HR0'.out.below hbl1) hm0) ?_; rintro e v2 ⟨a2, b2, c2, rfl, hg2, ho2, hbl2⟩; refine ⟨_, rfl, ?_⟩; obtain ⟨ht0, ht1, ht2⟩ := keep3 hbl2 (keep3 hbl1 HQ.out); have hA2 := below_al v2 (.cells #[.slice a1 l1 c1, .slice a2 l0 c2, .slice none 0 0] 39); obtain ⟨hy0, hy1, hy2⟩ := keep3 hA2 ⟨ht0, ht1, ht2⟩; have HI4 := hide (((HI2.out.grow hbl1).grow hbl2).grow hA2); have HNW := hide (news3 v2 (.slice a1 l1 c1) (.slice a2 l0 c2) (.slice none 0 0)))
      | (refine step_append_lies _ (by rfl) (.tmp 26) (.tmp 34) 24 (by rfl) (V + 1) 39 i1 _ 3 72 Try.underlying24 hi1 hz0 hz1 hz2 (by rfl) (by decide) v k cells (by rfl) HI4.out.own ⟨v2.heap.size, 0, none⟩ 1 1 [.slice a1 l1 c1, .slice a2 l0 c2, .slice none 0 0] (by rfl) (by rfl) HNW.out (by simp [Value.oneCell']) (by decide) (by unfold maxLen; omega) (by omega) (by have := HI4.out.lt; omega) (v2.heap.size + 1) (by simp) ?_; intro g cp W' hown hgr hlies hglt; have hV' := (hgr.block V HI4.out.lt (fun e => by have := HI4.out.own.lt V e.symm; omega)).trans HI4.out.var; have hz3 : W'.cell? ⟨V, 1, none⟩ = some v := cell_of_row W' V 1 _ _ _ hV'; have hz4 : W'.frozen? ⟨V, 1, none⟩ = false := frozen_of_row W' V 1 _ _ hV'))
    all_goals (have HI3 := hide (HI2.out.step hbl1 hg1 ho1 hbl2 hg2 ho2 hA2 rfl rfl hown hgr (by simpa using hlies)); clear hown hgr hlies hglt hV' hz3 hz4 HNW HI4 hA2)
    all_goals go_wp2_with fail
    all_goals go_roundw
    all_goals first | exact ⟨k + 1, _, _, by omega, by go_num, HI3⟩ | (simp [intOf]; omega)
end Go.Proofs.Ytbobppcnmpiacaa
