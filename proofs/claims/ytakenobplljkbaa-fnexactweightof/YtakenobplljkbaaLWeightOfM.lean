/- Proved: for every input, in whatever memory, the law FnExactWeightOf returns true and leaves its arguments as they were; no condition. -/
import Derived.Test.YtakenobplljkbaaP6
import Derived.WalkKit
import Derived.ProofKit
import Derived.OpenShut
import Derived.ShutString
import Derived.ChangeOld
import Derived.Below
namespace Go.Proofs.Ytakenobplljkbaa.fnExactWeightOf
open Go.ChangeShapes Go.WideShapes Go.ChangeAt Go.RowKit
open Go.ChangeMaps (open_string shut_string)
set_option linter.unusedVariables false

theorem own : ownKnob Try.prog.godebug = none := by kernel_rfl
theorem laidOut : laidOutB Try.prog = true := by kernel_rfl

set_option maxRecDepth 10000 in
set_option maxHeartbeats 4000000 in
theorem walk (p : Int) (a : Option Addr) (n c : Nat) (L : List (List Int)) (a1 : Option Addr) (n1 c1 : Nat) (xs1 : List Int) (a2 : Option Addr) (n2 c2 : Nat) (xs2 : List Int) (w : World) (hn : n ≤ maxLen) (hr : Lists w a (3 * n) L) (hn1 : n1 ≤ maxLen) (hr1 : Row w a1 n1 xs1) (hn2 : n2 ≤ maxLen) (hr2 : Row w a2 n2 xs2) :
    Calls Try.prog 7 #[.agg #[.int .i64 p, .slice a n c], .slice a1 n1 c1, .slice a2 n2 c2] w fun e w' => e = .returned (.bool true) ∧ Below w.heap.size w w' := by
  by_cases hbig1 : 1048576 < n1
  · clear hr hr1 hr2
    have hb1 : (1048576 : Int) < (n1 : Int) := by omega
    go_enter Try.func7, Try.ntmps7
    go_wp2_with fail
    go_ret
    exact ⟨rfl, below_al _ _⟩
  have hm1 : n1 ≤ 1048576 := by omega
  have hmm1 : ¬ (1048576 : Int) < (n1 : Int) := by omega
  by_cases hbig2 : 1048576 < n2
  · clear hr hr1 hr2
    have hb2 : (1048576 : Int) < (n2 : Int) := by omega
    go_enter Try.func7, Try.ntmps7
    go_wp2_with fail
    go_ret
    exact ⟨rfl, below_al _ _⟩
  have hm2 : n2 ≤ 1048576 := by omega
  have hmm2 : ¬ (1048576 : Int) < (n2 : Int) := by omega
  have HR := hide hr
  have HL := hide hr.1
  have HM1 := hide hr1
  have HLM1 := hide hr1.1
  have HM2 := hide hr2
  have HLM2 := hide hr2.1
  clear hr hr1 hr2 hbig1 hbig2
  go_enter Try.func7, Try.ntmps7
  go_wp2_with fail
  have HB0 := hide (below_al w (.cells #[.int .i64 p, .slice a n c] 24))
  have PAR := hide (heap_alloc_new w (.cells #[.int .i64 p, .slice a n c] 24))
  refine (szNet_any _ _ _ _ L _ (HR.out.below HB0.out) hn).mono ?_
  rintro e w1 ⟨rfl, hb⟩
  have HB1 := hide (HB0.out.trans (hb.mono HB0.out.size))
  have PAR1 := hide (keep PAR.out hb)
  clear HB0 PAR hb
  by_cases hg : leftOf 1048576 (sizeN n L) < 0
  · generalize leftOf 1048576 (sizeN n L) = l0 at *
    go_wp2_with fail
    go_ret
    exact ⟨rfl, HB1.out⟩
  have HS : Hid (sizeN n L ≤ 1048576) := by have := (leftOf_pos hg).1; show _ ≤ _; omega
  obtain ⟨r0, hr0v⟩ : ∃ r, Hid (woR p n L xs1 xs2 = r) := ⟨_, rfl⟩
  have hne0 : (r0 != r0) = false := by simp
  obtain ⟨r1, hr1v⟩ : ∃ r, Hid (woOk p n L xs1 xs2 = r) := ⟨_, rfl⟩
  have hne1 : (r1 != r1) = false := by simp
  have hsy1 := sameB_self xs1
  have hsy2 := sameB_self xs2
  generalize leftOf 1048576 (sizeN n L) = l0 at *
  obtain ⟨hc0, hc1⟩ := cells2 PAR1.out
  have hlt := row_lt PAR1.out
  go_wp2_with fail
  refine (toNet_any _ _ _ _ L _ (HR.out.below HB1.out) HS.out).mono ?_
  rintro e w2 ⟨B2, rfl, hB2, hp2, hb⟩
  have HB := hide (HB1.out.trans (hb.mono HB1.out.size))
  have PAR := hide (keep PAR1.out hb)
  have HLN := hide (hp2.lists HL.out HS.out)
  clear HB1 PAR1 hb hp2 hB2 hc0 hc1 hlt
  go_wp2_with fail
  refine (toInt_any _ _ _ xs1 _ (HM1.out.below HB.out) hm1).mono ?_
  rintro e w3 ⟨rfl, rfl⟩
  have hA := below_al w2 (.cells (cellsOf xs1) 3)
  have HB' := hide (HB.out.trans (hA.mono HB.out.size))
  have PAR' := hide (keep PAR.out hA)
  have HLN' := hide (HLN.out.below hA)
  have HY1 := hide (row_new w2 xs1 n1 w2.heap.size HLM1.out rfl)
  clear HB PAR HLN hA
  have HB := HB'
  clear HB'
  have PAR := PAR'
  clear PAR'
  have HLN := HLN'
  clear HLN'
  generalize w2.alloc (.cells (cellsOf xs1) 3) = w2l1 at *
  generalize w2.heap.size = nnw2l1 at *
  clear w2
  go_wp2_with fail
  refine (toInt_any _ _ _ xs2 _ (HM2.out.below HB.out) hm2).mono ?_
  rintro e w3 ⟨rfl, rfl⟩
  have hA := below_al w2l1 (.cells (cellsOf xs2) 3)
  have HB' := hide (HB.out.trans (hA.mono HB.out.size))
  have PAR' := hide (keep PAR.out hA)
  have HLN' := hide (HLN.out.below hA)
  have HY1' := hide (HY1.out.below hA)
  have HY2 := hide (row_new w2l1 xs2 n2 w2l1.heap.size HLM2.out rfl)
  clear HB PAR HLN hA HY1
  have HB := HB'
  clear HB'
  have PAR := PAR'
  clear PAR'
  have HLN := HLN'
  clear HLN'
  have HY1 := HY1'
  clear HY1'
  generalize w2l1.alloc (.cells (cellsOf xs2) 3) = w2l1l2 at *
  generalize w2l1.heap.size = nnw2l1l2 at *
  clear w2l1
  go_wp2_with fail
  refine (weightS_any p _ _ _ _ _ _ _ _ _ L xs1 xs2 _ HLN.out HY1.out HY2.out HS.out hm1 hm2).mono ?_
  unfold WoEnd
  rw [hr0v.out, hr1v.out]
  rintro e u ⟨rfl, hb⟩
  have HBU := hide (HB.out.trans (hb.mono HB.out.size))
  have PARU := hide (keep PAR.out hb)
  clear HB PAR HLN hb HY1 HY2
  clear w2l1l2
  obtain ⟨hc0, hc1⟩ := cells2 PARU.out
  have hlt := row_lt PARU.out
  go_wp2_with fail
  refine (toNet_any _ _ _ _ L _ (HR.out.below HBU.out) HS.out).mono ?_
  rintro e w4 ⟨B4, rfl, hB4, hp4, hb⟩
  have hA := below_al w4 (.cells #[.int .i64 p, .slice (some ⟨B4, 0, none⟩) n n] 28)
  have HB := hide ((HBU.out.trans (hb.mono HBU.out.size)).trans (hA.mono (by have := HBU.out.size; have := hb.size; omega)))
  have PAR := hide (keep (keep PARU.out hb) hA)
  have HX := hide (heap_alloc_new w4 (.cells #[.int .i64 p, .slice (some ⟨B4, 0, none⟩) n n] 28))
  have HLN := hide ((hp4.lists HL.out HS.out).below hA)
  clear HBU PARU hb hp4 hB4 hc0 hc1 hlt hA
  go_wp2_with fail
  generalize w4.alloc (.cells #[.int .i64 p, .slice (some ⟨B4, 0, none⟩) n n] 28) = w5 at *
  generalize w4.heap.size = bx at *
  clear w4 u
  refine (toInt_any _ _ _ xs1 _ (HM1.out.below HB.out) hm1).mono ?_
  rintro e w3 ⟨rfl, rfl⟩
  have hA := below_al w5 (.cells (cellsOf xs1) 3)
  have HB' := hide (HB.out.trans (hA.mono HB.out.size))
  have PAR' := hide (keep PAR.out hA)
  have HX' := hide (keep HX.out hA)
  have HLN' := hide (HLN.out.below hA)
  have HY1 := hide (row_new w5 xs1 n1 w5.heap.size HLM1.out rfl)
  clear HB PAR HLN hA HX
  have HB := HB'
  clear HB'
  have PAR := PAR'
  clear PAR'
  have HLN := HLN'
  clear HLN'
  have HX := HX'
  clear HX'
  generalize w5.alloc (.cells (cellsOf xs1) 3) = w5l1 at *
  generalize w5.heap.size = nnw5l1 at *
  clear w5
  go_wp2_with fail
  refine (toInt_any _ _ _ xs2 _ (HM2.out.below HB.out) hm2).mono ?_
  rintro e w3 ⟨rfl, rfl⟩
  have hA := below_al w5l1 (.cells (cellsOf xs2) 3)
  have HB' := hide (HB.out.trans (hA.mono HB.out.size))
  have PAR' := hide (keep PAR.out hA)
  have HX' := hide (keep HX.out hA)
  have HLN' := hide (HLN.out.below hA)
  have HY1' := hide (HY1.out.below hA)
  have HY2 := hide (row_new w5l1 xs2 n2 w5l1.heap.size HLM2.out rfl)
  clear HB PAR HLN hA HX HY1
  have HB := HB'
  clear HB'
  have PAR := PAR'
  clear PAR'
  have HLN := HLN'
  clear HLN'
  have HX := HX'
  clear HX'
  have HY1 := HY1'
  clear HY1'
  generalize w5l1.alloc (.cells (cellsOf xs2) 3) = w5l1l2 at *
  generalize w5l1.heap.size = nnw5l1l2 at *
  clear w5l1
  obtain ⟨hd0, hd1⟩ := cells2 HX.out
  have hlx := row_lt HX.out
  go_wp2_with fail
  refine (weightI_any p _ _ _ _ _ _ _ _ _ L xs1 xs2 _ HLN.out HY1.out HY2.out HS.out hm1 hm2).mono ?_
  unfold WoEnd
  rw [hr0v.out, hr1v.out]
  rintro e w5 ⟨rfl, hb⟩
  have HB5 := hide (HB.out.trans (hb.mono HB.out.size))
  have PAR5 := hide (keep PAR.out hb)
  have HX5 := hide (keep HX.out hb)
  have HL5 := hide (HLN.out.below hb)
  have HY51 := hide (HY1.out.below hb)
  have HY52 := hide (HY2.out.below hb)
  clear HB PAR HX HLN HY1 HY2 hb hd0 hd1 hlx w5l1l2
  obtain ⟨hc0, hc1⟩ := cells2 PAR5.out
  obtain ⟨hd0, hd1⟩ := cells2 HX5.out
  have hlt := row_lt PAR5.out
  have hlx := row_lt HX5.out
  go_wp2_with fail
  have HT := hide (toNet_any p a n c L (w5.drewN 1) ((HR.out.below HB5.out).below (below_drewN' _ _)) HS.out)
  go_region_with (first
    | (go_at_call 11
       refine HT.out.mono ?_
       rintro e w6 ⟨B6, rfl, hB6, hp6, hb⟩
       have hb' := (below_drewN' w5 1).trans hb
       have HB6 := hide (HB5.out.trans (hb'.mono HB5.out.size))
       have HL6 := hide (HL5.out.below hb')
       have HY61 := hide (HY51.out.below hb')
       have HY62 := hide (HY52.out.below hb')
       have HM6 := hide (hp6.lists HL.out HS.out)
       obtain ⟨he0, he1⟩ := cells2 (keep HX5.out hb')
       clear hb hb' hp6 hB6)
    | (go_at_call 13
       refine (eqNet_any _ _ _ _ _ _ L _ HL6.out HM6.out HS.out).mono ?_
       rintro e w7 ⟨rfl, hb⟩
       have HB7 := hide (HB6.out.trans (hb.mono HB6.out.size))
       have HY71 := hide (HY61.out.below hb)
       have HY72 := hide (HY62.out.below hb)
       clear hb))
  all_goals
    clear HT HB5 PAR5 HX5 HL5 HB6 HL6 HM6 he0 he1 hc0 hc1 hd0 hd1 hlt hlx HY51 HY61 HY52 HY62
    go_wp2_with fail
    refine (toInt_any _ _ _ xs1 _ (HM1.out.below HB7.out) hm1).mono ?_
    rintro e w8 ⟨rfl, rfl⟩
    have hA := below_al w7 (.cells (cellsOf xs1) 3)
    have HBa1 := hide (HB7.out.trans (hA.mono HB7.out.size))
    have HYa11 := hide (HY71.out.below hA)
    have HYa12 := hide (HY72.out.below hA)
    have HNa := hide (row_new w7 xs1 n1 w7.heap.size HLM1.out rfl)
    generalize w7.alloc (.cells (cellsOf xs1) 3) = wa1 at *
    generalize w7.heap.size = na1 at *
    clear HB7 hA HY71 HY72
    go_wp2_with fail
    refine (eq_any _ _ _ _ _ _ xs1 xs1 _ HYa11.out HNa.out hm1).mono ?_
    rintro e w9 ⟨rfl, q, rfl⟩
    have HBb1 := hide (HBa1.out.trans ((below_drewN' wa1 q).mono HBa1.out.size))
    have HYb12 := hide (HYa12.out.below (below_drewN' wa1 q))
    generalize wa1.drewN q = wb1 at *
    clear HNa HBa1 HYa11 HYa12
    go_wp2_with fail
    refine (toInt_any _ _ _ xs2 _ (HM2.out.below HBb1.out) hm2).mono ?_
    rintro e w8 ⟨rfl, rfl⟩
    have hA := below_al wb1 (.cells (cellsOf xs2) 3)
    have HBa2 := hide (HBb1.out.trans (hA.mono HBb1.out.size))
    have HYa22 := hide (HYb12.out.below hA)
    have HNa := hide (row_new wb1 xs2 n2 wb1.heap.size HLM2.out rfl)
    generalize wb1.alloc (.cells (cellsOf xs2) 3) = wa2 at *
    generalize wb1.heap.size = na2 at *
    clear HBb1 hA HYb12
    go_wp2_with fail
    refine (eq_any _ _ _ _ _ _ xs2 xs2 _ HYa22.out HNa.out hm2).mono ?_
    rintro e w9 ⟨rfl, q, rfl⟩
    have HBb2 := hide (HBa2.out.trans ((below_drewN' wa2 q).mono HBa2.out.size))
    generalize wa2.drewN q = wb2 at *
    clear HNa HBa2 HYa22
    go_wp2_with fail
    go_ret
    exact ⟨rfl, HBb2.out⟩

/-! ### THE ROW's STEP -/
set_option maxRecDepth 100000 in
theorem lifted (os : Os) (started : os.Started) (H : Type) (enc : TypeId × Value → H) :
    ReturnsInHanded {} Try.checked os 7 .any (Rows.fnExactWeightOfSpec.pre6 enc Try.prog Try.f7 Rows.fnExactWeightOfRow.domain false) (Rows.fnExactWeightOfSpec.post enc Try.prog Try.f7 false true false false) := by
  refine returnsInHanded_of_change (C := Try.checked) own started (by kernel_rfl) Try.func7
    (ChangeSpec.witness6 (enc := enc) (C := Try.checked) false ⟨#[], #[.agg #[.int .i64 0, .slice none 0 0], .slice none 0 0, .slice none 0 0], []⟩ 8 (by kernel_rfl) (by kernel_rfl) (by kernel_rfl) (by kernel_rfl)) ?_
  intro W base args ds gs before hval0 hW hcnd _
  have hval : ∀ (j : Nat) t v, Try.f7.params[j]? = some t → args[j]? = some v → Value.okWide Try.prog W .any base t v := hval0
  have hW' := hW
  obtain ⟨p, q, hA0, hV, rfl, hfz, hnd⟩ := hW
  have hA : DataW.TrodAll enc Try.prog W 0 (fun _ => true) true Try.f7.params.toList args.toList ds p := hA0
  rw [Try.params7] at hA hval
  obtain ⟨v0, vs0, d0, ds0, p0, q0, hargs, rfl, rfl, h0, r0⟩ := trodAll_cons hA
  obtain ⟨v1, vs1, d1, ds1, p1, q1, rfl, rfl, rfl, h1, r1⟩ := trodAll_cons r0
  obtain ⟨v2, vs2, d2, ds2, p2, q2, rfl, rfl, rfl, h2, r2⟩ := trodAll_cons r1
  obtain ⟨rfl, rfl, rfl⟩ := trodAll_nil r2
  obtain rfl : args = #[v0, v1, v2] := by cases args; simp_all
  obtain ⟨rfl, rfl⟩ := trodVars_none hV
  have k0 := h0
  have lt0 : ∀ x ∈ p0, x.block < W.heap.size := by obtain ⟨m, hm⟩ := k0; exact DataW.trod_lt m _ _ _ hm
  obtain ⟨g0, a0, n0, c0, L0, rfl, m0, w0⟩ := open_net (hval 0 24 v0 rfl rfl) h0
  have k1 := h1
  have lt1 : ∀ x ∈ p1, x.block < W.heap.size := by obtain ⟨m, hm⟩ := k1; exact DataW.trod_lt m _ _ _ hm
  obtain ⟨e1, f1, t1, rfl⟩ := okWide_slice Try.underlying35 (hval 1 35 v1 rfl rfl)
  obtain ⟨a1, n1, c1, L1, he1, m1, w1⟩ : ∃ a n c xs, Value.slice e1 f1 t1 = .slice a n c ∧ n ≤ maxLen ∧ Row W a n xs := by
    obtain ⟨fuel, hf⟩ := h1
    simp only [Value.cells] at hf
    exact row_of_ints hf
  simp only [Value.slice.injEq] at he1
  obtain ⟨rfl, rfl, rfl⟩ := he1
  have k2 := h2
  have lt2 : ∀ x ∈ p2, x.block < W.heap.size := by obtain ⟨m, hm⟩ := k2; exact DataW.trod_lt m _ _ _ hm
  obtain ⟨e2, f2, t2, rfl⟩ := okWide_slice Try.underlying35 (hval 2 35 v2 rfl rfl)
  obtain ⟨a2, n2, c2, L2, he2, m2, w2⟩ : ∃ a n c xs, Value.slice e2 f2 t2 = .slice a n c ∧ n ≤ maxLen ∧ Row W a n xs := by
    obtain ⟨fuel, hf⟩ := h2
    simp only [Value.cells] at hf
    exact row_of_ints hf
  simp only [Value.slice.injEq] at he2
  obtain ⟨rfl, rfl, rfl⟩ := he2
  clear hA0 hval0
  refine (walk g0 a0 n0 c0 L0 e1 f1 t1 L1 e2 f2 t2 L2 W m0 w0 m1 w1 m2 w2).mono fun e W' ⟨he, bel⟩ => ?_
  subst he
  exact ⟨_, rfl, _, _, _, [], _, [], hW', trodAll_mk1 (shut_bool Try.underlying4 _), (trodAll_cons_mk (Below.trod laidOut (by kernel_rfl) (of_decide_eq_true (by kernel_rfl)) k0 bel lt0) (trodAll_cons_mk (Below.trod laidOut (by kernel_rfl) (of_decide_eq_true (by kernel_rfl)) k1 bel lt1) (trodAll_cons_mk (Below.trod laidOut (by kernel_rfl) (of_decide_eq_true (by kernel_rfl)) k2 bel lt2) trodAll_mk0))), rfl, bel.frame _, fun h => by cases h⟩

theorem over : Rows.fnExactWeightOfRow.holds Try.pinned (OpenSpec.ofChange Rows.fnExactWeightOfSpec) :=
  OpenClaim.holds_of_wide 7 Try.f7 rfl rfl rfl rfl rfl rfl rfl ⟨rfl, rfl, rfl, rfl, rfl⟩ rfl rfl rfl rfl rfl (by kernel_rfl) Try.func7 (by kernel_rfl)
    (of_decide_eq_true (by kernel_rfl)) (by unfold Func.isWrapper; first | (rw [if_pos (by decide +kernel)]; kernel_rfl) | (rw [if_neg (by decide +kernel)]; exact ⟨rfl, rfl⟩))
    (fun os started H enc _ => lifted os started H enc)

/-- ████ THE STATEMENT ████ -/
theorem proved : Rows.FnExactWeightOfSaid := over
#print axioms proved
end Go.Proofs.Ytakenobplljkbaa.fnExactWeightOf

namespace Go.Proofs.Ytakenobplljkbaa
theorem fnExactWeightOf_holds : Rows.FnExactWeightOfSaid := fnExactWeightOf.proved
end Go.Proofs.Ytakenobplljkbaa
