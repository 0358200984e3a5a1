/- Proved: for every input, in whatever memory, the law FnExactBoundOf returns true and leaves its arguments as they were; no condition. -/
import Derived.Test.YtmicboobfnbclaaP11
import Derived.WalkKit
import Derived.ProofKit
import Derived.OpenShut
import Derived.ShutString
import Derived.ChangeOld
import Derived.Below
namespace Go.Proofs.Ytmicboobfnbclaa.fnExactBoundOf
open Go.ChangeShapes Go.WideShapes Go.ChangeAt Go.RowKit
open Go.ChangeMaps (open_string shut_string)
set_option linter.unusedVariables false

theorem own : ownKnob Try.prog.godebug = none := by kernel_rfl
theorem laidOut : laidOutB Try.prog = true := by kernel_rfl

set_option maxRecDepth 10000 in
set_option maxHeartbeats 2000000 in
theorem walk (p : Int) (a : Option Addr) (n c : Nat) (L : List (List Int)) (am : Option Addr) (nm cm : Nat) (ys : List Int) (bg q0 : Int) (w : World) (hn : n ≤ maxLen) (hr : Lists w a (3 * n) L) (hnm : nm ≤ maxLen) (hrm : Row w am nm ys) :
    Calls Try.prog 8 #[.agg #[.int .i64 p, .slice a n c], .slice am nm cm, .int .i64 bg, .int .i64 q0] w fun e w' => e = .returned (.bool true) ∧ Below w.heap.size w w' := by
  by_cases hbig : 1048576 < nm
  · clear hr hrm
    have hb' : (1048576 : Int) < (nm : Int) := by omega
    go_enter Try.func8, Try.ntmps8
    go_wp2_with fail
    go_ret
    exact ⟨rfl, below_al _ _⟩
  have hm : nm ≤ 1048576 := by omega
  have hm' : ¬ (1048576 : Int) < (nm : Int) := by omega
  have HR := hide hr
  have HL := hide hr.1
  have HM := hide hrm
  have HLM := hide hrm.1
  clear hr hrm hbig
  go_enter Try.func8, Try.ntmps8
  go_wp2_with fail
  have HB0 := hide (below_al w (.cells #[.int .i64 p, .slice a n c] 24))
  have PAR := hide (heap_alloc_new w (.cells #[.int .i64 p, .slice a n c] 24))
  refine (szNet_any _ _ _ _ L _ (HR.out.below HB0.out) hn).mono ?_
  rintro e w1 ⟨rfl, hb⟩
  have HB1 := hide (HB0.out.trans (hb.mono HB0.out.size))
  have PAR1 := hide (keep PAR.out hb)
  clear HB0 PAR hb
  by_cases hg : leftOf 1048576 (sizeN n L) < 0
  · generalize leftOf 1048576 (sizeN n L) = l0 at *
    go_wp2_with fail
    go_ret
    exact ⟨rfl, HB1.out⟩
  have HS : Hid (sizeN n L ≤ 1048576) := by have := (leftOf_pos hg).1; show _ ≤ _; omega
  obtain ⟨r0, hr0⟩ : ∃ r, Hid (bdR p n L ys bg q0 = r) := ⟨_, rfl⟩
  obtain ⟨o0, ho0⟩ : ∃ r, Hid (bdOk p n L ys bg q0 = r) := ⟨_, rfl⟩
  have hne : (o0 != o0) = false := by simp
  have hni : (r0 != r0) = false := by simp
  have hsy := sameB_self ys
  generalize leftOf 1048576 (sizeN n L) = l0 at *
  obtain ⟨hc0, hc1⟩ := cells2 PAR1.out
  have hlt := row_lt PAR1.out
  go_wp2_with fail
  refine (toNet_any _ _ _ _ L _ (HR.out.below HB1.out) HS.out).mono ?_
  rintro e w2 ⟨B2, rfl, hB2, hp2, hb⟩
  have HB2 := hide (HB1.out.trans (hb.mono HB1.out.size))
  have PAR2 := hide (keep PAR1.out hb)
  have HL2 := hide (hp2.lists HL.out HS.out)
  clear HB1 PAR1 hb hp2 hB2 hc0 hc1 hlt
  go_wp2_with fail
  refine (toInt_any _ _ _ ys _ (HM.out.below HB2.out) hm).mono ?_
  rintro e w3 ⟨rfl, rfl⟩
  have hA := below_al w2 (.cells (cellsOf ys) 3)
  have HB3 := hide (HB2.out.trans (hA.mono HB2.out.size))
  have PAR3 := hide (keep PAR2.out hA)
  have HL3 := hide (HL2.out.below hA)
  have HY3 := hide (row_new w2 ys nm w2.heap.size HLM.out rfl)
  generalize w2.alloc (.cells (cellsOf ys) 3) = w3 at *
  generalize w2.heap.size = n2 at *
  clear HB2 PAR2 HL2 hA w2
  go_wp2_with fail
  refine (boundS_any _ _ _ _ _ _ _ L ys bg q0 _ HL3.out HY3.out HS.out hm).mono ?_
  unfold BdEnd
  rw [hr0.out, ho0.out]
  rintro e u ⟨rfl, hb⟩
  have HBU := hide (HB3.out.trans (hb.mono HB3.out.size))
  have PARU := hide (keep PAR3.out hb)
  clear HB3 PAR3 HL3 HY3 hb w3
  obtain ⟨hc0, hc1⟩ := cells2 PARU.out
  have hlt := row_lt PARU.out
  go_wp2_with fail
  refine (toNet_any _ _ _ _ L _ (HR.out.below HBU.out) HS.out).mono ?_
  rintro e w4 ⟨B4, rfl, hB4, hp4, hb⟩
  have hA := below_al w4 (.cells #[.int .i64 p, .slice (some ⟨B4, 0, none⟩) n n] 35)
  have HB4 := hide ((HBU.out.trans (hb.mono HBU.out.size)).trans (hA.mono (by have := HBU.out.size; have := hb.size; omega)))
  have PAR4 := hide (keep (keep PARU.out hb) hA)
  have HX4 := hide (heap_alloc_new w4 (.cells #[.int .i64 p, .slice (some ⟨B4, 0, none⟩) n n] 35))
  have HL4 := hide ((hp4.lists HL.out HS.out).below hA)
  clear HBU PARU hb hp4 hB4 hc0 hc1 hlt hA
  go_wp2_with fail
  generalize w4.alloc (.cells #[.int .i64 p, .slice (some ⟨B4, 0, none⟩) n n] 35) = w5 at *
  generalize w4.heap.size = bx at *
  clear w4 u
  refine (toInt_any _ _ _ ys _ (HM.out.below HB4.out) hm).mono ?_
  rintro e w6 ⟨rfl, rfl⟩
  have hA := below_al w5 (.cells (cellsOf ys) 3)
  have HB6 := hide (HB4.out.trans (hA.mono HB4.out.size))
  have PAR6 := hide (keep PAR4.out hA)
  have HX6 := hide (keep HX4.out hA)
  have HL6 := hide (HL4.out.below hA)
  have HY6 := hide (row_new w5 ys nm w5.heap.size HLM.out rfl)
  generalize w5.alloc (.cells (cellsOf ys) 3) = w6 at *
  generalize w5.heap.size = n5 at *
  clear HB4 PAR4 HX4 HL4 hA w5
  obtain ⟨hd0, hd1⟩ := cells2 HX6.out
  have hlx := row_lt HX6.out
  go_wp2_with fail
  refine (boundI_any _ _ _ _ _ _ _ L ys bg q0 _ HL6.out HY6.out HS.out hm).mono ?_
  unfold BdEnd
  rw [hr0.out, ho0.out]
  rintro e w5 ⟨rfl, hb⟩
  have HB5 := hide (HB6.out.trans (hb.mono HB6.out.size))
  have PAR5 := hide (keep PAR6.out hb)
  have HX5 := hide (keep HX6.out hb)
  have HL5 := hide (HL6.out.below hb)
  have HY5 := hide (HY6.out.below hb)
  clear HB6 PAR6 HX6 HL6 HY6 hb hd0 hd1 hlx w6
  obtain ⟨hc0, hc1⟩ := cells2 PAR5.out
  obtain ⟨hd0, hd1⟩ := cells2 HX5.out
  have hlt := row_lt PAR5.out
  have hlx := row_lt HX5.out
  go_wp2_with fail
  have HT := hide (toNet_any p a n c L (w5.drewN 1) ((HR.out.below HB5.out).below (below_drewN' _ _)) HS.out)
  go_region_with (first
    | (go_at_call 11
       refine HT.out.mono ?_
       rintro e w6 ⟨B6, rfl, hB6, hp6, hb⟩
       have hb' := (below_drewN' w5 1).trans hb
       have HB6 := hide (HB5.out.trans (hb'.mono HB5.out.size))
       have HL6 := hide (HL5.out.below hb')
       have HY6 := hide (HY5.out.below hb')
       have HM6 := hide (hp6.lists HL.out HS.out)
       obtain ⟨he0, he1⟩ := cells2 (keep HX5.out hb')
       clear hb hb' hp6 hB6)
    | (go_at_call 15
       refine (eqNet_any _ _ _ _ _ _ L _ HL6.out HM6.out HS.out).mono ?_
       rintro e w7 ⟨rfl, hb⟩
       have HB7 := hide (HB6.out.trans (hb.mono HB6.out.size))
       have HY7 := hide (HY6.out.below hb)
       clear hb))
  all_goals
    clear HT HB5 PAR5 HX5 HL5 HY5 HB6 HY6 HL6 HM6 he0 he1 hc0 hc1 hd0 hd1 hlt hlx
    go_wp2_with fail
    refine (toInt_any _ _ _ ys _ (HM.out.below HB7.out) hm).mono ?_
    rintro e w8 ⟨rfl, rfl⟩
    have hA := below_al w7 (.cells (cellsOf ys) 3)
    have HB8 := hide (HB7.out.trans (hA.mono HB7.out.size))
    have HY8 := hide (HY7.out.below hA)
    have HN8 := hide (row_new w7 ys nm w7.heap.size HLM.out rfl)
    generalize w7.alloc (.cells (cellsOf ys) 3) = w8 at *
    generalize w7.heap.size = n7 at *
    clear HB7 HY7 hA
    go_wp2_with fail
    refine (eq_any _ _ _ _ _ _ ys ys _ HY8.out HN8.out hm).mono ?_
    rintro e w9 ⟨rfl, q, rfl⟩
    have HB9 := hide (HB8.out.trans ((below_drewN' w8 q).mono HB8.out.size))
    go_wp2_with fail
    go_ret
    exact ⟨rfl, HB9.out⟩

/-! ### THE ROW's STEP -/
set_option maxRecDepth 100000 in
theorem lifted (os : Os) (started : os.Started) (H : Type) (enc : TypeId × Value → H) :
    ReturnsInHanded {} Try.checked os 8 .any (Rows.fnExactBoundOfSpec.pre6 enc Try.prog Try.f8 Rows.fnExactBoundOfRow.domain false) (Rows.fnExactBoundOfSpec.post enc Try.prog Try.f8 false true false false) := by
  refine returnsInHanded_of_change (C := Try.checked) own started (by kernel_rfl) Try.func8
    (ChangeSpec.witness6 (enc := enc) (C := Try.checked) false ⟨#[], #[.agg #[.int .i64 0, .slice none 0 0], .slice none 0 0, .int .i64 0, .int .i64 0], []⟩ 8 (by kernel_rfl) (by kernel_rfl) (by kernel_rfl) (by kernel_rfl)) ?_
  intro W base args ds gs before hval0 hW hcnd _
  have hval : ∀ (j : Nat) t v, Try.f8.params[j]? = some t → args[j]? = some v → Value.okWide Try.prog W .any base t v := hval0
  have hW' := hW
  obtain ⟨p, q, hA0, hV, rfl, hfz, hnd⟩ := hW
  have hA : DataW.TrodAll enc Try.prog W 0 (fun _ => true) true Try.f8.params.toList args.toList ds p := hA0
  rw [Try.params8] at hA hval
  obtain ⟨v0, vs0, d0, ds0, p0, q0, hargs, rfl, rfl, h0, r0⟩ := trodAll_cons hA
  obtain ⟨v1, vs1, d1, ds1, p1, q1, rfl, rfl, rfl, h1, r1⟩ := trodAll_cons r0
  obtain ⟨v2, vs2, d2, ds2, p2, q2, rfl, rfl, rfl, h2, r2⟩ := trodAll_cons r1
  obtain ⟨v3, vs3, d3, ds3, p3, q3, rfl, rfl, rfl, h3, r3⟩ := trodAll_cons r2
  obtain ⟨rfl, rfl, rfl⟩ := trodAll_nil r3
  obtain rfl : args = #[v0, v1, v2, v3] := by cases args; simp_all
  obtain ⟨rfl, rfl⟩ := trodVars_none hV
  have k0 := h0
  have lt0 : ∀ x ∈ p0, x.block < W.heap.size := by obtain ⟨m, hm⟩ := k0; exact DataW.trod_lt m _ _ _ hm
  obtain ⟨g0, a0, n0, c0, L0, rfl, m0, w0⟩ := open_net (hval 0 24 v0 rfl rfl) h0
  have k1 := h1
  have lt1 : ∀ x ∈ p1, x.block < W.heap.size := by obtain ⟨m, hm⟩ := k1; exact DataW.trod_lt m _ _ _ hm
  obtain ⟨e1, f1, t1, rfl⟩ := okWide_slice Try.underlying25 (hval 1 25 v1 rfl rfl)
  obtain ⟨a1, n1, c1, L1, he1, m1, w1⟩ : ∃ a n c xs, Value.slice e1 f1 t1 = .slice a n c ∧ n ≤ maxLen ∧ Row W a n xs := by
    obtain ⟨fuel, hf⟩ := h1
    simp only [Value.cells] at hf
    exact row_of_ints hf
  simp only [Value.slice.injEq] at he1
  obtain ⟨rfl, rfl, rfl⟩ := he1
  obtain ⟨a2, rfl, rfl, rfl, w2⟩ := open_int Try.underlying3 (hval 2 3 v2 rfl rfl) h2
  obtain ⟨a3, rfl, rfl, rfl, w3⟩ := open_int Try.underlying3 (hval 3 3 v3 rfl rfl) h3
  clear hA0 hval0
  refine (walk g0 a0 n0 c0 L0 e1 f1 t1 L1 a2 a3 W m0 w0 m1 w1).mono fun e W' ⟨he, bel⟩ => ?_
  subst he
  exact ⟨_, rfl, _, _, _, [], _, [], hW', trodAll_mk1 (shut_bool Try.underlying4 _), (trodAll_cons_mk (Below.trod laidOut (by kernel_rfl) (of_decide_eq_true (by kernel_rfl)) k0 bel lt0) (trodAll_cons_mk (Below.trod laidOut (by kernel_rfl) (of_decide_eq_true (by kernel_rfl)) k1 bel lt1) (trodAll_cons_mk (shut_int Try.underlying3 w2) (trodAll_cons_mk (shut_int Try.underlying3 w3) trodAll_mk0)))), rfl, bel.frame _, fun h => by cases h⟩

theorem over : Rows.fnExactBoundOfRow.holds Try.pinned (OpenSpec.ofChange Rows.fnExactBoundOfSpec) :=
  OpenClaim.holds_of_wide 8 Try.f8 rfl rfl rfl rfl rfl rfl rfl ⟨rfl, rfl, rfl, rfl, rfl⟩ rfl rfl rfl rfl rfl (by kernel_rfl) Try.func8 (by kernel_rfl)
    (of_decide_eq_true (by kernel_rfl)) (by unfold Func.isWrapper; first | (rw [if_pos (by decide +kernel)]; kernel_rfl) | (rw [if_neg (by decide +kernel)]; exact ⟨rfl, rfl⟩))
    (fun os started H enc _ => lifted os started H enc)

/-- ████ THE STATEMENT ████ -/
theorem proved : Rows.FnExactBoundOfSaid := over
#print axioms proved
end Go.Proofs.Ytmicboobfnbclaa.fnExactBoundOf

namespace Go.Proofs.Ytmicboobfnbclaa
theorem fnExactBoundOf_holds : Rows.FnExactBoundOfSaid := fnExactBoundOf.proved
end Go.Proofs.Ytmicboobfnbclaa
