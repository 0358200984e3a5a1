/- Proved: for every input, in whatever memory, the law FnExactGoodFlow returns true and leaves its arguments as they were; no condition. -/
import Derived.Test.YtnknhjiofpjbbaaOg
import Derived.Test.YtnknhjiofpjbbaaWk
import Derived.Test.YtnknhjiofpjbbaaOn
import Derived.WalkKit
import Derived.ProofKit
import Derived.OpenShut
import Derived.ShutString
import Derived.ChangeOld
import Derived.Below
namespace Go.Proofs.Ytnknhjiofpjbbaa.fnExactGoodFlow
open Go.ChangeShapes Go.WideShapes Go.ChangeAt Go.RowKit
open Go.ChangeMaps (open_string shut_string)
set_option linter.unusedVariables false

theorem own : ownKnob Try.prog.godebug = none := by kernel_rfl
theorem laidOut : laidOutB Try.prog = true := by kernel_rfl

set_option maxHeartbeats 2000000 in
theorem walk (p : Int) (a : Option Addr) (n c : Nat) (f t : Int) (L : List (List Int)) (w : World) (hn : n ≤ maxLen) (hr : Lists w a (3 * n) L) :
    Calls Try.prog 3 #[.agg #[.int .i64 p, .slice a n c, .int .i64 f, .int .i64 t]] w fun e w' => e = .returned (.bool true) ∧ Below w.heap.size w w' := by
  have HR := hide hr
  have HL := hide hr.1
  clear hr
  go_enter Try.func3, Try.ntmps3
  go_wp2_with fail
  have HB0 := hide (below_al w (.cells #[.int .i64 p, .slice a n c, .int .i64 f, .int .i64 t] 26))
  have PAR := hide (heap_alloc_new w (.cells #[.int .i64 p, .slice a n c, .int .i64 f, .int .i64 t] 26))
  refine (szFlow_any _ _ _ _ _ _ L _ (HR.out.below HB0.out) hn).mono ?_
  rintro e w1 ⟨rfl, hb⟩
  have HB1 := hide (HB0.out.trans (hb.mono HB0.out.size))
  have PAR1 := hide (keep PAR.out hb)
  clear HB0 PAR hb
  by_cases hg : leftOf 1048576 (sizeN n L) < 0
  · generalize leftOf 1048576 (sizeN n L) = l0 at *
    go_wp2_with fail
    go_ret
    exact ⟨rfl, HB1.out⟩
  have HS : Hid (sizeN n L ≤ 1048576) := by have := (leftOf_pos hg).1; show _ ≤ _; omega
  obtain ⟨g, hgg⟩ : ∃ g, Hid (flowOk p n L f t = g) := ⟨_, rfl⟩
  have hne : (g != g) = false := by simp
  generalize leftOf 1048576 (sizeN n L) = l0 at *
  obtain ⟨⟨hc0, hc1, hc2, hc3⟩, _⟩ := cells4 PAR1.out
  have hlt := row_lt PAR1.out
  go_wp2_with fail
  refine (toFlow_any _ _ _ _ _ _ L _ (HR.out.below HB1.out) HS.out).mono ?_
  rintro e w2 ⟨B2, rfl, hB2, hp2, hb⟩
  have HB2 := hide (HB1.out.trans (hb.mono HB1.out.size))
  have PAR2 := hide (keep PAR1.out hb)
  have HL2 := hide (hp2.lists HL.out HS.out)
  clear HB1 PAR1 hb hp2 hB2 hc0 hc1 hc2 hc3 hlt
  go_wp2_with fail
  refine (goodFlowS_any _ _ _ _ _ _ L _ HL2.out HS.out).mono ?_
  rintro e w3 ⟨rfl, hb⟩
  rw [hgg.out]
  have HB3 := hide (HB2.out.trans (hb.mono HB2.out.size))
  have PAR3 := hide (keep PAR2.out hb)
  clear HB2 PAR2 hb HL2
  obtain ⟨⟨hc0, hc1, hc2, hc3⟩, _⟩ := cells4 PAR3.out
  have hlt := row_lt PAR3.out
  go_wp2_with fail
  refine (toFlow_any _ _ _ _ _ _ L _ (HR.out.below HB3.out) HS.out).mono ?_
  rintro e w4 ⟨B4, rfl, hB4, hp4, hb⟩
  have hA := below_al w4 (.cells #[.int .i64 p, .slice (some ⟨B4, 0, none⟩) n n, .int .i64 f, .int .i64 t] 33)
  have HB4 := hide ((HB3.out.trans (hb.mono HB3.out.size)).trans (hA.mono (by have := HB3.out.size; have := hb.size; omega)))
  have PAR4 := hide (keep (keep PAR3.out hb) hA)
  have HX4 := hide (heap_alloc_new w4 (.cells #[.int .i64 p, .slice (some ⟨B4, 0, none⟩) n n, .int .i64 f, .int .i64 t] 33))
  have HL4 := hide ((hp4.lists HL.out HS.out).below hA)
  clear HB3 PAR3 hb hp4 hB4 hc0 hc1 hc2 hc3 hlt hA
  go_wp2_with fail
  refine (goodFlowI_any _ _ _ _ _ _ L _ HL4.out HS.out).mono ?_
  rintro e w5 ⟨rfl, hb⟩
  rw [hgg.out]
  have HB5 := hide (HB4.out.trans (hb.mono HB4.out.size))
  have PAR5 := hide (keep PAR4.out hb)
  have HX5 := hide (keep HX4.out hb)
  have HL5 := hide (HL4.out.below hb)
  clear HB4 PAR4 HX4 HL4 hb
  obtain ⟨⟨hc0, hc1, hc2, hc3⟩, _⟩ := cells4 PAR5.out
  obtain ⟨⟨hd0, hd1, hd2, hd3⟩, _⟩ := cells4 HX5.out
  have hlt := row_lt PAR5.out
  have hlx := row_lt HX5.out
  generalize w4.heap.size = bx at *
  go_wp2_with fail
  have HT := hide (toFlow_any p f t a n c L (w5.drewN 1) ((HR.out.below HB5.out).below (below_drewN' _ _)) HS.out)
  go_region_with (first
    | (go_at_call 11
       refine HT.out.mono ?_
       rintro e w6 ⟨B6, rfl, hB6, hp6, hb⟩
       have hb' := (below_drewN' w5 1).trans hb
       have HB6 := hide (HB5.out.trans (hb'.mono HB5.out.size))
       have HL6 := hide (HL5.out.below hb')
       have HM6 := hide (hp6.lists HL.out HS.out)
       obtain ⟨⟨he0, he1, he2, he3⟩, _⟩ := cells4 (keep HX5.out hb')
       clear hb hb' hp6 hB6)
    | (go_at_call 13
       refine (eqFlow_any _ _ _ _ _ _ _ _ L _ HL6.out HM6.out HS.out).mono ?_
       rintro e w7 ⟨rfl, hb⟩
       have HB7 := hide (HB6.out.trans (hb.mono HB6.out.size))
       clear hb))
  all_goals
    clear HT HB5 PAR5 HX5 HL5 hc0 hc1 hc2 hc3 hd0 hd1 hd2 hd3 hlt hlx
    go_wp2_with fail
    go_ret
    exact ⟨rfl, HB7.out⟩

/-! ### THE ROW's STEP -/
set_option maxRecDepth 100000 in
theorem lifted (os : Os) (started : os.Started) (H : Type) (enc : TypeId × Value → H) :
    ReturnsInHanded {} Try.checked os 3 .any (Rows.fnExactGoodFlowSpec.pre6 enc Try.prog Try.f3 Rows.fnExactGoodFlowRow.domain false) (Rows.fnExactGoodFlowSpec.post enc Try.prog Try.f3 false true false false) := by
  refine returnsInHanded_of_change (C := Try.checked) own started (by kernel_rfl) Try.func3
    (ChangeSpec.witness6 (enc := enc) (C := Try.checked) false ⟨#[], #[.agg #[.int .i64 0, .slice none 0 0, .int .i64 0, .int .i64 0]], []⟩ 8 (by kernel_rfl) (by kernel_rfl) (by kernel_rfl) (by kernel_rfl)) ?_
  intro W base args ds gs before hval0 hW hcnd _
  have hval : ∀ (j : Nat) t v, Try.f3.params[j]? = some t → args[j]? = some v → Value.okWide Try.prog W .any base t v := hval0
  have hW' := hW
  obtain ⟨p, q, hA0, hV, rfl, hfz, hnd⟩ := hW
  have hA : DataW.TrodAll enc Try.prog W 0 (fun _ => true) true Try.f3.params.toList args.toList ds p := hA0
  rw [Try.params3] at hA hval
  obtain ⟨v0, vs0, d0, ds0, p0, q0, hargs, rfl, rfl, h0, r0⟩ := trodAll_cons hA
  obtain ⟨rfl, rfl, rfl⟩ := trodAll_nil r0
  obtain rfl : args = #[v0] := by cases args; simp_all
  obtain ⟨rfl, rfl⟩ := trodVars_none hV
  have k0 := h0
  have lt0 : ∀ x ∈ p0, x.block < W.heap.size := by obtain ⟨m, hm⟩ := k0; exact DataW.trod_lt m _ _ _ hm
  obtain ⟨g0, a0, n0, c0, x0, y0, L0, rfl, m0, w0⟩ := open_flow (hval 0 26 v0 rfl rfl) h0
  clear hA0 hval0
  refine (walk g0 a0 n0 c0 x0 y0 L0 W m0 w0).mono fun e W' ⟨he, bel⟩ => ?_
  subst he
  exact ⟨_, rfl, _, _, _, [], _, [], hW', trodAll_mk1 (shut_bool Try.underlying4 _), (trodAll_cons_mk (Below.trod laidOut (by kernel_rfl) (of_decide_eq_true (by kernel_rfl)) k0 bel lt0) trodAll_mk0), rfl, bel.frame _, fun h => by cases h⟩

theorem over : Rows.fnExactGoodFlowRow.holds Try.pinned (OpenSpec.ofChange Rows.fnExactGoodFlowSpec) :=
  OpenClaim.holds_of_wide 3 Try.f3 rfl rfl rfl rfl rfl rfl rfl ⟨rfl, rfl, rfl, rfl, rfl⟩ rfl rfl rfl rfl rfl (by kernel_rfl) Try.func3 (by kernel_rfl)
    (of_decide_eq_true (by kernel_rfl)) (by unfold Func.isWrapper; first | (rw [if_pos (by decide +kernel)]; kernel_rfl) | (rw [if_neg (by decide +kernel)]; exact ⟨rfl, rfl⟩))
    (fun os started H enc _ => lifted os started H enc)

/-- ████ THE STATEMENT ████ -/
theorem proved : Rows.FnExactGoodFlowSaid := over
#print axioms proved
end Go.Proofs.Ytnknhjiofpjbbaa.fnExactGoodFlow

namespace Go.Proofs.Ytnknhjiofpjbbaa
theorem fnExactGoodFlow_holds : Rows.FnExactGoodFlowSaid := fnExactGoodFlow.proved
end Go.Proofs.Ytnknhjiofpjbbaa
