/- Proved: for every input, in whatever memory, the law FnExactSmallSiphons returns true and leaves its arguments as they were; no condition. -/
import Derived.Test.YtmhgdhkpceggkabP9
import Derived.WalkKit
import Derived.ProofKit
import Derived.OpenShut
import Derived.ShutString
import Derived.ChangeOld
import Derived.Below
namespace Go.Proofs.Ytmhgdhkpceggkab.fnExactSmallSiphons
open Go.ChangeShapes Go.WideShapes Go.ChangeAt Go.RowKit
open Go.ChangeMaps (open_string shut_string)
set_option linter.unusedVariables false

theorem own : ownKnob Try.prog.godebug = none := by kernel_rfl
theorem laidOut : laidOutB Try.prog = true := by kernel_rfl

set_option maxHeartbeats 4000000 in
theorem walk (p : Int) (a : Option Addr) (n c : Nat) (L : List (List Int)) (w : World) (hn : n ≤ maxLen) (hr : Lists w a (3 * n) L) :
    Calls Try.prog 3 #[.agg #[.int .i64 p, .slice a n c]] w fun e w' => e = .returned (.bool true) ∧ Below w.heap.size w w' := by
  have HR := hide hr
  have HL := hide hr.1
  clear hr
  go_enter Try.func3, Try.ntmps3
  go_wp2_with fail
  have HB0 := hide (below_al w (.cells #[.int .i64 p, .slice a n c] 24))
  have PAR := hide (heap_alloc_new w (.cells #[.int .i64 p, .slice a n c] 24))
  refine (szNet_any _ _ _ _ L _ (HR.out.below HB0.out) hn).mono ?_
  rintro e w1 ⟨rfl, hb⟩
  have HB1 := hide (HB0.out.trans (hb.mono HB0.out.size))
  have PAR1 := hide (keep PAR.out hb)
  clear HB0 PAR hb
  by_cases hg : leftOf 1048576 (sizeN n L) < 0
  · generalize leftOf 1048576 (sizeN n L) = l0 at *
    go_wp2_with fail
    go_ret
    exact ⟨rfl, HB1.out⟩
  have HS : Hid (sizeN n L ≤ 1048576) := by have := (leftOf_pos hg).1; show _ ≤ _; omega
  have hn20 : n ≤ 1048576 := by have := HS.out; unfold sizeN at this; omega
  have HCN : Hid (cntF (fun j => L.getD j []) (3 * n) ≤ 1048576) := by show _ ≤ _; rw [cntF_all HL.out]; have := HS.out; unfold sizeN at this; omega
  obtain ⟨g, N, K, HK, hN20, HSP, HIM⟩ := sp_pack p n L HS.out
  have hne : ∀ b : Bool, (b != b) = false := by simp
  generalize leftOf 1048576 (sizeN n L) = l0 at *
  obtain ⟨hc0, hc1⟩ := cells2 PAR1.out
  have hlt := row_lt PAR1.out
  go_wp2_with fail
  refine (toNet_any _ _ _ _ L _ (HR.out.below HB1.out) HS.out).mono ?_
  rintro e w2 ⟨B2, rfl, hB2, hp2, hb⟩
  have HB2 := hide (HB1.out.trans (hb.mono HB1.out.size))
  have PAR2 := hide (keep PAR1.out hb)
  have HF2 := hide (hp2.lists HL.out HS.out)
  clear HB1 PAR1 hb hp2 hB2 hc0 hc1 hlt
  go_wp2_with fail
  refine (HSP.out _ _ _ HF2.out).mono ?_
  rintro e u ⟨aw, cw, rfl, hlw, hb⟩
  have HBU := hide (HB2.out.trans (hb.mono HB2.out.size))
  have PARU := hide (keep PAR2.out hb)
  have HWU := hide hlw
  clear HB2 PAR2 hb HF2 hlw w2
  have hwu := HBU.out.size
  obtain ⟨hc0, hc1⟩ := cells2 PARU.out
  have hlt := row_lt PARU.out
  go_wp2_with fail
  refine (toNet_any _ _ _ _ L _ (HR.out.below HBU.out) HS.out).mono ?_
  rintro e w4 ⟨B, rfl, hB, hp4, hb⟩
  have hPF := hp4.bound
  have hz4 := hb.size
  have hBl : B < w4.heap.size := by obtain ⟨C, f, q1, _⟩ := hPF; exact (Array.getElem?_eq_some_iff.mp q1).1
  have hA := below_al w4 (.cells #[.int .i64 p, .slice (some ⟨B, 0, none⟩) n n] 31)
  have HB4 := hide ((HBU.out.trans (hb.mono HBU.out.size)).trans (hA.mono (by omega)))
  have HU4 := hide (hb.trans (hA.mono hb.size))
  have PAR4 := hide (keep (keep PARU.out hb) hA)
  have HX4 := hide (heap_alloc_new w4 (.cells #[.int .i64 p, .slice (some ⟨B, 0, none⟩) n n] 31))
  have HN4 := hide (hPF.grow hA)
  have hs4 : (w4.alloc (.cells #[.int .i64 p, .slice (some ⟨B, 0, none⟩) n n] 31)).heap.size = w4.heap.size + 1 := by simp
  clear hb hp4 hPF hA PARU hc0 hc1 hlt
  go_wp2_with fail
  generalize w4.alloc (.cells #[.int .i64 p, .slice (some ⟨B, 0, none⟩) n n] 31) = w5 at *
  generalize w4.heap.size = bx at *
  clear w4
  refine (HIM.out _ _ _ (HN4.out.lists HL.out HS.out)).mono ?_
  rintro e w7 ⟨Bg, lo, rfl, hng, hBg, hlo, hlo2, hb⟩
  obtain ⟨hig, hhig⟩ : ∃ x, Hid (w7.heap.size = x) := ⟨_, rfl⟩
  rw [hhig.out] at hng
  have ST := hide (S7.mk (HB4.out.trans (hb.mono HB4.out.size)) (HU4.out.trans (hb.mono HU4.out.size)) (keep PAR4.out hb) (keep HX4.out hb) (HN4.out.grow hb) hng)
  clear hb HB4 HU4 PAR4 HX4 HN4 hng hlo2
  go_wp2_with fail
  -- the answer against the specification's
  refine (eqSS_any (some ⟨Bg, 0, none⟩) aw N N cw K _ (ST.out.gn.listsK HK.out.1 HK.out.2.1) (HWU.out.below ST.out.mid) HK.out.2.1).mono ?_
  rintro e w8 ⟨rfl, hb⟩
  have ST2 := hide (ST.out.grow hb)
  clear ST hb
  -- the net as it was
  obtain ⟨hc0, hc1⟩ := cells2 ST2.out.par
  obtain ⟨hd0, hd1⟩ := cells2 ST2.out.x0
  have hlt := row_lt ST2.out.par
  have hlx := row_lt ST2.out.x0
  go_wp2_with fail
  have HT := hide (toNet_any p a n c L (w8.drewN 1) ((HR.out.below ST2.out.old).below (below_drewN' _ _)) HS.out)
  go_region_with (first
    | (go_at_call 7
       refine HT.out.mono ?_
       rintro e w9 ⟨B9, rfl, hB9, hp9, hb⟩
       have ST := hide (ST2.out.grow ((below_drewN' w8 1).trans hb))
       have HM9 := hide (hp9.lists HL.out HS.out)
       have HL9 := hide (ST.out.net.lists HL.out HS.out)
       obtain ⟨he0, he1⟩ := cells2 ST.out.x0
       clear hb hp9 hB9)
    | (go_at_call 10
       refine (eqNet_any _ _ _ _ _ _ L _ HL9.out HM9.out HS.out).mono ?_
       rintro e w10 ⟨rfl, hb⟩
       have ST3 := hide (ST.out.grow hb)
       clear hb))
  all_goals
    clear HT ST ST2 HM9 HL9 hc0 hc1 hd0 hd1 hlt hlx he0 he1 w8
    -- the argument is marked
    obtain ⟨hd0, hd1⟩ := cells2 ST3.out.x0
    go_wp2_with fail
    refine (markNet_any p B bx n n 1 77 _ _ ST3.out.net HCN.out hn20 (by omega)).mono ?_
    rintro e w13 ⟨rfl, hm1, hk1⟩
    have ST := hide (ST3.out.markN hm1 hk1 (by omega) hB (by omega) (by omega) (by omega))
    have hcn := HCN.out
    obtain ⟨k1, hk1'⟩ : ∃ k1 : Nat, Hid (1 + cntF (fun j => L.getD j []) (3 * n) = k1) := ⟨_, rfl⟩
    rw [hk1'.out]
    clear ST3 hm1 hk1 hd0 hd1 hcn
    have hpos : (0 : Int) ≤ (k1 : Int) := by omega
    go_wp2_with fail
    refine (eqSS_any (some ⟨Bg, 0, none⟩) aw N N cw K _ (ST.out.gn.listsK HK.out.1 HK.out.2.1) (HWU.out.below ST.out.mid) HK.out.2.1).mono ?_
    rintro e w15 ⟨rfl, hb⟩
    have ST2 := hide (ST.out.grow hb)
    clear ST hb
    -- the answer is marked
    go_wp2_with fail
    refine (markSG_any Bg lo hig N N 1 _ _ _ ST2.out.gn HK.out.2.2 hN20 (by omega)).mono ?_
    rintro e w16 ⟨rfl, hm1, hk1⟩
    have ST := hide (ST2.out.markG hm1 hk1 (by omega) (by omega) (by omega) (by omega) (by omega))
    obtain ⟨k2, hk2'⟩ : ∃ k2 : Nat, Hid (1 + cntF (fun j => K.getD j []) N = k2) := ⟨_, rfl⟩
    rw [hk2'.out]
    clear ST2 hm1 hk1
    have hpos2 : (0 : Int) ≤ (k2 : Int) := by omega
    have hnq : ((k2 : Int) != (k2 : Int)) = false := by simp
    go_wp2_with fail
    refine (heldSG_any Bg lo hig N N 1 _ (fun j => K.getD j []) _ ST.out.gn HK.out.2.2 hN20 (by omega)).mono ?_
    rintro e w17 ⟨rfl, hw17⟩
    rw [hw17, hk2'.out]
    clear hw17
    -- the second call
    obtain ⟨hc0, hc1⟩ := cells2 ST.out.par
    have hlt := row_lt ST.out.par
    go_wp2_with fail
    refine (toNet_any _ _ _ _ L _ (HR.out.below ST.out.old) HS.out).mono ?_
    rintro e w18 ⟨B18, rfl, hB18, hp18, hb⟩
    have ST2 := hide (ST.out.grow hb)
    have HL18 := hide (hp18.lists HL.out HS.out)
    clear ST hb hp18 hB18 hc0 hc1 hlt
    go_wp2_with fail
    refine (HIM.out _ _ _ HL18.out).mono ?_
    rintro e w20 ⟨Bh, lh, rfl, hnh, _, _, _, hb⟩
    have ST := hide (ST2.out.grow hb)
    have HH := hide (hnh.listsK HK.out.1 HK.out.2.1)
    clear ST2 HL18 hb hnh
    go_wp2_with fail
    refine (eqSS_any (some ⟨Bh, 0, none⟩) aw N N cw K _ HH.out (HWU.out.below ST.out.mid) HK.out.2.1).mono ?_
    rintro e w21 ⟨rfl, hb⟩
    have ST2 := hide (ST.out.grow hb)
    clear ST HH hb
    go_wp2_with fail
    refine (heldSG_any Bg lo hig N N 1 _ (fun j => K.getD j []) _ ST2.out.gn HK.out.2.2 hN20 (by omega)).mono ?_
    rintro e w22 ⟨rfl, hw22⟩
    rw [hw22, hk2'.out]
    have HE := hide ST2.out.old
    clear ST2 hw22
    go_wp2_with fail
    go_ret
    exact ⟨rfl, HE.out⟩

/-! ### THE ROW's STEP -/
set_option maxRecDepth 100000 in
theorem lifted (os : Os) (started : os.Started) (H : Type) (enc : TypeId × Value → H) :
    ReturnsInHanded {} Try.checked os 3 .any (Rows.fnExactSmallSiphonsSpec.pre6 enc Try.prog Try.f3 Rows.fnExactSmallSiphonsRow.domain false) (Rows.fnExactSmallSiphonsSpec.post enc Try.prog Try.f3 false true false false) := by
  refine returnsInHanded_of_change (C := Try.checked) own started (by kernel_rfl) Try.func3
    (ChangeSpec.witness6 (enc := enc) (C := Try.checked) false ⟨#[], #[.agg #[.int .i64 0, .slice none 0 0]], []⟩ 8 (by kernel_rfl) (by kernel_rfl) (by kernel_rfl) (by kernel_rfl)) ?_
  intro W base args ds gs before hval0 hW hcnd _
  have hval : ∀ (j : Nat) t v, Try.f3.params[j]? = some t → args[j]? = some v → Value.okWide Try.prog W .any base t v := hval0
  have hW' := hW
  obtain ⟨p, q, hA0, hV, rfl, hfz, hnd⟩ := hW
  have hA : DataW.TrodAll enc Try.prog W 0 (fun _ => true) true Try.f3.params.toList args.toList ds p := hA0
  rw [Try.params3] at hA hval
  obtain ⟨v0, vs0, d0, ds0, p0, q0, hargs, rfl, rfl, h0, r0⟩ := trodAll_cons hA
  obtain ⟨rfl, rfl, rfl⟩ := trodAll_nil r0
  obtain rfl : args = #[v0] := by cases args; simp_all
  obtain ⟨rfl, rfl⟩ := trodVars_none hV
  have k0 := h0
  have lt0 : ∀ x ∈ p0, x.block < W.heap.size := by obtain ⟨m, hm⟩ := k0; exact DataW.trod_lt m _ _ _ hm
  obtain ⟨g0, a0, n0, c0, L0, rfl, m0, w0⟩ := open_net (hval 0 24 v0 rfl rfl) h0
  clear hA0 hval0
  refine (walk g0 a0 n0 c0 L0 W m0 w0).mono fun e W' ⟨he, bel⟩ => ?_
  subst he
  exact ⟨_, rfl, _, _, _, [], _, [], hW', trodAll_mk1 (shut_bool Try.underlying4 _), (trodAll_cons_mk (Below.trod laidOut (by kernel_rfl) (of_decide_eq_true (by kernel_rfl)) k0 bel lt0) trodAll_mk0), rfl, bel.frame _, fun h => by cases h⟩

theorem over : Rows.fnExactSmallSiphonsRow.holds Try.pinned (OpenSpec.ofChange Rows.fnExactSmallSiphonsSpec) :=
  OpenClaim.holds_of_wide 3 Try.f3 rfl rfl rfl rfl rfl rfl rfl ⟨rfl, rfl, rfl, rfl, rfl⟩ rfl rfl rfl rfl rfl (by kernel_rfl) Try.func3 (by kernel_rfl)
    (of_decide_eq_true (by kernel_rfl)) (by unfold Func.isWrapper; first | (rw [if_pos (by decide +kernel)]; kernel_rfl) | (rw [if_neg (by decide +kernel)]; exact ⟨rfl, rfl⟩))
    (fun os started H enc _ => lifted os started H enc)

/-- ████ THE STATEMENT ████ -/
theorem proved : Rows.FnExactSmallSiphonsSaid := over
#print axioms proved
end Go.Proofs.Ytmhgdhkpceggkab.fnExactSmallSiphons

namespace Go.Proofs.Ytmhgdhkpceggkab
theorem fnExactSmallSiphons_holds : Rows.FnExactSmallSiphonsSaid := fnExactSmallSiphons.proved
end Go.Proofs.Ytmhgdhkpceggkab
