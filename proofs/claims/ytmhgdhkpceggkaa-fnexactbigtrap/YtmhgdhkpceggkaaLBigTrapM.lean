/- Proved: for every input, in whatever memory, the law FnExactBigTrap returns true and leaves its arguments as they were; no condition. -/
import Derived.Test.YtmhgdhkpceggkaaP9
import Derived.WalkKit
import Derived.ProofKit
import Derived.OpenShut
import Derived.ShutString
import Derived.ChangeOld
import Derived.Below
namespace Go.Proofs.Ytmhgdhkpceggkaa.fnExactBigTrap
open Go.ChangeShapes Go.WideShapes Go.ChangeAt Go.RowKit
open Go.ChangeMaps (open_string shut_string)
set_option linter.unusedVariables false

theorem own : ownKnob Try.prog.godebug = none := by kernel_rfl
theorem laidOut : laidOutB Try.prog = true := by kernel_rfl

set_option maxHeartbeats 4000000 in
theorem walk (p : Int) (a : Option Addr) (n c : Nat) (L : List (List Int)) (am : Option Addr) (nm cm : Nat) (ys : List Int) (w : World) (hn : n ≤ maxLen) (hr : Lists w a (3 * n) L) (hnm : nm ≤ maxLen) (hrm : Row w am nm ys) (hpm : p ≤ 9223372036854775807) :
    Calls Try.prog 7 #[.agg #[.int .i64 p, .slice a n c], .slice am nm cm] w fun e w' => e = .returned (.bool true) ∧ Below w.heap.size w w' := by
  by_cases hbig : 1048576 < nm
  · clear hr hrm
    have hb' : (1048576 : Int) < (nm : Int) := by omega
    go_enter Try.func7, Try.ntmps7
    go_wp2_with fail
    go_ret
    exact ⟨rfl, below_al _ _⟩
  have hm : nm ≤ 1048576 := by omega
  have hm' : ¬ (1048576 : Int) < (nm : Int) := by omega
  have HR := hide hr
  have HL := hide hr.1
  have HM := hide hrm
  have HLM := hide hrm.1
  clear hr hrm hbig
  go_enter Try.func7, Try.ntmps7
  go_wp2_with fail
  have HB0 := hide (below_al w (.cells #[.int .i64 p, .slice a n c] 24))
  have PAR := hide (heap_alloc_new w (.cells #[.int .i64 p, .slice a n c] 24))
  refine (szNet_any _ _ _ _ L _ (HR.out.below HB0.out) hn).mono ?_
  rintro e w1 ⟨rfl, hb⟩
  have HB1 := hide (HB0.out.trans (hb.mono HB0.out.size))
  have PAR1 := hide (keep PAR.out hb)
  clear HB0 PAR hb
  by_cases hg : leftOf 1048576 (sizeN n L) < 0
  · generalize leftOf 1048576 (sizeN n L) = l0 at *
    go_wp2_with fail
    go_ret
    exact ⟨rfl, HB1.out⟩
  have HS : Hid (sizeN n L ≤ 1048576) := by have := (leftOf_pos hg).1; show _ ≤ _; omega
  have hn20 : n ≤ 1048576 := by have := HS.out; unfold sizeN at this; omega
  have HCN : Hid (cntF (fun j => L.getD j []) (3 * n) ≤ 1048576) := by show _ ≤ _; rw [cntF_all HL.out]; have := HS.out; unfold sizeN at this; omega
  obtain ⟨g, r, hrl, HSP, HIM⟩ := bigTrap_pack p n L ys HS.out hpm
  have hne : ∀ b : Bool, (b != b) = false := by simp
  have hsr := sameB_self r
  have hsy := sameB_self ys
  generalize leftOf 1048576 (sizeN n L) = l0 at *
  obtain ⟨hc0, hc1⟩ := cells2 PAR1.out
  have hlt := row_lt PAR1.out
  go_wp2_with fail
  refine (toNet_any _ _ _ _ L _ (HR.out.below HB1.out) HS.out).mono ?_
  rintro e w2 ⟨B2, rfl, hB2, hp2, hb⟩
  have HB2 := hide (HB1.out.trans (hb.mono HB1.out.size))
  have PAR2 := hide (keep PAR1.out hb)
  have HL2 := hide (hp2.lists HL.out HS.out)
  clear HB1 PAR1 hb hp2 hB2 hc0 hc1 hlt
  go_wp2_with fail
  refine (toInt_any _ _ _ ys _ (HM.out.below HB2.out) hm).mono ?_
  rintro e w3 ⟨rfl, rfl⟩
  have hA := below_al w2 (.cells (cellsOf ys) 3)
  have HB3 := hide (HB2.out.trans (hA.mono HB2.out.size))
  have PAR3 := hide (keep PAR2.out hA)
  have HL3 := hide (HL2.out.below hA)
  have HY3 := hide (row_new w2 ys nm w2.heap.size HLM.out rfl)
  generalize w2.alloc (.cells (cellsOf ys) 3) = w3 at *
  generalize w2.heap.size = n2 at *
  clear HB2 PAR2 HL2 hA w2
  go_wp2_with fail
  refine (HSP.out _ _ _ _ _ _ HL3.out HY3.out hm).mono ?_
  rintro e u ⟨aw, nw, cw, rfl, hrw, hb⟩
  have HBU := hide (HB3.out.trans (hb.mono HB3.out.size))
  have PARU := hide (keep PAR3.out hb)
  have HRW := hide hrw
  have hnw : nw ≤ 1048576 := by have := hrw.1; omega
  clear HB3 PAR3 HL3 HY3 hb hrw
  have hwu := HBU.out.size
  obtain ⟨hc0, hc1⟩ := cells2 PARU.out
  have hlt := row_lt PARU.out
  go_wp2_with fail
  refine (toNet_any _ _ _ _ L _ (HR.out.below HBU.out) HS.out).mono ?_
  rintro e w4 ⟨B, rfl, hB, hp4, hb⟩
  have hPF := hp4.bound
  have hz4 := hb.size
  have hBl : B < w4.heap.size := by obtain ⟨C, f, q1, _⟩ := hPF; exact (Array.getElem?_eq_some_iff.mp q1).1
  have hA := below_al w4 (.cells #[.int .i64 p, .slice (some ⟨B, 0, none⟩) n n] 31)
  have HB4 := hide ((HBU.out.trans (hb.mono HBU.out.size)).trans (hA.mono (by omega)))
  have HU4 := hide (hb.trans (hA.mono hb.size))
  have PAR4 := hide (keep (keep PARU.out hb) hA)
  have HX4 := hide (heap_alloc_new w4 (.cells #[.int .i64 p, .slice (some ⟨B, 0, none⟩) n n] 31))
  have HN4 := hide (hPF.grow hA)
  have hs4 : (w4.alloc (.cells #[.int .i64 p, .slice (some ⟨B, 0, none⟩) n n] 31)).heap.size = w4.heap.size + 1 := by simp
  clear hb hp4 hPF hc0 hc1 hlt hA
  go_wp2_with fail
  generalize w4.alloc (.cells #[.int .i64 p, .slice (some ⟨B, 0, none⟩) n n] 31) = w5 at *
  generalize w4.heap.size = bx at *
  clear w4
  refine (toInt_any _ _ _ ys _ (HM.out.below HB4.out) hm).mono ?_
  rintro e w6 ⟨rfl, rfl⟩
  have hA := below_al w5 (.cells (cellsOf ys) 3)
  have HB6 := hide (HB4.out.trans (hA.mono HB4.out.size))
  have HU6 := hide (HU4.out.trans (hA.mono HU4.out.size))
  have PAR6 := hide (keep PAR4.out hA)
  have HX6 := hide (keep HX4.out hA)
  have HN6 := hide (HN4.out.grow hA)
  have HY6 := hide (blk_new' w5 ys nm HLM.out)
  have hs6 : (w5.alloc (.cells (cellsOf ys) 3)).heap.size = w5.heap.size + 1 := by simp
  rw [hs4] at hs6 HY6 ⊢
  generalize w5.alloc (.cells (cellsOf ys) 3) = w6 at *
  clear HB4 HU4 PAR4 HX4 HN4 hA hs4 w5
  obtain ⟨hd0, hd1⟩ := cells2 HX6.out
  have hlx := row_lt HX6.out
  go_wp2_with fail
  refine (HIM.out _ _ _ _ _ _ (HN6.out.lists HL.out HS.out) HY6.out.row hm).mono ?_
  rintro e w7 ⟨ag, bg, ng, cg, rfl, hblk, hbg, hb⟩
  rw [hs6] at hbg
  have hng : ng ≤ 1048576 := by have := hblk.1; omega
  have ST := hide (So.mk (HB6.out.trans (hb.mono HB6.out.size)) (HU6.out.trans (hb.mono HU6.out.size)) (keep PAR6.out hb) (keep HX6.out hb) (HN6.out.grow hb) (HY6.out.grow' hb) hblk)
  clear HB6 HU6 PAR6 HX6 HN6 HY6 hb hblk hd0 hd1 hlx hs6 w6
  -- the answer against the specification's
  go_wp2_with fail
  refine (eq_any _ _ _ _ _ _ r r _ ST.out.g.row (HRW.out.below ST.out.mid) hng).mono ?_
  rintro e w8 ⟨rfl, q, rfl⟩
  have ST2 := hide (ST.out.grow (below_drewN' _ q))
  generalize w7.drewN q = w8 at *
  clear ST w7 q
  -- the net as it was
  obtain ⟨hc0, hc1⟩ := cells2 ST2.out.par
  obtain ⟨hd0, hd1⟩ := cells2 ST2.out.x0
  have hlt := row_lt ST2.out.par
  have hlx := row_lt ST2.out.x0
  go_wp2_with fail
  have HT := hide (toNet_any p a n c L (w8.drewN 1) ((HR.out.below ST2.out.old).below (below_drewN' _ _)) HS.out)
  go_region_with (first
    | (go_at_call 11
       refine HT.out.mono ?_
       rintro e w9 ⟨B9, rfl, hB9, hp9, hb⟩
       have ST := hide (ST2.out.grow ((below_drewN' w8 1).trans hb))
       have HM9 := hide (hp9.lists HL.out HS.out)
       have HL9 := hide (ST.out.net.lists HL.out HS.out)
       obtain ⟨he0, he1⟩ := cells2 ST.out.x0
       clear hb hp9 hB9)
    | (go_at_call 14
       refine (eqNet_any _ _ _ _ _ _ L _ HL9.out HM9.out HS.out).mono ?_
       rintro e w10 ⟨rfl, hb⟩
       have ST3 := hide (ST.out.grow hb)
       clear hb))
  all_goals
    clear HT ST ST2 HM9 HL9 hc0 hc1 hd0 hd1 hlt hlx he0 he1 w8
    -- the list as it was
    go_wp2_with fail
    refine (toInt_any _ _ _ ys _ (HM.out.below ST3.out.old) hm).mono ?_
    rintro e w11 ⟨rfl, rfl⟩
    have ST := hide (ST3.out.grow (below_al w10 (.cells (cellsOf ys) 3)))
    have HN := hide (row_new w10 ys nm w10.heap.size HLM.out rfl)
    generalize w10.alloc (.cells (cellsOf ys) 3) = w11 at *
    generalize w10.heap.size = n10 at *
    clear ST3 w10
    go_wp2_with fail
    refine (eq_any _ _ _ _ _ _ ys ys _ ST.out.x1.row HN.out hm).mono ?_
    rintro e w12 ⟨rfl, q, rfl⟩
    have ST2 := hide (ST.out.grow (below_drewN' _ q))
    generalize w11.drewN q = w12 at *
    clear ST HN w11 q
    -- the arguments are marked
    obtain ⟨hd0, hd1⟩ := cells2 ST2.out.x0
    go_wp2_with fail
    refine (markNet_any p B bx n n 1 74 _ _ ST2.out.net HCN.out hn20 (by omega)).mono ?_
    rintro e w13 ⟨rfl, hm1, hk1⟩
    have ST := hide (ST2.out.markN hm1 hk1 (by omega) hB (by omega) (by omega) (by omega))
    have hcn := HCN.out
    obtain ⟨k1, hk1'⟩ : ∃ k1 : Nat, Hid (1 + cntF (fun j => L.getD j []) (3 * n) = k1) := ⟨_, rfl⟩
    have hk1b : k1 ≤ 2097152 := by have := hk1'.out; omega
    rw [hk1'.out]
    clear ST2 hm1 hk1 hd0 hd1 hcn w12
    go_wp2_with fail
    refine (mark_any _ (bx + 1) _ _ k1 ys _ ST.out.x1 hm (by omega)).mono ?_
    rintro e w14 ⟨rfl, hm1, ho1⟩
    have ST2 := hide (ST.out.markX hm1 ho1 (by omega) (by omega) (by omega) (by omega) (by omega) (by omega))
    clear ST hm1 ho1 w13
    have hpos : (0 : Int) ≤ ((k1 + nm : Nat) : Int) := by omega
    go_wp2_with fail
    refine (eq_any _ _ _ _ _ _ r r _ ST2.out.g.row (HRW.out.below ST2.out.mid) hng).mono ?_
    rintro e w15 ⟨rfl, q, rfl⟩
    have ST := hide (ST2.out.grow (below_drewN' _ q))
    generalize w14.drewN q = w15 at *
    clear ST2 w14 q
    -- the answer is marked
    go_wp2_with fail
    refine (markO_any _ bg _ _ 1 r _ ST.out.g hng (by omega)).mono ?_
    rintro e w16 ⟨rfl, hm1, ho1⟩
    have ST2 := hide (ST.out.markG hm1 ho1 (by omega) (by omega) (by omega) (by omega) (by omega) (by omega))
    clear ST hm1 ho1 w15
    go_wp2_with fail
    refine (held_any _ _ _ 1 _ ST2.out.g.row hng (by omega)).mono ?_
    rintro e w17 ⟨rfl, rfl⟩
    have hpos2 : (0 : Int) ≤ ((1 + ng : Nat) : Int) := by omega
    have hnq : (((1 + ng : Nat) : Int) != ((1 + ng : Nat) : Int)) = false := by simp
    -- the second call
    obtain ⟨hc0, hc1⟩ := cells2 ST2.out.par
    go_wp2_with fail
    refine (toNet_any _ _ _ _ L _ (HR.out.below ST2.out.old) HS.out).mono ?_
    rintro e w18 ⟨B18, rfl, hB18, hp18, hb⟩
    have ST := hide (ST2.out.grow hb)
    have HL18 := hide (hp18.lists HL.out HS.out)
    clear ST2 hb hp18 hB18 hc0 hc1 w17
    go_wp2_with fail
    refine (toInt_any _ _ _ ys _ (HM.out.below ST.out.old) hm).mono ?_
    rintro e w19 ⟨rfl, rfl⟩
    have hA := below_al w18 (.cells (cellsOf ys) 3)
    have ST2 := hide (ST.out.grow hA)
    have HL19 := hide (HL18.out.below hA)
    have HY19 := hide (row_new w18 ys nm w18.heap.size HLM.out rfl)
    generalize w18.alloc (.cells (cellsOf ys) 3) = w19 at *
    generalize w18.heap.size = n18 at *
    clear ST HL18 hA w18
    go_wp2_with fail
    refine (HIM.out _ _ _ _ _ _ HL19.out HY19.out hm).mono ?_
    rintro e w20 ⟨ah, bh, nh, ch, rfl, hblk, hbh, hb⟩
    have hnh : nh ≤ 1048576 := by have := hblk.1; omega
    have ST := hide (ST2.out.grow hb)
    have HH := hide hblk.row
    clear ST2 HL19 HY19 hb hblk hbh w19
    go_wp2_with fail
    refine (eq_any _ _ _ _ _ _ r r _ HH.out (HRW.out.below ST.out.mid) hnh).mono ?_
    rintro e w21 ⟨rfl, q, rfl⟩
    have ST2 := hide (ST.out.grow (below_drewN' _ q))
    generalize w20.drewN q = w21 at *
    clear ST HH w20 q
    go_wp2_with fail
    refine (held_any _ _ _ 1 _ ST2.out.g.row hng (by omega)).mono ?_
    rintro e w22 ⟨rfl, rfl⟩
    have HE := hide ST2.out.old
    clear ST2
    go_wp2_with fail
    go_ret
    exact ⟨rfl, HE.out⟩

/-! ### THE ROW's STEP -/
set_option maxRecDepth 100000 in
theorem lifted (os : Os) (started : os.Started) (H : Type) (enc : TypeId × Value → H) :
    ReturnsInHanded {} Try.checked os 7 .any (Rows.fnExactBigTrapSpec.pre6 enc Try.prog Try.f7 Rows.fnExactBigTrapRow.domain false) (Rows.fnExactBigTrapSpec.post enc Try.prog Try.f7 false true false false) := by
  refine returnsInHanded_of_change (C := Try.checked) own started (by kernel_rfl) Try.func7
    (ChangeSpec.witness6 (enc := enc) (C := Try.checked) false ⟨#[], #[.agg #[.int .i64 0, .slice none 0 0], .slice none 0 0], []⟩ 8 (by kernel_rfl) (by kernel_rfl) (by kernel_rfl) (by kernel_rfl)) ?_
  intro W base args ds gs before hval0 hW hcnd _
  have hval : ∀ (j : Nat) t v, Try.f7.params[j]? = some t → args[j]? = some v → Value.okWide Try.prog W .any base t v := hval0
  have hW' := hW
  obtain ⟨p, q, hA0, hV, rfl, hfz, hnd⟩ := hW
  have hA : DataW.TrodAll enc Try.prog W 0 (fun _ => true) true Try.f7.params.toList args.toList ds p := hA0
  rw [Try.params7] at hA hval
  obtain ⟨v0, vs0, d0, ds0, p0, q0, hargs, rfl, rfl, h0, r0⟩ := trodAll_cons hA
  obtain ⟨v1, vs1, d1, ds1, p1, q1, rfl, rfl, rfl, h1, r1⟩ := trodAll_cons r0
  obtain ⟨rfl, rfl, rfl⟩ := trodAll_nil r1
  obtain rfl : args = #[v0, v1] := by cases args; simp_all
  obtain ⟨rfl, rfl⟩ := trodVars_none hV
  have k0 := h0
  have lt0 : ∀ x ∈ p0, x.block < W.heap.size := by obtain ⟨m, hm⟩ := k0; exact DataW.trod_lt m _ _ _ hm
  obtain ⟨g0, a0, n0, c0, L0, rfl, m0, w0, b0⟩ := open_netW (hval 0 24 v0 rfl rfl) h0
  have k1 := h1
  have lt1 : ∀ x ∈ p1, x.block < W.heap.size := by obtain ⟨m, hm⟩ := k1; exact DataW.trod_lt m _ _ _ hm
  obtain ⟨e1, f1, t1, rfl⟩ := okWide_slice Try.underlying40 (hval 1 40 v1 rfl rfl)
  obtain ⟨a1, n1, c1, L1, he1, m1, w1⟩ : ∃ a n c xs, Value.slice e1 f1 t1 = .slice a n c ∧ n ≤ maxLen ∧ Row W a n xs := by
    obtain ⟨fuel, hf⟩ := h1
    simp only [Value.cells] at hf
    exact row_of_ints hf
  simp only [Value.slice.injEq] at he1
  obtain ⟨rfl, rfl, rfl⟩ := he1
  clear hA0 hval0
  refine (walk g0 a0 n0 c0 L0 e1 f1 t1 L1 W m0 w0 m1 w1 b0).mono fun e W' ⟨he, bel⟩ => ?_
  subst he
  exact ⟨_, rfl, _, _, _, [], _, [], hW', trodAll_mk1 (shut_bool Try.underlying4 _), (trodAll_cons_mk (Below.trod laidOut (by kernel_rfl) (of_decide_eq_true (by kernel_rfl)) k0 bel lt0) (trodAll_cons_mk (Below.trod laidOut (by kernel_rfl) (of_decide_eq_true (by kernel_rfl)) k1 bel lt1) trodAll_mk0)), rfl, bel.frame _, fun h => by cases h⟩

theorem over : Rows.fnExactBigTrapRow.holds Try.pinned (OpenSpec.ofChange Rows.fnExactBigTrapSpec) :=
  OpenClaim.holds_of_wide 7 Try.f7 rfl rfl rfl rfl rfl rfl rfl ⟨rfl, rfl, rfl, rfl, rfl⟩ rfl rfl rfl rfl rfl (by kernel_rfl) Try.func7 (by kernel_rfl)
    (of_decide_eq_true (by kernel_rfl)) (by unfold Func.isWrapper; first | (rw [if_pos (by decide +kernel)]; kernel_rfl) | (rw [if_neg (by decide +kernel)]; exact ⟨rfl, rfl⟩))
    (fun os started H enc _ => lifted os started H enc)

/-- ████ THE STATEMENT ████ -/
theorem proved : Rows.FnExactBigTrapSaid := over
#print axioms proved
end Go.Proofs.Ytmhgdhkpceggkaa.fnExactBigTrap

namespace Go.Proofs.Ytmhgdhkpceggkaa
theorem fnExactBigTrap_holds : Rows.FnExactBigTrapSaid := fnExactBigTrap.proved
end Go.Proofs.Ytmhgdhkpceggkaa
