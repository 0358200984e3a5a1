/- Proved: for every input, in whatever memory, the law FnExactGiversOf returns true and leaves its arguments as they were; no condition. -/
import Derived.Test.YtecgiinhdigpoaaTn
import Derived.Test.YtecgiinhdigpoaaOn
import Derived.WalkKit
import Derived.ProofKit
import Derived.OpenShut
import Derived.ShutString
import Derived.ChangeOld
import Derived.Below
namespace Go.Proofs.Ytecgiinhdigpoaa.fnExactGiversOf
open Go.ChangeShapes Go.WideShapes Go.ChangeAt Go.RowKit
open Go.ChangeMaps (open_string shut_string)
set_option linter.unusedVariables false

theorem own : ownKnob Try.prog.godebug = none := by kernel_rfl
theorem laidOut : laidOutB Try.prog = true := by kernel_rfl

theorem r_len (p : Int) (n : Nat) (L : List (List Int)) (t : Int) : (atR (fun i => hasB (L.getD (3 * i + 1) []) t) p n L t).length ≤ n := by
  unfold atR; split
  · exact numsL_len _ _
  · exact Nat.zero_le _

set_option maxHeartbeats 4000000 in
theorem walk (p : Int) (a : Option Addr) (n c : Nat) (L : List (List Int)) (t : Int) (w : World) (hn : n ≤ maxLen) (hr : Lists w a (3 * n) L) :
    Calls Try.prog 4 #[.agg #[.int .i64 p, .slice a n c], .int .i64 t] w fun e w' => e = .returned (.bool true) ∧ Below w.heap.size w w' := by
  have HR := hide hr
  have HL := hide hr.1
  clear hr
  go_enter Try.func4, Try.ntmps4
  go_wp2_with fail
  have HB0 := hide (below_al w (.cells #[.int .i64 p, .slice a n c] 24))
  have PAR := hide (heap_alloc_new w (.cells #[.int .i64 p, .slice a n c] 24))
  refine (szNet_any _ _ _ _ L _ (HR.out.below HB0.out) hn).mono ?_
  rintro e w1 ⟨rfl, hb⟩
  have HB1 := hide (HB0.out.trans (hb.mono HB0.out.size))
  have PAR1 := hide (keep PAR.out hb)
  clear HB0 PAR hb
  by_cases hg : leftOf 1048576 (sizeN n L) < 0
  · generalize leftOf 1048576 (sizeN n L) = l0 at *
    go_wp2_with fail
    go_ret
    exact ⟨rfl, HB1.out⟩
  have HS : Hid (sizeN n L ≤ 1048576) := by have := (leftOf_pos hg).1; show _ ≤ _; omega
  have hn20 : n ≤ 1048576 := by have := HS.out; unfold sizeN at this; omega
  have HCN : Hid (cntF (fun j => L.getD j []) (3 * n) ≤ 1048576) := by show _ ≤ _; rw [cntF_all HL.out]; have := HS.out; unfold sizeN at this; omega
  obtain ⟨g, hgg⟩ : ∃ g, Hid (atOk p n L t = g) := ⟨_, rfl⟩
  obtain ⟨r, hrr⟩ : ∃ r, Hid (atR (fun i => hasB (L.getD (3 * i + 1) []) t) p n L t = r) := ⟨_, rfl⟩
  have hrl : r.length ≤ 1048576 := by have h1 := r_len p n L t; rw [hrr.out] at h1; omega
  have hne : ∀ b : Bool, (b != b) = false := by simp
  have hsr := sameB_self r
  generalize leftOf 1048576 (sizeN n L) = l0 at *
  obtain ⟨hc0, hc1⟩ := cells2 PAR1.out
  have hlt := row_lt PAR1.out
  go_wp2_with fail
  refine (toNet_any _ _ _ _ L _ (HR.out.below HB1.out) HS.out).mono ?_
  rintro e w3 ⟨B2, rfl, hB2, hp2, hb⟩
  have HB3 := hide (HB1.out.trans (hb.mono HB1.out.size))
  have PAR3 := hide (keep PAR1.out hb)
  have HL3 := hide (hp2.lists HL.out HS.out)
  clear HB1 PAR1 hb hp2 hB2 hc0 hc1 hlt
  go_wp2_with fail
  refine (giversSp_any _ t _ _ _ L _ HL3.out HS.out).mono ?_
  rw [hgg.out, hrr.out]
  rintro e u ⟨aw, nw, cw, rfl, hrw, hb⟩
  have HBU := hide (HB3.out.trans (hb.mono HB3.out.size))
  have PARU := hide (keep PAR3.out hb)
  have HRW := hide hrw
  have hnw : nw ≤ 1048576 := by have := hrw.1; omega
  clear HB3 PAR3 HL3 hb hrw
  have hwu := HBU.out.size
  obtain ⟨hc0, hc1⟩ := cells2 PARU.out
  have hlt := row_lt PARU.out
  go_wp2_with fail
  refine (toNet_any _ _ _ _ L _ (HR.out.below HBU.out) HS.out).mono ?_
  rintro e w4 ⟨B, rfl, hB, hp4, hb⟩
  have hPF := hp4.bound
  have hz4 := hb.size
  have hBl : B < w4.heap.size := by obtain ⟨C, f, q1, _⟩ := hPF; exact (Array.getElem?_eq_some_iff.mp q1).1
  have hA := below_al w4 (.cells #[.int .i64 p, .slice (some ⟨B, 0, none⟩) n n] 31)
  have HB6 := hide ((HBU.out.trans (hb.mono HBU.out.size)).trans (hA.mono (by omega)))
  have HU6 := hide (hb.trans (hA.mono hb.size))
  have PAR6 := hide (keep (keep PARU.out hb) hA)
  have HX6 := hide (heap_alloc_new w4 (.cells #[.int .i64 p, .slice (some ⟨B, 0, none⟩) n n] 31))
  have HN6 := hide (hPF.grow hA)
  have hs6 : (w4.alloc (.cells #[.int .i64 p, .slice (some ⟨B, 0, none⟩) n n] 31)).heap.size = w4.heap.size + 1 := by simp
  clear hb hp4 hPF hc0 hc1 hlt hA
  go_wp2_with fail
  generalize w4.alloc (.cells #[.int .i64 p, .slice (some ⟨B, 0, none⟩) n n] 31) = w6 at *
  generalize w4.heap.size = bx at *
  clear w4
  refine (givesI_any _ t _ _ _ L _ (HN6.out.lists HL.out HS.out) HS.out).mono ?_
  rw [hgg.out, hrr.out]
  rintro e w7 ⟨ag, bg, ng, cg, rfl, hblk, hbg, hb⟩
  rw [hs6] at hbg
  have hng : ng ≤ 1048576 := by have := hblk.1; omega
  have ST := hide (So.mk (ax := none) (b1 := bx) (nm := 0) (ly := []) (HB6.out.trans (hb.mono HB6.out.size)) (HU6.out.trans (hb.mono HU6.out.size)) (keep PAR6.out hb) (keep HX6.out hb) (HN6.out.grow hb) ⟨rfl, .inl rfl⟩ hblk)
  clear HB6 HU6 PAR6 HX6 HN6 hb hblk hs6 w6
  -- the answer against the specification's
  go_wp2_with fail
  refine (eq_any _ _ _ _ _ _ r r _ ST.out.g.row (HRW.out.below ST.out.mid) hng).mono ?_
  rintro e w8 ⟨rfl, q, rfl⟩
  have ST2 := hide (ST.out.grow (below_drewN' _ q))
  generalize w7.drewN q = w8 at *
  clear ST w7 q
  -- the net as it was
  obtain ⟨hc0, hc1⟩ := cells2 ST2.out.par
  obtain ⟨hd0, hd1⟩ := cells2 ST2.out.x0
  have hlt := row_lt ST2.out.par
  have hlx := row_lt ST2.out.x0
  go_wp2_with fail
  have HT := hide (toNet_any p a n c L (w8.drewN 1) ((HR.out.below ST2.out.old).below (below_drewN' _ _)) HS.out)
  go_region_with (first
    | (go_at_call 7
       refine HT.out.mono ?_
       rintro e w9 ⟨B9, rfl, hB9, hp9, hb⟩
       have ST := hide (ST2.out.grow ((below_drewN' w8 1).trans hb))
       have HM9 := hide (hp9.lists HL.out HS.out)
       have HL9 := hide (ST.out.net.lists HL.out HS.out)
       obtain ⟨he0, he1⟩ := cells2 ST.out.x0
       clear hb hp9 hB9)
    | (go_at_call 10
       refine (eqNet_any _ _ _ _ _ _ L _ HL9.out HM9.out HS.out).mono ?_
       rintro e w10 ⟨rfl, hb⟩
       have ST3 := hide (ST.out.grow hb)
       clear hb))
  all_goals
    clear HT ST ST2 HM9 HL9 hc0 hc1 hd0 hd1 hlt hlx he0 he1 w8
    -- the argument is marked
    obtain ⟨hd0, hd1⟩ := cells2 ST3.out.x0
    go_wp2_with fail
    refine (markNet_any p B bx n n 1 55 _ _ ST3.out.net HCN.out hn20 (by omega)).mono ?_
    rintro e w13 ⟨rfl, hm1, hk1⟩
    have ST2 := hide (ST3.out.markN hm1 hk1 (by omega) hB (by omega) (by omega) (by omega))
    have hcn := HCN.out
    obtain ⟨k1, hk1'⟩ : ∃ k1 : Nat, Hid (1 + cntF (fun j => L.getD j []) (3 * n) = k1) := ⟨_, rfl⟩
    rw [hk1'.out]
    have hpos : (0 : Int) ≤ (k1 : Int) := by omega
    clear ST3 hm1 hk1 hd0 hd1 hcn w10
    go_wp2_with fail
    refine (eq_any _ _ _ _ _ _ r r _ ST2.out.g.row (HRW.out.below ST2.out.mid) hng).mono ?_
    rintro e w15 ⟨rfl, q, rfl⟩
    have ST := hide (ST2.out.grow (below_drewN' _ q))
    generalize w13.drewN q = w15 at *
    clear ST2 w13 q
    -- the answer is marked
    go_wp2_with fail
    refine (markO_any _ bg _ _ 1 r _ ST.out.g hng (by omega)).mono ?_
    rintro e w16 ⟨rfl, hm1, ho1⟩
    have ST2 := hide (ST.out.markG hm1 ho1 (by omega) (by omega) (by omega) (by omega) (by omega) (by omega))
    clear ST hm1 ho1 w15
    go_wp2_with fail
    refine (held_any _ _ _ 1 _ ST2.out.g.row hng (by omega)).mono ?_
    rintro e w17 ⟨rfl, rfl⟩
    have hpos2 : (0 : Int) ≤ ((1 + ng : Nat) : Int) := by omega
    have hnq : (((1 + ng : Nat) : Int) != ((1 + ng : Nat) : Int)) = false := by simp
    -- the second call
    obtain ⟨hc0, hc1⟩ := cells2 ST2.out.par
    go_wp2_with fail
    refine (toNet_any _ _ _ _ L _ (HR.out.below ST2.out.old) HS.out).mono ?_
    rintro e w18 ⟨B18, rfl, hB18, hp18, hb⟩
    have ST := hide (ST2.out.grow hb)
    have HL18 := hide (hp18.lists HL.out HS.out)
    clear ST2 hb hp18 hB18 hc0 hc1 w17
    go_wp2_with fail
    refine (givesI_any _ t _ _ _ L _ HL18.out HS.out).mono ?_
    rw [hgg.out, hrr.out]
    rintro e w20 ⟨ah, bh, nh, ch, rfl, hblk, hbh, hb⟩
    have hnh : nh ≤ 1048576 := by have := hblk.1; omega
    have ST2 := hide (ST.out.grow hb)
    have HH := hide hblk.row
    clear ST HL18 hb hblk hbh w18
    go_wp2_with fail
    refine (eq_any _ _ _ _ _ _ r r _ HH.out (HRW.out.below ST2.out.mid) hnh).mono ?_
    rintro e w21 ⟨rfl, q, rfl⟩
    have ST := hide (ST2.out.grow (below_drewN' _ q))
    generalize w20.drewN q = w21 at *
    clear ST2 HH w20 q
    go_wp2_with fail
    refine (held_any _ _ _ 1 _ ST.out.g.row hng (by omega)).mono ?_
    rintro e w22 ⟨rfl, rfl⟩
    have HE := hide ST.out.old
    clear ST
    go_wp2_with fail
    go_ret
    exact ⟨rfl, HE.out⟩

/-! ### THE ROW's STEP -/
set_option maxRecDepth 100000 in
theorem lifted (os : Os) (started : os.Started) (H : Type) (enc : TypeId × Value → H) :
    ReturnsInHanded {} Try.checked os 4 .any (Rows.fnExactGiversOfSpec.pre6 enc Try.prog Try.f4 Rows.fnExactGiversOfRow.domain false) (Rows.fnExactGiversOfSpec.post enc Try.prog Try.f4 false true false false) := by
  refine returnsInHanded_of_change (C := Try.checked) own started (by kernel_rfl) Try.func4
    (ChangeSpec.witness6 (enc := enc) (C := Try.checked) false ⟨#[], #[.agg #[.int .i64 0, .slice none 0 0], .int .i64 0], []⟩ 8 (by kernel_rfl) (by kernel_rfl) (by kernel_rfl) (by kernel_rfl)) ?_
  intro W base args ds gs before hval0 hW hcnd _
  have hval : ∀ (j : Nat) t v, Try.f4.params[j]? = some t → args[j]? = some v → Value.okWide Try.prog W .any base t v := hval0
  have hW' := hW
  obtain ⟨p, q, hA0, hV, rfl, hfz, hnd⟩ := hW
  have hA : DataW.TrodAll enc Try.prog W 0 (fun _ => true) true Try.f4.params.toList args.toList ds p := hA0
  rw [Try.params4] at hA hval
  obtain ⟨v0, vs0, d0, ds0, p0, q0, hargs, rfl, rfl, h0, r0⟩ := trodAll_cons hA
  obtain ⟨v1, vs1, d1, ds1, p1, q1, rfl, rfl, rfl, h1, r1⟩ := trodAll_cons r0
  obtain ⟨rfl, rfl, rfl⟩ := trodAll_nil r1
  obtain rfl : args = #[v0, v1] := by cases args; simp_all
  obtain ⟨rfl, rfl⟩ := trodVars_none hV
  have k0 := h0
  have lt0 : ∀ x ∈ p0, x.block < W.heap.size := by obtain ⟨m, hm⟩ := k0; exact DataW.trod_lt m _ _ _ hm
  obtain ⟨g0, a0, n0, c0, L0, rfl, m0, w0⟩ := open_net (hval 0 24 v0 rfl rfl) h0
  obtain ⟨a1, rfl, rfl, rfl, w1⟩ := open_int Try.underlying3 (hval 1 3 v1 rfl rfl) h1
  clear hA0 hval0
  refine (walk g0 a0 n0 c0 L0 a1 W m0 w0).mono fun e W' ⟨he, bel⟩ => ?_
  subst he
  exact ⟨_, rfl, _, _, _, [], _, [], hW', trodAll_mk1 (shut_bool Try.underlying4 _), (trodAll_cons_mk (Below.trod laidOut (by kernel_rfl) (of_decide_eq_true (by kernel_rfl)) k0 bel lt0) (trodAll_cons_mk (shut_int Try.underlying3 w1) trodAll_mk0)), rfl, bel.frame _, fun h => by cases h⟩

theorem over : Rows.fnExactGiversOfRow.holds Try.pinned (OpenSpec.ofChange Rows.fnExactGiversOfSpec) :=
  OpenClaim.holds_of_wide 4 Try.f4 rfl rfl rfl rfl rfl rfl rfl ⟨rfl, rfl, rfl, rfl, rfl⟩ rfl rfl rfl rfl rfl (by kernel_rfl) Try.func4 (by kernel_rfl)
    (of_decide_eq_true (by kernel_rfl)) (by unfold Func.isWrapper; first | (rw [if_pos (by decide +kernel)]; kernel_rfl) | (rw [if_neg (by decide +kernel)]; exact ⟨rfl, rfl⟩))
    (fun os started H enc _ => lifted os started H enc)

/-- ████ THE STATEMENT ████ -/
theorem proved : Rows.FnExactGiversOfSaid := over
#print axioms proved
end Go.Proofs.Ytecgiinhdigpoaa.fnExactGiversOf

namespace Go.Proofs.Ytecgiinhdigpoaa
theorem fnExactGiversOf_holds : Rows.FnExactGiversOfSaid := fnExactGiversOf.proved
end Go.Proofs.Ytecgiinhdigpoaa
