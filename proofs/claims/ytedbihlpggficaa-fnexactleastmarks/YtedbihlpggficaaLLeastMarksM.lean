/- Proved: for every input, in whatever memory, the law FnExactLeastMarks returns true and leaves its arguments as they were; no condition. -/
import Derived.Test.YtedbihlpggficaaP6
import Derived.WalkKit
import Derived.ProofKit
import Derived.OpenShut
import Derived.ShutString
import Derived.ChangeOld
import Derived.Below
namespace Go.Proofs.Ytedbihlpggficaa.fnExactLeastMarks
open Go.ChangeShapes Go.WideShapes Go.ChangeAt Go.RowKit
open Go.ChangeMaps (open_string shut_string)
set_option linter.unusedVariables false

theorem own : ownKnob Try.prog.godebug = none := by kernel_rfl
theorem laidOut : laidOutB Try.prog = true := by kernel_rfl

set_option maxHeartbeats 4000000 in
theorem walk (p : Int) (a : Option Addr) (n c : Nat) (L : List (List Int)) (w : World) (hn : n ≤ maxLen) (hr : Lists w a n L) :
    Calls Try.prog 4 #[.int .i64 p, .slice a n c] w fun e w' => e = .returned (.bool true) ∧ Below w.heap.size w w' := by
  have HR := hide hr
  have HL := hide hr.1
  clear hr
  go_enter Try.func4, Try.ntmps4
  go_wp2_with fail
  refine (szSS_any _ _ _ L _ _ HR.out hn (by omega) (by omega)).mono ?_
  rintro e w1 ⟨rfl, hw1⟩
  rw [hw1]
  clear hw1
  by_cases hg : leftOf 1048576 (sizeN n L) < 0
  · generalize leftOf 1048576 (sizeN n L) = l0 at *
    go_wp2_with fail
    go_ret
    exact ⟨rfl, Below.refl _ _⟩
  have HS : Hid (sizeN n L ≤ 1048576) := by have := (leftOf_pos hg).1; show _ ≤ _; omega
  have hn20 : n ≤ 1048576 := by have := HS.out; unfold sizeN at this; omega
  have HCN : Hid (cntF (fun j => L.getD j []) n ≤ 1048576) := by show _ ≤ _; rw [cntF_all1 HL.out]; have := HS.out; unfold sizeN at this; omega
  have hKs := leastR_size p L
  have HSP := hide (fun a c w h => leastS_any p a n c L w h HS.out)
  have HIM := hide (fun a c w h => leastI_any p a n c L w h HS.out)
  obtain ⟨K, hK⟩ : ∃ K, Hid (leastR p L = K) := ⟨_, rfl⟩
  obtain ⟨g, hgg⟩ : ∃ g, Hid (okL p L = g) := ⟨_, rfl⟩
  rw [hK.out] at hKs
  rw [hK.out, hgg.out] at HSP HIM
  obtain ⟨N, hN⟩ : ∃ N, K.length = N := ⟨_, rfl⟩
  have HN := hide hN
  have hN20 : N ≤ 1048576 := by omega
  have HKS : Hid (sizeN N K ≤ 1048576) := by show _ ≤ _; unfold sizeN; omega
  have HKC : Hid (cntF (fun j => K.getD j []) N ≤ 1048576) := by show _ ≤ _; rw [cntF_all1 hN]; omega
  have hne : ∀ b : Bool, (b != b) = false := by simp
  clear hKs hN
  generalize leftOf 1048576 (sizeN n L) = l0 at *
  go_wp2_with fail
  refine (toSS_any _ _ _ L _ HR.out HS.out).mono ?_
  rintro e w2 ⟨rfl, hp2, hb⟩
  have HB2 := hide hb
  have HL2 := hide (hp2.lists1 HL.out HS.out)
  clear hb hp2
  go_wp2_with fail
  refine (HSP.out _ _ _ HL2.out).mono ?_
  rintro e u ⟨aw, cw, rfl, hlw, hb⟩
  rw [HN.out] at hlw ⊢
  have HBU := hide (HB2.out.trans (hb.mono HB2.out.size))
  have HWU := hide hlw
  clear HB2 hb hlw HL2 HSP
  have hwu := HBU.out.size
  go_wp2_with fail
  refine (toSS_any _ _ _ L _ (HR.out.below HBU.out) HS.out).mono ?_
  rintro e w4 ⟨rfl, hp4, hb⟩
  obtain ⟨B, hB⟩ : ∃ B, Hid (u.heap.size = B) := ⟨_, rfl⟩
  have hPF := hp4.bound
  rw [hB.out] at hPF ⊢
  have HB4 := hide (HBU.out.trans (hb.mono HBU.out.size))
  have HU4 := hide hb
  have HN4 := hide hPF
  have hBl : B < w4.heap.size := by obtain ⟨C, f, q1, _⟩ := hPF; exact (Array.getElem?_eq_some_iff.mp q1).1
  clear hb hp4 hPF
  go_wp2_with fail
  refine (HIM.out _ _ _ (HN4.out.lists1 HL.out HS.out)).mono ?_
  rintro e w6 ⟨ag, Bg, hig, cg, rfl, hng, hBg, hhig, hb, _⟩
  rw [HN.out] at hng ⊢
  have ST := hide (Sx.mk (w := w) (u := u) (HB4.out.trans (hb.mono HB4.out.size)) (HU4.out.trans (hb.mono HU4.out.size)) (HN4.out.grow hb) hng)
  clear hb HB4 HU4 HN4 hng
  go_wp2_with fail
  -- the answer against the specification's
  refine (eqSS_any ag aw N cg cw K _ (ST.out.gn.lists1 HN.out HKS.out) (HWU.out.below ST.out.mid) HKS.out).mono ?_
  rintro e w8 ⟨rfl, hb⟩
  have ST2 := hide (ST.out.grow hb)
  clear ST hb
  -- the list as it was
  go_wp2_with fail
  refine (toSS_any _ _ _ L _ (HR.out.below ST2.out.old) HS.out).mono ?_
  rintro e w9 ⟨rfl, hp9, hb⟩
  have ST := hide (ST2.out.grow hb)
  have HM9 := hide (hp9.lists1 HL.out HS.out)
  clear hb hp9 ST2
  go_wp2_with fail
  refine (eqSS_any _ _ _ _ _ L _ (ST.out.net.lists1 HL.out HS.out) HM9.out HS.out).mono ?_
  rintro e w10 ⟨rfl, hb⟩
  have ST3 := hide (ST.out.grow hb)
  clear hb ST HM9
  -- the argument is marked
  go_wp2_with fail
  refine (markSF_any B w4.heap.size n n 1 25 _ _ ST3.out.net HCN.out hn20 (by omega)).mono ?_
  rintro e w13 ⟨rfl, hm1, hk1⟩
  have ST := hide (ST3.out.markN hm1 hk1 (by have := hB.out; omega) (by have := hB.out; omega) (by omega))
  obtain ⟨k1, hk1'⟩ : ∃ k1 : Nat, Hid (1 + cntF (fun j => L.getD j []) n = k1) := ⟨_, rfl⟩
  rw [hk1'.out]
  clear ST3 hm1 hk1
  have hpos : (0 : Int) ≤ (k1 : Int) := by omega
  go_wp2_with fail
  refine (eqSS_any ag aw N cg cw K _ (ST.out.gn.lists1 HN.out HKS.out) (HWU.out.below ST.out.mid) HKS.out).mono ?_
  rintro e w15 ⟨rfl, hb⟩
  have ST2 := hide (ST.out.grow hb)
  clear ST hb
  -- the answer is marked
  go_wp2_with fail
  refine (markSS_any ag Bg hig N cg 1 _ _ ST2.out.gn HKC.out hN20 (by omega)).mono ?_
  rintro e w16 ⟨rfl, hm1, hk1⟩
  have ST := hide (ST2.out.markG hm1 hk1 (by have := hB.out; omega) (by have := hB.out; omega))
  obtain ⟨k2, hk2'⟩ : ∃ k2 : Nat, Hid (1 + cntF (fun j => K.getD j []) N = k2) := ⟨_, rfl⟩
  rw [hk2'.out]
  clear ST2 hm1 hk1
  have hpos2 : (0 : Int) ≤ (k2 : Int) := by omega
  have hnq : ((k2 : Int) != (k2 : Int)) = false := by simp
  go_wp2_with fail
  refine (heldSS_any ag Bg hig N cg 1 (fun j => K.getD j []) _ ST.out.gn HKC.out hN20 (by omega)).mono ?_
  rintro e w17 ⟨rfl, hw17⟩
  rw [hw17, hk2'.out]
  clear hw17
  -- the second call
  go_wp2_with fail
  refine (toSS_any _ _ _ L _ (HR.out.below ST.out.old) HS.out).mono ?_
  rintro e w18 ⟨rfl, hp18, hb⟩
  have ST2 := hide (ST.out.grow hb)
  have HL18 := hide (hp18.lists1 HL.out HS.out)
  clear ST hb hp18
  go_wp2_with fail
  refine (HIM.out _ _ _ HL18.out).mono ?_
  rintro e w20 ⟨ah, Bh, hh, ch, rfl, hnh, _, _, hb, _⟩
  rw [HN.out] at hnh ⊢
  have ST := hide (ST2.out.grow hb)
  have HH := hide (hnh.lists1 HN.out HKS.out)
  clear ST2 HL18 hb hnh
  go_wp2_with fail
  refine (eqSS_any ah aw N ch cw K _ HH.out (HWU.out.below ST.out.mid) HKS.out).mono ?_
  rintro e w22 ⟨rfl, hb⟩
  have ST2 := hide (ST.out.grow hb)
  clear ST HH hb
  go_wp2_with fail
  refine (heldSS_any ag Bg hig N cg 1 (fun j => K.getD j []) _ ST2.out.gn HKC.out hN20 (by omega)).mono ?_
  rintro e w23 ⟨rfl, hw23⟩
  rw [hw23, hk2'.out]
  clear hw23
  have HO := hide ST2.out.old
  clear ST2
  go_wp2_with fail
  go_ret
  exact ⟨rfl, HO.out⟩

/-! ### THE ROW's STEP -/
set_option maxRecDepth 100000 in
theorem lifted (os : Os) (started : os.Started) (H : Type) (enc : TypeId × Value → H) :
    ReturnsInHanded {} Try.checked os 4 .any (Rows.fnExactLeastMarksSpec.pre6 enc Try.prog Try.f4 Rows.fnExactLeastMarksRow.domain false) (Rows.fnExactLeastMarksSpec.post enc Try.prog Try.f4 false true false false) := by
  refine returnsInHanded_of_change (C := Try.checked) own started (by kernel_rfl) Try.func4
    (ChangeSpec.witness6 (enc := enc) (C := Try.checked) false ⟨#[], #[.int .i64 0, .slice none 0 0], []⟩ 8 (by kernel_rfl) (by kernel_rfl) (by kernel_rfl) (by kernel_rfl)) ?_
  intro W base args ds gs before hval0 hW hcnd _
  have hval : ∀ (j : Nat) t v, Try.f4.params[j]? = some t → args[j]? = some v → Value.okWide Try.prog W .any base t v := hval0
  have hW' := hW
  obtain ⟨p, q, hA0, hV, rfl, hfz, hnd⟩ := hW
  have hA : DataW.TrodAll enc Try.prog W 0 (fun _ => true) true Try.f4.params.toList args.toList ds p := hA0
  rw [Try.params4] at hA hval
  obtain ⟨v0, vs0, d0, ds0, p0, q0, hargs, rfl, rfl, h0, r0⟩ := trodAll_cons hA
  obtain ⟨v1, vs1, d1, ds1, p1, q1, rfl, rfl, rfl, h1, r1⟩ := trodAll_cons r0
  obtain ⟨rfl, rfl, rfl⟩ := trodAll_nil r1
  obtain rfl : args = #[v0, v1] := by cases args; simp_all
  obtain ⟨rfl, rfl⟩ := trodVars_none hV
  obtain ⟨a0, rfl, rfl, rfl, w0⟩ := open_int Try.underlying3 (hval 0 3 v0 rfl rfl) h0
  have k1 := h1
  have lt1 : ∀ x ∈ p1, x.block < W.heap.size := by obtain ⟨m, hm⟩ := k1; exact DataW.trod_lt m _ _ _ hm
  obtain ⟨e1, f1, t1, rfl⟩ := okWide_slice Try.underlying27 (hval 1 27 v1 rfl rfl)
  obtain ⟨a1, n1, c1, L1, he1, m1, w1⟩ : ∃ a n c xs, Value.slice e1 f1 t1 = .slice a n c ∧ n ≤ maxLen ∧ Lists W a n xs := by
    obtain ⟨fuel, hf⟩ := h1
    simp only [Value.cells] at hf
    exact lists_of hf
  simp only [Value.slice.injEq] at he1
  obtain ⟨rfl, rfl, rfl⟩ := he1
  clear hA0 hval0
  refine (walk a0 e1 f1 t1 L1 W m1 w1).mono fun e W' ⟨he, bel⟩ => ?_
  subst he
  exact ⟨_, rfl, _, _, _, [], _, [], hW', trodAll_mk1 (shut_bool Try.underlying4 _), (trodAll_cons_mk (shut_int Try.underlying3 w0) (trodAll_cons_mk (Below.trod laidOut (by kernel_rfl) (of_decide_eq_true (by kernel_rfl)) k1 bel lt1) trodAll_mk0)), rfl, bel.frame _, fun h => by cases h⟩

theorem over : Rows.fnExactLeastMarksRow.holds Try.pinned (OpenSpec.ofChange Rows.fnExactLeastMarksSpec) :=
  OpenClaim.holds_of_wide 4 Try.f4 rfl rfl rfl rfl rfl rfl rfl ⟨rfl, rfl, rfl, rfl, rfl⟩ rfl rfl rfl rfl rfl (by kernel_rfl) Try.func4 (by kernel_rfl)
    (of_decide_eq_true (by kernel_rfl)) (by unfold Func.isWrapper; first | (rw [if_pos (by decide +kernel)]; kernel_rfl) | (rw [if_neg (by decide +kernel)]; exact ⟨rfl, rfl⟩))
    (fun os started H enc _ => lifted os started H enc)

/-- ████ THE STATEMENT ████ -/
theorem proved : Rows.FnExactLeastMarksSaid := over
#print axioms proved
end Go.Proofs.Ytedbihlpggficaa.fnExactLeastMarks

namespace Go.Proofs.Ytedbihlpggficaa
theorem fnExactLeastMarks_holds : Rows.FnExactLeastMarksSaid := fnExactLeastMarks.proved
end Go.Proofs.Ytedbihlpggficaa
