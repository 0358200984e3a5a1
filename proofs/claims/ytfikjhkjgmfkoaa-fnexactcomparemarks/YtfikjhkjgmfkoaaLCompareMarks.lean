/- Proved: for every number and every two lists of integers, in whatever memory, the law FnExactCompareMarks returns true and leaves its arguments as they were; no condition. -/
import Derived.Test.YtfikjhkjgmfkoaaCmp
import Derived.WalkKit
import Derived.ProofKit
import Derived.OpenShut
import Derived.ShutString
import Derived.ChangeOld
import Derived.Below
namespace Go.Proofs.Ytfikjhkjgmfkoaa.fnExactCompareMarks
open Go.ChangeShapes Go.WideShapes Go.ChangeAt Go.RowKit
open Go.ChangeMaps (open_string shut_string)
set_option linter.unusedVariables false

theorem own : ownKnob Try.prog.godebug = none := by kernel_rfl
theorem laidOut : laidOutB Try.prog = true := by kernel_rfl

/-- WHAT THE WALK IS TOLD OF A SLICE OF INTEGERS THAT CAME IN: it is nil; or it leads to a row of 'cap' cells, the numbers 'zs' (the first 'len' are its elements, the rest its spare room), each fitting its kind. -/
def IsRow (k : IntKind) (w : World) (a : Option Addr) (len cap : Nat) (zs : List Int) : Prop :=
  (a = none ∧ len = 0 ∧ cap = 0 ∧ zs = []) ∨
  ∃ x, a = some x ∧ len ≤ cap ∧ cap ≤ maxLen ∧ zs.length = cap ∧ (∀ i, i < zs.length → w.cell? (x.add i) = some (.int k (zs.getD i 0))) ∧ ∀ n ∈ zs, (Lit.int k n).wf = true

theorem rowOf {w : World} {a : Option Addr} {len cap : Nat} {zs : List Int} (h : IsRow .i64 w a len cap zs) : Row w a len (zs.take len) := by
  rcases h with ⟨rfl, rfl, rfl, rfl⟩ | ⟨x, rfl, hl, hm, hz, hcell, hwz⟩
  · exact ⟨rfl, .inl rfl⟩
  · refine ⟨by rw [List.length_take]; omega, ?_⟩
    by_cases h0 : len = 0
    · exact .inl h0
    · obtain ⟨b, off, spot⟩ := x
      have hc := hcell 0 (by omega)
      have hspot : spot = none := by simpa [Addr.add] using World.cell?_spot hc
      subst hspot
      refine .inr ⟨b, off, rfl, ?_, fun i hi => ?_⟩
      · have := block_lt_of_cell hc; simpa [Addr.add] using this
      · have := hcell i (by omega)
        rw [List.getD_eq_getElem?_getD, List.getElem?_take_of_lt hi, ← List.getD_eq_getElem?_getD]
        have ea : (⟨b, off, none⟩ : Addr).add i = ⟨b, off + i, none⟩ := by unfold Addr.add; split <;> simp_all
        rw [ea] at this
        exact this

set_option maxHeartbeats 800000 in
theorem walk (a0 : Int) (a1 : Option Addr) (len1 cap1 : Nat) (z1 : List Int) (a2 : Option Addr) (len2 cap2 : Nat) (z2 : List Int) (w : World) (w0 : (Lit.int .i64 a0).wf = true) (w1 : IsRow .i64 w a1 len1 cap1 z1) (w2 : IsRow .i64 w a2 len2 cap2 z2) :
    Calls Try.prog 8 #[.int .i64 a0, .slice a1 len1 cap1, .slice a2 len2 cap2] w fun e w' => e = .returned (.bool true) ∧ Below w.heap.size w w' := by
  have hr := rowOf w1
  have hr2 := rowOf w2
  generalize z1.take len1 = xs at hr
  generalize z2.take len2 = ys at hr2
  clear w1 w0 w2
  by_cases hbig : 1048576 < len1
  · go_enter Try.func8, Try.ntmps8
    go_wp2
    go_ret
    exact ⟨rfl, Below.refl _ _⟩
  by_cases hbig2 : 1048576 < len2
  · go_enter Try.func8, Try.ntmps8
    go_wp2
    go_ret
    exact ⟨rfl, Below.refl _ _⟩
  have hn : len1 ≤ 1048576 := by omega
  have hm : len2 ≤ 1048576 := by omega
  have HL := hide hr.1
  have HL2 := hide hr2.1
  have HR := hide hr
  have HR2 := hide hr2
  obtain ⟨t, ht⟩ : ∃ t, Hid (cmpB a0 xs ys = t) := ⟨_, rfl⟩
  obtain ⟨g, hg⟩ : ∃ g, Hid ((goodB a0 xs && goodB a0 ys) = g) := ⟨_, rfl⟩
  have ht2 : (t != t) = false := by simp
  have hg2 : (g != g) = false := by simp
  clear hr hr2
  go_enter Try.func8, Try.ntmps8
  go_wp2_with fail
  refine (toInt_any _ _ _ xs _ HR.out hn).mono ?_
  rintro e v1 ⟨rfl, rfl⟩
  go_wp2_with fail
  refine (toInt_any _ _ _ ys _ (HR2.out.alloc _) hm).mono ?_
  rintro e v1 ⟨rfl, rfl⟩
  go_wp2_with fail
  have HX := hide ((row_new w xs len1 w.heap.size HL.out rfl).alloc (.cells (cellsOf ys) 3))
  have HY := hide (row_new (w.alloc (.cells (cellsOf xs) 3)) ys len2 (w.heap.size + 1) HL2.out (by simp))
  have HB := hide (below_two w (.cells (cellsOf xs) 3) (.cells (cellsOf ys) 3))
  refine (compareS_any _ _ _ _ _ _ _ xs ys _ HX.out HY.out hn hm).mono ?_
  rintro e v1 ⟨rfl, hb1⟩
  rw [ht.out, hg.out]
  have HB1 := hide (HB.out.trans (hb1.mono HB.out.size))
  clear HB HX HY hb1
  have HA := hide (HR.out.below HB1.out)
  have HA2 := hide (HR2.out.below HB1.out)
  go_wp2_with fail
  refine (toInt_any _ _ _ xs _ HA.out hn).mono ?_
  rintro e v2 ⟨rfl, rfl⟩
  go_wp2_with fail
  refine (toInt_any _ _ _ ys _ (HA2.out.alloc _) hm).mono ?_
  rintro e v2 ⟨rfl, rfl⟩
  go_wp2_with fail
  have HX := hide ((row_new v1 xs len1 v1.heap.size HL.out rfl).alloc (.cells (cellsOf ys) 3))
  have HY := hide (row_new (v1.alloc (.cells (cellsOf xs) 3)) ys len2 (v1.heap.size + 1) HL2.out (by simp))
  have HB := hide (HB1.out.trans ((below_two v1 (.cells (cellsOf xs) 3) (.cells (cellsOf ys) 3)).mono HB1.out.size))
  refine (compareI_any _ _ _ _ _ _ _ xs ys _ HX.out HY.out hn hm).mono ?_
  rintro e v2 ⟨rfl, hb2⟩
  rw [ht.out, hg.out]
  have HB2 := hide (HB.out.trans (hb2.mono HB.out.size))
  have HX2 := hide (HX.out.below hb2)
  have HY2 := hide (HY.out.below hb2)
  clear HB hb2 HX HY HA HA2
  have HA := hide (HR.out.below HB2.out)
  have HA2 := hide (HR2.out.below HB2.out)
  go_wp2_with fail
  refine (toInt_any _ _ _ xs _ HA.out hn).mono ?_
  rintro e v3 ⟨rfl, rfl⟩
  go_wp2_with fail
  refine (eq_any _ _ _ _ _ _ xs xs _ (HX2.out.alloc _) (row_new v2 xs len1 _ HL.out rfl) hn).mono ?_
  rintro e v3 ⟨rfl, q, rfl⟩
  have hs := sameB_self xs
  have hs2 := sameB_self ys
  have HB3 := hide ((HB2.out.alloc HB2.out.size (.cells (cellsOf xs) 3)).drewN q)
  go_wp2_with fail
  refine (toInt_any _ _ _ ys _ ((HA2.out.alloc _).drewN q) hm).mono ?_
  rintro e v3 ⟨rfl, rfl⟩
  go_wp2_with fail
  refine (eq_any _ _ _ _ _ _ ys ys _ (((HY2.out.alloc _).drewN q).alloc _) (row_new _ ys len2 _ HL2.out (by simp)) hm).mono ?_
  rintro e v3 ⟨rfl, q2, rfl⟩
  have HB4 := hide ((HB3.out.alloc HB3.out.size (.cells (cellsOf ys) 3)).drewN q2)
  go_wp2
  go_ret
  exact ⟨rfl, HB4.out⟩

/-! ### THE ROW's STEP: WRITTEN OUT: LEAVE IT -/
set_option maxRecDepth 100000 in
theorem lifted (os : Os) (started : os.Started) (H : Type) (enc : TypeId × Value → H) :
    ReturnsInHanded {} Try.checked os 8 .any (Rows.fnExactCompareMarksSpec.pre6 enc Try.prog Try.f8 Rows.fnExactCompareMarksRow.domain false) (Rows.fnExactCompareMarksSpec.post enc Try.prog Try.f8 false true false false) := by
  refine returnsInHanded_of_change (C := Try.checked) own started (by kernel_rfl) Try.func8
    (ChangeSpec.witness6 (enc := enc) (C := Try.checked) false ⟨#[], #[.int .i64 0, .slice none 0 0, .slice none 0 0], []⟩ 8 (by kernel_rfl) (by kernel_rfl) (by kernel_rfl) (by kernel_rfl)) ?_
  intro W base args ds gs before hval0 hW hcnd _
  have hval : ∀ (j : Nat) t v, Try.f8.params[j]? = some t → args[j]? = some v → Value.okWide Try.prog W .any base t v := hval0
  have hW' := hW
  obtain ⟨p, q, hA0, hV, rfl, hfz, hnd⟩ := hW
  have hA : DataW.TrodAll enc Try.prog W 0 (fun _ => true) true Try.f8.params.toList args.toList ds p := hA0
  rw [Try.params8] at hA hval
  obtain ⟨v0, vs0, d0, ds0, p0, q0, hargs, rfl, rfl, h0, r0⟩ := trodAll_cons hA
  obtain ⟨v1, vs1, d1, ds1, p1, q1, rfl, rfl, rfl, h1, r1⟩ := trodAll_cons r0
  obtain ⟨v2, vs2, d2, ds2, p2, q2, rfl, rfl, rfl, h2, r2⟩ := trodAll_cons r1
  obtain ⟨rfl, rfl, rfl⟩ := trodAll_nil r2
  obtain rfl : args = #[v0, v1, v2] := by cases args; simp_all
  obtain ⟨rfl, rfl⟩ := trodVars_none hV
  obtain ⟨a0, rfl, rfl, rfl, w0⟩ := open_int Try.underlying3 (hval 0 3 v0 rfl rfl) h0
  obtain ⟨a1, len1, cap1, rfl⟩ := okWide_slice Try.underlying22 (hval 1 22 v1 rfl rfl)
  have k1 := h1
  have lt1 : ∀ x ∈ p1, x.block < W.heap.size := by obtain ⟨m, hm⟩ := k1; exact DataW.trod_lt m _ _ _ hm
  obtain ⟨z1, w1⟩ : ∃ zs, IsRow .i64 W a1 len1 cap1 zs := by
    obtain ⟨fuel, hf⟩ := h1
    rcases open_ints Try.underlying22 Try.underlying3 (by kernel_rfl) hf with ⟨hcs, _⟩ | ⟨x, l, c, zs, hcs, _, hl, hm, hz, _, hcell, hwz⟩
    · simp [Value.cells] at hcs
      obtain ⟨rfl, rfl, rfl⟩ := hcs
      exact ⟨[], .inl ⟨rfl, rfl, rfl, rfl⟩⟩
    · simp [Value.cells] at hcs
      obtain ⟨rfl, rfl, rfl⟩ := hcs
      exact ⟨zs, .inr ⟨_, rfl, hl, hm, by simpa using hz, hcell, hwz⟩⟩
  obtain ⟨a2, len2, cap2, rfl⟩ := okWide_slice Try.underlying22 (hval 2 22 v2 rfl rfl)
  have k2 := h2
  have lt2 : ∀ x ∈ p2, x.block < W.heap.size := by obtain ⟨m, hm⟩ := k2; exact DataW.trod_lt m _ _ _ hm
  obtain ⟨z2, w2⟩ : ∃ zs, IsRow .i64 W a2 len2 cap2 zs := by
    obtain ⟨fuel, hf⟩ := h2
    rcases open_ints Try.underlying22 Try.underlying3 (by kernel_rfl) hf with ⟨hcs, _⟩ | ⟨x, l, c, zs, hcs, _, hl, hm, hz, _, hcell, hwz⟩
    · simp [Value.cells] at hcs
      obtain ⟨rfl, rfl, rfl⟩ := hcs
      exact ⟨[], .inl ⟨rfl, rfl, rfl, rfl⟩⟩
    · simp [Value.cells] at hcs
      obtain ⟨rfl, rfl, rfl⟩ := hcs
      exact ⟨zs, .inr ⟨_, rfl, hl, hm, by simpa using hz, hcell, hwz⟩⟩
  clear hA0 hval0
  refine (walk a0 a1 len1 cap1 z1 a2 len2 cap2 z2 W w0 w1 w2).mono fun e W' ⟨he, bel⟩ => ?_
  subst he
  exact ⟨_, rfl, _, _, _, [], _, [], hW', trodAll_mk1 (shut_bool Try.underlying4 _), (trodAll_cons_mk (shut_int Try.underlying3 w0) (trodAll_cons_mk (Below.trod laidOut (by kernel_rfl) (of_decide_eq_true (by kernel_rfl)) k1 bel lt1) (trodAll_cons_mk (Below.trod laidOut (by kernel_rfl) (of_decide_eq_true (by kernel_rfl)) k2 bel lt2) trodAll_mk0))), rfl, bel.frame _, fun h => by cases h⟩

theorem over : Rows.fnExactCompareMarksRow.holds Try.pinned (OpenSpec.ofChange Rows.fnExactCompareMarksSpec) :=
  OpenClaim.holds_of_wide 8 Try.f8 rfl rfl rfl rfl rfl rfl rfl ⟨rfl, rfl, rfl, rfl, rfl⟩ rfl rfl rfl rfl rfl (by kernel_rfl) Try.func8 (by kernel_rfl)
    (of_decide_eq_true (by kernel_rfl)) (by unfold Func.isWrapper; first | (rw [if_pos (by decide +kernel)]; kernel_rfl) | (rw [if_neg (by decide +kernel)]; exact ⟨rfl, rfl⟩))
    (fun os started H enc _ => lifted os started H enc)

/-- ████ THE STATEMENT ████ -/
theorem proved : Rows.FnExactCompareMarksSaid := over
#print axioms proved
end Go.Proofs.Ytfikjhkjgmfkoaa.fnExactCompareMarks

namespace Go.Proofs.Ytfikjhkjgmfkoaa
theorem fnExactCompareMarks_holds : Rows.FnExactCompareMarksSaid := fnExactCompareMarks.proved
end Go.Proofs.Ytfikjhkjgmfkoaa
