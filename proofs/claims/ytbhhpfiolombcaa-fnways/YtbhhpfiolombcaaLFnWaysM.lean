/- Proved: for every two lists of bytes, in whatever memory, the law FnWays returns true and leaves its arguments as they were; no condition. -/
import Derived.Test.YtbhhpfiolombcaaP16
import Derived.WalkKit
import Derived.ProofKit
import Derived.OpenShut
import Derived.ShutString
import Derived.ChangeOld
import Derived.Below
namespace Go.Proofs.Ytbhhpfiolombcaa.fnWays
open Go.ChangeShapes Go.WideShapes Go.ChangeAt Go.RowKit
open Go.ChangeMaps (open_string shut_string)
set_option linter.unusedVariables false

theorem own : ownKnob Try.prog.godebug = none := by kernel_rfl
theorem laidOut : laidOutB Try.prog = true := by kernel_rfl

/-- WHAT THE WALK IS TOLD OF A SLICE OF INTEGERS THAT CAME IN: it is nil; or it leads to a row of 'cap' cells, the numbers 'zs' (the first 'len' are its elements, the rest its spare room), each fitting its kind. -/
def IsRow (k : IntKind) (w : World) (a : Option Addr) (len cap : Nat) (zs : List Int) : Prop :=
  (a = none ∧ len = 0 ∧ cap = 0 ∧ zs = []) ∨
  ∃ x, a = some x ∧ len ≤ cap ∧ cap ≤ maxLen ∧ zs.length = cap ∧ (∀ i, i < zs.length → w.cell? (x.add i) = some (.int k (zs.getD i 0))) ∧ ∀ n ∈ zs, (Lit.int k n).wf = true

theorem rowOf {w : World} {a : Option Addr} {len cap : Nat} {zs : List Int} (h : IsRow .u8 w a len cap zs) : RowB w a len (zs.take len) ∧ len ≤ maxLen := by
  rcases h with ⟨rfl, rfl, rfl, rfl⟩ | ⟨x, rfl, hl, hm, hz, hcell, hwz⟩
  · exact ⟨⟨rfl, fun i => by simp, .inl rfl⟩, by unfold maxLen; omega⟩
  · refine ⟨⟨by rw [List.length_take]; omega, fun i => ?_, ?_⟩, by omega⟩
    · rw [List.getD_eq_getElem?_getD]
      by_cases hi : i < (zs.take len).length
      · rw [List.getElem?_eq_getElem hi]
        have := hwz _ (List.mem_of_mem_take (List.getElem_mem hi))
        have := bounds_u8 this
        simpa using this
      · rw [List.getElem?_eq_none (by omega)]; simp
    · by_cases h0 : len = 0
      · exact .inl h0
      · obtain ⟨b, off, spot⟩ := x
        have hc := hcell 0 (by omega)
        have hspot : spot = none := by simpa [Addr.add] using World.cell?_spot hc
        subst hspot
        refine .inr ⟨b, off, rfl, ?_, fun i hi => ?_⟩
        · have := block_lt_of_cell hc; simpa [Addr.add] using this
        · have := hcell i (by omega)
          rw [List.getD_eq_getElem?_getD, List.getElem?_take_of_lt hi, ← List.getD_eq_getElem?_getD]
          have ea : (⟨b, off, none⟩ : Addr).add i = ⟨b, off + i, none⟩ := by unfold Addr.add; split <;> simp_all
          rw [ea] at this
          exact this

set_option maxRecDepth 100000 in
set_option maxHeartbeats 8000000 in
theorem walk (a0 : Option Addr) (len0 cap0 : Nat) (z0 : List Int) (a1 : Option Addr) (len1 cap1 : Nat) (z1 : List Int) (w : World) (w0 : IsRow .u8 w a0 len0 cap0 z0) (w1 : IsRow .u8 w a1 len1 cap1 z1) :
    Calls Try.prog 3 #[.slice a0 len0 cap0, .slice a1 len1 cap1] w fun e w' => e = .returned (.bool true) ∧ Below w.heap.size w w' := by
  have hr := rowOf w0
  have hr2 := rowOf w1
  generalize z0.take len0 = bs at hr
  generalize z1.take len1 = zs at hr2
  obtain ⟨hr, hl0⟩ := hr
  obtain ⟨hr2, hl1⟩ := hr2
  have HR := hide hr
  have HR2 := hide hr2
  unfold maxLen at hl0 hl1
  clear w0 w1 hr hr2
  go_enter Try.func3, Try.ntmps3
  go_wp2_with fail
  refine (big_any _ _ _ _ _ _ _ hl0 hl1).mono ?_
  rintro e v0 ⟨r, rfl, hbig, hv0⟩
  rw [hv0]
  clear hv0 v0
  cases r
  rotate_left
  · go_wp2_with fail
    go_ret
    exact ⟨rfl, Below.refl _ _⟩
  have hn0 := (hbig.out rfl).1
  have hn1 := (hbig.out rfl).2
  clear hbig
  go_wp2_with fail
  refine (drawShortNet_any _ _ _ bs _ HR.out hn0).mono ?_
  rintro e v1 ⟨pl, u, k, cells, s, t, rfl, hp1, hp2, hk1, hk2, hnet, hb⟩
  obtain ⟨g, cp, rfl, _, _⟩ := World.ownsRow.form hnet.own (by omega)
  obtain ⟨ua, uc, L, hem, hlf, hsz, _⟩ := hnet.lists (by omega) (by decide)
  simp only [Value.slice.injEq] at hem
  obtain ⟨rfl, _, rfl⟩ := hem
  have HLL := hide hlf.1
  have HSZ : Hid (sizeN k L ≤ 1048576) := by show _ ≤ _; omega
  have hA := below_al v1 (.cells #[.int .i64 (pl : Int), .slice (some ⟨g, 0, none⟩) k cp, .int .i64 s, .int .i64 t] 28)
  have HB := hide (hb.trans (hA.mono hb.size))
  have F0 := hide (heap_alloc_new v1 (.cells #[.int .i64 (pl : Int), .slice (some ⟨g, 0, none⟩) k cp, .int .i64 s, .int .i64 t] 28))
  have LF := hide (hlf.below hA)
  have B2 := hide ((HR2.out.below hb).below hA)
  have HLN : Hid (∀ q, (oneR (pl : Int) k L s t q).length ≤ 16) := fun q => oneR_len _ _ _ _ _ _ (fun h => (flow_num h).1.2)
  clear hb hA hnet hlf hsz HR HR2
  go_wp2_with fail
  generalize v1.alloc (.cells #[.int .i64 (pl : Int), .slice (some ⟨g, 0, none⟩) k cp, .int .i64 s, .int .i64 t] 28) = vf at *
  generalize v1.heap.size = bf at *
  clear v1
  by_cases hsk : shortOk (pl : Int) k L s t = true
  · have hfl : flowOk (pl : Int) k L s t = true := by unfold shortOk at hsk; rw [Bool.and_eq_true] at hsk; exact hsk.1
    have HSK := hide hsk
    have HG := hide hfl
    have HNT := hide (wayOk_parts (flowOk_parts hfl).1).1
    have HWO := hide (flowOk_parts hfl).1
    have HWP := hide (flowOk_parts hfl).2.2.1
    have HWT := hide (flowOk_parts hfl).2.2.2.1
    have HRT : Hid (oneR (pl : Int) k L s t t = oneL (pl : Int).toNat t.toNat) := by show _ = _; unfold oneR; rw [if_pos hfl]
    have HRA : Hid (oneR (pl : Int) k L s t s = oneL (pl : Int).toNat s.toNat) := by show _ = _; unfold oneR; rw [if_pos hfl]
    have HFO := hide (short_fire hsk HLL.out).1
    have HFR : Hid (fireR (pl : Int) (k + 1) (shortL L s t) (oneL (pl : Int).toNat t.toNat) (k : Int) = oneL (pl : Int).toNat s.toNat) := by show _ = _; unfold fireR; rw [if_pos HFO.out, (short_fire hsk HLL.out).2]
    rw [← HRT.out] at HFO HFR
    clear hsk hfl
    obtain ⟨f0, f1, f2, f3⟩ := cells4c F0.out
    have fl := row_lt F0.out
    go_wp2_with fail
    refine (goodFlowI_any (pl : Int) s t _ k cp L _ LF.out HSZ.out).mono ?_
    rw [HG.out]
    rintro e v2 ⟨rfl, hb⟩
    replace HB := hide (HB.out.trans (hb.mono HB.out.size))
    replace F0 := hide (keep F0.out hb)
    replace LF := hide (LF.out.below hb)
    replace B2 := hide (B2.out.below hb)
    clear hb f0 f1 f2 f3 fl
    obtain ⟨f0, f1, f2, f3⟩ := cells4c F0.out
    have fl := row_lt F0.out
    go_wp2_with fail
    refine (shortI_any (pl : Int) s t _ k cp L _ LF.out HSZ.out).mono ?_
    rw [HSK.out]
    rintro e v3 ⟨sa, cs, rfl, hts, hb⟩
    replace HB := hide (HB.out.trans (hb.mono HB.out.size))
    replace F0 := hide (keep F0.out hb)
    replace LF := hide (LF.out.below hb)
    replace B2 := hide (B2.out.below hb)
    have LS := hide ((hts rfl).listsW (shortSize HNT.out HLL.out))
    simp only [if_true]
    have hA := below_al v3 (.cells #[.int .i64 (pl : Int), .slice sa (k + 1) cs] 26)
    have S0 := hide (heap_alloc_new v3 (.cells #[.int .i64 (pl : Int), .slice sa (k + 1) cs] 26))
    replace HB := hide (HB.out.trans (hA.mono HB.out.size))
    replace F0 := hide (keep F0.out hA)
    replace LF := hide (LF.out.below hA)
    replace B2 := hide (B2.out.below hA)
    replace LS := hide (LS.out.below hA)
    clear hb hts f0 f1 f2 f3 fl hA
    obtain ⟨f0, f1, f2, f3⟩ := cells4c F0.out
    have fl := row_lt F0.out
    go_wp2_with fail
    generalize v3.alloc (.cells #[.int .i64 (pl : Int), .slice sa (k + 1) cs] 26) = v4 at *
    generalize v3.heap.size = bs7 at *
    refine (shortS_any (pl : Int) s t _ k cp L _ LF.out HSZ.out).mono ?_
    rw [HSK.out]
    rintro e v5 ⟨aw, cw, rfl, hlw, hb⟩
    replace HB := hide (HB.out.trans (hb.mono HB.out.size))
    replace F0 := hide (keep F0.out hb)
    replace LF := hide (LF.out.below hb)
    replace B2 := hide (B2.out.below hb)
    replace LS := hide (LS.out.below hb)
    replace S0 := hide (keep S0.out hb)
    simp only [if_true]
    have LW := hide (hlw rfl)
    have hA := below_al v5 (.cells #[.int .i64 (pl : Int), .slice aw (k + 1) cw] 26)
    have W0 := hide (heap_alloc_new v5 (.cells #[.int .i64 (pl : Int), .slice aw (k + 1) cw] 26))
    replace HB := hide (HB.out.trans (hA.mono HB.out.size))
    replace F0 := hide (keep F0.out hA)
    replace LF := hide (LF.out.below hA)
    replace B2 := hide (B2.out.below hA)
    replace LS := hide (LS.out.below hA)
    replace S0 := hide (keep S0.out hA)
    replace LW := hide (LW.out.below hA)
    clear hb hlw f0 f1 f2 f3 fl hA
    obtain ⟨f0, f1, f2, f3⟩ := cells4c F0.out
    have fl := row_lt F0.out
    go_wp2_with fail
    generalize v5.alloc (.cells #[.int .i64 (pl : Int), .slice aw (k + 1) cw] 26) = v6 at *
    generalize v5.heap.size = bs9 at *
    refine (startI_any (pl : Int) s t _ k cp L _ LF.out HSZ.out).mono ?_
    rw [HG.out]
    rintro e v7 ⟨aa, ba, na, ca, rfl, ho, _, hb⟩
    replace HB := hide (HB.out.trans (hb.mono HB.out.size))
    replace F0 := hide (keep F0.out hb)
    replace LF := hide (LF.out.below hb)
    replace B2 := hide (B2.out.below hb)
    replace LS := hide (LS.out.below hb)
    replace S0 := hide (keep S0.out hb)
    replace LW := hide (LW.out.below hb)
    replace W0 := hide (keep W0.out hb)
    have Ra := hide ho.row
    clear ho
    clear hb f0 f1 f2 f3 fl
    obtain ⟨f0, f1, f2, f3⟩ := cells4c F0.out
    have fl := row_lt F0.out
    go_wp2_with fail
    refine (startS_any (pl : Int) s t _ k cp L _ LF.out HSZ.out).mono ?_
    rw [HG.out]
    rintro e v8 ⟨ab, nb, cb, rfl, ho, hb⟩
    replace HB := hide (HB.out.trans (hb.mono HB.out.size))
    replace F0 := hide (keep F0.out hb)
    replace LF := hide (LF.out.below hb)
    replace B2 := hide (B2.out.below hb)
    replace LS := hide (LS.out.below hb)
    replace S0 := hide (keep S0.out hb)
    replace LW := hide (LW.out.below hb)
    replace W0 := hide (keep W0.out hb)
    replace Ra := hide (Ra.out.below hb)
    have Rb := hide ho
    clear ho
    clear hb f0 f1 f2 f3 fl
    obtain ⟨f0, f1, f2, f3⟩ := cells4c F0.out
    have fl := row_lt F0.out
    go_wp2_with fail
    refine (endI_any (pl : Int) s t _ k cp L _ LF.out HSZ.out).mono ?_
    rw [HG.out]
    rintro e v9 ⟨ac, bc, nc, cc, rfl, ho, _, hb⟩
    replace HB := hide (HB.out.trans (hb.mono HB.out.size))
    replace F0 := hide (keep F0.out hb)
    replace LF := hide (LF.out.below hb)
    replace B2 := hide (B2.out.below hb)
    replace LS := hide (LS.out.below hb)
    replace S0 := hide (keep S0.out hb)
    replace LW := hide (LW.out.below hb)
    replace W0 := hide (keep W0.out hb)
    replace Ra := hide (Ra.out.below hb)
    replace Rb := hide (Rb.out.below hb)
    have Rc := hide ho.row
    clear ho
    clear hb f0 f1 f2 f3 fl
    obtain ⟨f0, f1, f2, f3⟩ := cells4c F0.out
    have fl := row_lt F0.out
    go_wp2_with fail
    refine (endS_any (pl : Int) s t _ k cp L _ LF.out HSZ.out).mono ?_
    rw [HG.out]
    rintro e v10 ⟨ad, nd, cd, rfl, ho, hb⟩
    replace HB := hide (HB.out.trans (hb.mono HB.out.size))
    replace F0 := hide (keep F0.out hb)
    replace LF := hide (LF.out.below hb)
    replace B2 := hide (B2.out.below hb)
    replace LS := hide (LS.out.below hb)
    replace S0 := hide (keep S0.out hb)
    replace LW := hide (LW.out.below hb)
    replace W0 := hide (keep W0.out hb)
    replace Ra := hide (Ra.out.below hb)
    replace Rb := hide (Rb.out.below hb)
    replace Rc := hide (Rc.out.below hb)
    have Rd := hide ho
    clear ho
    clear hb f0 f1 f2 f3 fl
    obtain ⟨f0, f1, f2, f3⟩ := cells4c F0.out
    have fl := row_lt F0.out
    have la := Ra.out.1
    have lc := Rc.out.1
    have lb := Rb.out.1
    have ld := Rd.out.1
    have hla := HLN.out s
    have hlc := HLN.out t
    go_wp2_with fail
    refine (goodFlowS_any (pl : Int) s t _ k cp L _ LF.out HSZ.out).mono ?_
    rw [HG.out]
    rintro e v11 ⟨rfl, hb⟩
    replace HB := hide (HB.out.trans (hb.mono HB.out.size))
    replace F0 := hide (keep F0.out hb)
    replace LF := hide (LF.out.below hb)
    replace B2 := hide (B2.out.below hb)
    replace LS := hide (LS.out.below hb)
    replace S0 := hide (keep S0.out hb)
    replace LW := hide (LW.out.below hb)
    replace W0 := hide (keep W0.out hb)
    replace Ra := hide (Ra.out.below hb)
    replace Rb := hide (Rb.out.below hb)
    replace Rc := hide (Rc.out.below hb)
    replace Rd := hide (Rd.out.below hb)
    clear hb f0 f1 f2 f3 fl
    obtain ⟨x0, x1⟩ := cells2 S0.out
    have xl := row_lt S0.out
    obtain ⟨y0, y1⟩ := cells2 W0.out
    have yl := row_lt W0.out
    go_wp2_with fail
    refine (sameNet_any _ sa aw (k + 1) cs cw (shortL L s t) _ LS.out LW.out (shortSize HNT.out HLL.out)).mono ?_
    rintro e v12 ⟨rfl, hb⟩
    replace HB := hide (HB.out.trans (hb.mono HB.out.size))
    replace F0 := hide (keep F0.out hb)
    replace LF := hide (LF.out.below hb)
    replace B2 := hide (B2.out.below hb)
    replace LS := hide (LS.out.below hb)
    replace S0 := hide (keep S0.out hb)
    replace LW := hide (LW.out.below hb)
    replace W0 := hide (keep W0.out hb)
    replace Ra := hide (Ra.out.below hb)
    replace Rb := hide (Rb.out.below hb)
    replace Rc := hide (Rc.out.below hb)
    replace Rd := hide (Rd.out.below hb)
    clear hb x0 x1 xl y0 y1 yl
    go_wp2_with fail
    refine (sameI_any _ _ _ _ _ _ _ _ _ Ra.out Rb.out (by omega)).mono ?_
    rw [sameB_self]
    rintro e v13 ⟨rfl, q13, hv⟩
    have hb := below_same hv
    replace HB := hide (HB.out.trans (hb.mono HB.out.size))
    replace F0 := hide (keep F0.out hb)
    replace LF := hide (LF.out.below hb)
    replace B2 := hide (B2.out.below hb)
    replace LS := hide (LS.out.below hb)
    replace S0 := hide (keep S0.out hb)
    replace LW := hide (LW.out.below hb)
    replace W0 := hide (keep W0.out hb)
    replace Ra := hide (Ra.out.below hb)
    replace Rb := hide (Rb.out.below hb)
    replace Rc := hide (Rc.out.below hb)
    replace Rd := hide (Rd.out.below hb)
    clear hb hv
    go_wp2_with fail
    refine (sameI_any _ _ _ _ _ _ _ _ _ Rc.out Rd.out (by omega)).mono ?_
    rw [sameB_self]
    rintro e v14 ⟨rfl, q14, hv⟩
    have hb := below_same hv
    replace HB := hide (HB.out.trans (hb.mono HB.out.size))
    replace F0 := hide (keep F0.out hb)
    replace LF := hide (LF.out.below hb)
    replace B2 := hide (B2.out.below hb)
    replace LS := hide (LS.out.below hb)
    replace S0 := hide (keep S0.out hb)
    replace LW := hide (LW.out.below hb)
    replace W0 := hide (keep W0.out hb)
    replace Ra := hide (Ra.out.below hb)
    replace Rb := hide (Rb.out.below hb)
    replace Rc := hide (Rc.out.below hb)
    replace Rd := hide (Rd.out.below hb)
    clear hb hv
    obtain ⟨f0, f1, f2, f3⟩ := cells4c F0.out
    have fl := row_lt F0.out
    go_wp2_with fail
    refine (onWayI_any (pl : Int) s t _ k cp L _ LF.out HSZ.out).mono ?_
    rw [HWO.out]
    rintro e v15 ⟨ap, _, np, cp5, at5, _, nt, ct, rfl, hop, hot, _, _, hb⟩
    replace HB := hide (HB.out.trans (hb.mono HB.out.size))
    replace F0 := hide (keep F0.out hb)
    replace LF := hide (LF.out.below hb)
    replace B2 := hide (B2.out.below hb)
    replace LS := hide (LS.out.below hb)
    replace S0 := hide (keep S0.out hb)
    replace LW := hide (LW.out.below hb)
    replace W0 := hide (keep W0.out hb)
    replace Ra := hide (Ra.out.below hb)
    replace Rb := hide (Rb.out.below hb)
    replace Rc := hide (Rc.out.below hb)
    replace Rd := hide (Rd.out.below hb)
    have lp : (np : Int) = (pl : Int) := by rw [← hop.1]; exact HWP.out
    have lt : nt = k := by rw [← hot.1]; exact HWT.out
    subst lt
    clear hop hot hb f0 f1 f2 f3 fl
    have hnp : ((np : Int) != (pl : Int)) = false := by rw [lp]; simp
    have hnk : ((nt : Int) != (nt : Int)) = false := by simp
    obtain ⟨f0, f1, f2, f3⟩ := cells4c F0.out
    have fl := row_lt F0.out
    obtain ⟨x0, x1⟩ := cells2 S0.out
    have xl := row_lt S0.out
    go_wp2_with fail
    refine (implFire_any _ sa ac (nt + 1) cs nc _ (shortL L s t) _ (nt : Int) _ LS.out Rc.out (shortSize HNT.out HLL.out) (by omega)).mono ?_
    rw [HFO.out, HFR.out]
    rintro e v16 ⟨ak, bk, nk, rfl, hk5, _, hb⟩
    replace HB := hide (HB.out.trans (hb.mono HB.out.size))
    replace F0 := hide (keep F0.out hb)
    replace LF := hide (LF.out.below hb)
    replace B2 := hide (B2.out.below hb)
    replace LS := hide (LS.out.below hb)
    replace S0 := hide (keep S0.out hb)
    replace LW := hide (LW.out.below hb)
    replace W0 := hide (keep W0.out hb)
    replace Ra := hide (Ra.out.below hb)
    replace Rb := hide (Rb.out.below hb)
    replace Rc := hide (Rc.out.below hb)
    replace Rd := hide (Rd.out.below hb)
    have Rk := hide hk5.row
    clear hk5 hb f0 f1 f2 f3 fl x0 x1 xl
    have lk := Rk.out.1
    have lk2 := oneL_len (pl : Int).toNat s.toNat
    go_wp2_with fail
    rw [HRA.out] at Ra
    refine (sameI_any _ _ _ _ _ _ _ _ _ Rk.out Ra.out (by omega)).mono ?_
    rw [sameB_self]
    rintro e v17 ⟨rfl, q17, hv⟩
    have hb := below_same hv
    replace HB := hide (HB.out.trans (hb.mono HB.out.size))
    replace F0 := hide (keep F0.out hb)
    replace LF := hide (LF.out.below hb)
    replace B2 := hide (B2.out.below hb)
    replace LS := hide (LS.out.below hb)
    replace S0 := hide (keep S0.out hb)
    replace LW := hide (LW.out.below hb)
    replace W0 := hide (keep W0.out hb)
    replace Ra := hide (Ra.out.below hb)
    replace Rb := hide (Rb.out.below hb)
    replace Rc := hide (Rc.out.below hb)
    replace Rd := hide (Rd.out.below hb)
    replace Rk := hide (Rk.out.below hb)
    clear hb hv
    clear lk lk2
    go_wp2_with fail
    refine (drawOnWay_any _ _ _ zs _ B2.out hn1).mono ?_
    rintro e v20 ⟨pm, um, km, cellm, x, y, rfl, hkm1, hkm2, hnm, hb⟩
    obtain ⟨gm, cm, rfl, _, _⟩ := World.ownsRow.form hnm.own (by omega)
    obtain ⟨um, cm2, Lm, hem, hlm, hszm, _⟩ := hnm.lists (by omega) (by decide)
    simp only [Value.slice.injEq] at hem
    obtain ⟨rfl, _, rfl⟩ := hem
    replace HB := hide (HB.out.trans (hb.mono HB.out.size))
    have LM := hide hlm
    have hA := below_al v20 (.cells #[.int .i64 pm, .slice (some ⟨gm, 0, none⟩) km cm] 26)
    have M0 := hide (heap_alloc_new v20 (.cells #[.int .i64 pm, .slice (some ⟨gm, 0, none⟩) km cm] 26))
    replace HB := hide (HB.out.trans (hA.mono HB.out.size))
    replace LM := hide (LM.out.below hA)
    have hsm : sizeN km Lm ≤ 1048576 := by omega
    have HSM := hide hsm
    clear hb hA hnm hlm hszm hsm
    go_wp2_with fail
    generalize v20.alloc (.cells #[.int .i64 pm, .slice (some ⟨gm, 0, none⟩) km cm] 26) = v21 at *
    generalize v20.heap.size = bm at *
    refine (onWayI_any pm x y _ km cm Lm _ LM.out HSM.out).mono ?_
    rintro e v22 ⟨a1, _, n1, c1, a2, _, n2, c2, rfl, ho1, ho2, _, _, hb⟩
    replace HB := hide (HB.out.trans (hb.mono HB.out.size))
    replace LM := hide (LM.out.below hb)
    replace M0 := hide (keep M0.out hb)
    have R1 := hide ho1.row
    have R2 := hide ho2.row
    clear ho1 ho2 hb
    obtain ⟨x0, x1⟩ := cells2 M0.out
    have xl := row_lt M0.out
    go_wp2_with fail
    refine (onWayS_any pm x y _ km cm Lm _ LM.out HSM.out).mono ?_
    rintro e v23 ⟨a3, n3, c3, a4, n4, c4, rfl, ho3, ho4, hb⟩
    replace HB := hide (HB.out.trans (hb.mono HB.out.size))
    replace LM := hide (LM.out.below hb)
    replace M0 := hide (keep M0.out hb)
    replace R1 := hide (R1.out.below hb)
    replace R2 := hide (R2.out.below hb)
    have R3 := hide ho3
    have R4 := hide ho4
    clear ho3 ho4 hb x0 x1 xl
    have l1 := wayLen (L := Lm) (p := pm) (n := km) (s := x) (t := y) R1.out.1 R2.out.1
    generalize wayOk pm km Lm x y = og at *
    have hoo : (og == og) = true := by simp
    go_wp2_with fail
    refine (sameI_any _ _ _ _ _ _ _ _ _ R1.out R3.out (by omega)).mono ?_
    rw [sameB_self]
    rintro e v24 ⟨rfl, q24, hv⟩
    have hb := below_same hv
    replace HB := hide (HB.out.trans (hb.mono HB.out.size))
    replace LM := hide (LM.out.below hb)
    replace M0 := hide (keep M0.out hb)
    replace R1 := hide (R1.out.below hb)
    replace R2 := hide (R2.out.below hb)
    replace R3 := hide (R3.out.below hb)
    replace R4 := hide (R4.out.below hb)
    clear hb hv
    go_wp2_with fail
    refine (sameI_any _ _ _ _ _ _ _ _ _ R2.out R4.out (by omega)).mono ?_
    rw [sameB_self]
    rintro e v25 ⟨rfl, q25, hv⟩
    have hb := below_same hv
    replace HB := hide (HB.out.trans (hb.mono HB.out.size))
    replace LM := hide (LM.out.below hb)
    replace M0 := hide (keep M0.out hb)
    replace R1 := hide (R1.out.below hb)
    replace R2 := hide (R2.out.below hb)
    replace R3 := hide (R3.out.below hb)
    replace R4 := hide (R4.out.below hb)
    clear hb hv
    go_wp2_with fail
    go_ret
    exact ⟨rfl, HB.out⟩
  have hsk : shortOk (pl : Int) k L s t = false := by simpa using hsk
  by_cases hfl : flowOk (pl : Int) k L s t = true
  · have HSK := hide hsk
    have HG := hide hfl
    have HWO := hide (flowOk_parts hfl).1
    have HWP := hide (flowOk_parts hfl).2.2.1
    have HWT := hide (flowOk_parts hfl).2.2.2.1
    clear hsk hfl
    obtain ⟨f0, f1, f2, f3⟩ := cells4c F0.out
    have fl := row_lt F0.out
    go_wp2_with fail
    refine (goodFlowI_any (pl : Int) s t _ k cp L _ LF.out HSZ.out).mono ?_
    rw [HG.out]
    rintro e v2 ⟨rfl, hb⟩
    replace HB := hide (HB.out.trans (hb.mono HB.out.size))
    replace F0 := hide (keep F0.out hb)
    replace LF := hide (LF.out.below hb)
    replace B2 := hide (B2.out.below hb)
    clear hb f0 f1 f2 f3 fl
    obtain ⟨f0, f1, f2, f3⟩ := cells4c F0.out
    have fl := row_lt F0.out
    go_wp2_with fail
    refine (shortI_any (pl : Int) s t _ k cp L _ LF.out HSZ.out).mono ?_
    rw [HSK.out]
    rintro e v3 ⟨sa, cs, rfl, hts, hb⟩
    replace HB := hide (HB.out.trans (hb.mono HB.out.size))
    replace F0 := hide (keep F0.out hb)
    replace LF := hide (LF.out.below hb)
    replace B2 := hide (B2.out.below hb)
    simp only [Bool.false_eq_true, if_false]
    have hA := below_al v3 (.cells #[.int .i64 0, .slice sa (0) cs] 26)
    have S0 := hide (heap_alloc_new v3 (.cells #[.int .i64 0, .slice sa (0) cs] 26))
    replace HB := hide (HB.out.trans (hA.mono HB.out.size))
    replace F0 := hide (keep F0.out hA)
    replace LF := hide (LF.out.below hA)
    replace B2 := hide (B2.out.below hA)
    clear hb hts f0 f1 f2 f3 fl hA
    obtain ⟨f0, f1, f2, f3⟩ := cells4c F0.out
    have fl := row_lt F0.out
    go_wp2_with fail
    generalize v3.alloc (.cells #[.int .i64 0, .slice sa (0) cs] 26) = v4 at *
    generalize v3.heap.size = bs7 at *
    refine (shortS_any (pl : Int) s t _ k cp L _ LF.out HSZ.out).mono ?_
    rw [HSK.out]
    rintro e v5 ⟨aw, cw, rfl, hlw, hb⟩
    replace HB := hide (HB.out.trans (hb.mono HB.out.size))
    replace F0 := hide (keep F0.out hb)
    replace LF := hide (LF.out.below hb)
    replace B2 := hide (B2.out.below hb)
    replace S0 := hide (keep S0.out hb)
    simp only [Bool.false_eq_true, if_false]
    have hA := below_al v5 (.cells #[.int .i64 0, .slice aw (0) cw] 26)
    have W0 := hide (heap_alloc_new v5 (.cells #[.int .i64 0, .slice aw (0) cw] 26))
    replace HB := hide (HB.out.trans (hA.mono HB.out.size))
    replace F0 := hide (keep F0.out hA)
    replace LF := hide (LF.out.below hA)
    replace B2 := hide (B2.out.below hA)
    replace S0 := hide (keep S0.out hA)
    clear hb hlw f0 f1 f2 f3 fl hA
    obtain ⟨f0, f1, f2, f3⟩ := cells4c F0.out
    have fl := row_lt F0.out
    go_wp2_with fail
    generalize v5.alloc (.cells #[.int .i64 0, .slice aw (0) cw] 26) = v6 at *
    generalize v5.heap.size = bs9 at *
    refine (startI_any (pl : Int) s t _ k cp L _ LF.out HSZ.out).mono ?_
    rw [HG.out]
    rintro e v7 ⟨aa, ba, na, ca, rfl, ho, _, hb⟩
    replace HB := hide (HB.out.trans (hb.mono HB.out.size))
    replace F0 := hide (keep F0.out hb)
    replace LF := hide (LF.out.below hb)
    replace B2 := hide (B2.out.below hb)
    replace S0 := hide (keep S0.out hb)
    replace W0 := hide (keep W0.out hb)
    have Ra := hide ho.row
    clear ho
    clear hb f0 f1 f2 f3 fl
    obtain ⟨f0, f1, f2, f3⟩ := cells4c F0.out
    have fl := row_lt F0.out
    go_wp2_with fail
    refine (startS_any (pl : Int) s t _ k cp L _ LF.out HSZ.out).mono ?_
    rw [HG.out]
    rintro e v8 ⟨ab, nb, cb, rfl, ho, hb⟩
    replace HB := hide (HB.out.trans (hb.mono HB.out.size))
    replace F0 := hide (keep F0.out hb)
    replace LF := hide (LF.out.below hb)
    replace B2 := hide (B2.out.below hb)
    replace S0 := hide (keep S0.out hb)
    replace W0 := hide (keep W0.out hb)
    replace Ra := hide (Ra.out.below hb)
    have Rb := hide ho
    clear ho
    clear hb f0 f1 f2 f3 fl
    obtain ⟨f0, f1, f2, f3⟩ := cells4c F0.out
    have fl := row_lt F0.out
    go_wp2_with fail
    refine (endI_any (pl : Int) s t _ k cp L _ LF.out HSZ.out).mono ?_
    rw [HG.out]
    rintro e v9 ⟨ac, bc, nc, cc, rfl, ho, _, hb⟩
    replace HB := hide (HB.out.trans (hb.mono HB.out.size))
    replace F0 := hide (keep F0.out hb)
    replace LF := hide (LF.out.below hb)
    replace B2 := hide (B2.out.below hb)
    replace S0 := hide (keep S0.out hb)
    replace W0 := hide (keep W0.out hb)
    replace Ra := hide (Ra.out.below hb)
    replace Rb := hide (Rb.out.below hb)
    have Rc := hide ho.row
    clear ho
    clear hb f0 f1 f2 f3 fl
    obtain ⟨f0, f1, f2, f3⟩ := cells4c F0.out
    have fl := row_lt F0.out
    go_wp2_with fail
    refine (endS_any (pl : Int) s t _ k cp L _ LF.out HSZ.out).mono ?_
    rw [HG.out]
    rintro e v10 ⟨ad, nd, cd, rfl, ho, hb⟩
    replace HB := hide (HB.out.trans (hb.mono HB.out.size))
    replace F0 := hide (keep F0.out hb)
    replace LF := hide (LF.out.below hb)
    replace B2 := hide (B2.out.below hb)
    replace S0 := hide (keep S0.out hb)
    replace W0 := hide (keep W0.out hb)
    replace Ra := hide (Ra.out.below hb)
    replace Rb := hide (Rb.out.below hb)
    replace Rc := hide (Rc.out.below hb)
    have Rd := hide ho
    clear ho
    clear hb f0 f1 f2 f3 fl
    obtain ⟨f0, f1, f2, f3⟩ := cells4c F0.out
    have fl := row_lt F0.out
    have la := Ra.out.1
    have lc := Rc.out.1
    have lb := Rb.out.1
    have ld := Rd.out.1
    have hla := HLN.out s
    have hlc := HLN.out t
    go_wp2_with fail
    refine (goodFlowS_any (pl : Int) s t _ k cp L _ LF.out HSZ.out).mono ?_
    rw [HG.out]
    rintro e v11 ⟨rfl, hb⟩
    replace HB := hide (HB.out.trans (hb.mono HB.out.size))
    replace F0 := hide (keep F0.out hb)
    replace LF := hide (LF.out.below hb)
    replace B2 := hide (B2.out.below hb)
    replace S0 := hide (keep S0.out hb)
    replace W0 := hide (keep W0.out hb)
    replace Ra := hide (Ra.out.below hb)
    replace Rb := hide (Rb.out.below hb)
    replace Rc := hide (Rc.out.below hb)
    replace Rd := hide (Rd.out.below hb)
    clear hb f0 f1 f2 f3 fl
    obtain ⟨x0, x1⟩ := cells2 S0.out
    have xl := row_lt S0.out
    obtain ⟨y0, y1⟩ := cells2 W0.out
    have yl := row_lt W0.out
    go_wp2_with fail
    refine (sameNet_any 0 sa aw 0 cs cw [] _ ⟨rfl, .inl rfl⟩ ⟨rfl, .inl rfl⟩ (by decide)).mono ?_
    rintro e v12 ⟨rfl, hb⟩
    replace HB := hide (HB.out.trans (hb.mono HB.out.size))
    replace F0 := hide (keep F0.out hb)
    replace LF := hide (LF.out.below hb)
    replace B2 := hide (B2.out.below hb)
    replace S0 := hide (keep S0.out hb)
    replace W0 := hide (keep W0.out hb)
    replace Ra := hide (Ra.out.below hb)
    replace Rb := hide (Rb.out.below hb)
    replace Rc := hide (Rc.out.below hb)
    replace Rd := hide (Rd.out.below hb)
    clear hb x0 x1 xl y0 y1 yl
    go_wp2_with fail
    refine (sameI_any _ _ _ _ _ _ _ _ _ Ra.out Rb.out (by omega)).mono ?_
    rw [sameB_self]
    rintro e v13 ⟨rfl, q13, hv⟩
    have hb := below_same hv
    replace HB := hide (HB.out.trans (hb.mono HB.out.size))
    replace F0 := hide (keep F0.out hb)
    replace LF := hide (LF.out.below hb)
    replace B2 := hide (B2.out.below hb)
    replace S0 := hide (keep S0.out hb)
    replace W0 := hide (keep W0.out hb)
    replace Ra := hide (Ra.out.below hb)
    replace Rb := hide (Rb.out.below hb)
    replace Rc := hide (Rc.out.below hb)
    replace Rd := hide (Rd.out.below hb)
    clear hb hv
    go_wp2_with fail
    refine (sameI_any _ _ _ _ _ _ _ _ _ Rc.out Rd.out (by omega)).mono ?_
    rw [sameB_self]
    rintro e v14 ⟨rfl, q14, hv⟩
    have hb := below_same hv
    replace HB := hide (HB.out.trans (hb.mono HB.out.size))
    replace F0 := hide (keep F0.out hb)
    replace LF := hide (LF.out.below hb)
    replace B2 := hide (B2.out.below hb)
    replace S0 := hide (keep S0.out hb)
    replace W0 := hide (keep W0.out hb)
    replace Ra := hide (Ra.out.below hb)
    replace Rb := hide (Rb.out.below hb)
    replace Rc := hide (Rc.out.below hb)
    replace Rd := hide (Rd.out.below hb)
    clear hb hv
    obtain ⟨f0, f1, f2, f3⟩ := cells4c F0.out
    have fl := row_lt F0.out
    go_wp2_with fail
    refine (onWayI_any (pl : Int) s t _ k cp L _ LF.out HSZ.out).mono ?_
    rw [HWO.out]
    rintro e v15 ⟨ap, _, np, cp5, at5, _, nt, ct, rfl, hop, hot, _, _, hb⟩
    replace HB := hide (HB.out.trans (hb.mono HB.out.size))
    replace F0 := hide (keep F0.out hb)
    replace LF := hide (LF.out.below hb)
    replace B2 := hide (B2.out.below hb)
    replace S0 := hide (keep S0.out hb)
    replace W0 := hide (keep W0.out hb)
    replace Ra := hide (Ra.out.below hb)
    replace Rb := hide (Rb.out.below hb)
    replace Rc := hide (Rc.out.below hb)
    replace Rd := hide (Rd.out.below hb)
    have lp : (np : Int) = (pl : Int) := by rw [← hop.1]; exact HWP.out
    have lt : nt = k := by rw [← hot.1]; exact HWT.out
    subst lt
    clear hop hot hb f0 f1 f2 f3 fl
    have hnp : ((np : Int) != (pl : Int)) = false := by rw [lp]; simp
    have hnk : ((nt : Int) != (nt : Int)) = false := by simp
    obtain ⟨f0, f1, f2, f3⟩ := cells4c F0.out
    have fl := row_lt F0.out
    go_wp2_with fail
    go_wp2_with fail
    refine (drawOnWay_any _ _ _ zs _ B2.out hn1).mono ?_
    rintro e v20 ⟨pm, um, km, cellm, x, y, rfl, hkm1, hkm2, hnm, hb⟩
    obtain ⟨gm, cm, rfl, _, _⟩ := World.ownsRow.form hnm.own (by omega)
    obtain ⟨um, cm2, Lm, hem, hlm, hszm, _⟩ := hnm.lists (by omega) (by decide)
    simp only [Value.slice.injEq] at hem
    obtain ⟨rfl, _, rfl⟩ := hem
    replace HB := hide (HB.out.trans (hb.mono HB.out.size))
    have LM := hide hlm
    have hA := below_al v20 (.cells #[.int .i64 pm, .slice (some ⟨gm, 0, none⟩) km cm] 26)
    have M0 := hide (heap_alloc_new v20 (.cells #[.int .i64 pm, .slice (some ⟨gm, 0, none⟩) km cm] 26))
    replace HB := hide (HB.out.trans (hA.mono HB.out.size))
    replace LM := hide (LM.out.below hA)
    have hsm : sizeN km Lm ≤ 1048576 := by omega
    have HSM := hide hsm
    clear hb hA hnm hlm hszm hsm
    go_wp2_with fail
    generalize v20.alloc (.cells #[.int .i64 pm, .slice (some ⟨gm, 0, none⟩) km cm] 26) = v21 at *
    generalize v20.heap.size = bm at *
    refine (onWayI_any pm x y _ km cm Lm _ LM.out HSM.out).mono ?_
    rintro e v22 ⟨a1, _, n1, c1, a2, _, n2, c2, rfl, ho1, ho2, _, _, hb⟩
    replace HB := hide (HB.out.trans (hb.mono HB.out.size))
    replace LM := hide (LM.out.below hb)
    replace M0 := hide (keep M0.out hb)
    have R1 := hide ho1.row
    have R2 := hide ho2.row
    clear ho1 ho2 hb
    obtain ⟨x0, x1⟩ := cells2 M0.out
    have xl := row_lt M0.out
    go_wp2_with fail
    refine (onWayS_any pm x y _ km cm Lm _ LM.out HSM.out).mono ?_
    rintro e v23 ⟨a3, n3, c3, a4, n4, c4, rfl, ho3, ho4, hb⟩
    replace HB := hide (HB.out.trans (hb.mono HB.out.size))
    replace LM := hide (LM.out.below hb)
    replace M0 := hide (keep M0.out hb)
    replace R1 := hide (R1.out.below hb)
    replace R2 := hide (R2.out.below hb)
    have R3 := hide ho3
    have R4 := hide ho4
    clear ho3 ho4 hb x0 x1 xl
    have l1 := wayLen (L := Lm) (p := pm) (n := km) (s := x) (t := y) R1.out.1 R2.out.1
    generalize wayOk pm km Lm x y = og at *
    have hoo : (og == og) = true := by simp
    go_wp2_with fail
    refine (sameI_any _ _ _ _ _ _ _ _ _ R1.out R3.out (by omega)).mono ?_
    rw [sameB_self]
    rintro e v24 ⟨rfl, q24, hv⟩
    have hb := below_same hv
    replace HB := hide (HB.out.trans (hb.mono HB.out.size))
    replace LM := hide (LM.out.below hb)
    replace M0 := hide (keep M0.out hb)
    replace R1 := hide (R1.out.below hb)
    replace R2 := hide (R2.out.below hb)
    replace R3 := hide (R3.out.below hb)
    replace R4 := hide (R4.out.below hb)
    clear hb hv
    go_wp2_with fail
    refine (sameI_any _ _ _ _ _ _ _ _ _ R2.out R4.out (by omega)).mono ?_
    rw [sameB_self]
    rintro e v25 ⟨rfl, q25, hv⟩
    have hb := below_same hv
    replace HB := hide (HB.out.trans (hb.mono HB.out.size))
    replace LM := hide (LM.out.below hb)
    replace M0 := hide (keep M0.out hb)
    replace R1 := hide (R1.out.below hb)
    replace R2 := hide (R2.out.below hb)
    replace R3 := hide (R3.out.below hb)
    replace R4 := hide (R4.out.below hb)
    clear hb hv
    go_wp2_with fail
    go_ret
    exact ⟨rfl, HB.out⟩
  have hfl : flowOk (pl : Int) k L s t = false := by simpa using hfl
  have HSK := hide hsk
  have HG := hide hfl
  clear hsk hfl
  obtain ⟨f0, f1, f2, f3⟩ := cells4c F0.out
  have fl := row_lt F0.out
  go_wp2_with fail
  refine (goodFlowI_any (pl : Int) s t _ k cp L _ LF.out HSZ.out).mono ?_
  rw [HG.out]
  rintro e v2 ⟨rfl, hb⟩
  replace HB := hide (HB.out.trans (hb.mono HB.out.size))
  replace F0 := hide (keep F0.out hb)
  replace LF := hide (LF.out.below hb)
  replace B2 := hide (B2.out.below hb)
  clear hb f0 f1 f2 f3 fl
  obtain ⟨f0, f1, f2, f3⟩ := cells4c F0.out
  have fl := row_lt F0.out
  go_wp2_with fail
  refine (shortI_any (pl : Int) s t _ k cp L _ LF.out HSZ.out).mono ?_
  rw [HSK.out]
  rintro e v3 ⟨sa, cs, rfl, hts, hb⟩
  replace HB := hide (HB.out.trans (hb.mono HB.out.size))
  replace F0 := hide (keep F0.out hb)
  replace LF := hide (LF.out.below hb)
  replace B2 := hide (B2.out.below hb)
  simp only [Bool.false_eq_true, if_false]
  have hA := below_al v3 (.cells #[.int .i64 0, .slice sa (0) cs] 26)
  have S0 := hide (heap_alloc_new v3 (.cells #[.int .i64 0, .slice sa (0) cs] 26))
  replace HB := hide (HB.out.trans (hA.mono HB.out.size))
  replace F0 := hide (keep F0.out hA)
  replace LF := hide (LF.out.below hA)
  replace B2 := hide (B2.out.below hA)
  clear hb hts f0 f1 f2 f3 fl hA
  obtain ⟨f0, f1, f2, f3⟩ := cells4c F0.out
  have fl := row_lt F0.out
  go_wp2_with fail
  generalize v3.alloc (.cells #[.int .i64 0, .slice sa (0) cs] 26) = v4 at *
  generalize v3.heap.size = bs7 at *
  refine (shortS_any (pl : Int) s t _ k cp L _ LF.out HSZ.out).mono ?_
  rw [HSK.out]
  rintro e v5 ⟨aw, cw, rfl, hlw, hb⟩
  replace HB := hide (HB.out.trans (hb.mono HB.out.size))
  replace F0 := hide (keep F0.out hb)
  replace LF := hide (LF.out.below hb)
  replace B2 := hide (B2.out.below hb)
  replace S0 := hide (keep S0.out hb)
  simp only [Bool.false_eq_true, if_false]
  have hA := below_al v5 (.cells #[.int .i64 0, .slice aw (0) cw] 26)
  have W0 := hide (heap_alloc_new v5 (.cells #[.int .i64 0, .slice aw (0) cw] 26))
  replace HB := hide (HB.out.trans (hA.mono HB.out.size))
  replace F0 := hide (keep F0.out hA)
  replace LF := hide (LF.out.below hA)
  replace B2 := hide (B2.out.below hA)
  replace S0 := hide (keep S0.out hA)
  clear hb hlw f0 f1 f2 f3 fl hA
  obtain ⟨f0, f1, f2, f3⟩ := cells4c F0.out
  have fl := row_lt F0.out
  go_wp2_with fail
  generalize v5.alloc (.cells #[.int .i64 0, .slice aw (0) cw] 26) = v6 at *
  generalize v5.heap.size = bs9 at *
  refine (startI_any (pl : Int) s t _ k cp L _ LF.out HSZ.out).mono ?_
  rw [HG.out]
  rintro e v7 ⟨aa, ba, na, ca, rfl, ho, _, hb⟩
  replace HB := hide (HB.out.trans (hb.mono HB.out.size))
  replace F0 := hide (keep F0.out hb)
  replace LF := hide (LF.out.below hb)
  replace B2 := hide (B2.out.below hb)
  replace S0 := hide (keep S0.out hb)
  replace W0 := hide (keep W0.out hb)
  have Ra := hide ho.row
  clear ho
  clear hb f0 f1 f2 f3 fl
  obtain ⟨f0, f1, f2, f3⟩ := cells4c F0.out
  have fl := row_lt F0.out
  go_wp2_with fail
  refine (startS_any (pl : Int) s t _ k cp L _ LF.out HSZ.out).mono ?_
  rw [HG.out]
  rintro e v8 ⟨ab, nb, cb, rfl, ho, hb⟩
  replace HB := hide (HB.out.trans (hb.mono HB.out.size))
  replace F0 := hide (keep F0.out hb)
  replace LF := hide (LF.out.below hb)
  replace B2 := hide (B2.out.below hb)
  replace S0 := hide (keep S0.out hb)
  replace W0 := hide (keep W0.out hb)
  replace Ra := hide (Ra.out.below hb)
  have Rb := hide ho
  clear ho
  clear hb f0 f1 f2 f3 fl
  obtain ⟨f0, f1, f2, f3⟩ := cells4c F0.out
  have fl := row_lt F0.out
  go_wp2_with fail
  refine (endI_any (pl : Int) s t _ k cp L _ LF.out HSZ.out).mono ?_
  rw [HG.out]
  rintro e v9 ⟨ac, bc, nc, cc, rfl, ho, _, hb⟩
  replace HB := hide (HB.out.trans (hb.mono HB.out.size))
  replace F0 := hide (keep F0.out hb)
  replace LF := hide (LF.out.below hb)
  replace B2 := hide (B2.out.below hb)
  replace S0 := hide (keep S0.out hb)
  replace W0 := hide (keep W0.out hb)
  replace Ra := hide (Ra.out.below hb)
  replace Rb := hide (Rb.out.below hb)
  have Rc := hide ho.row
  clear ho
  clear hb f0 f1 f2 f3 fl
  obtain ⟨f0, f1, f2, f3⟩ := cells4c F0.out
  have fl := row_lt F0.out
  go_wp2_with fail
  refine (endS_any (pl : Int) s t _ k cp L _ LF.out HSZ.out).mono ?_
  rw [HG.out]
  rintro e v10 ⟨ad, nd, cd, rfl, ho, hb⟩
  replace HB := hide (HB.out.trans (hb.mono HB.out.size))
  replace F0 := hide (keep F0.out hb)
  replace LF := hide (LF.out.below hb)
  replace B2 := hide (B2.out.below hb)
  replace S0 := hide (keep S0.out hb)
  replace W0 := hide (keep W0.out hb)
  replace Ra := hide (Ra.out.below hb)
  replace Rb := hide (Rb.out.below hb)
  replace Rc := hide (Rc.out.below hb)
  have Rd := hide ho
  clear ho
  clear hb f0 f1 f2 f3 fl
  obtain ⟨f0, f1, f2, f3⟩ := cells4c F0.out
  have fl := row_lt F0.out
  have la := Ra.out.1
  have lc := Rc.out.1
  have lb := Rb.out.1
  have ld := Rd.out.1
  have hla := HLN.out s
  have hlc := HLN.out t
  go_wp2_with fail
  refine (goodFlowS_any (pl : Int) s t _ k cp L _ LF.out HSZ.out).mono ?_
  rw [HG.out]
  rintro e v11 ⟨rfl, hb⟩
  replace HB := hide (HB.out.trans (hb.mono HB.out.size))
  replace F0 := hide (keep F0.out hb)
  replace LF := hide (LF.out.below hb)
  replace B2 := hide (B2.out.below hb)
  replace S0 := hide (keep S0.out hb)
  replace W0 := hide (keep W0.out hb)
  replace Ra := hide (Ra.out.below hb)
  replace Rb := hide (Rb.out.below hb)
  replace Rc := hide (Rc.out.below hb)
  replace Rd := hide (Rd.out.below hb)
  clear hb f0 f1 f2 f3 fl
  obtain ⟨x0, x1⟩ := cells2 S0.out
  have xl := row_lt S0.out
  obtain ⟨y0, y1⟩ := cells2 W0.out
  have yl := row_lt W0.out
  go_wp2_with fail
  refine (sameNet_any 0 sa aw 0 cs cw [] _ ⟨rfl, .inl rfl⟩ ⟨rfl, .inl rfl⟩ (by decide)).mono ?_
  rintro e v12 ⟨rfl, hb⟩
  replace HB := hide (HB.out.trans (hb.mono HB.out.size))
  replace F0 := hide (keep F0.out hb)
  replace LF := hide (LF.out.below hb)
  replace B2 := hide (B2.out.below hb)
  replace S0 := hide (keep S0.out hb)
  replace W0 := hide (keep W0.out hb)
  replace Ra := hide (Ra.out.below hb)
  replace Rb := hide (Rb.out.below hb)
  replace Rc := hide (Rc.out.below hb)
  replace Rd := hide (Rd.out.below hb)
  clear hb x0 x1 xl y0 y1 yl
  go_wp2_with fail
  refine (sameI_any _ _ _ _ _ _ _ _ _ Ra.out Rb.out (by omega)).mono ?_
  rw [sameB_self]
  rintro e v13 ⟨rfl, q13, hv⟩
  have hb := below_same hv
  replace HB := hide (HB.out.trans (hb.mono HB.out.size))
  replace F0 := hide (keep F0.out hb)
  replace LF := hide (LF.out.below hb)
  replace B2 := hide (B2.out.below hb)
  replace S0 := hide (keep S0.out hb)
  replace W0 := hide (keep W0.out hb)
  replace Ra := hide (Ra.out.below hb)
  replace Rb := hide (Rb.out.below hb)
  replace Rc := hide (Rc.out.below hb)
  replace Rd := hide (Rd.out.below hb)
  clear hb hv
  go_wp2_with fail
  refine (sameI_any _ _ _ _ _ _ _ _ _ Rc.out Rd.out (by omega)).mono ?_
  rw [sameB_self]
  rintro e v14 ⟨rfl, q14, hv⟩
  have hb := below_same hv
  replace HB := hide (HB.out.trans (hb.mono HB.out.size))
  replace F0 := hide (keep F0.out hb)
  replace LF := hide (LF.out.below hb)
  replace B2 := hide (B2.out.below hb)
  replace S0 := hide (keep S0.out hb)
  replace W0 := hide (keep W0.out hb)
  replace Ra := hide (Ra.out.below hb)
  replace Rb := hide (Rb.out.below hb)
  replace Rc := hide (Rc.out.below hb)
  replace Rd := hide (Rd.out.below hb)
  clear hb hv
  go_wp2_with fail
  refine (drawOnWay_any _ _ _ zs _ B2.out hn1).mono ?_
  rintro e v20 ⟨pm, um, km, cellm, x, y, rfl, hkm1, hkm2, hnm, hb⟩
  obtain ⟨gm, cm, rfl, _, _⟩ := World.ownsRow.form hnm.own (by omega)
  obtain ⟨um, cm2, Lm, hem, hlm, hszm, _⟩ := hnm.lists (by omega) (by decide)
  simp only [Value.slice.injEq] at hem
  obtain ⟨rfl, _, rfl⟩ := hem
  replace HB := hide (HB.out.trans (hb.mono HB.out.size))
  have LM := hide hlm
  have hA := below_al v20 (.cells #[.int .i64 pm, .slice (some ⟨gm, 0, none⟩) km cm] 26)
  have M0 := hide (heap_alloc_new v20 (.cells #[.int .i64 pm, .slice (some ⟨gm, 0, none⟩) km cm] 26))
  replace HB := hide (HB.out.trans (hA.mono HB.out.size))
  replace LM := hide (LM.out.below hA)
  have hsm : sizeN km Lm ≤ 1048576 := by omega
  have HSM := hide hsm
  clear hb hA hnm hlm hszm hsm
  go_wp2_with fail
  generalize v20.alloc (.cells #[.int .i64 pm, .slice (some ⟨gm, 0, none⟩) km cm] 26) = v21 at *
  generalize v20.heap.size = bm at *
  refine (onWayI_any pm x y _ km cm Lm _ LM.out HSM.out).mono ?_
  rintro e v22 ⟨a1, _, n1, c1, a2, _, n2, c2, rfl, ho1, ho2, _, _, hb⟩
  replace HB := hide (HB.out.trans (hb.mono HB.out.size))
  replace LM := hide (LM.out.below hb)
  replace M0 := hide (keep M0.out hb)
  have R1 := hide ho1.row
  have R2 := hide ho2.row
  clear ho1 ho2 hb
  obtain ⟨x0, x1⟩ := cells2 M0.out
  have xl := row_lt M0.out
  go_wp2_with fail
  refine (onWayS_any pm x y _ km cm Lm _ LM.out HSM.out).mono ?_
  rintro e v23 ⟨a3, n3, c3, a4, n4, c4, rfl, ho3, ho4, hb⟩
  replace HB := hide (HB.out.trans (hb.mono HB.out.size))
  replace LM := hide (LM.out.below hb)
  replace M0 := hide (keep M0.out hb)
  replace R1 := hide (R1.out.below hb)
  replace R2 := hide (R2.out.below hb)
  have R3 := hide ho3
  have R4 := hide ho4
  clear ho3 ho4 hb x0 x1 xl
  have l1 := wayLen (L := Lm) (p := pm) (n := km) (s := x) (t := y) R1.out.1 R2.out.1
  generalize wayOk pm km Lm x y = og at *
  have hoo : (og == og) = true := by simp
  go_wp2_with fail
  refine (sameI_any _ _ _ _ _ _ _ _ _ R1.out R3.out (by omega)).mono ?_
  rw [sameB_self]
  rintro e v24 ⟨rfl, q24, hv⟩
  have hb := below_same hv
  replace HB := hide (HB.out.trans (hb.mono HB.out.size))
  replace LM := hide (LM.out.below hb)
  replace M0 := hide (keep M0.out hb)
  replace R1 := hide (R1.out.below hb)
  replace R2 := hide (R2.out.below hb)
  replace R3 := hide (R3.out.below hb)
  replace R4 := hide (R4.out.below hb)
  clear hb hv
  go_wp2_with fail
  refine (sameI_any _ _ _ _ _ _ _ _ _ R2.out R4.out (by omega)).mono ?_
  rw [sameB_self]
  rintro e v25 ⟨rfl, q25, hv⟩
  have hb := below_same hv
  replace HB := hide (HB.out.trans (hb.mono HB.out.size))
  replace LM := hide (LM.out.below hb)
  replace M0 := hide (keep M0.out hb)
  replace R1 := hide (R1.out.below hb)
  replace R2 := hide (R2.out.below hb)
  replace R3 := hide (R3.out.below hb)
  replace R4 := hide (R4.out.below hb)
  clear hb hv
  go_wp2_with fail
  go_ret
  exact ⟨rfl, HB.out⟩

/-! ### THE ROW's STEP: WRITTEN OUT: LEAVE IT -/
set_option maxRecDepth 100000 in
theorem lifted (os : Os) (started : os.Started) (H : Type) (enc : TypeId × Value → H) :
    ReturnsInHanded {} Try.checked os 3 .any (Rows.fnWaysSpec.pre6 enc Try.prog Try.f3 Rows.fnWaysRow.domain false) (Rows.fnWaysSpec.post enc Try.prog Try.f3 false true false false) := by
  refine returnsInHanded_of_change (C := Try.checked) own started (by kernel_rfl) Try.func3
    (ChangeSpec.witness6 (enc := enc) (C := Try.checked) false ⟨#[], #[.slice none 0 0, .slice none 0 0], []⟩ 8 (by kernel_rfl) (by kernel_rfl) (by kernel_rfl) (by kernel_rfl)) ?_
  intro W base args ds gs before hval0 hW hcnd _
  have hval : ∀ (j : Nat) t v, Try.f3.params[j]? = some t → args[j]? = some v → Value.okWide Try.prog W .any base t v := hval0
  have hW' := hW
  obtain ⟨p, q, hA0, hV, rfl, hfz, hnd⟩ := hW
  have hA : DataW.TrodAll enc Try.prog W 0 (fun _ => true) true Try.f3.params.toList args.toList ds p := hA0
  rw [Try.params3] at hA hval
  obtain ⟨v0, vs0, d0, ds0, p0, q0, hargs, rfl, rfl, h0, r0⟩ := trodAll_cons hA
  obtain ⟨v1, vs1, d1, ds1, p1, q1, rfl, rfl, rfl, h1, r1⟩ := trodAll_cons r0
  obtain ⟨rfl, rfl, rfl⟩ := trodAll_nil r1
  obtain rfl : args = #[v0, v1] := by cases args; simp_all
  obtain ⟨rfl, rfl⟩ := trodVars_none hV
  obtain ⟨a0, len0, cap0, rfl⟩ := okWide_slice Try.underlying22 (hval 0 22 v0 rfl rfl)
  have k0 := h0
  have lt0 : ∀ x ∈ p0, x.block < W.heap.size := by obtain ⟨m, hm⟩ := k0; exact DataW.trod_lt m _ _ _ hm
  obtain ⟨z0, w0⟩ : ∃ zs, IsRow .u8 W a0 len0 cap0 zs := by
    obtain ⟨fuel, hf⟩ := h0
    rcases open_ints Try.underlying22 Try.underlying5 (by kernel_rfl) hf with ⟨hcs, _⟩ | ⟨x, l, c, zs, hcs, _, hl, hm, hz, _, hcell, hwz⟩
    · simp [Value.cells] at hcs
      obtain ⟨rfl, rfl, rfl⟩ := hcs
      exact ⟨[], .inl ⟨rfl, rfl, rfl, rfl⟩⟩
    · simp [Value.cells] at hcs
      obtain ⟨rfl, rfl, rfl⟩ := hcs
      exact ⟨zs, .inr ⟨_, rfl, hl, hm, by simpa using hz, hcell, hwz⟩⟩
  obtain ⟨a1, len1, cap1, rfl⟩ := okWide_slice Try.underlying22 (hval 1 22 v1 rfl rfl)
  have k1 := h1
  have lt1 : ∀ x ∈ p1, x.block < W.heap.size := by obtain ⟨m, hm⟩ := k1; exact DataW.trod_lt m _ _ _ hm
  obtain ⟨z1, w1⟩ : ∃ zs, IsRow .u8 W a1 len1 cap1 zs := by
    obtain ⟨fuel, hf⟩ := h1
    rcases open_ints Try.underlying22 Try.underlying5 (by kernel_rfl) hf with ⟨hcs, _⟩ | ⟨x, l, c, zs, hcs, _, hl, hm, hz, _, hcell, hwz⟩
    · simp [Value.cells] at hcs
      obtain ⟨rfl, rfl, rfl⟩ := hcs
      exact ⟨[], .inl ⟨rfl, rfl, rfl, rfl⟩⟩
    · simp [Value.cells] at hcs
      obtain ⟨rfl, rfl, rfl⟩ := hcs
      exact ⟨zs, .inr ⟨_, rfl, hl, hm, by simpa using hz, hcell, hwz⟩⟩
  clear hA0 hval0
  refine (walk a0 len0 cap0 z0 a1 len1 cap1 z1 W w0 w1).mono fun e W' ⟨he, bel⟩ => ?_
  subst he
  exact ⟨_, rfl, _, _, _, [], _, [], hW', trodAll_mk1 (shut_bool Try.underlying4 _), (trodAll_cons_mk (Below.trod laidOut (by kernel_rfl) (of_decide_eq_true (by kernel_rfl)) k0 bel lt0) (trodAll_cons_mk (Below.trod laidOut (by kernel_rfl) (of_decide_eq_true (by kernel_rfl)) k1 bel lt1) trodAll_mk0)), rfl, bel.frame _, fun h => by cases h⟩

theorem over : Rows.fnWaysRow.holds Try.pinned (OpenSpec.ofChange Rows.fnWaysSpec) :=
  OpenClaim.holds_of_wide 3 Try.f3 rfl rfl rfl rfl rfl rfl rfl ⟨rfl, rfl, rfl, rfl, rfl⟩ rfl rfl rfl rfl rfl (by kernel_rfl) Try.func3 (by kernel_rfl)
    (of_decide_eq_true (by kernel_rfl)) (by unfold Func.isWrapper; first | (rw [if_pos (by decide +kernel)]; kernel_rfl) | (rw [if_neg (by decide +kernel)]; exact ⟨rfl, rfl⟩))
    (fun os started H enc _ => lifted os started H enc)

/-- ████ THE STATEMENT ████ -/
theorem proved : Rows.FnWaysSaid := over
#print axioms proved
end Go.Proofs.Ytbhhpfiolombcaa.fnWays

namespace Go.Proofs.Ytbhhpfiolombcaa
theorem fnWays_holds : Rows.FnWaysSaid := fnWays.proved
end Go.Proofs.Ytbhhpfiolombcaa
