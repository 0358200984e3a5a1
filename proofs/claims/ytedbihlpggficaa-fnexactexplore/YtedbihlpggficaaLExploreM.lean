/- Proved: for every input, in whatever memory, the law FnExactExplore returns true and leaves its arguments as they were; no condition. -/
import Derived.Test.YtedbihlpggficaaP13
import Derived.WalkKit
import Derived.ProofKit
import Derived.OpenShut
import Derived.ShutString
import Derived.ChangeOld
import Derived.Below
namespace Go.Proofs.Ytedbihlpggficaa.fnExactExplore
open Go.ChangeShapes Go.WideShapes Go.ChangeAt Go.RowKit
open Go.ChangeMaps (open_string shut_string)
set_option linter.unusedVariables false

theorem own : ownKnob Try.prog.godebug = none := by kernel_rfl
theorem laidOut : laidOutB Try.prog = true := by kernel_rfl

set_option maxRecDepth 10000 in
set_option maxHeartbeats 4000000 in
theorem walk (p : Int) (a : Option Addr) (n c : Nat) (L : List (List Int)) (am : Option Addr) (nm cm : Nat) (ys : List Int) (bu : Int) (w : World) (hn : n ≤ maxLen) (hr : Lists w a (3 * n) L) (hnm : nm ≤ maxLen) (hrm : Row w am nm ys) :
    Calls Try.prog 3 #[.agg #[.int .i64 p, .slice a n c], .slice am nm cm, .int .i64 bu] w fun e w' => e = .returned (.bool true) ∧ Below w.heap.size w w' := by
  by_cases hbig : 1048576 < nm
  · clear hr hrm
    have hb' : (1048576 : Int) < (nm : Int) := by omega
    go_enter Try.func3, Try.ntmps3
    go_wp2_with fail
    go_ret
    exact ⟨rfl, below_al _ _⟩
  have hm : nm ≤ 1048576 := by omega
  have hm' : ¬ (1048576 : Int) < (nm : Int) := by omega
  have HR := hide hr
  have HL := hide hr.1
  have HM := hide hrm
  have HLM := hide hrm.1
  clear hr hrm hbig
  go_enter Try.func3, Try.ntmps3
  go_wp2_with fail
  have HB0 := hide (below_al w (.cells #[.int .i64 p, .slice a n c] 24))
  have PAR := hide (heap_alloc_new w (.cells #[.int .i64 p, .slice a n c] 24))
  refine (szNet_any _ _ _ _ L _ (HR.out.below HB0.out) hn).mono ?_
  rintro e w1 ⟨rfl, hb⟩
  have HB1 := hide (HB0.out.trans (hb.mono HB0.out.size))
  have PAR1 := hide (keep PAR.out hb)
  clear HB0 PAR hb
  by_cases hg : leftOf 1048576 (sizeN n L) < 0
  · generalize leftOf 1048576 (sizeN n L) = l0 at *
    go_wp2_with fail
    go_ret
    exact ⟨rfl, HB1.out⟩
  have HS : Hid (sizeN n L ≤ 1048576) := by have := (leftOf_pos hg).1; show _ ≤ _; omega
  have hn20 : n ≤ 1048576 := by have := HS.out; unfold sizeN at this; omega
  have HCN : Hid (cntF (fun j => L.getD j []) (3 * n) ≤ 1048576) := by show _ ≤ _; rw [cntF_all HL.out]; have := HS.out; unfold sizeN at this; omega
  obtain ⟨hsz1, hsz2, hsz3⟩ := xp_size p n L ys bu
  obtain ⟨ms, hms⟩ : ∃ ms, Hid (xpMs p n L ys bu = ms) := ⟨_, rfl⟩
  obtain ⟨ar, har⟩ : ∃ ar, Hid (xpAr p n L ys bu = ar) := ⟨_, rfl⟩
  obtain ⟨cd, hcd⟩ : ∃ cd, Hid ((spCode p n L ys bu : Int) = cd) := ⟨_, rfl⟩
  obtain ⟨ak, hak⟩ : ∃ ak, Hid (askB p n L ys bu = ak) := ⟨_, rfl⟩
  rw [hms.out] at hsz1 hsz3
  rw [har.out] at hsz2
  have HSM : Hid (sizeN ms.length ms ≤ 1048576) := by have := sizeL_le16 hsz3; show _ ≤ _; unfold sizeN; omega
  have HCM : Hid (cntF (fun j => ms.getD j []) ms.length ≤ 1048576) := by
    have := cntF_le16 (M := fun j => ms.getD j []) ms.length (fun k hk => by
      show (ms.getD k []).length ≤ 16
      rw [List.getD_eq_getElem?_getD, List.getElem?_eq_getElem hk]; exact hsz3 _ (List.getElem_mem hk))
    show _ ≤ _; omega
  have hne : ∀ b : Bool, (b != b) = false := by simp
  have hni : (cd != cd) = false := by simp
  have hsy := sameB_self ys
  clear hsz3
  generalize leftOf 1048576 (sizeN n L) = l0 at *
  obtain ⟨hc0, hc1⟩ := cells2 PAR1.out
  have hlt := row_lt PAR1.out
  go_wp2_with fail
  refine (toNet_any _ _ _ _ L _ (HR.out.below HB1.out) HS.out).mono ?_
  rintro e w2 ⟨B2, rfl, hB2, hp2, hb⟩
  have HB2 := hide (HB1.out.trans (hb.mono HB1.out.size))
  have PAR2 := hide (keep PAR1.out hb)
  have HL2 := hide (hp2.lists HL.out HS.out)
  clear HB1 PAR1 hb hp2 hB2 hc0 hc1 hlt
  go_wp2_with fail
  refine (toInt_any _ _ _ ys _ (HM.out.below HB2.out) hm).mono ?_
  rintro e w3 ⟨rfl, rfl⟩
  have hA := below_al w2 (.cells (cellsOf ys) 3)
  have HB3 := hide (HB2.out.trans (hA.mono HB2.out.size))
  have PAR3 := hide (keep PAR2.out hA)
  have HL3 := hide (HL2.out.below hA)
  have HY3 := hide (row_new w2 ys nm w2.heap.size HLM.out rfl)
  generalize w2.alloc (.cells (cellsOf ys) 3) = w3 at *
  generalize w2.heap.size = n2 at *
  clear HB2 PAR2 HL2 hA w2
  go_wp2_with fail
  refine (exploreS_end _ _ _ _ _ _ _ L ys bu _ HL3.out HY3.out HS.out hm).mono ?_
  unfold XsEnd
  rw [hms.out, har.out, hcd.out, hak.out]
  rintro e u ⟨ma, mc, aa0, ac0, rfl, hml, ⟨BB, hao⟩, hb⟩
  obtain ⟨bs, hab0, _⟩ := AB.of_own hao
  have hA := below_al u (.cells #[.slice ma ms.length mc, .slice aa0 ar.length ac0] 30)
  have HBU := hide ((HB3.out.trans (hb.mono HB3.out.size)).trans (hA.mono (by have := HB3.out.size; have := hb.size; omega)))
  have PARU := hide (keep (keep PAR3.out hb) hA)
  have HSB := hide (heap_alloc_new u (.cells #[.slice ma ms.length mc, .slice aa0 ar.length ac0] 30))
  have HML := hide (hml.below hA)
  have HSA := hide (hab0.grow hA)
  have hul : u.heap.size < (u.alloc (.cells #[.slice ma ms.length mc, .slice aa0 ar.length ac0] 30)).heap.size := row_lt HSB.out
  clear HB3 PAR3 HL3 HY3 hb hml hao hab0 hA
  obtain ⟨hc0, hc1⟩ := cells2 PARU.out
  have hwlt := row_lt PARU.out
  go_wp2_with fail
  generalize u.alloc (.cells #[.slice ma ms.length mc, .slice aa0 ar.length ac0] 30) = u1 at *
  generalize u.heap.size = bw at *
  clear u
  refine (toNet_any _ _ _ _ L _ (HR.out.below HBU.out) HS.out).mono ?_
  rintro e w4 ⟨B, rfl, hB, hp4, hb⟩
  have hPF := hp4.bound
  have hz4 := hb.size
  have hBl : B < w4.heap.size := by obtain ⟨C, f, q1, _⟩ := hPF; exact (Array.getElem?_eq_some_iff.mp q1).1
  have hA := below_al w4 (.cells #[.int .i64 p, .slice (some ⟨B, 0, none⟩) n n] 35)
  have HB4 := hide ((HBU.out.trans (hb.mono HBU.out.size)).trans (hA.mono (by omega)))
  have HU4 := hide (hb.trans (hA.mono hb.size))
  have PAR4 := hide (keep (keep PARU.out hb) hA)
  have HX4 := hide (heap_alloc_new w4 (.cells #[.int .i64 p, .slice (some ⟨B, 0, none⟩) n n] 35))
  have HN4 := hide (hPF.grow hA)
  have hs4 : (w4.alloc (.cells #[.int .i64 p, .slice (some ⟨B, 0, none⟩) n n] 35)).heap.size = w4.heap.size + 1 := by simp
  clear hb hp4 hPF hc0 hc1 hA HBU PARU
  go_wp2_with fail
  generalize w4.alloc (.cells #[.int .i64 p, .slice (some ⟨B, 0, none⟩) n n] 35) = w5 at *
  generalize w4.heap.size = bx at *
  clear w4
  refine (toInt_any _ _ _ ys _ (HM.out.below HB4.out) hm).mono ?_
  rintro e w6 ⟨rfl, rfl⟩
  have hA := below_al w5 (.cells (cellsOf ys) 3)
  have HB6 := hide (HB4.out.trans (hA.mono HB4.out.size))
  have HU6 := hide (HU4.out.trans (hA.mono HU4.out.size))
  have PAR6 := hide (keep PAR4.out hA)
  have HX6 := hide (keep HX4.out hA)
  have HN6 := hide (HN4.out.grow hA)
  have HY6 := hide (blk_new' w5 ys nm HLM.out)
  have hs6 : (w5.alloc (.cells (cellsOf ys) 3)).heap.size = w5.heap.size + 1 := by simp
  rw [hs4] at hs6 HY6 ⊢
  generalize w5.alloc (.cells (cellsOf ys) 3) = w6 at *
  clear HB4 HU4 PAR4 HX4 HN4 hA hs4 w5
  obtain ⟨hd0, hd1⟩ := cells2 HX6.out
  have hlx := row_lt HX6.out
  go_wp2_with fail
  refine (exploreI_any _ _ _ _ _ _ _ L ys bu _ (HN6.out.lists HL.out HS.out) HY6.out.row HS.out hm).mono ?_
  unfold XiEnd
  rw [hms.out, har.out, hcd.out, hak.out]
  rintro e w7 ⟨gM, aa, ac, rfl, hgM, hPL, hown, hgm, hb⟩
  obtain ⟨ab, hab, habo⟩ := AB.of_own hown
  have hA := below_al w7 (.cells #[.slice (some ⟨gM, 0, none⟩) ms.length ms.length, .slice aa ar.length ac] 30)
  have hbA := hb.trans (hA.mono hb.size)
  have hgw : gM < w7.heap.size := by obtain ⟨C, f, q1, _⟩ := hPL; exact row_lt q1
  have HQ : Hid (SxAt w u1 B bx bx (bx + 1) gM w7.heap.size ab ar.length w7.heap.size) :=
    ⟨by omega, hB, hBl, Nat.le_refl _, by omega, by omega, Nat.le_refl _, hgw, fun e => hgm _ (habo e), fun e => by have := (own_lt hown (habo e)).1; omega⟩
  have ST := hide (Sx.mk (HB6.out.trans (hbA.mono HB6.out.size)) (HU6.out.trans (hbA.mono HU6.out.size)) (keep PAR6.out hbA) (keep HX6.out hbA) (HN6.out.grow hbA) (HY6.out.grow' hbA) (hPL.bound.grow hA) (hab.grow hA) (heap_alloc_new w7 (.cells #[.slice (some ⟨gM, 0, none⟩) ms.length ms.length, .slice aa ar.length ac] 30)))
  clear HB6 HU6 PAR6 HX6 HN6 HY6 hb hbA hA hd0 hd1 hlx hs6 w6 hPL hown hgm hab habo hgM hgw
  -- the answer against the specification's
  obtain ⟨hg0, hg1⟩ := cells2 ST.out.box
  obtain ⟨hs0, hs1⟩ := cells2 ((ST.out.mid.block _ hul).trans HSB.out)
  have HE := hide (eqSpace_any _ _ _ _ _ ms.length mc _ ac ac0 ab bs ms (arI ar) _ (ST.out.marks.lists1Q rfl HSM.out) (HML.out.below ST.out.mid) HSM.out ST.out.arcs (HSA.out.grow ST.out.mid) hsz2)
  go_wp2_with fail
  generalize w7.alloc (.cells #[.slice (some ⟨gM, 0, none⟩) ms.length ms.length, .slice aa ar.length ac] 30) = w8' at *
  generalize w7.heap.size = bg at *
  clear w7 hg0 hg1 hs0 hs1
  refine HE.out.mono ?_
  rintro e w8 ⟨rfl, hb⟩
  have ST2 := hide (ST.out.grow hb)
  clear ST hb HE w8'
  -- the net as it was
  obtain ⟨hc0, hc1⟩ := cells2 ST2.out.par
  obtain ⟨hd0, hd1⟩ := cells2 ST2.out.x0
  have hlt := row_lt ST2.out.par
  have hlx := row_lt ST2.out.x0
  go_wp2_with fail
  have HT := hide (toNet_any p a n c L (w8.drewN 1) ((HR.out.below ST2.out.old).below (below_drewN' _ _)) HS.out)
  go_region_with (first
    | (go_at_call 11
       refine HT.out.mono ?_
       rintro e w9 ⟨B9, rfl, hB9, hp9, hb⟩
       have ST := hide (ST2.out.grow ((below_drewN' w8 1).trans hb))
       have HM9 := hide (hp9.lists HL.out HS.out)
       have HL9 := hide (ST.out.net.lists HL.out HS.out)
       obtain ⟨he0, he1⟩ := cells2 ST.out.x0
       clear hb hp9 hB9)
    | (go_at_call 15
       refine (eqNet_any _ _ _ _ _ _ L _ HL9.out HM9.out HS.out).mono ?_
       rintro e w10 ⟨rfl, hb⟩
       have ST3 := hide (ST.out.grow hb)
       clear hb))
  all_goals
    clear HT ST ST2 HM9 HL9 hc0 hc1 hd0 hd1 hlt hlx he0 he1 w8
    -- the list as it was
    go_wp2_with fail
    refine (toInt_any _ _ _ ys _ (HM.out.below ST3.out.old) hm).mono ?_
    rintro e w11 ⟨rfl, rfl⟩
    have ST := hide (ST3.out.grow (below_al w10 (.cells (cellsOf ys) 3)))
    have HN := hide (row_new w10 ys nm w10.heap.size HLM.out rfl)
    generalize w10.alloc (.cells (cellsOf ys) 3) = w11 at *
    generalize w10.heap.size = n10 at *
    clear ST3 w10
    go_wp2_with fail
    refine (eq_any _ _ _ _ _ _ ys ys _ ST.out.x1.row HN.out hm).mono ?_
    rintro e w12 ⟨rfl, q, rfl⟩
    have ST2 := hide (ST.out.grow (below_drewN' _ q))
    generalize w11.drewN q = w12 at *
    clear ST HN w11 q
    -- the arguments are marked
    obtain ⟨hd0, hd1⟩ := cells2 ST2.out.x0
    go_wp2_with fail
    refine (markNet_any p B bx n n 1 99 _ _ ST2.out.net HCN.out hn20 (by omega)).mono ?_
    rintro e w13 ⟨rfl, hm1, hk1⟩
    have ST := hide (ST2.out.markN HQ.out hm1 hk1)
    have hcn := HCN.out
    obtain ⟨k1, hk1'⟩ : ∃ k1 : Nat, Hid (1 + cntF (fun j => L.getD j []) (3 * n) = k1) := ⟨_, rfl⟩
    have hk1b : k1 ≤ 2097152 := by have := hk1'.out; omega
    rw [hk1'.out]
    clear ST2 hm1 hk1 hd0 hd1 hcn w12
    go_wp2_with fail
    refine (mark_any _ (bx + 1) _ _ k1 ys _ ST.out.x1 hm (by omega)).mono ?_
    rintro e w14 ⟨rfl, hm1, ho1⟩
    have ST2 := hide (ST.out.markX HQ.out hm1 ho1)
    clear ST hm1 ho1 w13
    have hpos : (0 : Int) ≤ ((k1 + nm : Nat) : Int) := by omega
    obtain ⟨hg0, hg1⟩ := cells2 ST2.out.box
    obtain ⟨hs0, hs1⟩ := cells2 ((ST2.out.mid.block _ hul).trans HSB.out)
    have HE := hide (eqSpace_any _ _ _ _ _ ms.length mc _ ac ac0 ab bs ms (arI ar) _ (ST2.out.marks.lists1Q rfl HSM.out) (HML.out.below ST2.out.mid) HSM.out ST2.out.arcs (HSA.out.grow ST2.out.mid) hsz2)
    go_wp2_with fail
    refine HE.out.mono ?_
    rintro e w15 ⟨rfl, hb⟩
    have ST := hide (ST2.out.grow hb)
    clear ST2 hb HE hg0 hg1 hs0 hs1 w14
    -- the answer is marked
    obtain ⟨hg0, hg1⟩ := cells2 ST.out.box
    obtain ⟨m1, hm1'⟩ : ∃ k, Hid (1 + cntF (fun j => ms.getD j []) ms.length = k) := ⟨_, rfl⟩
    obtain ⟨m2, hm2'⟩ : ∃ k, Hid (m1 + 3 * ar.length = k) := ⟨_, rfl⟩
    go_wp2_with fail
    refine (markSpace_st ST.out HQ.out hsz2 hsz1 HCM.out m1 m2 hm1' hm2').mono ?_
    rintro e w16 ⟨rfl, hst⟩
    have ST2 := hide hst
    clear ST hst hg0 hg1 w15
    have hpos2 : (0 : Int) ≤ (m2 : Int) := by omega
    have hpos3 : ¬ (m2 : Int) < 0 := by omega
    have hnq : ((m2 : Int) != (m2 : Int)) = false := by simp
    obtain ⟨hg0, hg1⟩ := cells2 ST2.out.box
    go_wp2_with fail
    refine (heldSpace_st _ ST2.out.marks m1 m2 hm1' hm2' ST2.out.arcs hsz2 hsz1 HCM.out).mono ?_
    rintro e w17 ⟨rfl, hb⟩
    have ST := hide (ST2.out.grow hb)
    clear ST2 hb hg0 hg1 w16
    -- the second call
    obtain ⟨hc0, hc1⟩ := cells2 ST.out.par
    go_wp2_with fail
    refine (toNet_any _ _ _ _ L _ (HR.out.below ST.out.old) HS.out).mono ?_
    rintro e w18 ⟨B18, rfl, hB18, hp18, hb⟩
    have ST2 := hide (ST.out.grow hb)
    have HL18 := hide (hp18.lists HL.out HS.out)
    clear ST hb hp18 hB18 hc0 hc1 w17
    go_wp2_with fail
    refine (toInt_any _ _ _ ys _ (HM.out.below ST2.out.old) hm).mono ?_
    rintro e w19 ⟨rfl, rfl⟩
    have hA := below_al w18 (.cells (cellsOf ys) 3)
    have ST := hide (ST2.out.grow hA)
    have HL19 := hide (HL18.out.below hA)
    have HY19 := hide (row_new w18 ys nm w18.heap.size HLM.out rfl)
    generalize w18.alloc (.cells (cellsOf ys) 3) = w19 at *
    generalize w18.heap.size = n18 at *
    clear ST2 HL18 hA w18
    go_wp2_with fail
    refine (exploreI_any _ _ _ _ _ _ _ L ys bu _ HL19.out HY19.out HS.out hm).mono ?_
    unfold XiEnd
    rw [hms.out, har.out, hcd.out, hak.out]
    rintro e w20 ⟨hM, ha, hac, rfl, hhM, hPL, hown, hgm, hb⟩
    obtain ⟨hbk, hab, habo⟩ := AB.of_own hown
    have hA := below_al w20 (.cells #[.slice (some ⟨hM, 0, none⟩) ms.length ms.length, .slice ha ar.length hac] 30)
    have hbA := hb.trans (hA.mono hb.size)
    have ST2 := hide (ST.out.grow hbA)
    have HHM := hide (((hPL.bound).grow hA).lists1Q rfl HSM.out)
    have HHA := hide (hab.grow hA)
    obtain ⟨hh0, hh1⟩ := cells2 (heap_alloc_new w20 (.cells #[.slice (some ⟨hM, 0, none⟩) ms.length ms.length, .slice ha ar.length hac] 30))
    obtain ⟨hs0, hs1⟩ := cells2 ((ST2.out.mid.block _ hul).trans HSB.out)
    have HE := hide (eqSpace_any _ _ _ _ _ ms.length mc _ hac ac0 hbk bs ms (arI ar) _ HHM.out (HML.out.below ST2.out.mid) HSM.out HHA.out (HSA.out.grow ST2.out.mid) hsz2)
    clear ST HL19 HY19 hb hbA hA hPL hown hgm hab habo hhM w19
    go_wp2_with fail
    generalize w20.alloc (.cells #[.slice (some ⟨hM, 0, none⟩) ms.length ms.length, .slice ha ar.length hac] 30) = w21 at *
    clear hh0 hh1 hs0 hs1 HHM HHA
    refine HE.out.mono ?_
    rintro e w22 ⟨rfl, hb⟩
    have ST := hide (ST2.out.grow hb)
    clear ST2 hb HE
    obtain ⟨hg0, hg1⟩ := cells2 ST.out.box
    go_wp2_with fail
    refine (heldSpace_st _ ST.out.marks m1 m2 hm1' hm2' ST.out.arcs hsz2 hsz1 HCM.out).mono ?_
    rintro e w23 ⟨rfl, hb⟩
    have HE := hide (ST.out.grow hb).old
    clear ST hb hg0 hg1
    go_wp2_with fail
    go_ret
    exact ⟨rfl, HE.out⟩

/-! ### THE ROW's STEP -/
set_option maxRecDepth 100000 in
theorem lifted (os : Os) (started : os.Started) (H : Type) (enc : TypeId × Value → H) :
    ReturnsInHanded {} Try.checked os 3 .any (Rows.fnExactExploreSpec.pre6 enc Try.prog Try.f3 Rows.fnExactExploreRow.domain false) (Rows.fnExactExploreSpec.post enc Try.prog Try.f3 false true false false) := by
  refine returnsInHanded_of_change (C := Try.checked) own started (by kernel_rfl) Try.func3
    (ChangeSpec.witness6 (enc := enc) (C := Try.checked) false ⟨#[], #[.agg #[.int .i64 0, .slice none 0 0], .slice none 0 0, .int .i64 0], []⟩ 8 (by kernel_rfl) (by kernel_rfl) (by kernel_rfl) (by kernel_rfl)) ?_
  intro W base args ds gs before hval0 hW hcnd _
  have hval : ∀ (j : Nat) t v, Try.f3.params[j]? = some t → args[j]? = some v → Value.okWide Try.prog W .any base t v := hval0
  have hW' := hW
  obtain ⟨p, q, hA0, hV, rfl, hfz, hnd⟩ := hW
  have hA : DataW.TrodAll enc Try.prog W 0 (fun _ => true) true Try.f3.params.toList args.toList ds p := hA0
  rw [Try.params3] at hA hval
  obtain ⟨v0, vs0, d0, ds0, p0, q0, hargs, rfl, rfl, h0, r0⟩ := trodAll_cons hA
  obtain ⟨v1, vs1, d1, ds1, p1, q1, rfl, rfl, rfl, h1, r1⟩ := trodAll_cons r0
  obtain ⟨v2, vs2, d2, ds2, p2, q2, rfl, rfl, rfl, h2, r2⟩ := trodAll_cons r1
  obtain ⟨rfl, rfl, rfl⟩ := trodAll_nil r2
  obtain rfl : args = #[v0, v1, v2] := by cases args; simp_all
  obtain ⟨rfl, rfl⟩ := trodVars_none hV
  have k0 := h0
  have lt0 : ∀ x ∈ p0, x.block < W.heap.size := by obtain ⟨m, hm⟩ := k0; exact DataW.trod_lt m _ _ _ hm
  obtain ⟨g0, a0, n0, c0, L0, rfl, m0, w0⟩ := open_net (hval 0 24 v0 rfl rfl) h0
  have k1 := h1
  have lt1 : ∀ x ∈ p1, x.block < W.heap.size := by obtain ⟨m, hm⟩ := k1; exact DataW.trod_lt m _ _ _ hm
  obtain ⟨e1, f1, t1, rfl⟩ := okWide_slice Try.underlying25 (hval 1 25 v1 rfl rfl)
  obtain ⟨a1, n1, c1, L1, he1, m1, w1⟩ : ∃ a n c xs, Value.slice e1 f1 t1 = .slice a n c ∧ n ≤ maxLen ∧ Row W a n xs := by
    obtain ⟨fuel, hf⟩ := h1
    simp only [Value.cells] at hf
    exact row_of_ints hf
  simp only [Value.slice.injEq] at he1
  obtain ⟨rfl, rfl, rfl⟩ := he1
  obtain ⟨a2, rfl, rfl, rfl, w2⟩ := open_int Try.underlying3 (hval 2 3 v2 rfl rfl) h2
  clear hA0 hval0
  refine (walk g0 a0 n0 c0 L0 e1 f1 t1 L1 a2 W m0 w0 m1 w1).mono fun e W' ⟨he, bel⟩ => ?_
  subst he
  exact ⟨_, rfl, _, _, _, [], _, [], hW', trodAll_mk1 (shut_bool Try.underlying4 _), (trodAll_cons_mk (Below.trod laidOut (by kernel_rfl) (of_decide_eq_true (by kernel_rfl)) k0 bel lt0) (trodAll_cons_mk (Below.trod laidOut (by kernel_rfl) (of_decide_eq_true (by kernel_rfl)) k1 bel lt1) (trodAll_cons_mk (shut_int Try.underlying3 w2) trodAll_mk0))), rfl, bel.frame _, fun h => by cases h⟩

theorem over : Rows.fnExactExploreRow.holds Try.pinned (OpenSpec.ofChange Rows.fnExactExploreSpec) :=
  OpenClaim.holds_of_wide 3 Try.f3 rfl rfl rfl rfl rfl rfl rfl ⟨rfl, rfl, rfl, rfl, rfl⟩ rfl rfl rfl rfl rfl (by kernel_rfl) Try.func3 (by kernel_rfl)
    (of_decide_eq_true (by kernel_rfl)) (by unfold Func.isWrapper; first | (rw [if_pos (by decide +kernel)]; kernel_rfl) | (rw [if_neg (by decide +kernel)]; exact ⟨rfl, rfl⟩))
    (fun os started H enc _ => lifted os started H enc)

/-- ████ THE STATEMENT ████ -/
theorem proved : Rows.FnExactExploreSaid := over
#print axioms proved
end Go.Proofs.Ytedbihlpggficaa.fnExactExplore

namespace Go.Proofs.Ytedbihlpggficaa
theorem fnExactExplore_holds : Rows.FnExactExploreSaid := fnExactExplore.proved
end Go.Proofs.Ytedbihlpggficaa
