/- Proved: for every two lists of bytes, in whatever memory, the law FnMarks returns true and leaves its arguments as they were; no condition. -/
import Derived.Test.YtbgdieliepcbpaaSm
import Derived.WalkKit
import Derived.ProofKit
import Derived.OpenShut
import Derived.ShutString
import Derived.ChangeOld
import Derived.Below
namespace Go.Proofs.Ytbgdieliepcbpaa.fnMarks
open Go.ChangeShapes Go.WideShapes Go.ChangeAt Go.RowKit
open Go.ChangeMaps (open_string shut_string)
set_option linter.unusedVariables false

theorem own : ownKnob Try.prog.godebug = none := by kernel_rfl
theorem laidOut : laidOutB Try.prog = true := by kernel_rfl

/-- WHAT THE WALK IS TOLD OF A SLICE OF INTEGERS THAT CAME IN: it is nil; or it leads to a row of 'cap' cells, the numbers 'zs' (the first 'len' are its elements, the rest its spare room), each fitting its kind. -/
def IsRow (k : IntKind) (w : World) (a : Option Addr) (len cap : Nat) (zs : List Int) : Prop :=
  (a = none ∧ len = 0 ∧ cap = 0 ∧ zs = []) ∨
  ∃ x, a = some x ∧ len ≤ cap ∧ cap ≤ maxLen ∧ zs.length = cap ∧ (∀ i, i < zs.length → w.cell? (x.add i) = some (.int k (zs.getD i 0))) ∧ ∀ n ∈ zs, (Lit.int k n).wf = true

theorem rowOf {w : World} {a : Option Addr} {len cap : Nat} {zs : List Int} (h : IsRow .u8 w a len cap zs) : RowB w a len (zs.take len) ∧ len ≤ maxLen := by
  rcases h with ⟨rfl, rfl, rfl, rfl⟩ | ⟨x, rfl, hl, hm, hz, hcell, hwz⟩
  · exact ⟨⟨rfl, fun i => by simp, .inl rfl⟩, by unfold maxLen; omega⟩
  · refine ⟨⟨by rw [List.length_take]; omega, fun i => ?_, ?_⟩, by omega⟩
    · rw [List.getD_eq_getElem?_getD]
      by_cases hi : i < (zs.take len).length
      · rw [List.getElem?_eq_getElem hi]
        have := hwz _ (List.mem_of_mem_take (List.getElem_mem hi))
        have := bounds_u8 this
        simpa using this
      · rw [List.getElem?_eq_none (by omega)]; simp
    · by_cases h0 : len = 0
      · exact .inl h0
      · obtain ⟨b, off, spot⟩ := x
        have hc := hcell 0 (by omega)
        have hspot : spot = none := by simpa [Addr.add] using World.cell?_spot hc
        subst hspot
        refine .inr ⟨b, off, rfl, ?_, fun i hi => ?_⟩
        · have := block_lt_of_cell hc; simpa [Addr.add] using this
        · have := hcell i (by omega)
          rw [List.getD_eq_getElem?_getD, List.getElem?_take_of_lt hi, ← List.getD_eq_getElem?_getD]
          have ea : (⟨b, off, none⟩ : Addr).add i = ⟨b, off + i, none⟩ := by unfold Addr.add; split <;> simp_all
          rw [ea] at this
          exact this

set_option maxRecDepth 100000 in
set_option maxHeartbeats 4000000 in
theorem walk (a0 : Option Addr) (len0 cap0 : Nat) (z0 : List Int) (a1 : Option Addr) (len1 cap1 : Nat) (z1 : List Int) (w : World) (w0 : IsRow .u8 w a0 len0 cap0 z0) (w1 : IsRow .u8 w a1 len1 cap1 z1) :
    Calls Try.prog 3 #[.slice a0 len0 cap0, .slice a1 len1 cap1] w fun e w' => e = .returned (.bool true) ∧ Below w.heap.size w w' := by
  have hr := rowOf w0
  have hr2 := rowOf w1
  generalize z0.take len0 = bs at hr
  generalize z1.take len1 = cs at hr2
  obtain ⟨hr, hl0⟩ := hr
  obtain ⟨hr2, hl1⟩ := hr2
  have HR := hide hr
  have HR2 := hide hr2
  unfold maxLen at hl0 hl1
  clear w0 w1 hr hr2
  have hbb : ∀ b : Bool, (b != b) = false := by simp
  go_enter Try.func3, Try.ntmps3
  go_wp2_with fail
  refine (big_any _ _ _ _ _ _ _ hl0 hl1).mono ?_
  rintro e v0 ⟨r, rfl, hbig, rfl⟩
  cases r
  rotate_left
  · go_wp2
    go_ret
    exact ⟨rfl, Below.refl _ _⟩
  have hn0 := (hbig.out rfl).1
  have hn1 := (hbig.out rfl).2
  clear hbig
  go_wp2_with fail
  refine (draw2_any _ _ _ bs _ HR.out hn0).mono ?_
  rintro e v1 ⟨p, a, n, c, xs, b, m, d, ys, rfl, hn, hm, hra, hrb, hb⟩
  have HB := hide hb
  have RS := hide (Rs.cons hra (Rs.cons hrb (Rs.nil v1)))
  clear hra hrb hb HR
  obtain ⟨ga, hga⟩ : ∃ g, Hid (addOk p xs ys = g) := ⟨_, rfl⟩
  obtain ⟨la, hla⟩ : ∃ l, Hid (addR p xs ys = l) := ⟨_, rfl⟩
  obtain ⟨gt, hgt⟩ : ∃ g, Hid (covB p xs ys = g) := ⟨_, rfl⟩
  obtain ⟨lt, hlt⟩ : ∃ l, Hid (takeR p xs ys = l) := ⟨_, rfl⟩
  obtain ⟨gg, hgg⟩ : ∃ g, Hid ((goodB p xs && goodB p ys) = g) := ⟨_, rfl⟩
  obtain ⟨g1, hg1⟩ : ∃ g, Hid (goodB p xs = g) := ⟨_, rfl⟩
  have htk : Hid (takeOk p xs ys = gt) := hgt.out
  have hxl : Hid (xs.length = n) := (RS.out.at a n xs (by simp)).1
  have hlal : la.length ≤ 18 := by have h1 := addR_len p xs ys; rw [hla.out, hxl.out] at h1; omega
  have hltl : lt.length ≤ 18 := by have h1 := takeR_len p xs ys; rw [hlt.out, hxl.out] at h1; omega
  have hsa := sameB_self la
  have hst := sameB_self lt
  have hsx := sameB_self xs
  -- the sums
  go_wp2_with fail
  refine (addI_any _ _ _ _ _ _ _ xs ys _ (RS.out.at a n xs (by simp)) (RS.out.at b m ys (by simp)) (by omega) (by omega)).mono ?_
  rw [hga.out, hla.out]
  rintro e v2 ⟨aS, bS, ns, rfl, hblk, _, hb⟩
  have HB2 := hide (HB.out.trans (hb.mono HB.out.size))
  have RS2 := hide (Rs.cons hblk.row (RS.out.below hb))
  have hns : ns ≤ 18 := by have := hblk.1; omega
  clear HB RS hblk hb
  go_wp2_with fail
  refine (addS_any _ _ _ _ _ _ _ xs ys _ (RS2.out.at a n xs (by simp)) (RS2.out.at b m ys (by simp)) (by omega) (by omega)).mono ?_
  rw [hga.out, hla.out]
  rintro e v3 ⟨aw, nw, cw, rfl, hrow, hb⟩
  have HB := hide (HB2.out.trans (hb.mono HB2.out.size))
  have RS := hide (Rs.cons hrow (RS2.out.below hb))
  have hnw : nw ≤ 18 := by have := hrow.1; omega
  clear HB2 RS2 hrow hb
  -- the covers
  go_wp2_with fail
  refine (coversI_any _ _ _ _ _ _ _ xs ys _ (RS.out.at a n xs (by simp)) (RS.out.at b m ys (by simp)) (by omega) (by omega)).mono ?_
  rintro e v4 ⟨rfl, hb⟩
  rw [hgt.out, hgg.out]
  have HB2 := hide (HB.out.trans (hb.mono HB.out.size))
  have RS2 := hide (RS.out.below hb)
  clear HB RS hb
  go_wp2_with fail
  refine (coversS_any _ _ _ _ _ _ _ xs ys _ (RS2.out.at a n xs (by simp)) (RS2.out.at b m ys (by simp)) (by omega) (by omega)).mono ?_
  rintro e v5 ⟨rfl, hb⟩
  rw [hgt.out, hgg.out]
  have HB := hide (HB2.out.trans (hb.mono HB2.out.size))
  have RS := hide (RS2.out.below hb)
  clear HB2 RS2 hb
  -- what is left
  go_wp2_with fail
  refine (takeI_any _ _ _ _ _ _ _ xs ys _ (RS.out.at a n xs (by simp)) (RS.out.at b m ys (by simp)) (by omega) (by omega)).mono ?_
  rw [htk.out, hlt.out]
  rintro e v6 ⟨aT, bt, nt, rfl, hblk, _, hb⟩
  have HB2 := hide (HB.out.trans (hb.mono HB.out.size))
  have RS2 := hide (Rs.cons hblk.row (RS.out.below hb))
  have hnt : nt ≤ 18 := by have := hblk.1; omega
  clear HB RS hblk hb
  go_wp2_with fail
  refine (takeS_any _ _ _ _ _ _ _ xs ys _ (RS2.out.at a n xs (by simp)) (RS2.out.at b m ys (by simp)) (by omega) (by omega)).mono ?_
  rw [htk.out, hlt.out]
  rintro e v7 ⟨ak, nk, ck, rfl, hrow, hb⟩
  have HB := hide (HB2.out.trans (hb.mono HB2.out.size))
  have RS := hide (Rs.cons hrow (RS2.out.below hb))
  have hnk : nk ≤ 18 := by have := hrow.1; omega
  clear HB2 RS2 hrow hb
  -- the great test
  have hna : (ga != ga) = false := hbb ga
  have hnt2 : (gt != gt) = false := hbb gt
  have hng : (gg != gg) = false := hbb gg
  have hn1' : (g1 != g1) = false := hbb g1
  clear hbb
  go_wp2_with fail
  refine (same_any _ _ _ _ _ _ la la _ (RS.out.at aS ns la (by simp)) (RS.out.at aw nw la (by simp)) (by omega)).mono ?_
  rintro e v8 ⟨rfl, q, rfl⟩
  have HB2 := hide (HB.out.trans ((below_drewN' _ q).mono HB.out.size))
  have RS2 := hide (RS.out.below (below_drewN' _ q))
  generalize v7.drewN q = v8 at *
  clear HB RS v7 q
  go_wp2_with fail
  refine (same_any _ _ _ _ _ _ lt lt _ (RS2.out.at aT nt lt (by simp)) (RS2.out.at ak nk lt (by simp)) (by omega)).mono ?_
  rintro e v9 ⟨rfl, q, rfl⟩
  have HB := hide (HB2.out.trans ((below_drewN' _ q).mono HB2.out.size))
  have RS := hide (RS2.out.below (below_drewN' _ q))
  generalize v8.drewN q = v9 at *
  clear HB2 RS2 v8 q
  go_wp2_with fail
  refine (goodI_any _ _ _ _ xs _ (RS.out.at a n xs (by simp)) (by omega)).mono ?_
  rintro e v10 ⟨rfl, hb⟩
  rw [hg1.out]
  have HB2 := hide (HB.out.trans (hb.mono HB.out.size))
  have RS2 := hide (RS.out.below hb)
  clear HB RS hb
  go_wp2_with fail
  refine (goodS_any _ _ _ _ xs _ (RS2.out.at a n xs (by simp)) (by omega)).mono ?_
  rintro e v11 ⟨rfl, rfl⟩
  rw [hg1.out]
  cases gg
  · obtain rfl : gt = false := by rw [← hgt.out]; exact cov_no hgg.out
    obtain rfl : ga = false := by rw [← hga.out]; exact not_both hgg.out
    clear hna hnt2 hng RS2
    go_wp2_with fail
    refine (drawTotal_any _ _ _ cs _ (HR2.out.below HB2.out) hn1).mono ?_
    rintro e u1 ⟨q, a', n', c', zs, rfl, hn', hrow, hb⟩
    have HBa := hide (HB2.out.trans (hb.mono HB2.out.size))
    have HZ := hide hrow
    obtain ⟨tt, htt⟩ : ∃ t, Hid (totB q zs = t) := ⟨_, rfl⟩
    obtain ⟨gz, hgz⟩ : ∃ g, Hid (goodB q zs = g) := ⟨_, rfl⟩
    have hq1 : (gz == gz) = true := by simp
    have hq2 : (tt == tt) = true := by simp
    clear hb hrow HB2
    go_wp2_with fail
    refine (totalI_any _ _ _ _ zs _ HZ.out (by omega)).mono ?_
    rintro e u2 ⟨rfl, hb⟩
    rw [htt.out, hgz.out]
    have HBb := hide (HBa.out.trans (hb.mono HBa.out.size))
    have HZ2 := hide (HZ.out.below hb)
    clear hb HBa HZ
    go_wp2_with fail
    refine (totalS_any _ _ _ _ zs _ HZ2.out (by omega)).mono ?_
    rintro e u3 ⟨rfl, hb⟩
    rw [htt.out, hgz.out]
    have HBc := hide (HBb.out.trans (hb.mono HBb.out.size))
    clear hb HBb HZ2
    go_wp2
    go_ret
    exact ⟨rfl, HBc.out⟩
  · cases ga
    · clear hna hng RS2
      go_wp2_with fail
      refine (drawTotal_any _ _ _ cs _ (HR2.out.below HB2.out) hn1).mono ?_
      rintro e u1 ⟨q, a', n', c', zs, rfl, hn', hrow, hb⟩
      have HBa := hide (HB2.out.trans (hb.mono HB2.out.size))
      have HZ := hide hrow
      obtain ⟨tt, htt⟩ : ∃ t, Hid (totB q zs = t) := ⟨_, rfl⟩
      obtain ⟨gz, hgz⟩ : ∃ g, Hid (goodB q zs = g) := ⟨_, rfl⟩
      have hq1 : (gz == gz) = true := by simp
      have hq2 : (tt == tt) = true := by simp
      clear hb hrow HB2
      go_wp2_with fail
      refine (totalI_any _ _ _ _ zs _ HZ.out (by omega)).mono ?_
      rintro e u2 ⟨rfl, hb⟩
      rw [htt.out, hgz.out]
      have HBb := hide (HBa.out.trans (hb.mono HBa.out.size))
      have HZ2 := hide (HZ.out.below hb)
      clear hb HBa HZ
      go_wp2_with fail
      refine (totalS_any _ _ _ _ zs _ HZ2.out (by omega)).mono ?_
      rintro e u3 ⟨rfl, hb⟩
      rw [htt.out, hgz.out]
      have HBc := hide (HBb.out.trans (hb.mono HBb.out.size))
      clear hb HBb HZ2
      go_wp2
      go_ret
      exact ⟨rfl, HBc.out⟩
    · have F := add_facts hga.out
      have hla2 : la = sumL xs ys := by rw [← hla.out]; unfold addR; rw [hga.out]; rfl
      subst hla2
      have ft := hide F.tot
      obtain ⟨tx, htx⟩ : ∃ t, Hid (totB p xs = t) := ⟨_, rfl⟩
      obtain ⟨ty, hty⟩ : ∃ t, Hid (totB p ys = t) := ⟨_, rfl⟩
      have bx := F.bx
      have bY := F.bY
      rw [htx.out] at bx
      rw [hty.out] at bY
      rw [htx.out, hty.out] at ft
      have hneq : (tx + ty != tx + ty) = false := by simp
      have FF := hide F
      clear F hna hng
      go_wp2_with fail
      refine (takeI_any _ _ _ _ _ _ _ (sumL xs ys) ys _ (RS2.out.at aS ns (sumL xs ys) (by simp)) (RS2.out.at b m ys (by simp)) (by omega) (by omega)).mono ?_
      rw [FF.out.to, FF.out.tr]
      rintro e v12 ⟨ab, bb, nb, rfl, hblk, _, hb⟩
      have HB := hide (HB2.out.trans (hb.mono HB2.out.size))
      have RS := hide (Rs.cons hblk.row (RS2.out.below hb))
      have hnb : nb ≤ 18 := by have := hblk.1; have := hxl.out; omega
      clear HB2 RS2 hblk hb
      go_wp2_with fail
      refine (coversI_any _ _ _ _ _ _ _ (sumL xs ys) xs _ (RS.out.at aS ns (sumL xs ys) (by simp)) (RS.out.at a n xs (by simp)) (by omega) (by omega)).mono ?_
      rintro e v13 ⟨rfl, hb⟩
      rw [FF.out.cv, FF.out.gs, FF.out.gx]
      have HB2 := hide (HB.out.trans (hb.mono HB.out.size))
      have RS2 := hide (RS.out.below hb)
      clear HB RS hb
      go_wp2_with fail
      refine (totalI_any _ _ _ _ (sumL xs ys) _ (RS2.out.at aS ns (sumL xs ys) (by simp)) (by omega)).mono ?_
      rintro e v14 ⟨rfl, hb⟩
      rw [ft.out, FF.out.gs]
      have HB := hide (HB2.out.trans (hb.mono HB2.out.size))
      have RS := hide (RS2.out.below hb)
      clear HB2 RS2 hb
      go_wp2_with fail
      refine (totalI_any _ _ _ _ xs _ (RS.out.at a n xs (by simp)) (by omega)).mono ?_
      rintro e v15 ⟨rfl, hb⟩
      rw [htx.out, FF.out.gx]
      have HB2 := hide (HB.out.trans (hb.mono HB.out.size))
      have RS2 := hide (RS.out.below hb)
      clear HB RS hb
      go_wp2_with fail
      refine (totalI_any _ _ _ _ ys _ (RS2.out.at b m ys (by simp)) (by omega)).mono ?_
      rintro e v16 ⟨rfl, hb⟩
      rw [hty.out, FF.out.gy]
      have HB := hide (HB2.out.trans (hb.mono HB2.out.size))
      have RS := hide (RS2.out.below hb)
      clear HB2 RS2 hb
      go_wp2_with fail
      refine (same_any _ _ _ _ _ _ xs xs _ (RS.out.at ab nb xs (by simp)) (RS.out.at a n xs (by simp)) (by omega)).mono ?_
      rintro e v17 ⟨rfl, q, rfl⟩
      have HB2 := hide (HB.out.trans ((below_drewN' _ q).mono HB.out.size))
      generalize v16.drewN q = v17 at *
      clear HB RS v16 q
      go_wp2_with fail
      refine (drawTotal_any _ _ _ cs _ (HR2.out.below HB2.out) hn1).mono ?_
      rintro e u1 ⟨q, a', n', c', zs, rfl, hn', hrow, hb⟩
      have HBa := hide (HB2.out.trans (hb.mono HB2.out.size))
      have HZ := hide hrow
      obtain ⟨tt, htt⟩ : ∃ t, Hid (totB q zs = t) := ⟨_, rfl⟩
      obtain ⟨gz, hgz⟩ : ∃ g, Hid (goodB q zs = g) := ⟨_, rfl⟩
      have hq1 : (gz == gz) = true := by simp
      have hq2 : (tt == tt) = true := by simp
      clear hb hrow HB2
      go_wp2_with fail
      refine (totalI_any _ _ _ _ zs _ HZ.out (by omega)).mono ?_
      rintro e u2 ⟨rfl, hb⟩
      rw [htt.out, hgz.out]
      have HBb := hide (HBa.out.trans (hb.mono HBa.out.size))
      have HZ2 := hide (HZ.out.below hb)
      clear hb HBa HZ
      go_wp2_with fail
      refine (totalS_any _ _ _ _ zs _ HZ2.out (by omega)).mono ?_
      rintro e u3 ⟨rfl, hb⟩
      rw [htt.out, hgz.out]
      have HBc := hide (HBb.out.trans (hb.mono HBb.out.size))
      clear hb HBb HZ2
      go_wp2
      go_ret
      exact ⟨rfl, HBc.out⟩

/-! ### THE ROW's STEP: WRITTEN OUT: LEAVE IT -/
set_option maxRecDepth 100000 in
theorem lifted (os : Os) (started : os.Started) (H : Type) (enc : TypeId × Value → H) :
    ReturnsInHanded {} Try.checked os 3 .any (Rows.fnMarksSpec.pre6 enc Try.prog Try.f3 Rows.fnMarksRow.domain false) (Rows.fnMarksSpec.post enc Try.prog Try.f3 false true false false) := by
  refine returnsInHanded_of_change (C := Try.checked) own started (by kernel_rfl) Try.func3
    (ChangeSpec.witness6 (enc := enc) (C := Try.checked) false ⟨#[], #[.slice none 0 0, .slice none 0 0], []⟩ 8 (by kernel_rfl) (by kernel_rfl) (by kernel_rfl) (by kernel_rfl)) ?_
  intro W base args ds gs before hval0 hW hcnd _
  have hval : ∀ (j : Nat) t v, Try.f3.params[j]? = some t → args[j]? = some v → Value.okWide Try.prog W .any base t v := hval0
  have hW' := hW
  obtain ⟨p, q, hA0, hV, rfl, hfz, hnd⟩ := hW
  have hA : DataW.TrodAll enc Try.prog W 0 (fun _ => true) true Try.f3.params.toList args.toList ds p := hA0
  rw [Try.params3] at hA hval
  obtain ⟨v0, vs0, d0, ds0, p0, q0, hargs, rfl, rfl, h0, r0⟩ := trodAll_cons hA
  obtain ⟨v1, vs1, d1, ds1, p1, q1, rfl, rfl, rfl, h1, r1⟩ := trodAll_cons r0
  obtain ⟨rfl, rfl, rfl⟩ := trodAll_nil r1
  obtain rfl : args = #[v0, v1] := by cases args; simp_all
  obtain ⟨rfl, rfl⟩ := trodVars_none hV
  obtain ⟨a0, len0, cap0, rfl⟩ := okWide_slice Try.underlying22 (hval 0 22 v0 rfl rfl)
  have k0 := h0
  have lt0 : ∀ x ∈ p0, x.block < W.heap.size := by obtain ⟨m, hm⟩ := k0; exact DataW.trod_lt m _ _ _ hm
  obtain ⟨z0, w0⟩ : ∃ zs, IsRow .u8 W a0 len0 cap0 zs := by
    obtain ⟨fuel, hf⟩ := h0
    rcases open_ints Try.underlying22 Try.underlying5 (by kernel_rfl) hf with ⟨hcs, _⟩ | ⟨x, l, c, zs, hcs, _, hl, hm, hz, _, hcell, hwz⟩
    · simp [Value.cells] at hcs
      obtain ⟨rfl, rfl, rfl⟩ := hcs
      exact ⟨[], .inl ⟨rfl, rfl, rfl, rfl⟩⟩
    · simp [Value.cells] at hcs
      obtain ⟨rfl, rfl, rfl⟩ := hcs
      exact ⟨zs, .inr ⟨_, rfl, hl, hm, by simpa using hz, hcell, hwz⟩⟩
  obtain ⟨a1, len1, cap1, rfl⟩ := okWide_slice Try.underlying22 (hval 1 22 v1 rfl rfl)
  have k1 := h1
  have lt1 : ∀ x ∈ p1, x.block < W.heap.size := by obtain ⟨m, hm⟩ := k1; exact DataW.trod_lt m _ _ _ hm
  obtain ⟨z1, w1⟩ : ∃ zs, IsRow .u8 W a1 len1 cap1 zs := by
    obtain ⟨fuel, hf⟩ := h1
    rcases open_ints Try.underlying22 Try.underlying5 (by kernel_rfl) hf with ⟨hcs, _⟩ | ⟨x, l, c, zs, hcs, _, hl, hm, hz, _, hcell, hwz⟩
    · simp [Value.cells] at hcs
      obtain ⟨rfl, rfl, rfl⟩ := hcs
      exact ⟨[], .inl ⟨rfl, rfl, rfl, rfl⟩⟩
    · simp [Value.cells] at hcs
      obtain ⟨rfl, rfl, rfl⟩ := hcs
      exact ⟨zs, .inr ⟨_, rfl, hl, hm, by simpa using hz, hcell, hwz⟩⟩
  clear hA0 hval0
  refine (walk a0 len0 cap0 z0 a1 len1 cap1 z1 W w0 w1).mono fun e W' ⟨he, bel⟩ => ?_
  subst he
  exact ⟨_, rfl, _, _, _, [], _, [], hW', trodAll_mk1 (shut_bool Try.underlying4 _), (trodAll_cons_mk (Below.trod laidOut (by kernel_rfl) (of_decide_eq_true (by kernel_rfl)) k0 bel lt0) (trodAll_cons_mk (Below.trod laidOut (by kernel_rfl) (of_decide_eq_true (by kernel_rfl)) k1 bel lt1) trodAll_mk0)), rfl, bel.frame _, fun h => by cases h⟩

theorem over : Rows.fnMarksRow.holds Try.pinned (OpenSpec.ofChange Rows.fnMarksSpec) :=
  OpenClaim.holds_of_wide 3 Try.f3 rfl rfl rfl rfl rfl rfl rfl ⟨rfl, rfl, rfl, rfl, rfl⟩ rfl rfl rfl rfl rfl (by kernel_rfl) Try.func3 (by kernel_rfl)
    (of_decide_eq_true (by kernel_rfl)) (by unfold Func.isWrapper; first | (rw [if_pos (by decide +kernel)]; kernel_rfl) | (rw [if_neg (by decide +kernel)]; exact ⟨rfl, rfl⟩))
    (fun os started H enc _ => lifted os started H enc)

/-- ████ THE STATEMENT ████ -/
theorem proved : Rows.FnMarksSaid := over
#print axioms proved
end Go.Proofs.Ytbgdieliepcbpaa.fnMarks

namespace Go.Proofs.Ytbgdieliepcbpaa
theorem fnMarks_holds : Rows.FnMarksSaid := fnMarks.proved
end Go.Proofs.Ytbgdieliepcbpaa
