/- Proved: for every number and every two lists of integers, in whatever memory, the law FnExactTakeMarks returns true and leaves its arguments as they were; no condition. -/
import Derived.Test.YtfikjhkjgmfkoaaTake
import Derived.WalkKit
import Derived.ProofKit
import Derived.OpenShut
import Derived.ShutString
import Derived.ChangeOld
import Derived.Below
namespace Go.Proofs.Ytfikjhkjgmfkoaa.fnExactTakeMarks
open Go.ChangeShapes Go.WideShapes Go.ChangeAt Go.RowKit
open Go.ChangeMaps (open_string shut_string)
set_option linter.unusedVariables false

theorem own : ownKnob Try.prog.godebug = none := by kernel_rfl
theorem laidOut : laidOutB Try.prog = true := by kernel_rfl

/-- WHAT THE WALK IS TOLD OF A SLICE OF INTEGERS THAT CAME IN: it is nil; or it leads to a row of 'cap' cells, the numbers 'zs' (the first 'len' are its elements, the rest its spare room), each fitting its kind. -/
def IsRow (k : IntKind) (w : World) (a : Option Addr) (len cap : Nat) (zs : List Int) : Prop :=
  (a = none ∧ len = 0 ∧ cap = 0 ∧ zs = []) ∨
  ∃ x, a = some x ∧ len ≤ cap ∧ cap ≤ maxLen ∧ zs.length = cap ∧ (∀ i, i < zs.length → w.cell? (x.add i) = some (.int k (zs.getD i 0))) ∧ ∀ n ∈ zs, (Lit.int k n).wf = true

theorem rowOf {w : World} {a : Option Addr} {len cap : Nat} {zs : List Int} (h : IsRow .i64 w a len cap zs) : Row w a len (zs.take len) := by
  rcases h with ⟨rfl, rfl, rfl, rfl⟩ | ⟨x, rfl, hl, hm, hz, hcell, hwz⟩
  · exact ⟨rfl, .inl rfl⟩
  · refine ⟨by rw [List.length_take]; omega, ?_⟩
    by_cases h0 : len = 0
    · exact .inl h0
    · obtain ⟨b, off, spot⟩ := x
      have hc := hcell 0 (by omega)
      have hspot : spot = none := by simpa [Addr.add] using World.cell?_spot hc
      subst hspot
      refine .inr ⟨b, off, rfl, ?_, fun i hi => ?_⟩
      · have := block_lt_of_cell hc; simpa [Addr.add] using this
      · have := hcell i (by omega)
        rw [List.getD_eq_getElem?_getD, List.getElem?_take_of_lt hi, ← List.getD_eq_getElem?_getD]
        have ea : (⟨b, off, none⟩ : Addr).add i = ⟨b, off + i, none⟩ := by unfold Addr.add; split <;> simp_all
        rw [ea] at this
        exact this

set_option maxHeartbeats 2000000 in
theorem walk (a0 : Int) (a1 : Option Addr) (len1 cap1 : Nat) (z1 : List Int) (a2 : Option Addr) (len2 cap2 : Nat) (z2 : List Int) (w : World) (w0 : (Lit.int .i64 a0).wf = true) (w1 : IsRow .i64 w a1 len1 cap1 z1) (w2 : IsRow .i64 w a2 len2 cap2 z2) :
    Calls Try.prog 5 #[.int .i64 a0, .slice a1 len1 cap1, .slice a2 len2 cap2] w fun e w' => e = .returned (.bool true) ∧ Below w.heap.size w w' := by
  have hr := rowOf w1
  have hr2 := rowOf w2
  generalize z1.take len1 = xs at hr
  generalize z2.take len2 = ys at hr2
  clear w1 w0 w2
  by_cases hbig : 1048576 < len1
  · go_enter Try.func5, Try.ntmps5
    go_wp2
    go_ret
    exact ⟨rfl, Below.refl _ _⟩
  by_cases hbig2 : 1048576 < len2
  · go_enter Try.func5, Try.ntmps5
    go_wp2
    go_ret
    exact ⟨rfl, Below.refl _ _⟩
  have hn : len1 ≤ 1048576 := by omega
  have hm : len2 ≤ 1048576 := by omega
  have HL := hide hr.1
  have HL2 := hide hr2.1
  have HR := hide hr
  have HR2 := hide hr2
  obtain ⟨g, hg⟩ : ∃ g, Hid (takeOk a0 xs ys = g) := ⟨_, rfl⟩
  obtain ⟨r, hq⟩ : ∃ r, Hid (takeR a0 xs ys = r) := ⟨_, rfl⟩
  have hrl : r.length ≤ 1048576 := by have h1 := takeR_len a0 xs ys; have h2 := HL.out; rw [hq.out] at h1; omega
  have hg2 : (g != g) = false := by simp
  have hsx := sameB_self xs
  have hsy := sameB_self ys
  have hsr := sameB_self r
  clear hr hr2
  go_enter Try.func5, Try.ntmps5
  go_wp2_with fail
  refine (toInt_any _ _ _ xs _ HR.out hn).mono ?_
  rintro e v1 ⟨rfl, rfl⟩
  go_wp2_with fail
  refine (toInt_any _ _ _ ys _ (HR2.out.alloc _) hm).mono ?_
  rintro e v1 ⟨rfl, rfl⟩
  go_wp2_with fail
  have HX := hide ((row_new w xs len1 w.heap.size HL.out rfl).alloc (.cells (cellsOf ys) 3))
  have HY := hide (row_new (w.alloc (.cells (cellsOf xs) 3)) ys len2 (w.heap.size + 1) HL2.out (by simp))
  have HB := hide (below_two w (.cells (cellsOf xs) 3) (.cells (cellsOf ys) 3))
  refine (takeS_any _ _ _ _ _ _ _ xs ys _ HX.out HY.out hn hm).mono ?_
  rw [hg.out, hq.out]
  rintro e u ⟨aw, nw, cw, rfl, hrw, hb1⟩
  have HB1 := hide (HB.out.trans (hb1.mono HB.out.size))
  have HRW := hide hrw
  have hnw : nw ≤ 1048576 := by have := hrw.1; omega
  clear HB HX HY hb1 hrw
  have HA := hide (HR.out.below HB1.out)
  have HA2 := hide (HR2.out.below HB1.out)
  have hwu := HB1.out.size
  go_wp2_with fail
  refine (toInt_any _ _ _ xs _ HA.out hn).mono ?_
  rintro e v2 ⟨rfl, rfl⟩
  go_wp2_with fail
  refine (toInt_any _ _ _ ys _ (HA2.out.alloc _) hm).mono ?_
  rintro e v2 ⟨rfl, rfl⟩
  go_wp2_with fail
  have HX := hide ((blk_new u xs len1 HL.out).grow (below_alloc' _ (.cells (cellsOf ys) 3)))
  have HY := hide (blk_new (u.alloc (.cells (cellsOf xs) 3)) ys len2 HL2.out)
  have hsz1 : (u.alloc (.cells (cellsOf xs) 3)).heap.size = u.heap.size + 1 := by simp
  rw [hsz1] at HY
  have HU := hide (below_two u (.cells (cellsOf xs) 3) (.cells (cellsOf ys) 3))
  have hsz2 : ((u.alloc (.cells (cellsOf xs) 3)).alloc (.cells (cellsOf ys) 3)).heap.size = u.heap.size + 2 := by simp
  refine (takeI_any _ _ _ _ _ _ _ xs ys _ HX.out.row HY.out.row hn hm).mono ?_
  rw [hg.out, hq.out]
  rintro e v2 ⟨ag, bg, ng, rfl, hblk, hbg, hb2⟩
  rw [hsz2] at hbg
  have hng : ng ≤ 1048576 := by have := hblk.1; omega
  have ST := hide (St.mk (HB1.out.trans (((HU.out).mono hwu).trans (hb2.mono (by omega)))) (HU.out.trans (hb2.mono (by omega))) (HX.out.grow hb2) (HY.out.grow hb2) hblk)
  clear HX HY HU hb2 hblk hsz1 hsz2 HA HA2
  generalize hbx : u.heap.size = bx at *
  have hbxu : u.heap.size ≤ bx := by omega
  -- the answer against the specification's
  go_wp2_with fail
  refine (eq_any _ _ _ _ _ _ r r _ ST.out.g.row (HRW.out.below ST.out.mid) hng).mono ?_
  rintro e v3 ⟨rfl, q, rfl⟩
  have ST2 := hide (ST.out.grow (below_drewN' _ q))
  generalize v2.drewN q = v3 at *
  clear ST v2 q
  go_wp2_with fail
  -- the arguments as they were
  refine (toInt_any _ _ _ xs _ (HR.out.below ST2.out.old) hn).mono ?_
  rintro e v4 ⟨rfl, rfl⟩
  have ST := hide (ST2.out.grow (below_alloc' _ (.cells (cellsOf xs) 3)))
  have HN := hide (row_new v3 xs len1 v3.heap.size HL.out rfl)
  generalize v3.alloc (.cells (cellsOf xs) 3) = v4 at *
  generalize v3.heap.size = n3 at *
  clear ST2 v3
  go_wp2_with fail
  refine (eq_any _ _ _ _ _ _ xs xs _ ST.out.x.row HN.out hn).mono ?_
  rintro e v5 ⟨rfl, q, rfl⟩
  have ST2 := hide (ST.out.grow (below_drewN' _ q))
  generalize v4.drewN q = v5 at *
  clear ST HN v4 q
  go_wp2_with fail
  refine (toInt_any _ _ _ ys _ (HR2.out.below ST2.out.old) hm).mono ?_
  rintro e v6 ⟨rfl, rfl⟩
  have ST := hide (ST2.out.grow (below_alloc' _ (.cells (cellsOf ys) 3)))
  have HN := hide (row_new v5 ys len2 v5.heap.size HL2.out rfl)
  generalize v5.alloc (.cells (cellsOf ys) 3) = v6 at *
  generalize v5.heap.size = n5 at *
  clear ST2 v5
  go_wp2_with fail
  refine (eq_any _ _ _ _ _ _ ys ys _ ST.out.y.row HN.out hm).mono ?_
  rintro e v7 ⟨rfl, q, rfl⟩
  have ST2 := hide (ST.out.grow (below_drewN' _ q))
  generalize v6.drewN q = v7 at *
  clear ST HN v6 q
  -- the arguments are marked
  go_wp2_with fail
  refine (mark_any _ bx _ _ 1 xs _ ST2.out.x hn (by omega)).mono ?_
  rintro e v8 ⟨rfl, hm1, ho1⟩
  have ST := hide (ST2.out.markX hm1 ho1 (by omega) (by omega) (by omega) (by omega))
  clear ST2 hm1 ho1 v7
  go_wp2_with fail
  refine (mark_any _ (bx + 1) _ _ (1 + len1) ys _ ST.out.y hm (by omega)).mono ?_
  rintro e v9 ⟨rfl, hm1, ho1⟩
  have ST2 := hide (ST.out.markY hm1 ho1 (by omega) (by omega) (by omega) (by omega))
  clear ST hm1 ho1 v8
  have hpos : (0 : Int) ≤ ((1 + len1 + len2 : Nat) : Int) := by omega
  go_wp2_with fail
  refine (eq_any _ _ _ _ _ _ r r _ ST2.out.g.row (HRW.out.below ST2.out.mid) hng).mono ?_
  rintro e v10 ⟨rfl, q, rfl⟩
  have ST := hide (ST2.out.grow (below_drewN' _ q))
  generalize v9.drewN q = v10 at *
  clear ST2 v9 q
  -- the answer is marked
  go_wp2_with fail
  refine (mark_any _ bg _ _ 1 r _ ST.out.g hng (by omega)).mono ?_
  rintro e v11 ⟨rfl, hm1, ho1⟩
  have ST2 := hide (ST.out.markG hm1 ho1 (by omega) (by omega) (by omega) (by omega))
  clear ST hm1 ho1 v10
  go_wp2_with fail
  refine (held_any _ _ _ 1 _ ST2.out.g.row hng (by omega)).mono ?_
  rintro e v12 ⟨rfl, rfl⟩
  have hpos2 : (0 : Int) ≤ ((1 + ng : Nat) : Int) := by omega
  have hne : (((1 + ng : Nat) : Int) != ((1 + ng : Nat) : Int)) = false := by simp
  go_wp2_with fail
  -- the second call
  refine (toInt_any _ _ _ xs _ (HR.out.below ST2.out.old) hn).mono ?_
  rintro e v13 ⟨rfl, rfl⟩
  have ST := hide (ST2.out.grow (below_alloc' _ (.cells (cellsOf xs) 3)))
  have HX := hide (row_new v12 xs len1 v12.heap.size HL.out rfl)
  generalize v12.alloc (.cells (cellsOf xs) 3) = v13 at *
  generalize v12.heap.size = n12 at *
  clear ST2 v12
  go_wp2_with fail
  refine (toInt_any _ _ _ ys _ (HR2.out.below ST.out.old) hm).mono ?_
  rintro e v14 ⟨rfl, rfl⟩
  have ST2 := hide (ST.out.grow (below_alloc' _ (.cells (cellsOf ys) 3)))
  have HX2 := hide (HX.out.alloc (.cells (cellsOf ys) 3))
  have HY2 := hide (row_new v13 ys len2 v13.heap.size HL2.out rfl)
  generalize v13.alloc (.cells (cellsOf ys) 3) = v14 at *
  generalize v13.heap.size = n13 at *
  clear ST HX v13
  go_wp2_with fail
  refine (takeI_any _ _ _ _ _ _ _ xs ys _ HX2.out HY2.out hn hm).mono ?_
  rw [hg.out, hq.out]
  rintro e v15 ⟨ah, bh, nh, rfl, hblk, hbh, hb2⟩
  have hnh : nh ≤ 1048576 := by have := hblk.1; omega
  have ST := hide (ST2.out.grow hb2)
  have HH := hide hblk.row
  clear ST2 HX2 HY2 hb2 hblk hbh v14
  go_wp2_with fail
  refine (eq_any _ _ _ _ _ _ r r _ HH.out (HRW.out.below ST.out.mid) hnh).mono ?_
  rintro e v16 ⟨rfl, q, rfl⟩
  have ST2 := hide (ST.out.grow (below_drewN' _ q))
  generalize v15.drewN q = v16 at *
  clear ST HH v15 q
  go_wp2_with fail
  refine (held_any _ _ _ 1 _ ST2.out.g.row hng (by omega)).mono ?_
  rintro e v17 ⟨rfl, rfl⟩
  go_wp2
  go_ret
  exact ⟨rfl, ST2.out.old⟩

/-! ### THE ROW's STEP: WRITTEN OUT: LEAVE IT -/
set_option maxRecDepth 100000 in
theorem lifted (os : Os) (started : os.Started) (H : Type) (enc : TypeId × Value → H) :
    ReturnsInHanded {} Try.checked os 5 .any (Rows.fnExactTakeMarksSpec.pre6 enc Try.prog Try.f5 Rows.fnExactTakeMarksRow.domain false) (Rows.fnExactTakeMarksSpec.post enc Try.prog Try.f5 false true false false) := by
  refine returnsInHanded_of_change (C := Try.checked) own started (by kernel_rfl) Try.func5
    (ChangeSpec.witness6 (enc := enc) (C := Try.checked) false ⟨#[], #[.int .i64 0, .slice none 0 0, .slice none 0 0], []⟩ 8 (by kernel_rfl) (by kernel_rfl) (by kernel_rfl) (by kernel_rfl)) ?_
  intro W base args ds gs before hval0 hW hcnd _
  have hval : ∀ (j : Nat) t v, Try.f5.params[j]? = some t → args[j]? = some v → Value.okWide Try.prog W .any base t v := hval0
  have hW' := hW
  obtain ⟨p, q, hA0, hV, rfl, hfz, hnd⟩ := hW
  have hA : DataW.TrodAll enc Try.prog W 0 (fun _ => true) true Try.f5.params.toList args.toList ds p := hA0
  rw [Try.params5] at hA hval
  obtain ⟨v0, vs0, d0, ds0, p0, q0, hargs, rfl, rfl, h0, r0⟩ := trodAll_cons hA
  obtain ⟨v1, vs1, d1, ds1, p1, q1, rfl, rfl, rfl, h1, r1⟩ := trodAll_cons r0
  obtain ⟨v2, vs2, d2, ds2, p2, q2, rfl, rfl, rfl, h2, r2⟩ := trodAll_cons r1
  obtain ⟨rfl, rfl, rfl⟩ := trodAll_nil r2
  obtain rfl : args = #[v0, v1, v2] := by cases args; simp_all
  obtain ⟨rfl, rfl⟩ := trodVars_none hV
  obtain ⟨a0, rfl, rfl, rfl, w0⟩ := open_int Try.underlying3 (hval 0 3 v0 rfl rfl) h0
  obtain ⟨a1, len1, cap1, rfl⟩ := okWide_slice Try.underlying22 (hval 1 22 v1 rfl rfl)
  have k1 := h1
  have lt1 : ∀ x ∈ p1, x.block < W.heap.size := by obtain ⟨m, hm⟩ := k1; exact DataW.trod_lt m _ _ _ hm
  obtain ⟨z1, w1⟩ : ∃ zs, IsRow .i64 W a1 len1 cap1 zs := by
    obtain ⟨fuel, hf⟩ := h1
    rcases open_ints Try.underlying22 Try.underlying3 (by kernel_rfl) hf with ⟨hcs, _⟩ | ⟨x, l, c, zs, hcs, _, hl, hm, hz, _, hcell, hwz⟩
    · simp [Value.cells] at hcs
      obtain ⟨rfl, rfl, rfl⟩ := hcs
      exact ⟨[], .inl ⟨rfl, rfl, rfl, rfl⟩⟩
    · simp [Value.cells] at hcs
      obtain ⟨rfl, rfl, rfl⟩ := hcs
      exact ⟨zs, .inr ⟨_, rfl, hl, hm, by simpa using hz, hcell, hwz⟩⟩
  obtain ⟨a2, len2, cap2, rfl⟩ := okWide_slice Try.underlying22 (hval 2 22 v2 rfl rfl)
  have k2 := h2
  have lt2 : ∀ x ∈ p2, x.block < W.heap.size := by obtain ⟨m, hm⟩ := k2; exact DataW.trod_lt m _ _ _ hm
  obtain ⟨z2, w2⟩ : ∃ zs, IsRow .i64 W a2 len2 cap2 zs := by
    obtain ⟨fuel, hf⟩ := h2
    rcases open_ints Try.underlying22 Try.underlying3 (by kernel_rfl) hf with ⟨hcs, _⟩ | ⟨x, l, c, zs, hcs, _, hl, hm, hz, _, hcell, hwz⟩
    · simp [Value.cells] at hcs
      obtain ⟨rfl, rfl, rfl⟩ := hcs
      exact ⟨[], .inl ⟨rfl, rfl, rfl, rfl⟩⟩
    · simp [Value.cells] at hcs
      obtain ⟨rfl, rfl, rfl⟩ := hcs
      exact ⟨zs, .inr ⟨_, rfl, hl, hm, by simpa using hz, hcell, hwz⟩⟩
  clear hA0 hval0
  refine (walk a0 a1 len1 cap1 z1 a2 len2 cap2 z2 W w0 w1 w2).mono fun e W' ⟨he, bel⟩ => ?_
  subst he
  exact ⟨_, rfl, _, _, _, [], _, [], hW', trodAll_mk1 (shut_bool Try.underlying4 _), (trodAll_cons_mk (shut_int Try.underlying3 w0) (trodAll_cons_mk (Below.trod laidOut (by kernel_rfl) (of_decide_eq_true (by kernel_rfl)) k1 bel lt1) (trodAll_cons_mk (Below.trod laidOut (by kernel_rfl) (of_decide_eq_true (by kernel_rfl)) k2 bel lt2) trodAll_mk0))), rfl, bel.frame _, fun h => by cases h⟩

theorem over : Rows.fnExactTakeMarksRow.holds Try.pinned (OpenSpec.ofChange Rows.fnExactTakeMarksSpec) :=
  OpenClaim.holds_of_wide 5 Try.f5 rfl rfl rfl rfl rfl rfl rfl ⟨rfl, rfl, rfl, rfl, rfl⟩ rfl rfl rfl rfl rfl (by kernel_rfl) Try.func5 (by kernel_rfl)
    (of_decide_eq_true (by kernel_rfl)) (by unfold Func.isWrapper; first | (rw [if_pos (by decide +kernel)]; kernel_rfl) | (rw [if_neg (by decide +kernel)]; exact ⟨rfl, rfl⟩))
    (fun os started H enc _ => lifted os started H enc)

/-- ████ THE STATEMENT ████ -/
theorem proved : Rows.FnExactTakeMarksSaid := over
#print axioms proved
end Go.Proofs.Ytfikjhkjgmfkoaa.fnExactTakeMarks

namespace Go.Proofs.Ytfikjhkjgmfkoaa
theorem fnExactTakeMarks_holds : Rows.FnExactTakeMarksSaid := fnExactTakeMarks.proved
end Go.Proofs.Ytfikjhkjgmfkoaa
