/- Proved: for every two lists of bytes, in whatever memory, the law FnLive returns true and leaves its arguments as they were; no condition. -/
import Derived.Test.YtegabkegbhglfaaP24
import Derived.WalkKit
import Derived.ProofKit
import Derived.OpenShut
import Derived.ShutString
import Derived.ChangeOld
import Derived.Below
namespace Go.Proofs.Ytegabkegbhglfaa.fnLive
open Go.ChangeShapes Go.WideShapes Go.ChangeAt Go.RowKit
open Go.ChangeMaps (open_string shut_string)
set_option linter.unusedVariables false

theorem own : ownKnob Try.prog.godebug = none := by kernel_rfl
theorem laidOut : laidOutB Try.prog = true := by kernel_rfl

/-- WHAT THE WALK IS TOLD OF A SLICE OF INTEGERS THAT CAME IN: it is nil; or it leads to a row of 'cap' cells, the numbers 'zs' (the first 'len' are its elements, the rest its spare room), each fitting its kind. -/
def IsRow (k : IntKind) (w : World) (a : Option Addr) (len cap : Nat) (zs : List Int) : Prop :=
  (a = none ∧ len = 0 ∧ cap = 0 ∧ zs = []) ∨
  ∃ x, a = some x ∧ len ≤ cap ∧ cap ≤ maxLen ∧ zs.length = cap ∧ (∀ i, i < zs.length → w.cell? (x.add i) = some (.int k (zs.getD i 0))) ∧ ∀ n ∈ zs, (Lit.int k n).wf = true

theorem rowOf {w : World} {a : Option Addr} {len cap : Nat} {zs : List Int} (h : IsRow .u8 w a len cap zs) : RowB w a len (zs.take len) ∧ len ≤ maxLen := by
  rcases h with ⟨rfl, rfl, rfl, rfl⟩ | ⟨x, rfl, hl, hm, hz, hcell, hwz⟩
  · exact ⟨⟨rfl, fun i => by simp, .inl rfl⟩, by unfold maxLen; omega⟩
  · refine ⟨⟨by rw [List.length_take]; omega, fun i => ?_, ?_⟩, by omega⟩
    · rw [List.getD_eq_getElem?_getD]
      by_cases hi : i < (zs.take len).length
      · rw [List.getElem?_eq_getElem hi]
        have := hwz _ (List.mem_of_mem_take (List.getElem_mem hi))
        have := bounds_u8 this
        simpa using this
      · rw [List.getElem?_eq_none (by omega)]; simp
    · by_cases h0 : len = 0
      · exact .inl h0
      · obtain ⟨b, off, spot⟩ := x
        have hc := hcell 0 (by omega)
        have hspot : spot = none := by simpa [Addr.add] using World.cell?_spot hc
        subst hspot
        refine .inr ⟨b, off, rfl, ?_, fun i hi => ?_⟩
        · have := block_lt_of_cell hc; simpa [Addr.add] using this
        · have := hcell i (by omega)
          rw [List.getD_eq_getElem?_getD, List.getElem?_take_of_lt hi, ← List.getD_eq_getElem?_getD]
          have ea : (⟨b, off, none⟩ : Addr).add i = ⟨b, off + i, none⟩ := by unfold Addr.add; split <;> simp_all
          rw [ea] at this
          exact this

theorem fdR_len (p : Int) (n : Nat) (L : List (List Int)) (ys : List Int) (bg : Int) : (fdR p n L ys bg).length ≤ 16 := by
  unfold fdR
  split
  · rename_i h
    unfold fdOk at h
    rw [Bool.and_eq_true] at h
    have hc : spCode p n L ys bg = 1 := by simpa using h.1
    have ha : askB p n L ys bg = true := by
      cases hx : askB p n L ys bg
      · unfold spCode at hc; rw [hx] at hc; simp at hc
      · rfl
    unfold askB at ha
    rw [Bool.and_eq_true, Bool.and_eq_true] at ha
    have hb : 1 ≤ bg ∧ bg ≤ 400 := by simpa [inB] using ha.2
    cases hf : (spSea p n L ys bg).ms.find? (deadM n L) with
    | none => simp
    | some m =>
      have hm := List.mem_of_find?_eq_some hf
      cases hs : searchS p n L bg.toNat ys with
      | error c => unfold spSea at hm; rw [hs] at hm; simp [endS] at hm
      | ok s =>
        have e : spSea p n L ys bg = s := by unfold spSea; rw [hs]; rfl
        rw [e] at hm
        have hok := (seaS_ok (SeaOk.start (n := n) (show 1 ≤ bg.toNat by omega) ha.1.2) hs).1
        obtain ⟨h1, h2, _⟩ := goodB_parts (hok.good m hm)
        simp only [Option.getD_some]
        omega
  · simp

theorem dtR_len (p : Int) (n : Nat) (L : List (List Int)) (ys : List Int) (bg : Int) : (dtR p n L ys bg).length ≤ n := by
  unfold dtR; split
  · unfold deadL numsL
    rw [List.length_map]
    exact Nat.le_trans (List.length_filter_le _ _) (by simp)
  · exact Nat.zero_le _

set_option maxRecDepth 100000 in
set_option maxHeartbeats 8000000 in
theorem walk (a0 : Option Addr) (len0 cap0 : Nat) (z0 : List Int) (a1 : Option Addr) (len1 cap1 : Nat) (z1 : List Int) (w : World) (w0 : IsRow .u8 w a0 len0 cap0 z0) (w1 : IsRow .u8 w a1 len1 cap1 z1) :
    Calls Try.prog 5 #[.slice a0 len0 cap0, .slice a1 len1 cap1] w fun e w' => e = .returned (.bool true) ∧ Below w.heap.size w w' := by
  have hr := rowOf w0
  have hr2 := rowOf w1
  generalize z0.take len0 = bs at hr
  generalize z1.take len1 = cs at hr2
  obtain ⟨hr, hl0⟩ := hr
  obtain ⟨hr2, hl1⟩ := hr2
  have HR := hide hr
  have HR2 := hide hr2
  unfold maxLen at hl0 hl1
  clear w0 w1 hr hr2
  have hbb : ∀ b : Bool, (b != b) = false := by simp
  go_enter Try.func5, Try.ntmps5
  go_wp2_with fail
  refine (big_any _ _ _ _ _ _ _ hl0 hl1).mono ?_
  rintro e v0 ⟨r, rfl, hbig, rfl⟩
  cases r
  rotate_left
  · go_wp2_with fail
    go_ret
    exact ⟨rfl, Below.refl _ _⟩
  have hn0 := (hbig.out rfl).1
  have hn1 := (hbig.out rfl).2
  clear hbig
  go_wp2_with fail
  refine (drawLv_any _ _ _ bs _ HR.out hn0).mono ?_
  rintro e v1 ⟨pl, a, k, c, L, b, n, d, xs, bg, rfl, hpl, hk, hsz, hn, hstab, hb, hbg⟩
  obtain ⟨m, rfl⟩ : ∃ m : Nat, pl = (m : Int) := ⟨pl.toNat, by omega⟩
  obtain ⟨hlists, hrow⟩ := hstab v1 (Nat.le_refl _) (fun _ _ _ => rfl)
  have hA := below_al v1 (.cells #[.int .i64 (m : Int), .slice a k c] 39)
  have S1 : Hid (Mst v0 (v1.alloc (.cells #[.int .i64 (m : Int), .slice a k c] 39)) v1.heap.size (m : Int) a k c L [(b, n, xs)] a1 len1 cs) :=
    ⟨hb.trans (hA.mono hb.size), heap_alloc_new _ _, hlists.below hA, Rs.cons (hrow.below hA) (Rs.nil _), (HR2.out.below hb).below hA⟩
  have HXL := hide hrow.1
  clear hlists hrow hb hA HR HR2 hstab
  have hsz2 : sizeN k L ≤ 1048576 := by omega
  have hn2 : n ≤ 1048576 := by omega
  obtain ⟨g, hgg⟩ : ∃ g, Hid (dtOk (m : Int) k L xs bg = g) := ⟨_, rfl⟩
  obtain ⟨il, hil⟩ : ∃ g, Hid (ilR (m : Int) k L xs bg = g) := ⟨_, rfl⟩
  obtain ⟨f, hff⟩ : ∃ g, Hid (fdOk (m : Int) k L xs bg = g) := ⟨_, rfl⟩
  obtain ⟨fr, hfr⟩ : ∃ r, Hid (fdR (m : Int) k L xs bg = r) := ⟨_, rfl⟩
  obtain ⟨dr, hdr⟩ : ∃ r, Hid (dtR (m : Int) k L xs bg = r) := ⟨_, rfl⟩
  have hfrl : fr.length ≤ 16 := by have h1 := fdR_len (m : Int) k L xs bg; rw [hfr.out] at h1; omega
  have hdrl : dr.length ≤ 61 := by have h1 := dtR_len (m : Int) k L xs bg; rw [hdr.out] at h1; omega
  have hsf := sameB_self fr
  have hsd := sameB_self dr
  go_wp2_with fail
  generalize v1.alloc (.cells #[.int .i64 (m : Int), .slice a k c] 39) = W1 at S1 ⊢
  generalize v1.heap.size = V at S1 ⊢
  refine (liveI_any _ _ _ _ _ _ _ L xs bg _ S1.out.net (S1.out.rows.at b n xs (by simp)) hsz2 hn2).mono ?_
  unfold IlEnd
  rw [hgg.out, hil.out]
  rintro e v2 ⟨rfl, hb⟩
  have S2 := hide (S1.out.grow hb)
  have hc0 := S2.out.c0
  have hc1 := S2.out.c1
  clear hb S1
  go_wp2_with fail
  refine (liveS_any _ _ _ _ _ _ _ L xs bg _ S2.out.net (S2.out.rows.at b n xs (by simp)) hsz2 hn2).mono ?_
  unfold IlEnd
  rw [hgg.out, hil.out]
  rintro e v3 ⟨rfl, hb⟩
  have S3 := hide (S2.out.grow hb)
  clear hc0 hc1 hb S2
  have hc0 := S3.out.c0
  have hc1 := S3.out.c1
  go_wp2_with fail
  refine (firstI_any _ _ _ _ _ _ _ L xs bg _ S3.out.net (S3.out.rows.at b n xs (by simp)) hsz2 hn2).mono ?_
  rw [hff.out, hfr.out]
  rintro e v4 ⟨af, bf, nf, cf, rfl, hob, _, hb⟩
  have hnf : nf ≤ 16 := by have := hob.row.1; omega
  have S4 := hide ((S3.out.grow hb).add hob.row)
  clear hc0 hc1 hb hob S3
  have hc0 := S4.out.c0
  have hc1 := S4.out.c1
  go_wp2_with fail
  refine (firstS_any _ _ _ _ _ _ _ L xs bg _ S4.out.net (S4.out.rows.at b n xs (by simp)) hsz2 hn2).mono ?_
  rw [hff.out, hfr.out]
  rintro e v5 ⟨ag, ng, cg, rfl, hrw, hb⟩
  have hng : ng ≤ 16 := by have := hrw.1; omega
  have S5 := hide ((S4.out.grow hb).add hrw)
  clear hc0 hc1 hb hrw S4
  have hc0 := S5.out.c0
  have hc1 := S5.out.c1
  go_wp2_with fail
  refine (deadI_any _ _ _ _ _ _ _ L xs bg _ S5.out.net (S5.out.rows.at b n xs (by simp)) hsz2 hn2).mono ?_
  rw [hgg.out, hdr.out]
  rintro e v6 ⟨ad, bd, nd, cd, rfl, hob, _, hb⟩
  have hnd : Hid (nd = dr.length) := hob.row.1.symm
  have hnd2 : nd ≤ 61 := by have := hob.row.1; omega
  have S6 := hide ((S5.out.grow hb).add hob.row)
  clear hc0 hc1 hb hob S5
  have hc0 := S6.out.c0
  have hc1 := S6.out.c1
  go_wp2_with fail
  refine (deadS_any _ _ _ _ _ _ _ L xs bg _ S6.out.net (S6.out.rows.at b n xs (by simp)) hsz2 hn2).mono ?_
  rw [hgg.out, hdr.out]
  rintro e v7 ⟨ae, ne, ce, rfl, hrw, hb⟩
  have hne : ne ≤ 61 := by have := hrw.1; omega
  have S7 := hide ((S6.out.grow hb).add hrw)
  clear hc0 hc1 hb hrw S6
  go_wp2_with fail
  refine (sameI_any _ _ _ _ _ _ fr fr _ (S7.out.rows.at af nf fr (by simp)) (S7.out.rows.at ag ng fr (by simp)) (by omega)).mono ?_
  rw [hsf]
  rintro e v8 ⟨rfl, q, rfl⟩
  have S8 := hide (S7.out.grow (below_drewN' v7 q))
  clear S7
  generalize v7.drewN q = W8 at S8 ⊢
  go_wp2_with fail
  refine (sameI_any _ _ _ _ _ _ dr dr _ (S8.out.rows.at ad nd dr (by simp)) (S8.out.rows.at ae ne dr (by simp)) (by omega)).mono ?_
  rw [hsd]
  rintro e v9 ⟨rfl, q2, rfl⟩
  have S9 := hide (S8.out.grow (below_drewN' W8 q2))
  clear S8
  generalize W8.drewN q2 = W9 at S9 ⊢
  have hc0 := S9.out.c0
  have hc1 := S9.out.c1
  have hk0 : k = 0 ∨ 1 ≤ k := by omega
  have hfact : il = true → 1 ≤ k → f = false ∧ nd = 0 := fun h1 h2 => by
    rw [h1] at hil
    have e1 := live_fd hil.out h2
    have e2 := live_dt hil.out
    rw [hff.out] at e1
    rw [hdr.out] at e2
    exact ⟨e1, by rw [hnd.out, e2]; rfl⟩
  clear hnd
  cases g
  case' false =>
    clear hfact
    go_wp2_with fail
  case' true =>
    cases il
    case' false =>
      clear hfact
      go_wp2_with fail
    case' true =>
      by_cases hk1 : 1 ≤ k
      case' neg =>
        have hkz : k = 0 := by omega
        subst hkz
        clear hfact
        go_wp2_with fail
      case' pos =>
        obtain ⟨rfl, rfl⟩ := hfact rfl hk1
        have hkp : (0 : Int) < (k : Int) := by omega
        go_wp2_with fail
  all_goals
    refine (drawBo_any _ _ _ cs _ S9.out.more hn1).mono ?_
    rintro e v10 ⟨pl2, a2, k2, c2, L2, b2, n2, d2, xs2, bg2, q3, rfl, hpl2, hk2, hsz3, hn3, hstab, hb, hbg2, hq3⟩
    obtain ⟨m2, rfl⟩ : ∃ m : Nat, pl2 = (m : Int) := ⟨pl2.toNat, by omega⟩
    obtain ⟨hlists, hrow⟩ := hstab v10 (Nat.le_refl _) (fun _ _ _ => rfl)
    have hA := below_al v10 (.cells #[.int .i64 (m2 : Int), .slice a2 k2 c2] 39)
    have T1 : Hid (Mst v0 (v10.alloc (.cells #[.int .i64 (m2 : Int), .slice a2 k2 c2] 39)) v10.heap.size (m2 : Int) a2 k2 c2 L2 [(b2, n2, xs2)] a1 len1 cs) :=
      ⟨S9.out.old.trans ((hb.trans (hA.mono hb.size)).mono S9.out.old.size), heap_alloc_new _ _, hlists.below hA, Rs.cons (hrow.below hA) (Rs.nil _), (S9.out.more.below hb).below hA⟩
    have HXL2 := hide hrow.1
    clear hlists hrow hb hA hstab hc0 hc1 S9
    have hsz4 : sizeN k2 L2 ≤ 1048576 := by omega
    have hn4 : n2 ≤ 1048576 := by omega
    obtain ⟨g3, hg3⟩ : ∃ g, Hid (bdOk (m2 : Int) k2 L2 xs2 bg2 q3 = g) := ⟨_, rfl⟩
    obtain ⟨z3, hz3⟩ : ∃ g, Hid (bdR (m2 : Int) k2 L2 xs2 bg2 q3 = g) := ⟨_, rfl⟩
    go_wp2_with fail
    generalize v10.alloc (.cells #[.int .i64 (m2 : Int), .slice a2 k2 c2] 39) = W10 at T1 ⊢
    generalize v10.heap.size = V2 at T1 ⊢
    refine (boundI_any _ _ _ _ _ _ _ L2 xs2 bg2 q3 _ T1.out.net (T1.out.rows.at b2 n2 xs2 (by simp)) hsz4 hn4).mono ?_
    unfold BdEnd
    rw [hg3.out, hz3.out]
    rintro e v11 ⟨rfl, hb⟩
    have T2 := hide (T1.out.grow hb)
    clear hb T1
    have hc0 := T2.out.c0
    have hc1 := T2.out.c1
    go_wp2_with fail
    refine (boundS_any _ _ _ _ _ _ _ L2 xs2 bg2 q3 _ T2.out.net (T2.out.rows.at b2 n2 xs2 (by simp)) hsz4 hn4).mono ?_
    unfold BdEnd
    rw [hg3.out, hz3.out]
    rintro e v12 ⟨rfl, hb⟩
    have T3 := hide (T2.out.grow hb)
    clear hb T2 hc0 hc1
    have hz33 : (z3 == z3) = true := by simp
    cases g3
    · go_wp2_with fail
      go_ret
      exact ⟨rfl, T3.out.old⟩
    obtain ⟨hb1, hb2, hb3⟩ := bound_first hg3.out
    rw [hz3.out] at hb1
    obtain ⟨qn, rfl⟩ : ∃ n : Nat, q3 = (n : Int) := ⟨q3.toNat, by omega⟩
    rw [Int.toNat_natCast] at hb1
    have hqn : qn < n2 := by have := HXL2.out; omega
    have hqi : (qn : Int) < (n2 : Int) := by omega
    obtain ⟨bb, oo, rfl, hcell⟩ : ∃ bb oo, b2 = some ⟨bb, oo, none⟩ ∧ v12.cell? ⟨bb, oo + qn, none⟩ = some (.int .i64 (xs2.getD qn 0)) := by
      rcases (T3.out.rows.at b2 n2 xs2 (by simp)).2 with h0 | ⟨bb, oo, e, _, hcc⟩
      · omega
      · exact ⟨bb, oo, e, hcc qn (by have := HXL2.out; omega)⟩
    obtain ⟨xv, hxv⟩ : ∃ v, Hid (xs2.getD qn 0 = v) := ⟨_, rfl⟩
    rw [hxv.out] at hb1 hcell
    go_wp2_with fail
    go_ret
    refine ⟨?_, T3.out.old⟩
    first
      | rfl
      | simp [hb1]

/-! ### THE ROW's STEP: WRITTEN OUT: LEAVE IT -/
set_option maxRecDepth 100000 in
theorem lifted (os : Os) (started : os.Started) (H : Type) (enc : TypeId × Value → H) :
    ReturnsInHanded {} Try.checked os 5 .any (Rows.fnLiveSpec.pre6 enc Try.prog Try.f5 Rows.fnLiveRow.domain false) (Rows.fnLiveSpec.post enc Try.prog Try.f5 false true false false) := by
  refine returnsInHanded_of_change (C := Try.checked) own started (by kernel_rfl) Try.func5
    (ChangeSpec.witness6 (enc := enc) (C := Try.checked) false ⟨#[], #[.slice none 0 0, .slice none 0 0], []⟩ 8 (by kernel_rfl) (by kernel_rfl) (by kernel_rfl) (by kernel_rfl)) ?_
  intro W base args ds gs before hval0 hW hcnd _
  have hval : ∀ (j : Nat) t v, Try.f5.params[j]? = some t → args[j]? = some v → Value.okWide Try.prog W .any base t v := hval0
  have hW' := hW
  obtain ⟨p, q, hA0, hV, rfl, hfz, hnd⟩ := hW
  have hA : DataW.TrodAll enc Try.prog W 0 (fun _ => true) true Try.f5.params.toList args.toList ds p := hA0
  rw [Try.params5] at hA hval
  obtain ⟨v0, vs0, d0, ds0, p0, q0, hargs, rfl, rfl, h0, r0⟩ := trodAll_cons hA
  obtain ⟨v1, vs1, d1, ds1, p1, q1, rfl, rfl, rfl, h1, r1⟩ := trodAll_cons r0
  obtain ⟨rfl, rfl, rfl⟩ := trodAll_nil r1
  obtain rfl : args = #[v0, v1] := by cases args; simp_all
  obtain ⟨rfl, rfl⟩ := trodVars_none hV
  obtain ⟨a0, len0, cap0, rfl⟩ := okWide_slice Try.underlying22 (hval 0 22 v0 rfl rfl)
  have k0 := h0
  have lt0 : ∀ x ∈ p0, x.block < W.heap.size := by obtain ⟨m, hm⟩ := k0; exact DataW.trod_lt m _ _ _ hm
  obtain ⟨z0, w0⟩ : ∃ zs, IsRow .u8 W a0 len0 cap0 zs := by
    obtain ⟨fuel, hf⟩ := h0
    rcases open_ints Try.underlying22 Try.underlying5 (by kernel_rfl) hf with ⟨hcs, _⟩ | ⟨x, l, c, zs, hcs, _, hl, hm, hz, _, hcell, hwz⟩
    · simp [Value.cells] at hcs
      obtain ⟨rfl, rfl, rfl⟩ := hcs
      exact ⟨[], .inl ⟨rfl, rfl, rfl, rfl⟩⟩
    · simp [Value.cells] at hcs
      obtain ⟨rfl, rfl, rfl⟩ := hcs
      exact ⟨zs, .inr ⟨_, rfl, hl, hm, by simpa using hz, hcell, hwz⟩⟩
  obtain ⟨a1, len1, cap1, rfl⟩ := okWide_slice Try.underlying22 (hval 1 22 v1 rfl rfl)
  have k1 := h1
  have lt1 : ∀ x ∈ p1, x.block < W.heap.size := by obtain ⟨m, hm⟩ := k1; exact DataW.trod_lt m _ _ _ hm
  obtain ⟨z1, w1⟩ : ∃ zs, IsRow .u8 W a1 len1 cap1 zs := by
    obtain ⟨fuel, hf⟩ := h1
    rcases open_ints Try.underlying22 Try.underlying5 (by kernel_rfl) hf with ⟨hcs, _⟩ | ⟨x, l, c, zs, hcs, _, hl, hm, hz, _, hcell, hwz⟩
    · simp [Value.cells] at hcs
      obtain ⟨rfl, rfl, rfl⟩ := hcs
      exact ⟨[], .inl ⟨rfl, rfl, rfl, rfl⟩⟩
    · simp [Value.cells] at hcs
      obtain ⟨rfl, rfl, rfl⟩ := hcs
      exact ⟨zs, .inr ⟨_, rfl, hl, hm, by simpa using hz, hcell, hwz⟩⟩
  clear hA0 hval0
  refine (walk a0 len0 cap0 z0 a1 len1 cap1 z1 W w0 w1).mono fun e W' ⟨he, bel⟩ => ?_
  subst he
  exact ⟨_, rfl, _, _, _, [], _, [], hW', trodAll_mk1 (shut_bool Try.underlying4 _), (trodAll_cons_mk (Below.trod laidOut (by kernel_rfl) (of_decide_eq_true (by kernel_rfl)) k0 bel lt0) (trodAll_cons_mk (Below.trod laidOut (by kernel_rfl) (of_decide_eq_true (by kernel_rfl)) k1 bel lt1) trodAll_mk0)), rfl, bel.frame _, fun h => by cases h⟩

theorem over : Rows.fnLiveRow.holds Try.pinned (OpenSpec.ofChange Rows.fnLiveSpec) :=
  OpenClaim.holds_of_wide 5 Try.f5 rfl rfl rfl rfl rfl rfl rfl ⟨rfl, rfl, rfl, rfl, rfl⟩ rfl rfl rfl rfl rfl (by kernel_rfl) Try.func5 (by kernel_rfl)
    (of_decide_eq_true (by kernel_rfl)) (by unfold Func.isWrapper; first | (rw [if_pos (by decide +kernel)]; kernel_rfl) | (rw [if_neg (by decide +kernel)]; exact ⟨rfl, rfl⟩))
    (fun os started H enc _ => lifted os started H enc)

/-- ████ THE STATEMENT ████ -/
theorem proved : Rows.FnLiveSaid := over
#print axioms proved
end Go.Proofs.Ytegabkegbhglfaa.fnLive

namespace Go.Proofs.Ytegabkegbhglfaa
theorem fnLive_holds : Rows.FnLiveSaid := fnLive.proved
end Go.Proofs.Ytegabkegbhglfaa
