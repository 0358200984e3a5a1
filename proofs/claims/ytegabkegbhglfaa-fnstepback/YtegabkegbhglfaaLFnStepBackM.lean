/- Proved: for every two lists of bytes, in whatever memory, the law FnStepBack returns true and leaves its arguments as they were; no condition. -/
import Derived.Test.YtegabkegbhglfaaP16
import Derived.WalkKit
import Derived.ProofKit
import Derived.OpenShut
import Derived.ShutString
import Derived.ChangeOld
import Derived.Below
namespace Go.Proofs.Ytegabkegbhglfaa.fnStepBack
open Go.ChangeShapes Go.WideShapes Go.ChangeAt Go.RowKit
open Go.ChangeMaps (open_string shut_string)
set_option linter.unusedVariables false

theorem own : ownKnob Try.prog.godebug = none := by kernel_rfl
theorem laidOut : laidOutB Try.prog = true := by kernel_rfl

/-- WHAT THE WALK IS TOLD OF A SLICE OF INTEGERS THAT CAME IN: it is nil; or it leads to a row of 'cap' cells, the numbers 'zs' (the first 'len' are its elements, the rest its spare room), each fitting its kind. -/
def IsRow (k : IntKind) (w : World) (a : Option Addr) (len cap : Nat) (zs : List Int) : Prop :=
  (a = none ∧ len = 0 ∧ cap = 0 ∧ zs = []) ∨
  ∃ x, a = some x ∧ len ≤ cap ∧ cap ≤ maxLen ∧ zs.length = cap ∧ (∀ i, i < zs.length → w.cell? (x.add i) = some (.int k (zs.getD i 0))) ∧ ∀ n ∈ zs, (Lit.int k n).wf = true

theorem rowOf {w : World} {a : Option Addr} {len cap : Nat} {zs : List Int} (h : IsRow .u8 w a len cap zs) : RowB w a len (zs.take len) ∧ len ≤ maxLen := by
  rcases h with ⟨rfl, rfl, rfl, rfl⟩ | ⟨x, rfl, hl, hm, hz, hcell, hwz⟩
  · exact ⟨⟨rfl, fun i => by simp, .inl rfl⟩, by unfold maxLen; omega⟩
  · refine ⟨⟨by rw [List.length_take]; omega, fun i => ?_, ?_⟩, by omega⟩
    · rw [List.getD_eq_getElem?_getD]
      by_cases hi : i < (zs.take len).length
      · rw [List.getElem?_eq_getElem hi]
        have := hwz _ (List.mem_of_mem_take (List.getElem_mem hi))
        have := bounds_u8 this
        simpa using this
      · rw [List.getElem?_eq_none (by omega)]; simp
    · by_cases h0 : len = 0
      · exact .inl h0
      · obtain ⟨b, off, spot⟩ := x
        have hc := hcell 0 (by omega)
        have hspot : spot = none := by simpa [Addr.add] using World.cell?_spot hc
        subst hspot
        refine .inr ⟨b, off, rfl, ?_, fun i hi => ?_⟩
        · have := block_lt_of_cell hc; simpa [Addr.add] using this
        · have := hcell i (by omega)
          rw [List.getD_eq_getElem?_getD, List.getElem?_take_of_lt hi, ← List.getD_eq_getElem?_getD]
          have ea : (⟨b, off, none⟩ : Addr).add i = ⟨b, off + i, none⟩ := by unfold Addr.add; split <;> simp_all
          rw [ea] at this
          exact this

theorem fireR_len (p : Int) (n : Nat) (L : List (List Int)) (ys : List Int) (t : Int) : (fireR p n L ys t).length ≤ ys.length := by
  unfold fireR; split
  · unfold firedL; rw [fireL_len]; exact Nat.le_refl _
  · exact Nat.zero_le _

set_option maxRecDepth 100000 in
set_option maxHeartbeats 4000000 in
theorem walk (a0 : Option Addr) (len0 cap0 : Nat) (z0 : List Int) (a1 : Option Addr) (len1 cap1 : Nat) (z1 : List Int) (w : World) (w0 : IsRow .u8 w a0 len0 cap0 z0) (w1 : IsRow .u8 w a1 len1 cap1 z1) :
    Calls Try.prog 7 #[.slice a0 len0 cap0, .slice a1 len1 cap1] w fun e w' => e = .returned (.bool true) ∧ Below w.heap.size w w' := by
  have hr := rowOf w0
  have hr2 := rowOf w1
  generalize z0.take len0 = bs at hr
  generalize z1.take len1 = cs at hr2
  obtain ⟨hr, hl0⟩ := hr
  obtain ⟨hr2, hl1⟩ := hr2
  have HR := hide hr
  have HR2 := hide hr2
  unfold maxLen at hl0 hl1
  clear w0 w1 hr hr2
  have hbb : ∀ b : Bool, (b != b) = false := by simp
  go_enter Try.func7, Try.ntmps7
  go_wp2_with fail
  refine (big_any _ _ _ _ _ _ _ hl0 hl1).mono ?_
  rintro e v0 ⟨r, rfl, hbig, rfl⟩
  cases r
  rotate_left
  · go_wp2_with fail
    go_ret
    exact ⟨rfl, Below.refl _ _⟩
  have hn0 := (hbig.out rfl).1
  have hn1 := (hbig.out rfl).2
  clear hbig
  go_wp2_with fail
  refine (drawSB_any _ _ _ bs _ HR.out hn0).mono ?_
  rintro e v1 ⟨pl, a, k, c, L, b, n, d, xs, t, rfl, hpl, hk, hsz, hn, hstab, hb, ht⟩
  obtain ⟨m, rfl⟩ : ∃ m : Nat, pl = (m : Int) := ⟨pl.toNat, by omega⟩
  obtain ⟨hlists, hrow⟩ := hstab v1 (Nat.le_refl _) (fun _ _ _ => rfl)
  have hA := below_al v1 (.cells #[.int .i64 (m : Int), .slice a k c] 39)
  have S1 : Hid (Mst v0 (v1.alloc (.cells #[.int .i64 (m : Int), .slice a k c] 39)) v1.heap.size (m : Int) a k c L [(b, n, xs)] a1 len1 cs) :=
    ⟨hb.trans (hA.mono hb.size), heap_alloc_new _ _, hlists.below hA, Rs.cons (hrow.below hA) (Rs.nil _), (HR2.out.below hb).below hA⟩
  have HXL := hide hrow.1
  clear hlists hrow hb hA HR HR2 hstab
  have hsz2 : sizeN k L ≤ 1048576 := by omega
  have hn2 : n ≤ 1048576 := by omega
  obtain ⟨g, hgg⟩ : ∃ g, Hid (sbOk (m : Int) k L xs t = g) := ⟨_, rfl⟩
  obtain ⟨r, hrr⟩ : ∃ r, Hid (sbR (m : Int) k L xs t = r) := ⟨_, rfl⟩
  have hrl : r.length ≤ 60 := by have h1 := sbR_len (m : Int) k L xs t; rw [hrr.out, HXL.out] at h1; omega
  have hsr := sameB_self r
  go_wp2_with fail
  generalize v1.alloc (.cells #[.int .i64 (m : Int), .slice a k c] 39) = W1 at S1 ⊢
  generalize v1.heap.size = V at S1 ⊢
  refine (implSB_any _ _ _ _ _ _ _ L xs t _ S1.out.net (S1.out.rows.at b n xs (by simp)) hsz2 hn2).mono ?_
  rw [hgg.out, hrr.out]
  rintro e v2 ⟨ax, bx, nx, rfl, hblk, _, hb⟩
  have hnx : nx ≤ 60 := by have := hblk.1; omega
  have S2 := hide ((S1.out.grow hb).add hblk.row)
  have hc0 := S2.out.c0
  have hc1 := S2.out.c1
  clear hblk hb S1
  go_wp2_with fail
  refine (specSB_any _ _ _ _ _ _ _ L xs t _ S2.out.net (S2.out.rows.at b n xs (by simp)) hsz2 hn2).mono ?_
  rw [hgg.out, hrr.out]
  rintro e v3 ⟨aS, ns, cS, rfl, hrs, hb⟩
  have S3 := hide ((S2.out.grow hb).add hrs)
  clear hc0 hc1 hrs hb S2
  go_wp2_with fail
  refine (sameI_any _ _ _ _ _ _ r r _ (S3.out.rows.at ax nx r (by simp)) (S3.out.rows.at aS ns r (by simp)) (by omega)).mono ?_
  rw [hsr]
  rintro e v4 ⟨rfl, q, rfl⟩
  have S4 := hide (S3.out.grow (below_drewN' v3 q))
  clear S3
  generalize v3.drewN q = W4 at S4 ⊢
  have hc0 := S4.out.c0
  have hc1 := S4.out.c1
  cases g
  case' false =>
    have SZ := S4
    clear S4
    go_wp2_with fail
  case' true =>
    obtain ⟨f1, hf1⟩ : ∃ g, Hid (fireOk (m : Int) k L r t = g) := ⟨_, rfl⟩
    obtain ⟨rx, hrx⟩ : ∃ g, Hid (fireR (m : Int) k L r t = g) := ⟨_, rfl⟩
    have hrxl : rx.length ≤ 60 := by have h1 := fireR_len (m : Int) k L r t; rw [hrx.out] at h1; omega
    go_wp2_with fail
    refine (implFire_any _ _ _ _ _ _ _ L r t _ S4.out.net (S4.out.rows.at ax nx r (by simp)) hsz2 (by omega)).mono ?_
    rw [hf1.out, hrx.out]
    rintro e v5 ⟨ay, by', ny, rfl, hblk, _, hb⟩
    have hny : ny ≤ 60 := by have := hblk.1; omega
    have S5 := hide ((S4.out.grow hb).add hblk.row)
    clear hc0 hc1 hblk hb S4
    have hc0 := S5.out.c0
    have hc1 := S5.out.c1
    cases f1
    case' false =>
      have SZ := S5
      clear S5
      go_wp2_with fail
    case' true =>
      obtain ⟨e1, e2⟩ : covB (m : Int) rx xs = true ∧ (goodB (m : Int) rx && goodB (m : Int) xs) = true := by
        have h := back_covers hgg.out (by rw [hrr.out]; exact hf1.out)
        rw [hrr.out, hrx.out] at h
        exact h
      go_wp2_with fail
      refine (coversI_any (m : Int) ay b ny n _ _ rx xs _ (S5.out.rows.at ay ny rx (by simp)) (S5.out.rows.at b n xs (by simp)) (by omega) (by omega)).mono ?_
      unfold CovEnd
      rw [e1, e2]
      rintro e v6 ⟨rfl, hb⟩
      have SZ := hide (S5.out.grow hb)
      have hz0 := SZ.out.c0
      have hz1 := SZ.out.c1
      clear hc0 hc1 hb S5 e1 e2
      have hc0 := hz0
      have hc1 := hz1
      clear hz0 hz1
      go_wp2_with fail
  all_goals
    obtain ⟨ok1, hok1⟩ : ∃ g, Hid (netOk (m : Int) k L = g) := ⟨_, rfl⟩
    obtain ⟨gm, hgm⟩ : ∃ g, Hid (goodB (m : Int) xs = g) := ⟨_, rfl⟩
    refine (goodNetS_any _ _ _ _ L _ SZ.out.net hsz2).mono ?_
    rw [hok1.out]
    rintro e v7 ⟨rfl, hb⟩
    have S7 := hide (SZ.out.grow hb)
    clear hc0 hc1 hb SZ
    have hc0 := S7.out.c0
    have hc1 := S7.out.c1
    cases ok1
    · go_wp2_with fail
      go_ret
      exact ⟨rfl, S7.out.old⟩
    have hm16 : m ≤ 16 := by
      have h := hok1.out
      unfold netOk at h
      simp only [Bool.and_eq_true] at h
      have h1 := h.1.1
      unfold inB at h1
      simp only [Bool.and_eq_true, decide_eq_true_eq] at h1
      omega
    go_wp2_with fail
    refine (goodS_any _ _ _ _ xs _ (S7.out.rows.at b n xs (by simp)) hn2).mono ?_
    rw [hgm.out]
    rintro e v8 ⟨rfl, rfl⟩
    cases gm
    · go_wp2_with fail
      go_ret
      exact ⟨rfl, S7.out.old⟩
    obtain ⟨i0, hi, hz0, hz1, hz2⟩ := info_split Try.info3
    have P0 : Hid (PutSt v8 v8 (.slice none 0 0) 0 []) := ⟨World.ownsRow_nil _ _ _ _, Below.refl _ _⟩
    clear hc0 hc1
    go_wp2_with fail
    go_loopw [16, 17] (fun u i wr => ∃ (j : Nat) (ys : List Int), j ≤ m ∧ i = .int .i64 j ∧ Hid (PutSt v8 wr u j ys)) (fun _ i _ => m - (intOf i).toNat)
    case atStart => exact ⟨0, [], Nat.zero_le _, rfl, P0⟩
    case round =>
      obtain ⟨j, ys, hj, rfl, P1⟩ := hrel
      clear P0
      have hc0 := (S7.out.grow P1.out.bel).c0
      by_cases hlt : j < m
      · have hj1 : (j : Int) < (m : Int) := by omega
        have hj2 : (2 : Int) * (j : Int) < 64 := by omega
        go_wp2_with fail
        refine (number_any _ _ _ cs _ (S7.out.grow P1.out.bel).more hn1).mono ?_
        rintro e v9 ⟨z, rfl, hz, rfl⟩
        go_wp2_with (at_builtin; refine wpList_append_own _ rfl (.tmp 95) (.tmp 103) 30 rfl v8.heap.size 3 i0 (.int .i64 0) 1 8 Try.underlying30 hi hz0 hz1 hz2 rfl (by decide) u16 j _ rfl (P1.out.alloc _).own ⟨_, 0, none⟩ 1 1 [.int .i64 _] rfl rfl (cell_one_new _ _ _) (by simp [Value.oneCell']) (by unfold maxLen; omega) (by omega) (P1.out.alloc _).bel.size ?_; intro v' W' r1 r2 _; have R := hide ((P1.out.alloc _).step (q := 1) (zs := [_]) r1 r2); clear r1 r2)
        go_roundw
        case rel => exact ⟨j + 1, _, by omega, by go_num, R⟩
        case measure => simp [intOf]; omega
      · have hjm : j = m := by omega
        subst hjm
        obtain ⟨ad, cd, rfl, hrd⟩ := ownsRow_row2 P1.out.own
        have S9 := hide ((S7.out.grow P1.out.bel).add hrd)
        have HDL := hide hrd.1
        have hc1 := S9.out.c1
        clear hrd
        obtain ⟨f2, hf2⟩ : ∃ g, Hid (fireOk (j : Int) k L ys t = g) := ⟨_, rfl⟩
        obtain ⟨rz, hrz⟩ : ∃ g, Hid (fireR (j : Int) k L ys t = g) := ⟨_, rfl⟩
        have hrzl : rz.length ≤ 60 := by have h1 := fireR_len (j : Int) k L ys t; rw [hrz.out, HDL.out] at h1; omega
        go_wp2_with fail
        refine (implFire_any _ _ _ _ _ _ _ L ys t _ S9.out.net (S9.out.rows.at ad j ys (by simp)) hsz2 (by omega)).mono ?_
        rw [hf2.out, hrz.out]
        rintro e v10 ⟨az, bz, nz, rfl, hblk, _, hb⟩
        have hnz : nz ≤ 60 := by have := hblk.1; omega
        have S10 := hide ((S9.out.grow hb).add hblk.row)
        clear hc0 hc1 hblk hb S9
        have hc0 := S10.out.c0
        have hc1 := S10.out.c1
        cases f2
        · go_wp2_with fail
          go_ret
          exact ⟨rfl, S10.out.old⟩
        have hgz : (goodB (j : Int) rz && goodB (j : Int) xs) = true := by
          have h := hf2.out
          have e1 : fireR (j : Int) k L ys t = firedL L ys t := by unfold fireR; rw [h]; rfl
          rw [hrz.out] at e1
          unfold fireOk at h
          simp only [Bool.and_eq_true] at h
          rw [e1, h.2, hgm.out]; rfl
        obtain ⟨cz, hcz⟩ : ∃ g, Hid (covB (j : Int) rz xs = g) := ⟨_, rfl⟩
        go_wp2_with fail
        refine (coversI_any (j : Int) az b nz n _ _ rz xs _ (S10.out.rows.at az nz rz (by simp)) (S10.out.rows.at b n xs (by simp)) (by omega) (by omega)).mono ?_
        unfold CovEnd
        rw [hgz, hcz.out]
        rintro e v11 ⟨rfl, hb⟩
        have S11 := hide (S10.out.grow hb)
        clear hc0 hc1 hb S10
        have hc0 := S11.out.c0
        have hc1 := S11.out.c1
        cases cz
        · go_wp2_with fail
          go_ret
          exact ⟨rfl, S11.out.old⟩
        obtain ⟨hg1, hg2, hg3⟩ := covers_back hf2.out (by rw [hrz.out]; exact hcz.out)
        rw [hgg.out] at hg1
        rw [hrr.out] at hg2 hg3
        cases hg1
        all_goals
          go_wp2_with fail
          refine (coversI_any (j : Int) ad ax j nx _ _ ys r _ (S11.out.rows.at ad j ys (by simp)) (S11.out.rows.at ax nx r (by simp)) (by omega) (by omega)).mono ?_
          unfold CovEnd
          rw [hg2, hg3]
          rintro e v12 ⟨rfl, hb⟩
          have S12 := hide (S11.out.grow hb)
          go_wp2_with fail
          go_ret
          exact ⟨rfl, S12.out.old⟩

/-! ### THE ROW's STEP: WRITTEN OUT: LEAVE IT -/
set_option maxRecDepth 100000 in
theorem lifted (os : Os) (started : os.Started) (H : Type) (enc : TypeId × Value → H) :
    ReturnsInHanded {} Try.checked os 7 .any (Rows.fnStepBackSpec.pre6 enc Try.prog Try.f7 Rows.fnStepBackRow.domain false) (Rows.fnStepBackSpec.post enc Try.prog Try.f7 false true false false) := by
  refine returnsInHanded_of_change (C := Try.checked) own started (by kernel_rfl) Try.func7
    (ChangeSpec.witness6 (enc := enc) (C := Try.checked) false ⟨#[], #[.slice none 0 0, .slice none 0 0], []⟩ 8 (by kernel_rfl) (by kernel_rfl) (by kernel_rfl) (by kernel_rfl)) ?_
  intro W base args ds gs before hval0 hW hcnd _
  have hval : ∀ (j : Nat) t v, Try.f7.params[j]? = some t → args[j]? = some v → Value.okWide Try.prog W .any base t v := hval0
  have hW' := hW
  obtain ⟨p, q, hA0, hV, rfl, hfz, hnd⟩ := hW
  have hA : DataW.TrodAll enc Try.prog W 0 (fun _ => true) true Try.f7.params.toList args.toList ds p := hA0
  rw [Try.params7] at hA hval
  obtain ⟨v0, vs0, d0, ds0, p0, q0, hargs, rfl, rfl, h0, r0⟩ := trodAll_cons hA
  obtain ⟨v1, vs1, d1, ds1, p1, q1, rfl, rfl, rfl, h1, r1⟩ := trodAll_cons r0
  obtain ⟨rfl, rfl, rfl⟩ := trodAll_nil r1
  obtain rfl : args = #[v0, v1] := by cases args; simp_all
  obtain ⟨rfl, rfl⟩ := trodVars_none hV
  obtain ⟨a0, len0, cap0, rfl⟩ := okWide_slice Try.underlying22 (hval 0 22 v0 rfl rfl)
  have k0 := h0
  have lt0 : ∀ x ∈ p0, x.block < W.heap.size := by obtain ⟨m, hm⟩ := k0; exact DataW.trod_lt m _ _ _ hm
  obtain ⟨z0, w0⟩ : ∃ zs, IsRow .u8 W a0 len0 cap0 zs := by
    obtain ⟨fuel, hf⟩ := h0
    rcases open_ints Try.underlying22 Try.underlying5 (by kernel_rfl) hf with ⟨hcs, _⟩ | ⟨x, l, c, zs, hcs, _, hl, hm, hz, _, hcell, hwz⟩
    · simp [Value.cells] at hcs
      obtain ⟨rfl, rfl, rfl⟩ := hcs
      exact ⟨[], .inl ⟨rfl, rfl, rfl, rfl⟩⟩
    · simp [Value.cells] at hcs
      obtain ⟨rfl, rfl, rfl⟩ := hcs
      exact ⟨zs, .inr ⟨_, rfl, hl, hm, by simpa using hz, hcell, hwz⟩⟩
  obtain ⟨a1, len1, cap1, rfl⟩ := okWide_slice Try.underlying22 (hval 1 22 v1 rfl rfl)
  have k1 := h1
  have lt1 : ∀ x ∈ p1, x.block < W.heap.size := by obtain ⟨m, hm⟩ := k1; exact DataW.trod_lt m _ _ _ hm
  obtain ⟨z1, w1⟩ : ∃ zs, IsRow .u8 W a1 len1 cap1 zs := by
    obtain ⟨fuel, hf⟩ := h1
    rcases open_ints Try.underlying22 Try.underlying5 (by kernel_rfl) hf with ⟨hcs, _⟩ | ⟨x, l, c, zs, hcs, _, hl, hm, hz, _, hcell, hwz⟩
    · simp [Value.cells] at hcs
      obtain ⟨rfl, rfl, rfl⟩ := hcs
      exact ⟨[], .inl ⟨rfl, rfl, rfl, rfl⟩⟩
    · simp [Value.cells] at hcs
      obtain ⟨rfl, rfl, rfl⟩ := hcs
      exact ⟨zs, .inr ⟨_, rfl, hl, hm, by simpa using hz, hcell, hwz⟩⟩
  clear hA0 hval0
  refine (walk a0 len0 cap0 z0 a1 len1 cap1 z1 W w0 w1).mono fun e W' ⟨he, bel⟩ => ?_
  subst he
  exact ⟨_, rfl, _, _, _, [], _, [], hW', trodAll_mk1 (shut_bool Try.underlying4 _), (trodAll_cons_mk (Below.trod laidOut (by kernel_rfl) (of_decide_eq_true (by kernel_rfl)) k0 bel lt0) (trodAll_cons_mk (Below.trod laidOut (by kernel_rfl) (of_decide_eq_true (by kernel_rfl)) k1 bel lt1) trodAll_mk0)), rfl, bel.frame _, fun h => by cases h⟩

theorem over : Rows.fnStepBackRow.holds Try.pinned (OpenSpec.ofChange Rows.fnStepBackSpec) :=
  OpenClaim.holds_of_wide 7 Try.f7 rfl rfl rfl rfl rfl rfl rfl ⟨rfl, rfl, rfl, rfl, rfl⟩ rfl rfl rfl rfl rfl (by kernel_rfl) Try.func7 (by kernel_rfl)
    (of_decide_eq_true (by kernel_rfl)) (by unfold Func.isWrapper; first | (rw [if_pos (by decide +kernel)]; kernel_rfl) | (rw [if_neg (by decide +kernel)]; exact ⟨rfl, rfl⟩))
    (fun os started H enc _ => lifted os started H enc)

/-- ████ THE STATEMENT ████ -/
theorem proved : Rows.FnStepBackSaid := over
#print axioms proved
end Go.Proofs.Ytegabkegbhglfaa.fnStepBack

namespace Go.Proofs.Ytegabkegbhglfaa
theorem fnStepBack_holds : Rows.FnStepBackSaid := fnStepBack.proved
end Go.Proofs.Ytegabkegbhglfaa
