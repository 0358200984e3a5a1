/- Proved: for every two lists of bytes, in whatever memory, the law FnHome returns true and leaves its arguments as they were; no condition. -/
import Derived.Test.YtdhnhpjcoeglmaaP27
import Derived.WalkKit
import Derived.ProofKit
import Derived.OpenShut
import Derived.ShutString
import Derived.ChangeOld
import Derived.Below
namespace Go.Proofs.Ytdhnhpjcoeglmaa.fnHome
open Go.ChangeShapes Go.WideShapes Go.ChangeAt Go.RowKit
open Go.ChangeMaps (open_string shut_string)
set_option linter.unusedVariables false

theorem own : ownKnob Try.prog.godebug = none := by kernel_rfl
theorem laidOut : laidOutB Try.prog = true := by kernel_rfl

/-- WHAT THE WALK IS TOLD OF A SLICE OF INTEGERS THAT CAME IN: it is nil; or it leads to a row of 'cap' cells, the numbers 'zs' (the first 'len' are its elements, the rest its spare room), each fitting its kind. -/
def IsRow (k : IntKind) (w : World) (a : Option Addr) (len cap : Nat) (zs : List Int) : Prop :=
  (a = none ∧ len = 0 ∧ cap = 0 ∧ zs = []) ∨
  ∃ x, a = some x ∧ len ≤ cap ∧ cap ≤ maxLen ∧ zs.length = cap ∧ (∀ i, i < zs.length → w.cell? (x.add i) = some (.int k (zs.getD i 0))) ∧ ∀ n ∈ zs, (Lit.int k n).wf = true

theorem rowOf {w : World} {a : Option Addr} {len cap : Nat} {zs : List Int} (h : IsRow .u8 w a len cap zs) : RowB w a len (zs.take len) ∧ len ≤ maxLen := by
  rcases h with ⟨rfl, rfl, rfl, rfl⟩ | ⟨x, rfl, hl, hm, hz, hcell, hwz⟩
  · exact ⟨⟨rfl, fun i => by simp, .inl rfl⟩, by unfold maxLen; omega⟩
  · refine ⟨⟨by rw [List.length_take]; omega, fun i => ?_, ?_⟩, by omega⟩
    · rw [List.getD_eq_getElem?_getD]
      by_cases hi : i < (zs.take len).length
      · rw [List.getElem?_eq_getElem hi]
        have := hwz _ (List.mem_of_mem_take (List.getElem_mem hi))
        have := bounds_u8 this
        simpa using this
      · rw [List.getElem?_eq_none (by omega)]; simp
    · by_cases h0 : len = 0
      · exact .inl h0
      · obtain ⟨b, off, spot⟩ := x
        have hc := hcell 0 (by omega)
        have hspot : spot = none := by simpa [Addr.add] using World.cell?_spot hc
        subst hspot
        refine .inr ⟨b, off, rfl, ?_, fun i hi => ?_⟩
        · have := block_lt_of_cell hc; simpa [Addr.add] using this
        · have := hcell i (by omega)
          rw [List.getD_eq_getElem?_getD, List.getElem?_take_of_lt hi, ← List.getD_eq_getElem?_getD]
          have ea : (⟨b, off, none⟩ : Addr).add i = ⟨b, off + i, none⟩ := by unfold Addr.add; split <;> simp_all
          rw [ea] at this
          exact this

set_option maxRecDepth 100000 in
set_option maxHeartbeats 8000000 in
theorem walk (a0 : Option Addr) (len0 cap0 : Nat) (z0 : List Int) (a1 : Option Addr) (len1 cap1 : Nat) (z1 : List Int) (w : World) (w0 : IsRow .u8 w a0 len0 cap0 z0) (w1 : IsRow .u8 w a1 len1 cap1 z1) :
    Calls Try.prog 7 #[.slice a0 len0 cap0, .slice a1 len1 cap1] w fun e w' => e = .returned (.bool true) ∧ Below w.heap.size w w' := by
  have hr := rowOf w0
  have hr2 := rowOf w1
  generalize z0.take len0 = bs at hr
  generalize z1.take len1 = cs at hr2
  obtain ⟨hr, hl0⟩ := hr
  obtain ⟨hr2, hl1⟩ := hr2
  have HR := hide hr
  have HR2 := hide hr2
  unfold maxLen at hl0 hl1
  clear w0 w1 hr hr2
  have hbb : ∀ b : Bool, (b != b) = false := by simp
  go_enter Try.func7, Try.ntmps7
  go_wp2_with fail
  refine (big_any _ _ _ _ _ _ _ hl0 hl1).mono ?_
  rintro e v0 ⟨r, rfl, hbig, rfl⟩
  cases r
  rotate_left
  · go_wp2_with fail
    go_ret
    exact ⟨rfl, Below.refl _ _⟩
  have hn0 := (hbig.out rfl).1
  have hn1 := (hbig.out rfl).2
  clear hbig
  go_wp2_with fail
  refine (drawIh_any _ _ _ bs _ HR.out hn0).mono ?_
  rintro e v1 ⟨pl, a, k, c, L, b, n, d, xs, bg, mb, mm, mc, zs, rfl, hpl, hk, hsz, hn, hm60, hstab, hb, hbg⟩
  obtain ⟨m, rfl⟩ : ∃ m : Nat, pl = (m : Int) := ⟨pl.toNat, by omega⟩
  obtain ⟨⟨hlists, hrow⟩, hrow2⟩ := hstab v1 (Nat.le_refl _) (fun _ _ _ => rfl)
  have hA := below_al v1 (.cells #[.int .i64 (m : Int), .slice a k c] 26)
  have S1 : Hid (Mst v0 (v1.alloc (.cells #[.int .i64 (m : Int), .slice a k c] 26)) v1.heap.size (m : Int) a k c L [(b, n, xs), (mb, mm, zs)] a1 len1 cs) :=
    ⟨hb.trans (hA.mono hb.size), heap_alloc_new _ _, hlists.below hA, Rs.cons (hrow.below hA) (Rs.cons (hrow2.below hA) (Rs.nil _)), (HR2.out.below hb).below hA⟩
  clear hlists hrow hrow2 hb hA HR HR2 hstab
  have hsz2 : sizeN k L ≤ 1048576 := by omega
  have hn2 : n ≤ 1048576 := by omega
  have hm2 : mm ≤ 1048576 := by omega
  obtain ⟨g, hgg⟩ : ∃ g, Hid (saOk (m : Int) k L xs bg zs = g) := ⟨_, rfl⟩
  obtain ⟨il, hil⟩ : ∃ g, Hid (ihR (m : Int) k L xs bg zs = g) := ⟨_, rfl⟩
  obtain ⟨cr, hcr⟩ : ∃ g, Hid (caR (m : Int) k L xs bg zs = g) := ⟨_, rfl⟩
  go_wp2_with fail
  generalize v1.alloc (.cells #[.int .i64 (m : Int), .slice a k c] 26) = W1 at S1 ⊢
  generalize v1.heap.size = V at S1 ⊢
  refine (homeI_any _ _ _ _ _ _ _ _ _ _ L xs zs bg _ S1.out.net (S1.out.rows.at b n xs (by simp)) (S1.out.rows.at mb mm zs (by simp)) hsz2 hn2 hm2).mono ?_
  unfold IhEnd
  rw [hgg.out, hil.out]
  rintro e v2 ⟨rfl, hb⟩
  have S2 := hide (S1.out.grow hb)
  have hc0 := S2.out.c0
  have hc1 := S2.out.c1
  clear hb S1
  go_wp2_with fail
  refine (homeS_any _ _ _ _ _ _ _ _ _ _ L xs zs bg _ S2.out.net (S2.out.rows.at b n xs (by simp)) (S2.out.rows.at mb mm zs (by simp)) hsz2 hn2 hm2).mono ?_
  unfold IhEnd
  rw [hgg.out, hil.out]
  rintro e v3 ⟨rfl, hb⟩
  have S3 := hide (S2.out.grow hb)
  clear hc0 hc1 hb S2
  have hc0 := S3.out.c0
  have hc1 := S3.out.c1
  go_wp2_with fail
  refine (canI_any _ _ _ _ _ _ _ _ _ _ L xs zs bg _ S3.out.net (S3.out.rows.at b n xs (by simp)) (S3.out.rows.at mb mm zs (by simp)) hsz2 hn2 hm2).mono ?_
  unfold CaEnd
  rw [hgg.out, hcr.out]
  rintro e v4 ⟨rfl, hb⟩
  have S4 := hide (S3.out.grow hb)
  clear hc0 hc1 hb S3
  have hc0 := S4.out.c0
  have hc1 := S4.out.c1
  go_wp2_with fail
  refine (canS_any _ _ _ _ _ _ _ _ _ _ L xs zs bg _ S4.out.net (S4.out.rows.at b n xs (by simp)) (S4.out.rows.at mb mm zs (by simp)) hsz2 hn2 hm2).mono ?_
  unfold CaEnd
  rw [hgg.out, hcr.out]
  rintro e v9 ⟨rfl, hb⟩
  have S9 := hide (S4.out.grow hb)
  clear hc0 hc1 hb S4
  have hfact : il = true → g = true ∧ cr = true := fun h1 => by
    rw [h1] at hil
    obtain ⟨e1, e2⟩ := home_can hil.out
    exact ⟨by rw [← hgg.out]; exact e1, by rw [← hcr.out]; exact e2⟩
  cases il
  case' false =>
    clear hfact
    cases g
    case' false => go_wp2_with fail
    case' true => go_wp2_with fail
  case' true =>
    obtain ⟨rfl, rfl⟩ := hfact rfl
    go_wp2_with fail
  all_goals
    refine (drawWy_any _ _ _ cs _ S9.out.more hn1).mono ?_
    rintro e v10 ⟨pl2, a2, k2, c2, L2, b2, n2, d2, xs2, bg2, mb2, mm2, mc2, zs2, rfl, hpl2, hk2, hsz3, hn3, hm3, hstab, hb, hbg2⟩
    obtain ⟨m2, rfl⟩ : ∃ m : Nat, pl2 = (m : Int) := ⟨pl2.toNat, by omega⟩
    obtain ⟨⟨hlists, hrow⟩, hrow2⟩ := hstab v10 (Nat.le_refl _) (fun _ _ _ => rfl)
    have hA := below_al v10 (.cells #[.int .i64 (m2 : Int), .slice a2 k2 c2] 26)
    have T1 : Hid (Mst v0 (v10.alloc (.cells #[.int .i64 (m2 : Int), .slice a2 k2 c2] 26)) v10.heap.size (m2 : Int) a2 k2 c2 L2 [(b2, n2, xs2), (mb2, mm2, zs2)] a1 len1 cs) :=
      ⟨S9.out.old.trans ((hb.trans (hA.mono hb.size)).mono S9.out.old.size), heap_alloc_new _ _, hlists.below hA, Rs.cons (hrow.below hA) (Rs.cons (hrow2.below hA) (Rs.nil _)), (S9.out.more.below hb).below hA⟩
    clear hlists hrow hrow2 hb hA hstab S9
    have hsz4 : sizeN k2 L2 ≤ 1048576 := by omega
    have hn4 : n2 ≤ 1048576 := by omega
    have hm4 : mm2 ≤ 1048576 := by omega
    obtain ⟨g3, hg3⟩ : ∃ g, Hid (wtOk (m2 : Int) k2 L2 xs2 bg2 zs2 = g) := ⟨_, rfl⟩
    obtain ⟨wr, hwr⟩ : ∃ r, Hid (wtR (m2 : Int) k2 L2 xs2 bg2 zs2 = r) := ⟨_, rfl⟩
    have hwl : wr.length ≤ 60 := by have h1 := wtR_len (m2 : Int) k2 L2 xs2 bg2 zs2; rw [hwr.out] at h1; exact h1
    have HWF := hide (fun (h : g3 = true) => show allOk (m2 : Int) k2 L2 xs2 wr = true ∧ faR (m2 : Int) k2 L2 xs2 wr = zs2 ∧ faN (m2 : Int) k2 L2 xs2 wr = wr.length from by
      have h1 := way_fires (p := (m2 : Int)) (n := k2) (L := L2) (ys := xs2) (xs := zs2) (bg := bg2) (by rw [hg3.out]; exact h)
      rw [hwr.out] at h1; exact h1)
    have hsw := sameB_self wr
    have hsz5 := sameB_self zs2
    go_wp2_with fail
    generalize v10.alloc (.cells #[.int .i64 (m2 : Int), .slice a2 k2 c2] 26) = W10 at T1 ⊢
    generalize v10.heap.size = V2 at T1 ⊢
    refine (waytoI_any _ _ _ _ _ _ _ _ _ _ L2 xs2 zs2 bg2 _ T1.out.net (T1.out.rows.at b2 n2 xs2 (by simp)) (T1.out.rows.at mb2 mm2 zs2 (by simp)) hsz4 hn4 hm4).mono ?_
    rw [hg3.out, hwr.out]
    rintro e v11 ⟨af, bf, nf, cf, rfl, hob, _, hb⟩
    have hnf : nf ≤ 60 := by have := hob.row.1; omega
    have HNF : Hid (wr.length = nf) := hob.row.1
    have T2 := hide ((T1.out.grow hb).add hob.row)
    clear hb hob T1
    have hc0 := T2.out.c0
    have hc1 := T2.out.c1
    go_wp2_with fail
    refine (waytoS_any _ _ _ _ _ _ _ _ _ _ L2 xs2 zs2 bg2 _ T2.out.net (T2.out.rows.at b2 n2 xs2 (by simp)) (T2.out.rows.at mb2 mm2 zs2 (by simp)) hsz4 hn4 hm4).mono ?_
    rw [hg3.out, hwr.out]
    rintro e v12 ⟨ag, ng, cg, rfl, hrw, hb⟩
    have hng : ng ≤ 60 := by have := hrw.1; omega
    have T3 := hide ((T2.out.grow hb).add hrw)
    clear hb hrw T2 hc0 hc1
    go_wp2_with fail
    refine (sameI_any _ _ _ _ _ _ wr wr _ (T3.out.rows.at af nf wr (by simp)) (T3.out.rows.at ag ng wr (by simp)) (by omega)).mono ?_
    rw [hsw]
    rintro e v13 ⟨rfl, q, rfl⟩
    have T4 := hide (T3.out.grow (below_drewN' v12 q))
    clear T3
    generalize v12.drewN q = W13 at T4 ⊢
    cases g3
    · go_wp2_with fail
      go_ret
      exact ⟨rfl, T4.out.old⟩
    obtain ⟨f1, f2, f3⟩ := HWF.out rfl
    have hc0 := T4.out.c0
    have hc1 := T4.out.c1
    clear HWF
    go_wp2_with fail
    refine (implFireAll_any _ _ _ _ _ _ _ _ _ _ L2 xs2 wr _ T4.out.net (T4.out.rows.at b2 n2 xs2 (by simp)) (T4.out.rows.at af nf wr (by simp)) hsz4 hn4 (by omega)).mono ?_
    rw [f1, f2, f3, HNF.out]
    rintro e v14 ⟨ay, by', ny, rfl, hblk, _, hb⟩
    have hny : ny ≤ 60 := by have h1 := hblk.row.1; have h2 := (T4.out.rows.at mb2 mm2 zs2 (by simp)).1; omega
    have T5 := hide ((T4.out.grow hb).add hblk.row)
    have hee : ((nf : Int) == (nf : Int)) = true := by simp
    clear hb hblk T4 hc0 hc1 f1 f2 f3
    go_wp2_with fail
    refine (sameI_any _ _ _ _ _ _ zs2 zs2 _ (T5.out.rows.at ay ny zs2 (by simp)) (T5.out.rows.at mb2 mm2 zs2 (by simp)) (by omega)).mono ?_
    rw [hsz5]
    rintro e v15 ⟨rfl, q, rfl⟩
    have T6 := hide (T5.out.grow (below_drewN' v14 q))
    clear T5
    generalize v14.drewN q = W15 at T6 ⊢
    go_wp2_with fail
    go_ret
    exact ⟨rfl, T6.out.old⟩

/-! ### THE ROW's STEP: WRITTEN OUT: LEAVE IT -/
set_option maxRecDepth 100000 in
theorem lifted (os : Os) (started : os.Started) (H : Type) (enc : TypeId × Value → H) :
    ReturnsInHanded {} Try.checked os 7 .any (Rows.fnHomeSpec.pre6 enc Try.prog Try.f7 Rows.fnHomeRow.domain false) (Rows.fnHomeSpec.post enc Try.prog Try.f7 false true false false) := by
  refine returnsInHanded_of_change (C := Try.checked) own started (by kernel_rfl) Try.func7
    (ChangeSpec.witness6 (enc := enc) (C := Try.checked) false ⟨#[], #[.slice none 0 0, .slice none 0 0], []⟩ 8 (by kernel_rfl) (by kernel_rfl) (by kernel_rfl) (by kernel_rfl)) ?_
  intro W base args ds gs before hval0 hW hcnd _
  have hval : ∀ (j : Nat) t v, Try.f7.params[j]? = some t → args[j]? = some v → Value.okWide Try.prog W .any base t v := hval0
  have hW' := hW
  obtain ⟨p, q, hA0, hV, rfl, hfz, hnd⟩ := hW
  have hA : DataW.TrodAll enc Try.prog W 0 (fun _ => true) true Try.f7.params.toList args.toList ds p := hA0
  rw [Try.params7] at hA hval
  obtain ⟨v0, vs0, d0, ds0, p0, q0, hargs, rfl, rfl, h0, r0⟩ := trodAll_cons hA
  obtain ⟨v1, vs1, d1, ds1, p1, q1, rfl, rfl, rfl, h1, r1⟩ := trodAll_cons r0
  obtain ⟨rfl, rfl, rfl⟩ := trodAll_nil r1
  obtain rfl : args = #[v0, v1] := by cases args; simp_all
  obtain ⟨rfl, rfl⟩ := trodVars_none hV
  obtain ⟨a0, len0, cap0, rfl⟩ := okWide_slice Try.underlying22 (hval 0 22 v0 rfl rfl)
  have k0 := h0
  have lt0 : ∀ x ∈ p0, x.block < W.heap.size := by obtain ⟨m, hm⟩ := k0; exact DataW.trod_lt m _ _ _ hm
  obtain ⟨z0, w0⟩ : ∃ zs, IsRow .u8 W a0 len0 cap0 zs := by
    obtain ⟨fuel, hf⟩ := h0
    rcases open_ints Try.underlying22 Try.underlying5 (by kernel_rfl) hf with ⟨hcs, _⟩ | ⟨x, l, c, zs, hcs, _, hl, hm, hz, _, hcell, hwz⟩
    · simp [Value.cells] at hcs
      obtain ⟨rfl, rfl, rfl⟩ := hcs
      exact ⟨[], .inl ⟨rfl, rfl, rfl, rfl⟩⟩
    · simp [Value.cells] at hcs
      obtain ⟨rfl, rfl, rfl⟩ := hcs
      exact ⟨zs, .inr ⟨_, rfl, hl, hm, by simpa using hz, hcell, hwz⟩⟩
  obtain ⟨a1, len1, cap1, rfl⟩ := okWide_slice Try.underlying22 (hval 1 22 v1 rfl rfl)
  have k1 := h1
  have lt1 : ∀ x ∈ p1, x.block < W.heap.size := by obtain ⟨m, hm⟩ := k1; exact DataW.trod_lt m _ _ _ hm
  obtain ⟨z1, w1⟩ : ∃ zs, IsRow .u8 W a1 len1 cap1 zs := by
    obtain ⟨fuel, hf⟩ := h1
    rcases open_ints Try.underlying22 Try.underlying5 (by kernel_rfl) hf with ⟨hcs, _⟩ | ⟨x, l, c, zs, hcs, _, hl, hm, hz, _, hcell, hwz⟩
    · simp [Value.cells] at hcs
      obtain ⟨rfl, rfl, rfl⟩ := hcs
      exact ⟨[], .inl ⟨rfl, rfl, rfl, rfl⟩⟩
    · simp [Value.cells] at hcs
      obtain ⟨rfl, rfl, rfl⟩ := hcs
      exact ⟨zs, .inr ⟨_, rfl, hl, hm, by simpa using hz, hcell, hwz⟩⟩
  clear hA0 hval0
  refine (walk a0 len0 cap0 z0 a1 len1 cap1 z1 W w0 w1).mono fun e W' ⟨he, bel⟩ => ?_
  subst he
  exact ⟨_, rfl, _, _, _, [], _, [], hW', trodAll_mk1 (shut_bool Try.underlying4 _), (trodAll_cons_mk (Below.trod laidOut (by kernel_rfl) (of_decide_eq_true (by kernel_rfl)) k0 bel lt0) (trodAll_cons_mk (Below.trod laidOut (by kernel_rfl) (of_decide_eq_true (by kernel_rfl)) k1 bel lt1) trodAll_mk0)), rfl, bel.frame _, fun h => by cases h⟩

theorem over : Rows.fnHomeRow.holds Try.pinned (OpenSpec.ofChange Rows.fnHomeSpec) :=
  OpenClaim.holds_of_wide 7 Try.f7 rfl rfl rfl rfl rfl rfl rfl ⟨rfl, rfl, rfl, rfl, rfl⟩ rfl rfl rfl rfl rfl (by kernel_rfl) Try.func7 (by kernel_rfl)
    (of_decide_eq_true (by kernel_rfl)) (by unfold Func.isWrapper; first | (rw [if_pos (by decide +kernel)]; kernel_rfl) | (rw [if_neg (by decide +kernel)]; exact ⟨rfl, rfl⟩))
    (fun os started H enc _ => lifted os started H enc)

/-- ████ THE STATEMENT ████ -/
theorem proved : Rows.FnHomeSaid := over
#print axioms proved
end Go.Proofs.Ytdhnhpjcoeglmaa.fnHome

namespace Go.Proofs.Ytdhnhpjcoeglmaa
theorem fnHome_holds : Rows.FnHomeSaid := fnHome.proved
end Go.Proofs.Ytdhnhpjcoeglmaa
