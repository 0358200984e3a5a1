/- Proved: for every two lists of bytes, in whatever memory, the law FnTurned returns true and leaves its arguments as they were; no condition. -/
import Derived.Test.YtdhnhpjcoeglmaaP11
import Derived.WalkKit
import Derived.ProofKit
import Derived.OpenShut
import Derived.ShutString
import Derived.ChangeOld
import Derived.Below
namespace Go.Proofs.Ytdhnhpjcoeglmaa.fnTurned
open Go.ChangeShapes Go.WideShapes Go.ChangeAt Go.RowKit
open Go.ChangeMaps (open_string shut_string)
set_option linter.unusedVariables false

theorem own : ownKnob Try.prog.godebug = none := by kernel_rfl
theorem laidOut : laidOutB Try.prog = true := by kernel_rfl

/-- WHAT THE WALK IS TOLD OF A SLICE OF INTEGERS THAT CAME IN: it is nil; or it leads to a row of 'cap' cells, the numbers 'zs' (the first 'len' are its elements, the rest its spare room), each fitting its kind. -/
def IsRow (k : IntKind) (w : World) (a : Option Addr) (len cap : Nat) (zs : List Int) : Prop :=
  (a = none ∧ len = 0 ∧ cap = 0 ∧ zs = []) ∨
  ∃ x, a = some x ∧ len ≤ cap ∧ cap ≤ maxLen ∧ zs.length = cap ∧ (∀ i, i < zs.length → w.cell? (x.add i) = some (.int k (zs.getD i 0))) ∧ ∀ n ∈ zs, (Lit.int k n).wf = true

theorem rowOf {w : World} {a : Option Addr} {len cap : Nat} {zs : List Int} (h : IsRow .u8 w a len cap zs) : RowB w a len (zs.take len) ∧ len ≤ maxLen := by
  rcases h with ⟨rfl, rfl, rfl, rfl⟩ | ⟨x, rfl, hl, hm, hz, hcell, hwz⟩
  · exact ⟨⟨rfl, fun i => by simp, .inl rfl⟩, by unfold maxLen; omega⟩
  · refine ⟨⟨by rw [List.length_take]; omega, fun i => ?_, ?_⟩, by omega⟩
    · rw [List.getD_eq_getElem?_getD]
      by_cases hi : i < (zs.take len).length
      · rw [List.getElem?_eq_getElem hi]
        have := hwz _ (List.mem_of_mem_take (List.getElem_mem hi))
        have := bounds_u8 this
        simpa using this
      · rw [List.getElem?_eq_none (by omega)]; simp
    · by_cases h0 : len = 0
      · exact .inl h0
      · obtain ⟨b, off, spot⟩ := x
        have hc := hcell 0 (by omega)
        have hspot : spot = none := by simpa [Addr.add] using World.cell?_spot hc
        subst hspot
        refine .inr ⟨b, off, rfl, ?_, fun i hi => ?_⟩
        · have := block_lt_of_cell hc; simpa [Addr.add] using this
        · have := hcell i (by omega)
          rw [List.getD_eq_getElem?_getD, List.getElem?_take_of_lt hi, ← List.getD_eq_getElem?_getD]
          have ea : (⟨b, off, none⟩ : Addr).add i = ⟨b, off + i, none⟩ := by unfold Addr.add; split <;> simp_all
          rw [ea] at this
          exact this

set_option maxRecDepth 100000 in
set_option maxHeartbeats 8000000 in
theorem walk (a0 : Option Addr) (len0 cap0 : Nat) (z0 : List Int) (a1 : Option Addr) (len1 cap1 : Nat) (z1 : List Int) (w : World) (w0 : IsRow .u8 w a0 len0 cap0 z0) (w1 : IsRow .u8 w a1 len1 cap1 z1) :
    Calls Try.prog 3 #[.slice a0 len0 cap0, .slice a1 len1 cap1] w fun e w' => e = .returned (.bool true) ∧ Below w.heap.size w w' := by
  have hr := rowOf w0
  have hr2 := rowOf w1
  generalize z0.take len0 = bs at hr
  generalize z1.take len1 = cs at hr2
  obtain ⟨hr, hl0⟩ := hr
  obtain ⟨hr2, hl1⟩ := hr2
  have HR := hide hr
  have HR2 := hide hr2
  unfold maxLen at hl0 hl1
  clear w0 w1 hr hr2
  have hbb : ∀ b : Bool, (b != b) = false := by simp
  go_enter Try.func3, Try.ntmps3
  go_wp2_with fail
  refine (big_any _ _ _ _ _ _ _ hl0 hl1).mono ?_
  rintro e v0 ⟨r, rfl, hbig, hv0⟩
  rw [hv0]
  clear hv0 v0
  cases r
  rotate_left
  · go_wp2_with fail
    go_ret
    exact ⟨rfl, Below.refl _ _⟩
  have hn0 := (hbig.out rfl).1
  have hn1 := (hbig.out rfl).2
  clear hbig
  go_wp2_with fail
  refine (drawTurn_any _ _ _ bs _ HR.out hn0).mono ?_
  rintro e v1 ⟨pl, a, k, c, L, rfl, hpl, hk, hlists, hsz, hb⟩
  obtain ⟨m, rfl⟩ : ∃ m : Nat, pl = (m : Int) := ⟨pl.toNat, by omega⟩
  have HLL := hide hlists.1
  have hsz2 : sizeN k L ≤ 1048576 := by omega
  have HSZ := hide hsz2
  have S1 := hide ((Nst.mk (w := w) (v := v1) (nets := []) (rows := []) hb (fun t ht => by simp at ht) (Rs.nil _) (HR2.out.below hb)).net (m : Int) c hlists)
  obtain ⟨g, P, N, K, HK, HG, HSP, HIM⟩ := turn_pack2 (m : Int) k L hsz2
  clear hlists hb HR HR2 hsz hsz2
  go_wp2_with fail
  generalize v1.alloc (.cells #[.int .i64 (m : Int), .slice a k c] 26) = W1 at S1 ⊢
  generalize v1.heap.size = V5 at S1 ⊢
  obtain ⟨⟨hc0, hc1⟩, hl⟩ := S1.out.at V5 m a k c L (by simp)
  refine (HIM.out _ _ _ hl).mono ?_
  rintro e v2 ⟨aT, cT, rfl, hlT, hb⟩
  have S2 := hide ((S1.out.grow hb).net P cT hlT)
  clear hc0 hc1 hl hlT hb S1 HIM
  have hq := (S2.out.at V5 m a k c L (by simp)).1
  obtain ⟨hc0, hc1⟩ := hq
  go_wp2_with fail
  generalize v2.alloc (.cells #[.int .i64 P, .slice aT N cT] 26) = W2 at S2 hc0 hc1 ⊢
  generalize v2.heap.size = V6 at S2 ⊢
  refine (HSP.out _ _ _ (S2.out.at V5 m a k c L (by simp)).2).mono ?_
  rintro e v3 ⟨aW, cW, rfl, hlW, hb⟩
  have S3 := hide ((S2.out.grow hb).net P cW hlW)
  clear hc0 hc1 hlW hb S2 HSP
  obtain ⟨⟨hc0, hc1⟩, hlT⟩ := S3.out.at V6 P aT N cT K (by simp)
  obtain ⟨⟨hd0, hd1⟩, hlW⟩ := S3.out.at v3.heap.size P aW N cW K (by simp)
  have HSN := hide (sameNet_any P aT aW N cT cW K _ hlT hlW HK.out.2)
  clear hlT hlW
  go_wp2_with fail
  generalize v3.alloc (.cells #[.int .i64 P, .slice aW N cW] 26) = W3 at *
  generalize v3.heap.size = V8 at *
  refine HSN.out.mono ?_
  rintro e v4 ⟨rfl, hb⟩
  have ST9 := hide (S3.out.grow hb)
  clear hc0 hc1 hd0 hd1 hb S3 HSN
  cases g
  · go_wp2_with fail
    refine (drawTakers_any _ _ _ cs _ ST9.out.more hn1).mono ?_
    rintro e t1 ⟨pq, aq, kq, cq, M, tq, rfl, hpq, hkq, hlq, hsq, htq, hb⟩
    have TS := hide ((ST9.out.grow hb).net pq cq hlq)
    have hsq2 : sizeN kq M ≤ 1048576 := by omega
    have T1 := hide (fun w h => takesI_any pq tq aq kq cq M w h hsq2)
    have T2 := hide (fun w h => takersSp_any pq tq aq kq cq M w h hsq2)
    have T3 := hide (fun w h => givesI_any pq tq aq kq cq M w h hsq2)
    have T4 := hide (fun w h => giversSp_any pq tq aq kq cq M w h hsq2)
    have T5 := hide (fun w h => freeI_any pq aq kq cq M w h hsq2)
    have T6 := hide (fun w h => freeS_any pq aq kq cq M w h hsq2)
    have T7 := hide (fun w h => hasResI_any pq aq kq cq M w h hsq2)
    have T8 := hide (fun w h => hasResS_any pq aq kq cq M w h hsq2)
    have hr1 := atR_len (fun i => hasB (M.getD (3 * i) []) tq) pq kq M tq
    have hr2 := atR_len (fun i => hasB (M.getD (3 * i + 1) []) tq) pq kq M tq
    generalize atR (fun i => hasB (M.getD (3 * i) []) tq) pq kq M tq = x1 at *
    generalize atR (fun i => hasB (M.getD (3 * i + 1) []) tq) pq kq M tq = x2 at *
    generalize atOk pq kq M tq = g1 at *
    generalize (netOk pq kq M && freeB kq M) = g2 at *
    generalize (netOk pq kq M && resB kq M) = g3 at *
    generalize netOk pq kq M = g4 at *
    have hg1 : (g1 == g1) = true := by simp
    have hg2 : (g2 == g2) = true := by simp
    have hg3 : (g3 == g3) = true := by simp
    have hg4 : (g4 == g4) = true := by simp
    have hx1 := sameB_self x1
    have hx2 := sameB_self x2
    clear hb hlq ST9
    go_wp2_with fail
    generalize t1.alloc (.cells #[.int .i64 pq, .slice aq kq cq] 26) = W1 at TS ⊢
    generalize t1.heap.size = VQ at TS ⊢
    obtain ⟨⟨hc0, hc1⟩, hlq⟩ := TS.out.at VQ pq aq kq cq M (by simp)
    refine (T1.out _ hlq).mono ?_
    rintro e t2 ⟨ax1, bx1, nx1, cx1, rfl, hob, _, hb⟩
    have TS2 := hide ((TS.out.grow hb).add hob.row)
    have hlx1 : nx1 ≤ 5 := by have := hob.1; omega
    clear hc0 hc1 hlq hob hb TS T1
    obtain ⟨⟨hc0, hc1⟩, hlq⟩ := TS2.out.at VQ pq aq kq cq M (by simp)
    go_wp2_with fail
    refine (T2.out _ hlq).mono ?_
    rintro e t3 ⟨ay1, ny1, cy1, rfl, hob, hb⟩
    have TS := hide ((TS2.out.grow hb).add hob)
    clear hc0 hc1 hlq hob hb TS2 T2
    obtain ⟨⟨hc0, hc1⟩, hlq⟩ := TS.out.at VQ pq aq kq cq M (by simp)
    go_wp2_with fail
    refine (T3.out _ hlq).mono ?_
    rintro e t4 ⟨ax2, bx2, nx2, cx2, rfl, hob, _, hb⟩
    have TS2 := hide ((TS.out.grow hb).add hob.row)
    have hlx2 : nx2 ≤ 5 := by have := hob.1; omega
    clear hc0 hc1 hlq hob hb TS T3
    obtain ⟨⟨hc0, hc1⟩, hlq⟩ := TS2.out.at VQ pq aq kq cq M (by simp)
    go_wp2_with fail
    refine (T4.out _ hlq).mono ?_
    rintro e t5 ⟨ay2, ny2, cy2, rfl, hob, hb⟩
    have TS := hide ((TS2.out.grow hb).add hob)
    clear hc0 hc1 hlq hob hb TS2 T4
    obtain ⟨⟨hc0, hc1⟩, hlq⟩ := TS.out.at VQ pq aq kq cq M (by simp)
    go_wp2_with fail
    refine (T5.out _ hlq).mono ?_
    rintro e t6 ⟨rfl, hb⟩
    have TS2 := hide (TS.out.grow hb)
    clear hc0 hc1 hlq hb TS T5
    obtain ⟨⟨hc0, hc1⟩, hlq⟩ := TS2.out.at VQ pq aq kq cq M (by simp)
    go_wp2_with fail
    refine (T6.out _ hlq).mono ?_
    rintro e t7 ⟨rfl, hb⟩
    have TS := hide (TS2.out.grow hb)
    clear hc0 hc1 hlq hb TS2 T6
    obtain ⟨⟨hc0, hc1⟩, hlq⟩ := TS.out.at VQ pq aq kq cq M (by simp)
    go_wp2_with fail
    refine (T7.out _ hlq).mono ?_
    rintro e t8 ⟨rfl, hb⟩
    have TS2 := hide (TS.out.grow hb)
    clear hc0 hc1 hlq hb TS T7
    obtain ⟨⟨hc0, hc1⟩, hlq⟩ := TS2.out.at VQ pq aq kq cq M (by simp)
    go_wp2_with fail
    refine (T8.out _ hlq).mono ?_
    rintro e t9 ⟨rfl, hb⟩
    have TS := hide (TS2.out.grow hb)
    clear hc0 hc1 hlq hb TS2 T8
    go_wp2_with fail
    refine (sameI_any _ _ _ _ _ _ x1 x1 _ (TS.out.rows.at ax1 nx1 x1 (by simp)) (TS.out.rows.at ay1 ny1 x1 (by simp)) (by omega)).mono ?_
    rw [hx1]
    rintro e t10 ⟨rfl, qa, rfl⟩
    have TS2 := hide (TS.out.grow (below_drewN' t9 qa))
    generalize t9.drewN qa = W10 at TS2 ⊢
    clear TS
    go_wp2_with fail
    refine (sameI_any _ _ _ _ _ _ x2 x2 _ (TS2.out.rows.at ax2 nx2 x2 (by simp)) (TS2.out.rows.at ay2 ny2 x2 (by simp)) (by omega)).mono ?_
    rw [hx2]
    rintro e t11 ⟨rfl, qb, rfl⟩
    have TS := hide (TS2.out.grow (below_drewN' W10 qb))
    clear TS2
    go_wp2_with fail
    go_ret
    exact ⟨rfl, TS.out.old⟩
  obtain ⟨rfl, rfl, rfl, htok⟩ := HG.out rfl
  have HTO := hide htok
  clear HG htok
  have S4 := hide ST9.out
  clear ST9
  have hsT := HK.out.2
  have HST := hide hsT
  clear hsT HK
  obtain ⟨⟨hc0, hc1⟩, hlT⟩ := S4.out.at V6 m aT N cT (turnL N L) (by simp)
  have HBK := hide (turnBack_any m aT N cT L _ HTO.out HLL.out HSZ.out hlT)
  clear hlT
  go_wp2_with fail
  refine HBK.out.mono ?_
  rintro e v5 ⟨aB, cB, rfl, hlB, hb⟩
  have S5 := hide ((S4.out.grow hb).net m cB hlB)
  clear hc0 hc1 hlB hb S4 HBK
  obtain ⟨⟨hc0, hc1⟩, hlB⟩ := S5.out.at v5.heap.size m aB N cB L (by simp)
  obtain ⟨⟨hd0, hd1⟩, hlN⟩ := S5.out.at V5 m a N c L (by simp)
  have HSN := hide (sameNet_any m aB a N cB c L _ hlB hlN HSZ.out)
  clear hlB hlN
  go_wp2_with fail
  generalize v5.alloc (.cells #[.int .i64 (m : Int), .slice aB N cB] 26) = W5 at *
  generalize v5.heap.size = V10 at *
  refine HSN.out.mono ?_
  rintro e v6 ⟨rfl, hb⟩
  have S6 := hide (S5.out.grow hb)
  clear hc0 hc1 hd0 hd1 hb S5 HSN
  obtain ⟨i0, hi, hz0, hz1, hz2⟩ := info_split Try.info3
  have P0 : Hid (PutSt v6 v6 (.slice none 0 0) 0 []) := ⟨World.ownsRow_nil _ _ _ _, Below.refl _ _⟩
  go_wp2_with fail
  go_loopw [12, 13] (fun u i wr => ∃ (j : Nat) (ys : List Int), j ≤ m ∧ i = .int .i64 j ∧ Hid (PutSt v6 wr u j ys)) (fun _ i _ => m - (intOf i).toNat)
  case atStart => exact ⟨0, [], Nat.zero_le _, rfl, P0⟩
  case round =>
    obtain ⟨j, ys, hj, rfl, P1⟩ := hrel
    clear P0
    obtain ⟨⟨hc0, hc1⟩, _⟩ := (S6.out.grow P1.out.bel).at V5 m a N c L (by simp)
    by_cases hlt : j < m
    · have hj1 : (j : Int) < (m : Int) := by omega
      have hj2 : (2 : Int) * (j : Int) < 64 := by omega
      go_wp2_with fail
      refine (number_any _ _ _ cs _ (S6.out.grow P1.out.bel).more hn1).mono ?_
      rintro e v7 ⟨z, rfl, hz, rfl⟩
      go_wp2_with (at_builtin; refine wpList_append_own _ rfl (.tmp 81) (.tmp 89) 31 rfl v6.heap.size 3 i0 (.int .i64 0) 1 8 Try.underlying31 hi hz0 hz1 hz2 rfl (by decide) u12 j _ rfl (P1.out.alloc _).own ⟨_, 0, none⟩ 1 1 [.int .i64 _] rfl rfl (cell_one_new _ _ _) (by simp [Value.oneCell']) (by unfold maxLen; omega) (by omega) (P1.out.alloc _).bel.size ?_; intro v' W' r1 r2 _; have R := hide ((P1.out.alloc _).step (q := 1) (zs := [_]) r1 r2); clear r1 r2)
      go_roundw
      case rel => exact ⟨j + 1, _, by omega, by go_num, R⟩
      case measure => simp [intOf]; omega
    · have hjm : j = m := by omega
      subst hjm
      obtain ⟨ad, cd, rfl, hrd⟩ := ownsRow_row2 P1.out.own
      have S7 := hide ((S6.out.grow P1.out.bel).add hrd)
      have HYL := hide hrd.1
      clear hrd P1
      generalize wr = W7 at *
      go_wp2_with fail
      go_loopw [94] (fun i v => ∃ q : Nat, q ≤ N ∧ i = .int .i64 q ∧ Hid (Below W7.heap.size W7 v)) (fun i _ => N - (intOf i).toNat)
      case atStart => exact ⟨0, Nat.zero_le _, rfl, Below.refl _ _⟩
      case round =>
        obtain ⟨q, hq, rfl, hbv⟩ := hrel
        clear hc0 hc1
        have S8 := hide (S7.out.grow hbv.out)
        by_cases hql : q < N
        · obtain ⟨⟨hc0, hc1⟩, hl5⟩ := S8.out.at V5 j a N c L (by simp)
          have HF := hide (implFire_any j a ad N c j cd L ys q _ hl5 (S8.out.rows.at ad j ys (by simp)) HSZ.out (by omega))
          have hfl := fireR_len j N L ys q
          have hyl := HYL.out
          have HBF := hide (fun h => back_facts (ys := ys) (t := (q : Int)) HTO.out h)
          obtain ⟨gf, hgf⟩ : ∃ g, Hid (fireOk j N L ys q = g) := ⟨_, rfl⟩
          obtain ⟨x, hx⟩ : ∃ x, Hid (fireR j N L ys q = x) := ⟨_, rfl⟩
          rw [hgf.out, hx.out] at HF
          rw [hgf.out] at HBF
          rw [hx.out] at hfl
          clear hl5
          go_wp2_with fail
          refine HF.out.mono ?_
          rintro e v8 ⟨ax, bx, nx, rfl, hblk, _, hb⟩
          have hnx : nx ≤ 17 := by have := hblk.1; omega
          have S9 := hide ((S8.out.grow hb).add hblk.row)
          have HB8 := hide (hbv.out.trans (hb.mono hbv.out.size))
          clear hc0 hc1 hblk hb S8 HF hfl hyl
          cases gf
          · go_wp2_with fail
            go_roundw
            case rel => exact ⟨q + 1, by omega, by go_num, HB8⟩
            case measure => simp [intOf]; omega
          · have hbf := HBF.out rfl
            obtain ⟨⟨hc0, hc1⟩, hl6⟩ := S9.out.at V6 j aT N cT (turnL N L) (by simp)
            have HF := hide (implFire_any j aT ax N cT nx nx (turnL N L) x q _ hl6 (S9.out.rows.at ax nx x (by simp)) HST.out (by omega))
            have e1 := hbf.ok
            have e2 := hbf.eq
            rw [hx.out] at e1 e2
            rw [e1, e2] at HF
            clear hl6 hbf e1 e2
            go_wp2_with fail
            refine HF.out.mono ?_
            rintro e v9 ⟨ay, by', ny, rfl, hblk, _, hb⟩
            have hny : ny ≤ 17 := by have h1 := hblk.1; have h2 := HYL.out; omega
            have S10 := hide ((S9.out.grow hb).add hblk.row)
            have HB9 := hide (HB8.out.trans (hb.mono HB8.out.size))
            clear hc0 hc1 hblk hb S9 HF
            go_wp2_with fail
            refine (sameI_any _ _ _ _ _ _ ys ys _ (S10.out.rows.at ay ny ys (by simp)) (S10.out.rows.at ad j ys (by simp)) (by omega)).mono ?_
            rw [sameB_self ys]
            rintro e v10 ⟨rfl, qd, rfl⟩
            have HB10 := hide (HB9.out.trans ((below_drewN' v9 qd).mono HB9.out.size))
            clear S10
            go_wp2_with fail
            go_roundw
            case rel => exact ⟨q + 1, by omega, by go_num, HB10⟩
            case measure => simp [intOf]; omega
        · have hq' : q = N := by omega
          subst hq'
          have ST9 := hide S8.out
          clear S8
          go_wp2_with fail
          refine (drawTakers_any _ _ _ cs _ ST9.out.more hn1).mono ?_
          rintro e t1 ⟨pq, aq, kq, cq, M, tq, rfl, hpq, hkq, hlq, hsq, htq, hb⟩
          have TS := hide ((ST9.out.grow hb).net pq cq hlq)
          have hsq2 : sizeN kq M ≤ 1048576 := by omega
          have T1 := hide (fun w h => takesI_any pq tq aq kq cq M w h hsq2)
          have T2 := hide (fun w h => takersSp_any pq tq aq kq cq M w h hsq2)
          have T3 := hide (fun w h => givesI_any pq tq aq kq cq M w h hsq2)
          have T4 := hide (fun w h => giversSp_any pq tq aq kq cq M w h hsq2)
          have T5 := hide (fun w h => freeI_any pq aq kq cq M w h hsq2)
          have T6 := hide (fun w h => freeS_any pq aq kq cq M w h hsq2)
          have T7 := hide (fun w h => hasResI_any pq aq kq cq M w h hsq2)
          have T8 := hide (fun w h => hasResS_any pq aq kq cq M w h hsq2)
          have hr1 := atR_len (fun i => hasB (M.getD (3 * i) []) tq) pq kq M tq
          have hr2 := atR_len (fun i => hasB (M.getD (3 * i + 1) []) tq) pq kq M tq
          generalize atR (fun i => hasB (M.getD (3 * i) []) tq) pq kq M tq = x1 at *
          generalize atR (fun i => hasB (M.getD (3 * i + 1) []) tq) pq kq M tq = x2 at *
          generalize atOk pq kq M tq = g1 at *
          generalize (netOk pq kq M && freeB kq M) = g2 at *
          generalize (netOk pq kq M && resB kq M) = g3 at *
          generalize netOk pq kq M = g4 at *
          have hg1 : (g1 == g1) = true := by simp
          have hg2 : (g2 == g2) = true := by simp
          have hg3 : (g3 == g3) = true := by simp
          have hg4 : (g4 == g4) = true := by simp
          have hx1 := sameB_self x1
          have hx2 := sameB_self x2
          clear hb hlq ST9
          go_wp2_with fail
          generalize t1.alloc (.cells #[.int .i64 pq, .slice aq kq cq] 26) = W1 at TS ⊢
          generalize t1.heap.size = VQ at TS ⊢
          obtain ⟨⟨hc0, hc1⟩, hlq⟩ := TS.out.at VQ pq aq kq cq M (by simp)
          refine (T1.out _ hlq).mono ?_
          rintro e t2 ⟨ax1, bx1, nx1, cx1, rfl, hob, _, hb⟩
          have TS2 := hide ((TS.out.grow hb).add hob.row)
          have hlx1 : nx1 ≤ 5 := by have := hob.1; omega
          clear hc0 hc1 hlq hob hb TS T1
          obtain ⟨⟨hc0, hc1⟩, hlq⟩ := TS2.out.at VQ pq aq kq cq M (by simp)
          go_wp2_with fail
          refine (T2.out _ hlq).mono ?_
          rintro e t3 ⟨ay1, ny1, cy1, rfl, hob, hb⟩
          have TS := hide ((TS2.out.grow hb).add hob)
          clear hc0 hc1 hlq hob hb TS2 T2
          obtain ⟨⟨hc0, hc1⟩, hlq⟩ := TS.out.at VQ pq aq kq cq M (by simp)
          go_wp2_with fail
          refine (T3.out _ hlq).mono ?_
          rintro e t4 ⟨ax2, bx2, nx2, cx2, rfl, hob, _, hb⟩
          have TS2 := hide ((TS.out.grow hb).add hob.row)
          have hlx2 : nx2 ≤ 5 := by have := hob.1; omega
          clear hc0 hc1 hlq hob hb TS T3
          obtain ⟨⟨hc0, hc1⟩, hlq⟩ := TS2.out.at VQ pq aq kq cq M (by simp)
          go_wp2_with fail
          refine (T4.out _ hlq).mono ?_
          rintro e t5 ⟨ay2, ny2, cy2, rfl, hob, hb⟩
          have TS := hide ((TS2.out.grow hb).add hob)
          clear hc0 hc1 hlq hob hb TS2 T4
          obtain ⟨⟨hc0, hc1⟩, hlq⟩ := TS.out.at VQ pq aq kq cq M (by simp)
          go_wp2_with fail
          refine (T5.out _ hlq).mono ?_
          rintro e t6 ⟨rfl, hb⟩
          have TS2 := hide (TS.out.grow hb)
          clear hc0 hc1 hlq hb TS T5
          obtain ⟨⟨hc0, hc1⟩, hlq⟩ := TS2.out.at VQ pq aq kq cq M (by simp)
          go_wp2_with fail
          refine (T6.out _ hlq).mono ?_
          rintro e t7 ⟨rfl, hb⟩
          have TS := hide (TS2.out.grow hb)
          clear hc0 hc1 hlq hb TS2 T6
          obtain ⟨⟨hc0, hc1⟩, hlq⟩ := TS.out.at VQ pq aq kq cq M (by simp)
          go_wp2_with fail
          refine (T7.out _ hlq).mono ?_
          rintro e t8 ⟨rfl, hb⟩
          have TS2 := hide (TS.out.grow hb)
          clear hc0 hc1 hlq hb TS T7
          obtain ⟨⟨hc0, hc1⟩, hlq⟩ := TS2.out.at VQ pq aq kq cq M (by simp)
          go_wp2_with fail
          refine (T8.out _ hlq).mono ?_
          rintro e t9 ⟨rfl, hb⟩
          have TS := hide (TS2.out.grow hb)
          clear hc0 hc1 hlq hb TS2 T8
          go_wp2_with fail
          refine (sameI_any _ _ _ _ _ _ x1 x1 _ (TS.out.rows.at ax1 nx1 x1 (by simp)) (TS.out.rows.at ay1 ny1 x1 (by simp)) (by omega)).mono ?_
          rw [hx1]
          rintro e t10 ⟨rfl, qa, rfl⟩
          have TS2 := hide (TS.out.grow (below_drewN' t9 qa))
          generalize t9.drewN qa = W10 at TS2 ⊢
          clear TS
          go_wp2_with fail
          refine (sameI_any _ _ _ _ _ _ x2 x2 _ (TS2.out.rows.at ax2 nx2 x2 (by simp)) (TS2.out.rows.at ay2 ny2 x2 (by simp)) (by omega)).mono ?_
          rw [hx2]
          rintro e t11 ⟨rfl, qb, rfl⟩
          have TS := hide (TS2.out.grow (below_drewN' W10 qb))
          clear TS2
          go_wp2_with fail
          go_ret
          exact ⟨rfl, TS.out.old⟩

/-! ### THE ROW's STEP: WRITTEN OUT: LEAVE IT -/
set_option maxRecDepth 100000 in
theorem lifted (os : Os) (started : os.Started) (H : Type) (enc : TypeId × Value → H) :
    ReturnsInHanded {} Try.checked os 3 .any (Rows.fnTurnedSpec.pre6 enc Try.prog Try.f3 Rows.fnTurnedRow.domain false) (Rows.fnTurnedSpec.post enc Try.prog Try.f3 false true false false) := by
  refine returnsInHanded_of_change (C := Try.checked) own started (by kernel_rfl) Try.func3
    (ChangeSpec.witness6 (enc := enc) (C := Try.checked) false ⟨#[], #[.slice none 0 0, .slice none 0 0], []⟩ 8 (by kernel_rfl) (by kernel_rfl) (by kernel_rfl) (by kernel_rfl)) ?_
  intro W base args ds gs before hval0 hW hcnd _
  have hval : ∀ (j : Nat) t v, Try.f3.params[j]? = some t → args[j]? = some v → Value.okWide Try.prog W .any base t v := hval0
  have hW' := hW
  obtain ⟨p, q, hA0, hV, rfl, hfz, hnd⟩ := hW
  have hA : DataW.TrodAll enc Try.prog W 0 (fun _ => true) true Try.f3.params.toList args.toList ds p := hA0
  rw [Try.params3] at hA hval
  obtain ⟨v0, vs0, d0, ds0, p0, q0, hargs, rfl, rfl, h0, r0⟩ := trodAll_cons hA
  obtain ⟨v1, vs1, d1, ds1, p1, q1, rfl, rfl, rfl, h1, r1⟩ := trodAll_cons r0
  obtain ⟨rfl, rfl, rfl⟩ := trodAll_nil r1
  obtain rfl : args = #[v0, v1] := by cases args; simp_all
  obtain ⟨rfl, rfl⟩ := trodVars_none hV
  obtain ⟨a0, len0, cap0, rfl⟩ := okWide_slice Try.underlying22 (hval 0 22 v0 rfl rfl)
  have k0 := h0
  have lt0 : ∀ x ∈ p0, x.block < W.heap.size := by obtain ⟨m, hm⟩ := k0; exact DataW.trod_lt m _ _ _ hm
  obtain ⟨z0, w0⟩ : ∃ zs, IsRow .u8 W a0 len0 cap0 zs := by
    obtain ⟨fuel, hf⟩ := h0
    rcases open_ints Try.underlying22 Try.underlying5 (by kernel_rfl) hf with ⟨hcs, _⟩ | ⟨x, l, c, zs, hcs, _, hl, hm, hz, _, hcell, hwz⟩
    · simp [Value.cells] at hcs
      obtain ⟨rfl, rfl, rfl⟩ := hcs
      exact ⟨[], .inl ⟨rfl, rfl, rfl, rfl⟩⟩
    · simp [Value.cells] at hcs
      obtain ⟨rfl, rfl, rfl⟩ := hcs
      exact ⟨zs, .inr ⟨_, rfl, hl, hm, by simpa using hz, hcell, hwz⟩⟩
  obtain ⟨a1, len1, cap1, rfl⟩ := okWide_slice Try.underlying22 (hval 1 22 v1 rfl rfl)
  have k1 := h1
  have lt1 : ∀ x ∈ p1, x.block < W.heap.size := by obtain ⟨m, hm⟩ := k1; exact DataW.trod_lt m _ _ _ hm
  obtain ⟨z1, w1⟩ : ∃ zs, IsRow .u8 W a1 len1 cap1 zs := by
    obtain ⟨fuel, hf⟩ := h1
    rcases open_ints Try.underlying22 Try.underlying5 (by kernel_rfl) hf with ⟨hcs, _⟩ | ⟨x, l, c, zs, hcs, _, hl, hm, hz, _, hcell, hwz⟩
    · simp [Value.cells] at hcs
      obtain ⟨rfl, rfl, rfl⟩ := hcs
      exact ⟨[], .inl ⟨rfl, rfl, rfl, rfl⟩⟩
    · simp [Value.cells] at hcs
      obtain ⟨rfl, rfl, rfl⟩ := hcs
      exact ⟨zs, .inr ⟨_, rfl, hl, hm, by simpa using hz, hcell, hwz⟩⟩
  clear hA0 hval0
  refine (walk a0 len0 cap0 z0 a1 len1 cap1 z1 W w0 w1).mono fun e W' ⟨he, bel⟩ => ?_
  subst he
  exact ⟨_, rfl, _, _, _, [], _, [], hW', trodAll_mk1 (shut_bool Try.underlying4 _), (trodAll_cons_mk (Below.trod laidOut (by kernel_rfl) (of_decide_eq_true (by kernel_rfl)) k0 bel lt0) (trodAll_cons_mk (Below.trod laidOut (by kernel_rfl) (of_decide_eq_true (by kernel_rfl)) k1 bel lt1) trodAll_mk0)), rfl, bel.frame _, fun h => by cases h⟩

theorem over : Rows.fnTurnedRow.holds Try.pinned (OpenSpec.ofChange Rows.fnTurnedSpec) :=
  OpenClaim.holds_of_wide 3 Try.f3 rfl rfl rfl rfl rfl rfl rfl ⟨rfl, rfl, rfl, rfl, rfl⟩ rfl rfl rfl rfl rfl (by kernel_rfl) Try.func3 (by kernel_rfl)
    (of_decide_eq_true (by kernel_rfl)) (by unfold Func.isWrapper; first | (rw [if_pos (by decide +kernel)]; kernel_rfl) | (rw [if_neg (by decide +kernel)]; exact ⟨rfl, rfl⟩))
    (fun os started H enc _ => lifted os started H enc)

/-- ████ THE STATEMENT ████ -/
theorem proved : Rows.FnTurnedSaid := over
#print axioms proved
end Go.Proofs.Ytdhnhpjcoeglmaa.fnTurned

namespace Go.Proofs.Ytdhnhpjcoeglmaa
theorem fnTurned_holds : Rows.FnTurnedSaid := fnTurned.proved
end Go.Proofs.Ytdhnhpjcoeglmaa
