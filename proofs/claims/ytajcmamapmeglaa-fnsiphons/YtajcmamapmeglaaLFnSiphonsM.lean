/- Proved: for every two lists of bytes, in whatever memory, the law FnSiphons returns true and leaves its arguments as they were; no condition. -/
import Derived.Test.YtajcmamapmeglaaP23
import Derived.WalkKit
import Derived.ProofKit
import Derived.OpenShut
import Derived.ShutString
import Derived.ChangeOld
import Derived.Below
namespace Go.Proofs.Ytajcmamapmeglaa.fnSiphons
open Go.ChangeShapes Go.WideShapes Go.ChangeAt Go.RowKit
open Go.ChangeMaps (open_string shut_string)
set_option linter.unusedVariables false

theorem own : ownKnob Try.prog.godebug = none := by kernel_rfl
theorem laidOut : laidOutB Try.prog = true := by kernel_rfl

/-- WHAT THE WALK IS TOLD OF A SLICE OF INTEGERS THAT CAME IN: it is nil; or it leads to a row of 'cap' cells, the numbers 'zs' (the first 'len' are its elements, the rest its spare room), each fitting its kind. -/
def IsRow (k : IntKind) (w : World) (a : Option Addr) (len cap : Nat) (zs : List Int) : Prop :=
  (a = none ∧ len = 0 ∧ cap = 0 ∧ zs = []) ∨
  ∃ x, a = some x ∧ len ≤ cap ∧ cap ≤ maxLen ∧ zs.length = cap ∧ (∀ i, i < zs.length → w.cell? (x.add i) = some (.int k (zs.getD i 0))) ∧ ∀ n ∈ zs, (Lit.int k n).wf = true

theorem rowOf {w : World} {a : Option Addr} {len cap : Nat} {zs : List Int} (h : IsRow .u8 w a len cap zs) : RowB w a len (zs.take len) ∧ len ≤ maxLen := by
  rcases h with ⟨rfl, rfl, rfl, rfl⟩ | ⟨x, rfl, hl, hm, hz, hcell, hwz⟩
  · exact ⟨⟨rfl, fun i => by simp, .inl rfl⟩, by unfold maxLen; omega⟩
  · refine ⟨⟨by rw [List.length_take]; omega, fun i => ?_, ?_⟩, by omega⟩
    · rw [List.getD_eq_getElem?_getD]
      by_cases hi : i < (zs.take len).length
      · rw [List.getElem?_eq_getElem hi]
        have := hwz _ (List.mem_of_mem_take (List.getElem_mem hi))
        have := bounds_u8 this
        simpa using this
      · rw [List.getElem?_eq_none (by omega)]; simp
    · by_cases h0 : len = 0
      · exact .inl h0
      · obtain ⟨b, off, spot⟩ := x
        have hc := hcell 0 (by omega)
        have hspot : spot = none := by simpa [Addr.add] using World.cell?_spot hc
        subst hspot
        refine .inr ⟨b, off, rfl, ?_, fun i hi => ?_⟩
        · have := block_lt_of_cell hc; simpa [Addr.add] using this
        · have := hcell i (by omega)
          rw [List.getD_eq_getElem?_getD, List.getElem?_take_of_lt hi, ← List.getD_eq_getElem?_getD]
          have ea : (⟨b, off, none⟩ : Addr).add i = ⟨b, off + i, none⟩ := by unfold Addr.add; split <;> simp_all
          rw [ea] at this
          exact this

set_option maxRecDepth 100000 in
set_option maxHeartbeats 8000000 in
theorem walk (a0 : Option Addr) (len0 cap0 : Nat) (z0 : List Int) (a1 : Option Addr) (len1 cap1 : Nat) (z1 : List Int) (w : World) (w0 : IsRow .u8 w a0 len0 cap0 z0) (w1 : IsRow .u8 w a1 len1 cap1 z1) :
    Calls Try.prog 5 #[.slice a0 len0 cap0, .slice a1 len1 cap1] w fun e w' => e = .returned (.bool true) ∧ Below w.heap.size w w' := by
  have hr := rowOf w0
  have hr2 := rowOf w1
  generalize z0.take len0 = bs at hr
  generalize z1.take len1 = cs at hr2
  obtain ⟨hr, hl0⟩ := hr
  obtain ⟨hr2, hl1⟩ := hr2
  have HR := hide hr
  have HR2 := hide hr2
  unfold maxLen at hl0 hl1
  clear w0 w1 hr hr2
  have hbb : ∀ b : Bool, (b != b) = false := by simp
  obtain ⟨i0, hi, hz0, hz1, hz2⟩ := info_split Try.info3
  go_enter Try.func5, Try.ntmps5
  go_wp2_with fail
  refine (big_any _ _ _ _ _ _ _ hl0 hl1).mono ?_
  rintro e v0 ⟨r, rfl, hbig, rfl⟩
  cases r
  rotate_left
  · go_wp2_with fail
    go_ret
    exact ⟨rfl, Below.refl _ _⟩
  have hn0 := (hbig.out rfl).1
  have hn1 := (hbig.out rfl).2
  clear hbig
  go_wp2_with fail
  refine (drawIs_any _ _ _ bs _ HR.out hn0).mono ?_
  rintro e v1 ⟨pl, a, k, c, L, b, n, d, xs, rfl, hpl, hk, hsz, hn, hstab, hb⟩
  obtain ⟨m, rfl⟩ : ∃ m : Nat, pl = (m : Int) := ⟨pl.toNat, by omega⟩
  obtain ⟨hlists, hrow⟩ := hstab v1 (Nat.le_refl _) (fun _ _ _ => rfl)
  have hA := below_al v1 (.cells #[.int .i64 (m : Int), .slice a k c] 26)
  have S1 : Hid (Mst v0 (v1.alloc (.cells #[.int .i64 (m : Int), .slice a k c] 26)) v1.heap.size (m : Int) a k c L [(b, n, xs)] a1 len1 cs) :=
    ⟨hb.trans (hA.mono hb.size), heap_alloc_new _ _, hlists.below hA, Rs.cons (hrow.below hA) (Rs.nil _), (HR2.out.below hb).below hA⟩
  have HXL := hide hrow.1
  clear hlists hrow hb hA HR HR2 hstab
  have hsz2 : sizeN k L ≤ 1048576 := by omega
  have hn2 : n ≤ 1048576 := by omega
  have hpm : (m : Int) ≤ 9223372036854775807 := by omega
  obtain ⟨g, hgg⟩ : ∃ g, Hid (ssOk (m : Int) k L xs = g) := ⟨_, rfl⟩
  obtain ⟨fs, hfs⟩ : ∃ g, Hid ((ssOk (m : Int) k L xs && !slips true (maskL xs) k L) = g) := ⟨_, rfl⟩
  obtain ⟨ft, hft⟩ : ∃ g, Hid ((ssOk (m : Int) k L xs && !slips false (maskL xs) k L) = g) := ⟨_, rfl⟩
  go_wp2_with fail
  generalize v1.alloc (.cells #[.int .i64 (m : Int), .slice a k c] 26) = W1 at S1 ⊢
  generalize v1.heap.size = V at S1 ⊢
  have hc0 := S1.out.c0
  have hc1 := S1.out.c1
  go_wp2_with fail
  refine (isSiphonI_any _ _ _ _ _ _ _ L xs _ S1.out.net (S1.out.rows.at b n xs (by simp)) hsz2 hn2 hpm).mono ?_
  unfold IssEnd
  rw [hfs.out, hgg.out]
  rintro e v2 ⟨rfl, hb⟩
  have S2 := hide (S1.out.grow hb)
  clear hc0 hc1 hb S1
  have hc0 := S2.out.c0
  have hc1 := S2.out.c1
  go_wp2_with fail
  refine (isSiphonS_any _ _ _ _ _ _ _ L xs _ S2.out.net (S2.out.rows.at b n xs (by simp)) hsz2 hn2).mono ?_
  unfold IssEnd
  rw [hfs.out, hgg.out]
  rintro e v3 ⟨rfl, hb⟩
  have S3 := hide (S2.out.grow hb)
  clear hc0 hc1 hb S2
  have hc0 := S3.out.c0
  have hc1 := S3.out.c1
  go_wp2_with fail
  refine (isTrapI_any _ _ _ _ _ _ _ L xs _ S3.out.net (S3.out.rows.at b n xs (by simp)) hsz2 hn2 hpm).mono ?_
  unfold IssEnd
  rw [hft.out, hgg.out]
  rintro e v4 ⟨rfl, hb⟩
  have S4 := hide (S3.out.grow hb)
  clear hc0 hc1 hb S3
  have hc0 := S4.out.c0
  have hc1 := S4.out.c1
  go_wp2_with fail
  refine (isTrapS_any _ _ _ _ _ _ _ L xs _ S4.out.net (S4.out.rows.at b n xs (by simp)) hsz2 hn2).mono ?_
  unfold IssEnd
  rw [hft.out, hgg.out]
  rintro e v5 ⟨rfl, hb⟩
  have S5 := hide (S4.out.grow hb)
  clear hc0 hc1 hb S4
  have hc0 := S5.out.c0
  have hc1 := S5.out.c1
  go_wp2_with fail
  refine (bigTrapI_any _ _ _ _ _ _ _ L xs _ S5.out.net (S5.out.rows.at b n xs (by simp)) hsz2 hn2 hpm).mono ?_
  rintro e v6 ⟨aT, bT, nt, ct, ts, rfl, hob, _, hzt, hb⟩
  rw [hgg.out]
  have HZT := hide hzt
  have hnt : nt ≤ 16 := by have h1 := bgZ_len hzt; have := hob.row.1; omega
  have S6 := hide ((S5.out.grow hb).add hob.row)
  clear hc0 hc1 hb hob S5 hzt
  have hc0 := S6.out.c0
  have hc1 := S6.out.c1
  go_wp2_with fail
  refine (bigTrapS_any _ _ _ _ _ _ _ L xs _ S6.out.net (S6.out.rows.at b n xs (by simp)) hsz2 hn2).mono ?_
  rintro e v7 ⟨au, nu, cu, ts2, rfl, hrw, _, hzt, hb⟩
  rw [hgg.out]
  obtain rfl := bgZ_one HZT.out hzt
  have hnu : nu ≤ 16 := by have h1 := bgZ_len hzt; have := hrw.1; omega
  have S7 := hide ((S6.out.grow hb).add hrw)
  clear hc0 hc1 hb hrw S6 hzt
  have hc0 := S7.out.c0
  have hc1 := S7.out.c1
  go_wp2_with fail
  refine (bigSiphonI_any _ _ _ _ _ _ _ L xs _ S7.out.net (S7.out.rows.at b n xs (by simp)) hsz2 hn2 hpm).mono ?_
  rintro e v8 ⟨ar, br, nr, cr, rs, rfl, hob, _, hzt, hb⟩
  rw [hgg.out]
  have HZR := hide hzt
  have hnr : nr ≤ 16 := by have h1 := bgZ_len hzt; have := hob.row.1; omega
  have S8 := hide ((S7.out.grow hb).add hob.row)
  clear hc0 hc1 hb hob S7 hzt
  have hc0 := S8.out.c0
  have hc1 := S8.out.c1
  go_wp2_with fail
  refine (bigSiphonS_any _ _ _ _ _ _ _ L xs _ S8.out.net (S8.out.rows.at b n xs (by simp)) hsz2 hn2).mono ?_
  rintro e v9 ⟨ao, no, co, rs2, rfl, hrw, _, hzt, hb⟩
  rw [hgg.out]
  obtain rfl := bgZ_one HZR.out hzt
  have hno : no ≤ 16 := by have h1 := bgZ_len hzt; have := hrw.1; omega
  have S9 := hide ((S8.out.grow hb).add hrw)
  clear hc0 hc1 hb hrw S8 hzt
  have hst := sameB_self ts2
  have hsr := sameB_self rs2
  go_wp2_with fail
  refine (sameI_any _ _ _ _ _ _ ts2 ts2 _ (S9.out.rows.at aT nt ts2 (by simp)) (S9.out.rows.at au nu ts2 (by simp)) (by omega)).mono ?_
  rw [hst]
  rintro e v10 ⟨rfl, q, rfl⟩
  have S10 := hide (S9.out.grow (below_drewN' v9 q))
  clear S9
  generalize v9.drewN q = W10 at S10 ⊢
  go_wp2_with fail
  refine (sameI_any _ _ _ _ _ _ rs2 rs2 _ (S10.out.rows.at ar nr rs2 (by simp)) (S10.out.rows.at ao no rs2 (by simp)) (by omega)).mono ?_
  rw [hsr]
  rintro e v11 ⟨rfl, q2, rfl⟩
  have S11 := hide (S10.out.grow (below_drewN' W10 q2))
  clear S10
  generalize W10.drewN q2 = W11 at S11 ⊢
  cases g
  · go_wp2_with fail
    go_ret
    exact ⟨rfl, S11.out.old⟩
  obtain ⟨hm1, hm16⟩ : 1 ≤ m ∧ m ≤ 16 := by obtain ⟨_, h1, h2, _⟩ := ss_parts hgg.out; omega
  obtain ⟨tk1, tk2, tk3, tk4⟩ := bg_facts hgg.out HZT.out
  obtain ⟨rk1, rk2, rk3, rk4⟩ := bg_facts hgg.out HZR.out
  have TK := hide (And.intro tk1 tk2)
  have RK := hide (And.intro rk1 rk2)
  have htq : sameB ts2 xs = ft := by rw [← tk4, ← hft.out, hgg.out]; simp
  have hrq : sameB rs2 xs = fs := by rw [← rk4, ← hfs.out, hgg.out]; simp
  have e1 : (ssOk (m : Int) k L ts2 && !slips false (maskL ts2) k L) = true := by rw [tk1, tk2]; rfl
  have e2 : (ssOk (m : Int) k L rs2 && !slips true (maskL rs2) k L) = true := by rw [rk1, rk2]; rfl
  have E1 := hide (And.intro e1 tk1)
  have E2 := hide (And.intro e2 rk1)
  have HW1 := hide tk3
  have HW2 := hide rk3
  have HQ1 := hide htq
  have HQ2 := hide hrq
  clear tk1 tk2 tk3 tk4 rk1 rk2 rk3 rk4 htq hrq e1 e2 hfs hft HZT HZR hst hsr
  have hc0 := S11.out.c0
  have hc1 := S11.out.c1
  go_wp2_with fail
  refine (isTrapI_any _ _ _ _ _ _ _ L ts2 _ S11.out.net (S11.out.rows.at aT nt ts2 (by simp)) hsz2 (by omega) hpm).mono ?_
  unfold IssEnd
  rw [E1.out.1, E1.out.2]
  rintro e v12 ⟨rfl, hb⟩
  have S12 := hide (S11.out.grow hb)
  clear hc0 hc1 hb S11 E1
  have hc0 := S12.out.c0
  have hc1 := S12.out.c1
  go_wp2_with fail
  refine (isSiphonI_any _ _ _ _ _ _ _ L rs2 _ S12.out.net (S12.out.rows.at ar nr rs2 (by simp)) hsz2 (by omega) hpm).mono ?_
  unfold IssEnd
  rw [E2.out.1, E2.out.2]
  rintro e v13 ⟨rfl, hb⟩
  have S13 := hide (S12.out.grow hb)
  clear hc0 hc1 hb S12 E2
  go_wp2_with fail
  refine (within_any _ _ _ _ _ _ ts2 xs _ (S13.out.rows.at aT nt ts2 (by simp)) (S13.out.rows.at b n xs (by simp)) (by omega) hn2).mono ?_
  rw [HW1.out]
  rintro e w' ⟨rfl, rfl⟩
  go_wp2_with fail
  refine (within_any _ _ _ _ _ _ rs2 xs _ (S13.out.rows.at ar nr rs2 (by simp)) (S13.out.rows.at b n xs (by simp)) (by omega) hn2).mono ?_
  rw [HW2.out]
  rintro e w' ⟨rfl, rfl⟩
  go_wp2_with fail
  refine (sameI_any _ _ _ _ _ _ ts2 xs _ (S13.out.rows.at aT nt ts2 (by simp)) (S13.out.rows.at b n xs (by simp)) (by omega)).mono ?_
  rw [HQ1.out]
  rintro e v14 ⟨rfl, q3, rfl⟩
  have S14 := hide (S13.out.grow (below_drewN' w' q3))
  clear S13
  generalize w'.drewN q3 = W14 at S14 ⊢
  go_wp2_with fail
  refine (sameI_any _ _ _ _ _ _ rs2 xs _ (S14.out.rows.at ar nr rs2 (by simp)) (S14.out.rows.at b n xs (by simp)) (by omega)).mono ?_
  rw [HQ2.out]
  rintro e v15 ⟨rfl, q4, rfl⟩
  have S15 := hide (S14.out.grow (below_drewN' W14 q4))
  clear S14
  generalize W14.drewN q4 = W15 at S15 ⊢
  go_wp2_with fail
  go_loopw [27, 28] (fun v i wr => ∃ (j : Nat) (ms : List Int), i = .int .i64 j ∧ j ≤ m ∧ Hid (ms.length = j) ∧ Hid (∀ x ∈ ms, 0 ≤ x ∧ x ≤ 1) ∧ Hid (wr.ownsRow W15.heap.size 3 1 v j (ms.map (Value.int .i64))) ∧ Hid (Below W15.heap.size W15 wr)) (fun _ i _ => m - (intOf i).toNat)
  case atStart => exact ⟨0, [], rfl, Nat.zero_le _, rfl, fun x hx => (by cases hx), World.ownsRow_nil _ _ _ _, Below.refl _ _⟩
  case round =>
    obtain ⟨j, ms, rfl, hj, hjl, h01, hown, HB⟩ := hrel
    have T := hide (S15.out.grow HB.out)
    have hc0 := T.out.c0
    have hc1 := T.out.c1
    by_cases hjm : j < m
    rotate_left
    · have hjm' : j = m := by omega
      subst hjm'
      have hji : ¬ (j : Int) < (j : Int) := by omega
      obtain ⟨av, bv, cv, rfl, _, hob⟩ := own_ob2 hown.out
      have hml := hjl.out
      have X0 := hide (T.out.add hob.row)
      clear hob hown S15 HB T h01 hjl
      have hkt : ∀ t : Nat, t ≤ k → t ≤ 61 := fun t ht => by omega
      go_wp2_with fail
      go_loopw [208] (fun i wx => ∃ t : Nat, t ≤ k ∧ i = .int .i64 t ∧ Hid (Mst v0 wx V (j : Int) a k c L [(av, j, ms), (ao, no, rs2), (ar, nr, rs2), (au, nu, ts2), (aT, nt, ts2), (b, n, xs)] a1 len1 cs)) (fun i _ => k - (intOf i).toNat)
      case atStart => exact ⟨0, Nat.zero_le _, rfl, X0⟩
      case round =>
        obtain ⟨t, ht, rfl, T⟩ := hrel
        clear X0 hc0 hc1
        have hc0 := T.out.c0
        have hc1 := T.out.c1
        by_cases htk : t < k
        rotate_left
        · have htk' : t = k := by omega
          subst htk'
          have hti : ¬ (t : Int) < (t : Int) := by omega
          go_wp2_with fail
          go_ret
          exact ⟨rfl, T.out.old⟩
        have hti : (t : Int) < (k : Int) := by omega
        have ht61 := hkt t ht
        obtain ⟨fo, hfo⟩ : ∃ g, Hid (fireOk (j : Int) k L ms (t : Int) = g) := ⟨_, rfl⟩
        go_wp2_with fail
        refine (implFire_any _ _ _ _ _ _ _ L ms (t : Int) _ T.out.net (T.out.rows.at av j ms (by simp)) hsz2 (by omega)).mono ?_
        rw [hfo.out]
        rintro e w8 ⟨ay, by', ny, rfl, hblk, _, hb8⟩
        cases fo
        · have T2 := hide (T.out.grow hb8)
          clear hblk hb8 T hc0 hc1
          go_wp2_with fail
          go_roundw
          case rel => exact ⟨t + 1, by omega, by go_num, T2⟩
          case measure => simp [intOf]; omega
        have HFE : Hid (fireR (j : Int) k L ms (t : Int) = firedL L ms (t : Int)) := by show _ = _; unfold fireR; rw [hfo.out, if_pos rfl]
        rw [HFE.out] at hblk
        obtain ⟨hg1, hg2, hlen⟩ := fire_goods hfo.out
        have HB1 := hide (fun xs q => atS_bound hg1 xs q)
        have HB2 := hide (fun xs q => atS_bound hg2 xs q)
        have HST := hide (siphon_stays RK.out.1 htk hfo.out RK.out.2)
        have HTT := hide (trap_keeps TK.out.1 htk hfo.out TK.out.2)
        obtain ⟨ry, hry⟩ : ∃ l, Hid (firedL L ms (t : Int) = l) := ⟨_, rfl⟩
        rw [hry.out] at hblk hlen HB2 HST HTT
        have hny : j = ny := by have h1 := hblk.row.1; omega
        subst hny
        have T2 := hide ((T.out.grow hb8).add hblk.row)
        have hr1 := fun x hx => riseB_mem (ss_parts RK.out.1).2.2.2 x hx
        have hr2 := fun x hx => riseB_mem (ss_parts TK.out.1).2.2.2 x hx
        have HR1 := hide hr1
        have HR2 := hide hr2
        clear hblk hb8 T hc0 hc1 hg1 hg2 hr1 hr2 HFE hry hfo
        have hnn : ((j : Int) != (j : Int)) = false := by simp
        go_wp2_with fail
        go_loop [32, 33, 227] (fun x y i => ∃ (q : Nat) (s1 s2 : Int), q ≤ nr ∧ i = .int .i64 q ∧ x = .int .i64 s1 ∧ y = .int .i64 s2 ∧ Hid (atS ms rs2 q = s1) ∧ Hid (atS ry rs2 q = s2)) (fun _ _ i => nr - (intOf i).toNat)
        case atStart => exact ⟨0, 0, 0, Nat.zero_le _, rfl, rfl, rfl, rfl, rfl⟩
        case round =>
          obtain ⟨q, s1, s2, hq, rfl, rfl, rfl, hs1, hs2⟩ := hrel
          have hb1 : 0 ≤ s1 ∧ s1 ≤ 800 := by have h := HB1.out rs2 q; rw [hs1.out] at h; omega
          have hb2 : 0 ≤ s2 ∧ s2 ≤ 800 := by have h := HB2.out rs2 q; rw [hs2.out] at h; omega
          by_cases hqn : q < nr
          · have hqi : (q : Int) < (nr : Int) := by omega
            obtain ⟨bq, oq, xq, rfl, hlq, hcq, HQ⟩ := (T2.out.rows.at ar nr rs2 (by simp)).at hqn
            have hx := HR1.out xq (List.mem_of_getElem? HQ.out)
            obtain ⟨xi, rfl⟩ : ∃ xi : Nat, xq = (xi : Int) := ⟨xq.toNat, by omega⟩
            have hxj : xi < j := by omega
            have hxi : (0 : Int) ≤ (xi : Int) ∧ (xi : Int) < (j : Int) := by omega
            obtain ⟨bu, ou, uv, rfl, hlu, hcu, HU⟩ := (T2.out.rows.at av j ms (by simp)).at hxj
            obtain ⟨by2, oy, yv, rfl, hly, hcy, HY⟩ := (T2.out.rows.at ay j ry (by simp)).at hxj
            have hub := HB1.out [(xi : Int)] 1
            have hyb := HB2.out [(xi : Int)] 1
            have eu : ms.getD xi 0 = uv := by rw [List.getD_eq_getElem?_getD, HU.out]; rfl
            have ey : ry.getD xi 0 = yv := by rw [List.getD_eq_getElem?_getD, HY.out]; rfl
            have HS1 : Hid (atS ms rs2 (q + 1) = s1 + uv) := by show _ = _; rw [atS_step HQ.out, hs1.out, Int.toNat_natCast, eu]
            have HS2 : Hid (atS ry rs2 (q + 1) = s2 + yv) := by show _ = _; rw [atS_step HQ.out, hs2.out, Int.toNat_natCast, ey]
            have hbu : 0 ≤ uv ∧ uv ≤ 850 := by have h := HB1.out rs2 (q + 1); rw [HS1.out] at h; have := List.getElem?_eq_some_iff.mp HU.out; have h2 : 0 ≤ s1 + uv ∧ s1 + uv ≤ 850 := by omega
                                               have h3 := HB1.out [(xi : Int)] 1; rw [show atS ms [(xi : Int)] 1 = uv by rw [show (1 : Nat) = 0 + 1 from rfl, atS_step (ys := ms) (xs := [(xi : Int)]) (k := 0) (x := (xi : Int)) rfl, atS_zero, Int.toNat_natCast, eu]; omega] at h3; omega
            have hby : 0 ≤ yv ∧ yv ≤ 850 := by have h3 := HB2.out [(xi : Int)] 1; rw [show atS ry [(xi : Int)] 1 = yv by rw [show (1 : Nat) = 0 + 1 from rfl, atS_step (ys := ry) (xs := [(xi : Int)]) (k := 0) (x := (xi : Int)) rfl, atS_zero, Int.toNat_natCast, ey]; omega] at h3; omega
            clear hx hub hyb eu ey HQ HU HY
            go_wp2_with fail
            go_round
            case rel => exact ⟨q + 1, s1 + uv, s2 + yv, by omega, by go_num, by go_num, by go_num, HS1, HS2⟩
            case measure => simp [intOf]; omega
          have hqi : ¬ (q : Int) < (nr : Int) := by omega
          have hql : q = rs2.length := by have := (T2.out.rows.at ar nr rs2 (by simp)).1; omega
          have hz : s1 = 0 → s2 = 0 := fun h0 => by
            have h := HST.out (by rw [← hql, hs1.out]; exact h0)
            rw [← hql, hs2.out] at h
            exact h
          have hfin : Hid (∀ (P : Prop), (s1 = 0 → s2 = 0 → P) → (¬ s1 = 0 → P) → P) := fun P h1 h2 => by
            by_cases h0 : s1 = 0
            · exact h1 h0 (hz h0)
            · exact h2 h0
          clear hz hql hs1 hs2
          by_cases h10 : s1 = 0
          case' pos =>
            have h20 : s2 = 0 := hfin.out _ (fun _ h => h) (fun h => absurd h10 h)
            subst h10 h20
            clear hfin hb1 hb2
            go_wp2_with fail
          case' neg =>
            have hd1 : (s1 == 0) = false := by simp [h10]
            clear hfin
            go_wp2_with fail
          all_goals
            go_loop [32, 34, 252] (fun x y i => ∃ (q : Nat) (s1 s2 : Int), q ≤ nt ∧ i = .int .i64 q ∧ x = .int .i64 s1 ∧ y = .int .i64 s2 ∧ Hid (atS ms ts2 q = s1) ∧ Hid (atS ry ts2 q = s2)) (fun _ _ i => nt - (intOf i).toNat)
            case atStart => exact ⟨0, 0, 0, Nat.zero_le _, rfl, rfl, rfl, rfl, rfl⟩
            case round =>
              obtain ⟨q', s3, s4, hq', rfl, rfl, rfl, hs3, hs4⟩ := hrel
              have hb3 : 0 ≤ s3 ∧ s3 ≤ 800 := by have h := HB1.out ts2 q'; rw [hs3.out] at h; omega
              have hb4 : 0 ≤ s4 ∧ s4 ≤ 800 := by have h := HB2.out ts2 q'; rw [hs4.out] at h; omega
              by_cases hqt : q' < nt
              · have hqi2 : (q' : Int) < (nt : Int) := by omega
                obtain ⟨bq, oq, xq, rfl, hlq, hcq, HQ⟩ := (T2.out.rows.at aT nt ts2 (by simp)).at hqt
                have hx := HR2.out xq (List.mem_of_getElem? HQ.out)
                obtain ⟨xi, rfl⟩ : ∃ xi : Nat, xq = (xi : Int) := ⟨xq.toNat, by omega⟩
                have hxj : xi < j := by omega
                have hxi : (0 : Int) ≤ (xi : Int) ∧ (xi : Int) < (j : Int) := by omega
                obtain ⟨bu, ou, uv, rfl, hlu, hcu, HU⟩ := (T2.out.rows.at av j ms (by simp)).at hxj
                obtain ⟨by2, oy, yv, rfl, hly, hcy, HY⟩ := (T2.out.rows.at ay j ry (by simp)).at hxj
                have eu : ms.getD xi 0 = uv := by rw [List.getD_eq_getElem?_getD, HU.out]; rfl
                have ey : ry.getD xi 0 = yv := by rw [List.getD_eq_getElem?_getD, HY.out]; rfl
                have HS1 : Hid (atS ms ts2 (q' + 1) = s3 + uv) := by show _ = _; rw [atS_step HQ.out, hs3.out, Int.toNat_natCast, eu]
                have HS2 : Hid (atS ry ts2 (q' + 1) = s4 + yv) := by show _ = _; rw [atS_step HQ.out, hs4.out, Int.toNat_natCast, ey]
                have hbu : 0 ≤ uv ∧ uv ≤ 850 := by have h3 := HB1.out [(xi : Int)] 1; rw [show atS ms [(xi : Int)] 1 = uv by rw [show (1 : Nat) = 0 + 1 from rfl, atS_step (ys := ms) (xs := [(xi : Int)]) (k := 0) (x := (xi : Int)) rfl, atS_zero, Int.toNat_natCast, eu]; omega] at h3; omega
                have hby : 0 ≤ yv ∧ yv ≤ 850 := by have h3 := HB2.out [(xi : Int)] 1; rw [show atS ry [(xi : Int)] 1 = yv by rw [show (1 : Nat) = 0 + 1 from rfl, atS_step (ys := ry) (xs := [(xi : Int)]) (k := 0) (x := (xi : Int)) rfl, atS_zero, Int.toNat_natCast, ey]; omega] at h3; omega
                clear hx eu ey HQ HU HY
                go_wp2_with fail
                go_round
                case rel => exact ⟨q' + 1, s3 + uv, s4 + yv, by omega, by go_num, by go_num, by go_num, HS1, HS2⟩
                case measure => simp [intOf]; omega
              have hqi2 : ¬ (q' : Int) < (nt : Int) := by omega
              have hql : q' = ts2.length := by have := (T2.out.rows.at aT nt ts2 (by simp)).1; omega
              by_cases h30 : 0 < s3
              · have h40 : 0 < s4 := by
                  have h := HTT.out (by rw [← hql, hs3.out]; exact h30)
                  rw [← hql, hs4.out] at h
                  exact h
                have hd2 : (s4 == 0) = false := by simp; omega
                clear hql hs3 hs4
                go_wp2_with fail
                go_roundw
                case rel => exact ⟨t + 1, by omega, by go_num, ⟨T2.out.old, T2.out.var, T2.out.net, Rs.cons (T2.out.rows.at av j ms (by simp)) (Rs.cons (T2.out.rows.at ao no rs2 (by simp)) (Rs.cons (T2.out.rows.at ar nr rs2 (by simp)) (Rs.cons (T2.out.rows.at au nu ts2 (by simp)) (Rs.cons (T2.out.rows.at aT nt ts2 (by simp)) (Rs.cons (T2.out.rows.at b n xs (by simp)) (Rs.nil _)))))), T2.out.more⟩⟩
                case measure => simp [intOf]; omega
              · clear hql hs3 hs4
                go_wp2_with fail
                go_roundw
                case rel => exact ⟨t + 1, by omega, by go_num, ⟨T2.out.old, T2.out.var, T2.out.net, Rs.cons (T2.out.rows.at av j ms (by simp)) (Rs.cons (T2.out.rows.at ao no rs2 (by simp)) (Rs.cons (T2.out.rows.at ar nr rs2 (by simp)) (Rs.cons (T2.out.rows.at au nu ts2 (by simp)) (Rs.cons (T2.out.rows.at aT nt ts2 (by simp)) (Rs.cons (T2.out.rows.at b n xs (by simp)) (Rs.nil _)))))), T2.out.more⟩⟩
                case measure => simp [intOf]; omega
    have hji : (j : Int) < (m : Int) := by omega
    have hj16 : j < 16 := by omega
    go_wp2_with fail
    refine (number_any _ _ _ cs _ T.out.more hn1).mono ?_
    rintro e wq ⟨z, rfl, hz, rfl⟩
    obtain ⟨y, hy⟩ : ∃ y, Hid (bits .and .i64 ((z : Int) / 2 ^ (2 * j)) 1 = y) := ⟨_, rfl⟩
    have hA2 := below_al wq (.cells #[.int .i64 (bits .and .i64 ((z : Int) / 2 ^ (2 * j)) 1)] 3)
    have HO2 := hide (hown.out.alloc (.cells #[.int .i64 (bits .and .i64 ((z : Int) / 2 ^ (2 * j)) 1)] 3))
    have HB2 := hide (HB.out.trans (hA2.mono HB.out.size))
    have HCE : Hid (∀ j' u, ([.int .i64 (bits .and .i64 ((z : Int) / 2 ^ (2 * j)) 1)] : List Value)[j']? = some u → (wq.alloc (.cells #[.int .i64 (bits .and .i64 ((z : Int) / 2 ^ (2 * j)) 1)] 3)).cell? ((⟨wq.heap.size, 0, none⟩ : Addr).add j') = some u) := one_cell2 wq _
    have H1c : Hid (∀ u ∈ ([.int .i64 (bits .and .i64 ((z : Int) / 2 ^ (2 * j)) 1)] : List Value), u.oneCell' = true) := fun u hu => by simp at hu; subst hu; rfl
    have HX := hide (show j + 1 ≤ maxLen by unfold maxLen; omega)
    have HY := hide (show (j + 1) * 8 ≤ 140737488355328 by omega)
    have HZ := hide HB2.out.size
    have HL1 : Hid ((ms ++ [y]).length = j + 1) := by show _ = _; rw [List.length_append, hjl.out]; rfl
    have H011 : Hid (∀ x ∈ ms ++ [y], 0 ≤ x ∧ x ≤ 1) := fun x hx => by
      rcases List.mem_append.mp hx with h | h
      · exact h01.out x h
      · simp at h; subst h; rw [← hy.out]; exact bitB_i64 z j hz
    clear hA2 hc0 hc1 hjl h01 hown HB S15
    go_wp2_with (refine wpList_append_own _ rfl (.tmp 195) (.tmp 203) 27 rfl W15.heap.size 3 i0 (.int .i64 0) 1 8 Try.underlying27 hi hz0 hz1 hz2 rfl (by decide) _ j _ rfl HO2.out ⟨_, 0, none⟩ 1 1 [.int .i64 (bits .and .i64 ((z : Int) / 2 ^ (2 * j)) 1)] rfl rfl HCE.out H1c.out HX.out HY.out HZ.out ?_; intro v' W' r1 r2 r3)
    have HRN : Hid (W'.ownsRow W15.heap.size 3 1 v' (j + 1) ((ms ++ [y]).map (Value.int .i64))) := by
      show World.ownsRow _ _ _ _ _ _ _
      rw [List.map_append, ← hy.out]; exact r1
    have HB3 := hide (own_below2 HO2.out r2 HB2.out HB2.out.size (Nat.le_refl _))
    clear r1 r2 r3
    go_wp2_with fail
    go_roundw
    case rel => exact ⟨j + 1, ms ++ [y], by go_num, by omega, HL1, H011, HRN, HB3⟩
    case measure => simp [intOf]; omega

/-! ### THE ROW's STEP: WRITTEN OUT: LEAVE IT -/
set_option maxRecDepth 100000 in
theorem lifted (os : Os) (started : os.Started) (H : Type) (enc : TypeId × Value → H) :
    ReturnsInHanded {} Try.checked os 5 .any (Rows.fnSiphonsSpec.pre6 enc Try.prog Try.f5 Rows.fnSiphonsRow.domain false) (Rows.fnSiphonsSpec.post enc Try.prog Try.f5 false true false false) := by
  refine returnsInHanded_of_change (C := Try.checked) own started (by kernel_rfl) Try.func5
    (ChangeSpec.witness6 (enc := enc) (C := Try.checked) false ⟨#[], #[.slice none 0 0, .slice none 0 0], []⟩ 8 (by kernel_rfl) (by kernel_rfl) (by kernel_rfl) (by kernel_rfl)) ?_
  intro W base args ds gs before hval0 hW hcnd _
  have hval : ∀ (j : Nat) t v, Try.f5.params[j]? = some t → args[j]? = some v → Value.okWide Try.prog W .any base t v := hval0
  have hW' := hW
  obtain ⟨p, q, hA0, hV, rfl, hfz, hnd⟩ := hW
  have hA : DataW.TrodAll enc Try.prog W 0 (fun _ => true) true Try.f5.params.toList args.toList ds p := hA0
  rw [Try.params5] at hA hval
  obtain ⟨v0, vs0, d0, ds0, p0, q0, hargs, rfl, rfl, h0, r0⟩ := trodAll_cons hA
  obtain ⟨v1, vs1, d1, ds1, p1, q1, rfl, rfl, rfl, h1, r1⟩ := trodAll_cons r0
  obtain ⟨rfl, rfl, rfl⟩ := trodAll_nil r1
  obtain rfl : args = #[v0, v1] := by cases args; simp_all
  obtain ⟨rfl, rfl⟩ := trodVars_none hV
  obtain ⟨a0, len0, cap0, rfl⟩ := okWide_slice Try.underlying22 (hval 0 22 v0 rfl rfl)
  have k0 := h0
  have lt0 : ∀ x ∈ p0, x.block < W.heap.size := by obtain ⟨m, hm⟩ := k0; exact DataW.trod_lt m _ _ _ hm
  obtain ⟨z0, w0⟩ : ∃ zs, IsRow .u8 W a0 len0 cap0 zs := by
    obtain ⟨fuel, hf⟩ := h0
    rcases open_ints Try.underlying22 Try.underlying5 (by kernel_rfl) hf with ⟨hcs, _⟩ | ⟨x, l, c, zs, hcs, _, hl, hm, hz, _, hcell, hwz⟩
    · simp [Value.cells] at hcs
      obtain ⟨rfl, rfl, rfl⟩ := hcs
      exact ⟨[], .inl ⟨rfl, rfl, rfl, rfl⟩⟩
    · simp [Value.cells] at hcs
      obtain ⟨rfl, rfl, rfl⟩ := hcs
      exact ⟨zs, .inr ⟨_, rfl, hl, hm, by simpa using hz, hcell, hwz⟩⟩
  obtain ⟨a1, len1, cap1, rfl⟩ := okWide_slice Try.underlying22 (hval 1 22 v1 rfl rfl)
  have k1 := h1
  have lt1 : ∀ x ∈ p1, x.block < W.heap.size := by obtain ⟨m, hm⟩ := k1; exact DataW.trod_lt m _ _ _ hm
  obtain ⟨z1, w1⟩ : ∃ zs, IsRow .u8 W a1 len1 cap1 zs := by
    obtain ⟨fuel, hf⟩ := h1
    rcases open_ints Try.underlying22 Try.underlying5 (by kernel_rfl) hf with ⟨hcs, _⟩ | ⟨x, l, c, zs, hcs, _, hl, hm, hz, _, hcell, hwz⟩
    · simp [Value.cells] at hcs
      obtain ⟨rfl, rfl, rfl⟩ := hcs
      exact ⟨[], .inl ⟨rfl, rfl, rfl, rfl⟩⟩
    · simp [Value.cells] at hcs
      obtain ⟨rfl, rfl, rfl⟩ := hcs
      exact ⟨zs, .inr ⟨_, rfl, hl, hm, by simpa using hz, hcell, hwz⟩⟩
  clear hA0 hval0
  refine (walk a0 len0 cap0 z0 a1 len1 cap1 z1 W w0 w1).mono fun e W' ⟨he, bel⟩ => ?_
  subst he
  exact ⟨_, rfl, _, _, _, [], _, [], hW', trodAll_mk1 (shut_bool Try.underlying4 _), (trodAll_cons_mk (Below.trod laidOut (by kernel_rfl) (of_decide_eq_true (by kernel_rfl)) k0 bel lt0) (trodAll_cons_mk (Below.trod laidOut (by kernel_rfl) (of_decide_eq_true (by kernel_rfl)) k1 bel lt1) trodAll_mk0)), rfl, bel.frame _, fun h => by cases h⟩

theorem over : Rows.fnSiphonsRow.holds Try.pinned (OpenSpec.ofChange Rows.fnSiphonsSpec) :=
  OpenClaim.holds_of_wide 5 Try.f5 rfl rfl rfl rfl rfl rfl rfl ⟨rfl, rfl, rfl, rfl, rfl⟩ rfl rfl rfl rfl rfl (by kernel_rfl) Try.func5 (by kernel_rfl)
    (of_decide_eq_true (by kernel_rfl)) (by unfold Func.isWrapper; first | (rw [if_pos (by decide +kernel)]; kernel_rfl) | (rw [if_neg (by decide +kernel)]; exact ⟨rfl, rfl⟩))
    (fun os started H enc _ => lifted os started H enc)

/-- ████ THE STATEMENT ████ -/
theorem proved : Rows.FnSiphonsSaid := over
#print axioms proved
end Go.Proofs.Ytajcmamapmeglaa.fnSiphons

namespace Go.Proofs.Ytajcmamapmeglaa
theorem fnSiphons_holds : Rows.FnSiphonsSaid := fnSiphons.proved
end Go.Proofs.Ytajcmamapmeglaa
