/- Proved: for every two lists of bytes, in whatever memory, the law FnKeptAll returns true and leaves its arguments as they were; no condition. -/
import Derived.Test.YtajcmamapmeglaaP23
import Derived.WalkKit
import Derived.ProofKit
import Derived.OpenShut
import Derived.ShutString
import Derived.ChangeOld
import Derived.Below
namespace Go.Proofs.Ytajcmamapmeglaa.fnKeptAll
open Go.ChangeShapes Go.WideShapes Go.ChangeAt Go.RowKit
open Go.ChangeMaps (open_string shut_string)
set_option linter.unusedVariables false

theorem own : ownKnob Try.prog.godebug = none := by kernel_rfl
theorem laidOut : laidOutB Try.prog = true := by kernel_rfl

/-- WHAT THE WALK IS TOLD OF A SLICE OF INTEGERS THAT CAME IN: it is nil; or it leads to a row of 'cap' cells, the numbers 'zs' (the first 'len' are its elements, the rest its spare room), each fitting its kind. -/
def IsRow (k : IntKind) (w : World) (a : Option Addr) (len cap : Nat) (zs : List Int) : Prop :=
  (a = none ∧ len = 0 ∧ cap = 0 ∧ zs = []) ∨
  ∃ x, a = some x ∧ len ≤ cap ∧ cap ≤ maxLen ∧ zs.length = cap ∧ (∀ i, i < zs.length → w.cell? (x.add i) = some (.int k (zs.getD i 0))) ∧ ∀ n ∈ zs, (Lit.int k n).wf = true

theorem rowOf {w : World} {a : Option Addr} {len cap : Nat} {zs : List Int} (h : IsRow .u8 w a len cap zs) : RowB w a len (zs.take len) ∧ len ≤ maxLen := by
  rcases h with ⟨rfl, rfl, rfl, rfl⟩ | ⟨x, rfl, hl, hm, hz, hcell, hwz⟩
  · exact ⟨⟨rfl, fun i => by simp, .inl rfl⟩, by unfold maxLen; omega⟩
  · refine ⟨⟨by rw [List.length_take]; omega, fun i => ?_, ?_⟩, by omega⟩
    · rw [List.getD_eq_getElem?_getD]
      by_cases hi : i < (zs.take len).length
      · rw [List.getElem?_eq_getElem hi]
        have := hwz _ (List.mem_of_mem_take (List.getElem_mem hi))
        have := bounds_u8 this
        simpa using this
      · rw [List.getElem?_eq_none (by omega)]; simp
    · by_cases h0 : len = 0
      · exact .inl h0
      · obtain ⟨b, off, spot⟩ := x
        have hc := hcell 0 (by omega)
        have hspot : spot = none := by simpa [Addr.add] using World.cell?_spot hc
        subst hspot
        refine .inr ⟨b, off, rfl, ?_, fun i hi => ?_⟩
        · have := block_lt_of_cell hc; simpa [Addr.add] using this
        · have := hcell i (by omega)
          rw [List.getD_eq_getElem?_getD, List.getElem?_take_of_lt hi, ← List.getD_eq_getElem?_getD]
          have ea : (⟨b, off, none⟩ : Addr).add i = ⟨b, off + i, none⟩ := by unfold Addr.add; split <;> simp_all
          rw [ea] at this
          exact this

theorem runL_lenK (p : Int) (n : Nat) (L : List (List Int)) (ys ts : List Int) : (runL p n L ys ts).length ≤ ys.length := by
  induction ts generalizing ys with
  | nil => exact Nat.le_refl _
  | cons t us ih =>
    simp only [runL]
    split
    · have := ih (firedL L ys t); rw [firedL_len] at this; exact this
    · exact Nat.le_refl _

theorem good01 {m : Nat} {ms : List Int} (hl : ms.length = m) (hm : 1 ≤ m ∧ m ≤ 16) (h : ∀ x ∈ ms, 0 ≤ x ∧ x ≤ 1) : goodB (m : Int) ms = true := by
  unfold goodB
  have h1 : allB ms 0 50 = true := by
    unfold allB
    rw [List.all_eq_true]
    intro x hx
    have := h x hx
    unfold inB
    simp only [Bool.and_eq_true, decide_eq_true_eq]
    omega
  rw [h1, hl]
  unfold inB
  simp
  omega

set_option maxRecDepth 100000 in
set_option maxHeartbeats 8000000 in
theorem walk (a0 : Option Addr) (len0 cap0 : Nat) (z0 : List Int) (a1 : Option Addr) (len1 cap1 : Nat) (z1 : List Int) (w : World) (w0 : IsRow .u8 w a0 len0 cap0 z0) (w1 : IsRow .u8 w a1 len1 cap1 z1) :
    Calls Try.prog 4 #[.slice a0 len0 cap0, .slice a1 len1 cap1] w fun e w' => e = .returned (.bool true) ∧ Below w.heap.size w w' := by
  have hr := rowOf w0
  have hr2 := rowOf w1
  generalize z0.take len0 = bs at hr
  generalize z1.take len1 = cs at hr2
  obtain ⟨hr, hl0⟩ := hr
  obtain ⟨hr2, hl1⟩ := hr2
  have HR := hide hr
  have HR2 := hide hr2
  unfold maxLen at hl0 hl1
  clear w0 w1 hr hr2
  have hbb : ∀ b : Bool, (b != b) = false := by simp
  obtain ⟨i0, hi, hz0, hz1, hz2⟩ := info_split Try.info3
  go_enter Try.func4, Try.ntmps4
  go_wp2_with fail
  refine (big_any _ _ _ _ _ _ _ hl0 hl1).mono ?_
  rintro e v0 ⟨r, rfl, hbig, rfl⟩
  cases r
  rotate_left
  · go_wp2_with fail
    go_ret
    exact ⟨rfl, Below.refl _ _⟩
  have hn0 := (hbig.out rfl).1
  have hn1 := (hbig.out rfl).2
  clear hbig
  go_wp2_with fail
  refine (drawSi_any _ _ _ bs _ HR.out hn0).mono ?_
  rintro e v1 ⟨pl, a, k, c, L, rfl, hpl, hk, hsz, hstab, hb⟩
  obtain ⟨m, rfl⟩ : ∃ m : Nat, pl = (m : Int) := ⟨pl.toNat, by omega⟩
  have hlists := hstab v1 (Nat.le_refl _) (fun _ _ _ => rfl)
  have hA := below_al v1 (.cells #[.int .i64 (m : Int), .slice a k c] 26)
  have S1 : Hid (Mst v0 (v1.alloc (.cells #[.int .i64 (m : Int), .slice a k c] 26)) v1.heap.size (m : Int) a k c L [] a1 len1 cs) :=
    ⟨hb.trans (hA.mono hb.size), heap_alloc_new _ _, hlists.below hA, Rs.nil _, (HR2.out.below hb).below hA⟩
  clear hlists hb hA HR HR2 hstab
  have hsz2 : sizeN k L ≤ 1048576 := by omega
  obtain ⟨g, hgg⟩ : ∃ g, Hid (siOk (m : Int) k L = g) := ⟨_, rfl⟩
  obtain ⟨kk, hkk⟩ : ∃ g, Hid (ikR (m : Int) k L = g) := ⟨_, rfl⟩
  obtain ⟨R, hRR⟩ : ∃ R, Hid (siN (m : Int) k L = R) := ⟨_, rfl⟩
  have hRl := siN_len (m : Int) k L
  rw [hRR.out] at hRl
  have HSK : Hid (sizeN (listsN R).length (listsN R) ≤ 1048576) := by
    have h16 : ∀ x ∈ listsN R, x.length ≤ 16 := fun x hx => by
      obtain ⟨s, _, rfl⟩ := List.mem_map.mp hx
      exact nums2_len _ _
    have hz := sizeL_leK h16
    rw [listsN_len] at hz
    show sizeN _ _ ≤ _
    rw [listsN_len]
    unfold sizeN; omega
  go_wp2_with fail
  generalize v1.alloc (.cells #[.int .i64 (m : Int), .slice a k c] 26) = W1 at S1 ⊢
  generalize v1.heap.size = V at S1 ⊢
  have hc0 := S1.out.c0
  have hc1 := S1.out.c1
  go_wp2_with fail
  refine (smallI_any _ _ _ _ L _ S1.out.net hsz2).mono ?_
  unfold SimEnd
  rw [hgg.out, hRR.out]
  rintro e v2 ⟨B, N, lo, rfl, hN, hp, _, _, _, hb⟩
  have S2 := hide (S1.out.grow hb)
  have HK2 : Hid (Lists v2 (some ⟨B, 0, none⟩) N (listsN R)) := by
    have h1 := HSK.out
    rw [listsN_len, ← hN] at h1
    exact PartG.listsK hp (by rw [listsN_len]; exact hN.symm) h1
  have HN := hide hN
  clear hc0 hc1 hb S1 hp hN
  have hc0 := S2.out.c0
  have hc1 := S2.out.c1
  go_wp2_with fail
  refine (smallInvS_any _ _ _ _ L _ S2.out.net hsz2).mono ?_
  unfold SsiEnd
  rw [hgg.out, hRR.out]
  rintro e v3 ⟨vS, rfl, hlr, hb⟩
  obtain ⟨aS, cS, rfl, hls⟩ := hlr.lists (listsN_at _)
  rw [show (listsN R).length = N by rw [listsN_len, HN.out]] at hls ⊢
  have S3 := hide (S2.out.grow hb)
  have HK3 := hide (HK2.out.below hb)
  have HS3 := hide hls
  clear hc0 hc1 hb S2 HK2 hls hlr
  have hc0 := S3.out.c0
  have hc1 := S3.out.c1
  go_wp2_with fail
  refine (isKeptI_any _ _ _ _ L _ S3.out.net hsz2).mono ?_
  unfold IkpEnd
  rw [hgg.out, hkk.out]
  rintro e v4 ⟨rfl, hb⟩
  have S4 := hide (S3.out.grow hb)
  have HK4 := hide (HK3.out.below hb)
  have HS4 := hide (HS3.out.below hb)
  clear hc0 hc1 hb S3 HK3 HS3
  have hc0 := S4.out.c0
  have hc1 := S4.out.c1
  go_wp2_with fail
  refine (isKeptS_any _ _ _ _ L _ S4.out.net hsz2).mono ?_
  unfold IkpEnd
  rw [hgg.out, hkk.out]
  rintro e v5 ⟨rfl, hb⟩
  have S5 := hide (S4.out.grow hb)
  have HK5 := hide (HK4.out.below hb)
  have HS5 := hide (HS4.out.below hb)
  clear hc0 hc1 hb S4 HK4 HS4
  have HSS := hide (sameSSK_any (some ⟨B, 0, none⟩) aS N N cS (listsN R) v5 HK5.out HS5.out (by have h := HSK.out; rwa [listsN_len, ← HN.out] at h))
  go_wp2_with fail
  refine HSS.out.mono ?_
  rintro e v6 ⟨rfl, hb⟩
  have S6 := hide (S5.out.grow hb)
  have HK6 := hide (HK5.out.below hb)
  clear S5 HK5 HS5 hb HSS
  go_wp2_with fail
  have hNN : N ≤ 1048576 := by have := HN.out; omega
  go_loopw [85] (fun i wr => ∃ t : Nat, t ≤ N ∧ i = .int .i64 t ∧ Hid (Mst v0 wr V (m : Int) a k c L [] a1 len1 cs) ∧ Hid (Lists wr (some ⟨B, 0, none⟩) N (listsN R))) (fun i _ => N - (intOf i).toNat)
  case atStart => exact ⟨0, Nat.zero_le _, rfl, S6, HK6⟩
  case round =>
    obtain ⟨t, ht, rfl, T, HK⟩ := hrel
    clear S6 HK6
    have hc0 := T.out.c0
    have hc1 := T.out.c1
    by_cases htN : t < N
    rotate_left
    · have hti : ¬ (t : Int) < (N : Int) := by omega
      cases kk
      · go_wp2_with fail
        go_ret
        exact ⟨rfl, T.out.old⟩
      have hok : siOk (m : Int) k L = true := by have h := hkk.out; unfold ikR at h; rw [Bool.and_eq_true] at h; exact h.1
      obtain ⟨hnet, hm1, hm10⟩ := si_parts hok
      have hm16 : m ≤ 16 := by omega
      have HNET := hide hnet
      obtain ⟨w5, h5⟩ : ∃ x, x = wr := ⟨_, rfl⟩
      subst h5
      clear HK hnet hok hc0 hc1
      go_wp2_with fail
      go_loopw [23, 24] (fun v i wx => ∃ (j : Nat) (ms : List Int), i = .int .i64 j ∧ j ≤ m ∧ Hid (ms.length = j) ∧ Hid (∀ x ∈ ms, 0 ≤ x ∧ x ≤ 1) ∧ Hid (wx.ownsRow w5.heap.size 3 1 v j (ms.map (Value.int .i64))) ∧ Hid (Below w5.heap.size w5 wx)) (fun _ i _ => m - (intOf i).toNat)
      case atStart => exact ⟨0, [], rfl, Nat.zero_le _, rfl, fun x hx => (by cases hx), World.ownsRow_nil _ _ _ _, Below.refl _ _⟩
      case round =>
        obtain ⟨j, ms, rfl, hj, hjl, h01, hown, HB⟩ := hrel
        have T6 := hide (T.out.grow HB.out)
        have hc0 := T6.out.c0
        have hc1 := T6.out.c1
        by_cases hjm : j < m
        · have hji : (j : Int) < (m : Int) := by omega
          have hj16 : j < 16 := by omega
          go_wp2_with fail
          refine (number_any _ _ _ cs _ T6.out.more hn1).mono ?_
          rintro e wq ⟨z, rfl, hz, rfl⟩
          obtain ⟨y, hy⟩ : ∃ y, Hid (bits .and .i64 ((z : Int) / 2 ^ (2 * j)) 1 = y) := ⟨_, rfl⟩
          have hA2 := below_al wq (.cells #[.int .i64 (bits .and .i64 ((z : Int) / 2 ^ (2 * j)) 1)] 3)
          have HO2 := hide (hown.out.alloc (.cells #[.int .i64 (bits .and .i64 ((z : Int) / 2 ^ (2 * j)) 1)] 3))
          have HB2 := hide (HB.out.trans (hA2.mono HB.out.size))
          have HCE : Hid (∀ j' u, ([.int .i64 (bits .and .i64 ((z : Int) / 2 ^ (2 * j)) 1)] : List Value)[j']? = some u → (wq.alloc (.cells #[.int .i64 (bits .and .i64 ((z : Int) / 2 ^ (2 * j)) 1)] 3)).cell? ((⟨wq.heap.size, 0, none⟩ : Addr).add j') = some u) := one_cell2 wq _
          have H1c : Hid (∀ u ∈ ([.int .i64 (bits .and .i64 ((z : Int) / 2 ^ (2 * j)) 1)] : List Value), u.oneCell' = true) := fun u hu => by simp at hu; subst hu; rfl
          have HX := hide (show j + 1 ≤ maxLen by unfold maxLen; omega)
          have HY := hide (show (j + 1) * 8 ≤ 140737488355328 by omega)
          have HZ := hide HB2.out.size
          have HL1 : Hid ((ms ++ [y]).length = j + 1) := by show _ = _; rw [List.length_append, hjl.out]; rfl
          have H011 : Hid (∀ x ∈ ms ++ [y], 0 ≤ x ∧ x ≤ 1) := fun x hx => by
            rcases List.mem_append.mp hx with h | h
            · exact h01.out x h
            · simp at h; subst h; rw [← hy.out]; exact bitB_i64 z j hz
          clear hA2 hc0 hc1 hjl h01 hown HB
          go_wp2_with (refine wpList_append_own _ rfl (.tmp 144) (.tmp 152) 27 rfl w5.heap.size 3 i0 (.int .i64 0) 1 8 Try.underlying27 hi hz0 hz1 hz2 rfl (by decide) _ j _ rfl HO2.out ⟨_, 0, none⟩ 1 1 [.int .i64 (bits .and .i64 ((z : Int) / 2 ^ (2 * j)) 1)] rfl rfl HCE.out H1c.out HX.out HY.out HZ.out ?_; intro v' W' r1 r2 r3)
          have HRN : Hid (W'.ownsRow w5.heap.size 3 1 v' (j + 1) ((ms ++ [y]).map (Value.int .i64))) := by
            show World.ownsRow _ _ _ _ _ _ _
            rw [List.map_append, ← hy.out]; exact r1
          have HB3 := hide (own_below2 HO2.out r2 HB2.out HB2.out.size (Nat.le_refl _))
          clear r1 r2 r3
          go_wp2_with fail
          go_roundw
          case rel => exact ⟨j + 1, ms ++ [y], by go_num, by omega, HL1, H011, HRN, HB3⟩
          case measure => simp [intOf]; omega
        have hjm' : j = m := by omega
        subst hjm'
        have hji : ¬ (j : Int) < (j : Int) := by omega
        obtain ⟨av, bv, cv, rfl, _, hob⟩ := own_ob2 hown.out
        have HG := hide (good01 hjl.out ⟨by omega, hm16⟩ h01.out)
        have T7 := hide (T6.out.add hob.row)
        have HTOT := hide (totalK_any (j : Int) av j cv ms wr (T7.out.rows.at av j ms (by simp)) (by omega))
        rw [show TotKEnd (j : Int) ms wr = fun e w' => e = .returned (.tuple #[.int .i64 (sumF (getK ms) j), .bool true]) ∧ Below wr.heap.size wr w' by funext e w'; unfold TotKEnd totK; rw [HG.out, if_pos rfl, hjl.out]] at HTOT
        have hjl2 := hide hjl.out
        clear hob hown HB T T6 h01 hjl
        go_wp2_with fail
        refine HTOT.out.mono ?_
        rintro e w6 ⟨rfl, hb⟩
        have T8 := hide (T7.out.grow hb)
        clear hb T7 HTOT hc0 hc1
        go_wp2_with fail
        go_loopw [27, 28] (fun v i wx => ∃ (q : Nat) (ts : List Int), i = .int .i64 q ∧ q ≤ 10 ∧ Hid (ts.length = q) ∧ Hid (allB ts 0 ((k : Int) - 1) = true) ∧ Hid (wx.ownsRow w6.heap.size 3 1 v q (ts.map (Value.int .i64))) ∧ Hid (Below w6.heap.size w6 wx)) (fun _ i _ => 10 - (intOf i).toNat)
        case atStart => exact ⟨0, [], rfl, Nat.zero_le _, rfl, rfl, World.ownsRow_nil _ _ _ _, Below.refl _ _⟩
        case round =>
          obtain ⟨q, ts, rfl, hq, hql, hall, hown, HB⟩ := hrel
          have T9 := hide (T8.out.grow HB.out)
          have hc0 := T9.out.c0
          have hc1 := T9.out.c1
          by_cases hgo : q < 10 ∧ 0 < k
          · obtain ⟨hq10, hk0⟩ := hgo
            have hqi : (q : Int) < 10 := by omega
            have hki : (0 : Int) < (k : Int) := by omega
            have hq1 : ¬ IntKind.i64.wrap ((q : Int) + 1) = 0 := by rw [wraps_i64 _ (by omega) (by omega)]; omega
            have hk1 : ¬ (k : Int) = 0 := by omega
            have HN9 := hide (numberV_any a1 len1 cap1 cs wr.drew (T9.out.more.below (Below.refl _ wr).drew) hn1)
            have hzlt := numV_lt cs
            obtain ⟨z, hz⟩ : ∃ z, Hid (numV cs = z) := ⟨_, rfl⟩
            rw [hz.out] at HN9 hzlt
            have hkn0 : ¬ k = 0 := by omega
            have hval : 0 ≤ ((IntKind.i64.wrap ((z : Int) / IntKind.i64.wrap ((q : Int) + 1))).tmod (k : Int)) ∧ ((IntKind.i64.wrap ((z : Int) / IntKind.i64.wrap ((q : Int) + 1))).tmod (k : Int)) ≤ (k : Int) - 1 := by
              have h1 : (0 : Int) ≤ (z : Int) / ((q : Int) + 1) := Int.ediv_nonneg (by omega) (by omega)
              have h2 : (z : Int) / ((q : Int) + 1) ≤ (z : Int) := Int.ediv_le_self _ (by omega)
              rw [wraps_i64 ((q : Int) + 1) (by omega) (by omega), wraps_i64 _ h1 (by omega)]
              have h3 := Int.tmod_nonneg (k : Int) h1
              have h4 := Int.tmod_lt_of_pos ((z : Int) / ((q : Int) + 1)) hki
              omega
            obtain ⟨y, hy⟩ : ∃ y, Hid (((IntKind.i64.wrap ((z : Int) / IntKind.i64.wrap ((q : Int) + 1))).tmod (k : Int)) = y) := ⟨_, rfl⟩
            rw [hy.out] at hval
            have HVAL := hide hval
            have hownd : wr.drew.ownsRow w6.heap.size 3 1 u27 q (ts.map (Value.int .i64)) := hown.out
            have HOD := hide (hownd.alloc (.cells #[.int .i64 ((IntKind.i64.wrap ((z : Int) / IntKind.i64.wrap ((q : Int) + 1))).tmod (k : Int))] 3))
            have HBD : Hid (Below w6.heap.size w6 (wr.drew.alloc (.cells #[.int .i64 ((IntKind.i64.wrap ((z : Int) / IntKind.i64.wrap ((q : Int) + 1))).tmod (k : Int))] 3))) := HB.out.drew.trans ((below_al wr.drew _).mono HB.out.size)
            have HNW := hide (one_cell2 wr.drew (.int .i64 ((IntKind.i64.wrap ((z : Int) / IntKind.i64.wrap ((q : Int) + 1))).tmod (k : Int))))
            have HZZ := hide HBD.out.size
            clear hownd hown HB hval
            go_wp2_with fail
            have hcd1 : wr.drew.cell? ⟨V, 1, none⟩ = some (.slice a k c) := hc1
            go_region_law (first
              | (refine step_callK (by rfl) 13 _ #[.tmp 172] #[22] (by rfl) Try.func13 (by decide) (by rfl) #[.slice a1 len1 cap1] (maph1K _ _ _ (by rfl)) _ HN9.out ?_; rintro e v1 ⟨rfl, rfl⟩; refine ⟨_, rfl, ?_⟩)
              | (refine step_append_lies _ (by rfl) (.tmp 171) (.tmp 181) 27 (by rfl) w6.heap.size 3 i0 _ 1 8 Try.underlying27 hi hz0 hz1 hz2 (by rfl) (by decide) _ q _ (by rfl) HOD.out ⟨wr.heap.size, 0, none⟩ 1 1 [.int .i64 ((IntKind.i64.wrap ((z : Int) / IntKind.i64.wrap ((q : Int) + 1))).tmod (k : Int))] (by rfl) (by rfl) HNW.out (by simp [Value.oneCell']) (by decide) (by unfold maxLen; omega) (by omega) HZZ.out (wr.heap.size + 1) (by simp) ?_; intro gA cp W' hown2 hgr hlies hglt))
            all_goals
              have HR1 : Hid (W'.ownsRow w6.heap.size 3 1 (.slice (some ⟨gA, 0, none⟩) (q + 1) cp) (q + 1) ((ts ++ [y]).map (Value.int .i64))) := by
                show World.ownsRow _ _ _ _ _ _ _
                rw [List.map_append, ← hy.out]; exact hown2
              have HB3 := hide (own_below2 HOD.out hgr HBD.out HBD.out.size (Nat.le_refl _))
              have HTL : Hid ((ts ++ [y]).length = q + 1) := by show _ = _; rw [List.length_append, hql.out]; rfl
              have HAL : Hid (allB (ts ++ [y]) 0 ((k : Int) - 1) = true) := by
                show _ = _
                have h1 := hall.out
                unfold allB at h1 ⊢
                rw [List.all_append, h1]
                have h2 := HVAL.out
                simp [inB]
                omega
              clear hown2 hgr hlies hglt HOD HBD HNW HZZ hc0 hc1 hcd1 T9
            all_goals go_wp2_with fail
            all_goals go_roundw
            all_goals first | exact ⟨q + 1, ts ++ [y], by go_num, by omega, HTL, HAL, HR1, HB3⟩ | (simp [intOf]; omega)
          obtain ⟨at2, bt2, ct2, rfl, _, hob⟩ := own_ob2 hown.out
          have T10 := hide (T9.out.add hob.row)
          have HOKA : Hid (allOk (j : Int) k L ms ts = true) := by
            show _ = _
            unfold allOk
            rw [HNET.out, HG.out, hall.out, hql.out]
            simp; omega
          have HFA : Hid (faR (j : Int) k L ms ts = runL (j : Int) k L ms ts) := by show _ = _; unfold faR; rw [HOKA.out, if_pos rfl]
          obtain ⟨x, hx⟩ : ∃ x, Hid (runL (j : Int) k L ms ts = x) := ⟨_, rfl⟩
          obtain ⟨sm, hsm⟩ : ∃ y, Hid (sumF (getK ms) j = y) := ⟨_, rfl⟩
          have HXL : Hid (x.length ≤ j) := by show _ ≤ _; have h := runL_lenK (j : Int) k L ms ts; rw [hx.out, hjl2.out] at h; exact h
          have HKB : Hid (∀ i, i < j → x.getD i 0 ≤ sm) := fun i hi => by
            have h := kept_bound hkk.out ts ms (goodB_parts HG.out).2.2 hi
            rw [hx.out] at h
            rw [← hsm.out]
            exact h
          obtain ⟨fn9, hfn9⟩ : ∃ y, Hid (faN (j : Int) k L ms ts = y) := ⟨_, rfl⟩
          rw [hsm.out]
          have hxl : x.length ≤ j := HXL.out
          clear hown hob HB T9 T8 hql hall
          by_cases hq10 : q < 10
          case' pos =>
            have hqi : (q : Int) < 10 := by omega
            have hki : ¬ (0 : Int) < (k : Int) := by omega
            go_wp2_with fail
          case' neg =>
            have hqi : ¬ (q : Int) < 10 := by omega
            go_wp2_with fail
          all_goals
            refine (implFireAll_any _ _ _ _ _ _ _ _ _ _ L ms ts _ T10.out.net (T10.out.rows.at av j ms (by simp)) (T10.out.rows.at at2 q ts (by simp)) hsz2 (by omega) (by omega)).mono ?_
            rw [HOKA.out, HFA.out, hx.out, hfn9.out]
            rintro e w8 ⟨ay, by', nx, rfl, hblk, _, hb⟩
            have hnx : nx ≤ j := by have h1 := hblk.row.1; omega
            have T11 := hide ((T10.out.grow hb).add hblk.row)
            clear hb hblk T10 hc0 hc1
            go_wp2_with fail
            go_loop [199] (fun i => ∃ q3 : Nat, q3 ≤ nx ∧ i = .int .i64 q3) (fun i => nx - (intOf i).toNat)
            case atStart => exact ⟨0, Nat.zero_le _, rfl⟩
            case round =>
              obtain ⟨q3, hq3, rfl⟩ := hrel
              by_cases hqx : q3 < nx
              · have hqxi : (q3 : Int) < (nx : Int) := by omega
                obtain ⟨b7, o7, xv, rfl, hl7, hc7, H7⟩ := (T11.out.rows.at ay nx x (by simp)).at hqx
                have hle := HKB.out q3 (by omega)
                rw [show x.getD q3 0 = xv by rw [List.getD_eq_getElem?_getD, H7.out]; rfl] at hle
                have hnl : ¬ sm < xv := by omega
                clear H7
                go_wp2_with fail
                go_round
                case rel => exact ⟨q3 + 1, by omega, by go_num⟩
                case measure => simp [intOf]; omega
              have hqxi : ¬ (q3 : Int) < (nx : Int) := by omega
              go_wp2_with fail
              go_ret
              exact ⟨rfl, T11.out.old⟩
    have hti : (t : Int) < (N : Int) := by omega
    obtain ⟨s, hs⟩ : ∃ s, R[t]? = some s := ⟨R[t]'(by have := HN.out; omega), List.getElem?_eq_getElem _⟩
    have hok : siOk (m : Int) k L = true := by
      cases h : siOk (m : Int) k L
      · have h1 := hRR.out
        rw [siN_no h] at h1
        rw [← h1] at hs
        simp at hs
      · rfl
    obtain ⟨_, hm1, hm10⟩ := si_parts hok
    have hs' := hs
    rw [← hRR.out] at hs'
    obtain ⟨hs1, hs2, _⟩ := si_set hok (List.mem_of_getElem? hs')
    obtain ⟨hw1, hw2⟩ := si_wgt hok (List.mem_of_getElem? hs')
    have hs16 : s < 2 ^ 16 := Nat.lt_of_lt_of_le hs2 (Nat.pow_le_pow_right (by omega) (by omega))
    have HW := hide (And.intro hw1 hw2)
    have HNE := hide (nums_neK hs1 hs16)
    have HMN := hide (mask_nums s hs16)
    have HSET : Hid (∀ x ∈ nums2 s.testBit 16, 0 ≤ x ∧ x ≤ (m : Int) - 1) := fun x hx => riseB_mem (nums_rise hs2) x hx
    have HOK := hide hok
    have HST := hide hs
    obtain ⟨b0, off0, ax, n0, c0, e0, hb0, hcx, hmx, rx⟩ := HK.out.at htN
    rw [listsN_atK hs] at rx
    have RX := hide rx
    have hn16 : n0 ≤ 16 := by have h1 := rx.1; have h2 := nums2_len s.testBit 16; omega
    obtain ⟨rfl, rfl⟩ : B = b0 ∧ 0 = off0 := by simpa using e0
    have hcx1 : wr.cell? ⟨B, t, none⟩ = some (.slice ax n0 c0) := by simpa using hcx
    clear hcx
    have hmk := run_make_many (P := Try.prog) 27 3 (.int .i64 0) 1 8 Try.underlying27 Try.info3 .i64 .i64 m (by omega) (by omega)
    simp only [Value.cells, Nat.mul_one] at hmk
    have HO := hide (outF_made wr (fun _ => 0) m)
    have hA := below_al wr (.cells (madeCells #[.int .i64 0] m) 3)
    have HBW := hide hA
    rw [rowB_made] at HO
    clear hs hs' hok hs1 hs2 hw1 hw2 rx hmx e0 hA
    go_wp2_with fail
    obtain ⟨gB, hgB⟩ : ∃ g, Hid (wr.heap.size = g) := ⟨_, rfl⟩
    rw [hgB.out] at HO ⊢
    generalize wr.alloc (.cells (madeCells #[.int .i64 0] m) 3) = wa at HO HBW ⊢
    clear hmk
    go_loopw [95] (fun i wx => ∃ q : Nat, q ≤ n0 ∧ i = .int .i64 q ∧ Hid (OutR wx gB m (rowB (maskL ((nums2 s.testBit 16).take q)) m)) ∧ Hid (Below wr.heap.size wr wx)) (fun i _ => n0 - (intOf i).toNat)
    case atStart => exact ⟨0, Nat.zero_le _, rfl, HO, HBW⟩
    case round =>
      obtain ⟨q, hq, rfl, ho, hbw⟩ := hrel
      clear HO HBW
      have T2 := hide (T.out.grow hbw.out)
      have HK2 := hide (HK.out.below hbw.out)
      by_cases hqn : q < n0
      · have hqi : (q : Int) < (n0 : Int) := by omega
        obtain ⟨b2, o2, x, rfl, hl2, hc2, H2⟩ := (RX.out.below hbw.out).at hqn
        have hx := HSET.out x (List.mem_of_getElem? H2.out)
        obtain ⟨xi, rfl⟩ : ∃ xi : Nat, x = (xi : Int) := ⟨x.toNat, by omega⟩
        have hxm : xi < m := by omega
        have hxi : (0 : Int) ≤ (xi : Int) ∧ (xi : Int) < (m : Int) := by omega
        obtain ⟨hle, cur, hh, hcs, hcell⟩ := ho.out
        have hfr := frozen_of_row wr gB xi cur _ hh
        have hcy := cell_of_row wr gB xi cur _ _ hh
        rw [hcell xi hxm] at hcy
        obtain ⟨y, hyy⟩ : ∃ y, Hid ((rowB (maskL ((nums2 s.testBit 16).take q)) m).getD xi 0 = y) := ⟨_, rfl⟩
        rw [hyy.out] at hcy
        have hset := ho.out.set xi hxm 1
        rw [rowB_set H2.out] at hset
        have HN1 := hide hset
        have HBN := hide (hbw.out.setCell (p := ⟨gB, xi, none⟩) (by rw [hgB.out]; exact Nat.le_refl _) (.int .i64 1))
        clear ho hbw hh hcell H2 hcs hle hyy T2 HK2 hset hx
        go_wp2_with fail
        go_roundw
        case rel => exact ⟨q + 1, by omega, by go_num, HN1, HBN⟩
        case measure => simp [intOf]; omega
      have hqi : ¬ (q : Int) < (n0 : Int) := by omega
      have HRW : Hid (Row wr (some ⟨gB, 0, none⟩) m (rowB s m)) := by
        have h := ho.out
        rw [List.take_of_length_le (by have := RX.out.1; omega), HMN.out] at h
        exact h.row
      have hd0 := T2.out.c0
      have hd1 := T2.out.c1
      clear ho hcx1 hc0 hc1
      go_wp2_with fail
      refine (isInvI_any _ _ _ _ _ _ _ L (rowB s m) _ T2.out.net HRW.out hsz2 (by omega)).mono ?_
      unfold InEnd
      rw [HW.out.1, HW.out.2]
      rintro e w9 ⟨rfl, hb⟩
      have T3 := hide (T2.out.grow hb)
      have HK3 := hide (HK2.out.below hb)
      have RX3 := hide ((RX.out.below hbw.out).below hb)
      have hn0f : ((n0 : Int) == 0) = false := by
        have h1 := HNE.out
        have h2 := RX.out.1
        rw [beq_eq_false_iff_ne]
        omega
      clear hb hbw T2 HK2 HRW hd0 hd1 T HK RX
      go_wp2_with fail
      go_loopw [122] (fun i wy => ∃ q2 : Nat, q2 ≤ N ∧ i = .int .i64 q2 ∧ Hid (Below w9.heap.size w9 wy)) (fun i _ => N - (intOf i).toNat)
      case atStart => exact ⟨0, Nat.zero_le _, rfl, Below.refl _ _⟩
      case round =>
        obtain ⟨q2, hq2, rfl, hby⟩ := hrel
        by_cases hq2N : q2 < N
        rotate_left
        · have hqi2 : ¬ (q2 : Int) < (N : Int) := by omega
          have T4 := hide (T3.out.grow hby.out)
          have HK4 := hide (HK3.out.below hby.out)
          clear T3 HK3 RX3 hby
          go_wp2_with fail
          go_roundw
          case rel => exact ⟨t + 1, by omega, by go_num, T4, HK4⟩
          case measure => simp [intOf]; omega
        have hqi2 : (q2 : Int) < (N : Int) := by omega
        obtain ⟨r, hr⟩ : ∃ r, R[q2]? = some r := ⟨R[q2]'(by have := HN.out; omega), List.getElem?_eq_getElem _⟩
        obtain ⟨b5, off5, ay, n5, c5, e5, hb5, hcx5, hmx5, ry⟩ := (HK3.out.below hby.out).at hq2N
        rw [listsN_atK hr] at ry
        have RY := hide ry
        have hn5 : n5 ≤ 16 := by have h1 := ry.1; have h2 := nums2_len r.testBit 16; omega
        obtain ⟨rfl, rfl⟩ : B = b5 ∧ 0 = off5 := by simpa using e5
        have hcy5 : wr.cell? ⟨B, q2, none⟩ = some (.slice ay n5 c5) := by simpa using hcx5
        clear hcx5 e5 hmx5 ry
        by_cases htq : t = q2
        · subst htq
          have hd : ((t : Int) != (t : Int)) = false := by simp
          clear hr
          go_wp2_with fail
          go_roundw
          case rel => exact ⟨t + 1, by omega, by go_num, hby⟩
          case measure => simp [intOf]; omega
        have hd : ((t : Int) != (q2 : Int)) = true := by simp; omega
        have hw : withB (nums2 r.testBit 16) (nums2 s.testBit 16) = false := si_two HOK.out (by rw [hRR.out]; exact hr) (by rw [hRR.out]; exact HST.out) (fun e => htq e.symm)
        have HWI := hide hw
        clear hr hw
        go_wp2_with fail
        refine (within_any _ _ _ _ _ _ (nums2 r.testBit 16) (nums2 s.testBit 16) _ RY.out (RX3.out.below hby.out) (by omega) (by omega)).mono ?_
        rw [HWI.out]
        rintro e wz ⟨rfl, rfl⟩
        go_wp2_with fail
        go_roundw
        case rel => exact ⟨q2 + 1, by omega, by go_num, hby⟩
        case measure => simp [intOf]; omega

/-! ### THE ROW's STEP: WRITTEN OUT: LEAVE IT -/
set_option maxRecDepth 100000 in
theorem lifted (os : Os) (started : os.Started) (H : Type) (enc : TypeId × Value → H) :
    ReturnsInHanded {} Try.checked os 4 .any (Rows.fnKeptAllSpec.pre6 enc Try.prog Try.f4 Rows.fnKeptAllRow.domain false) (Rows.fnKeptAllSpec.post enc Try.prog Try.f4 false true false false) := by
  refine returnsInHanded_of_change (C := Try.checked) own started (by kernel_rfl) Try.func4
    (ChangeSpec.witness6 (enc := enc) (C := Try.checked) false ⟨#[], #[.slice none 0 0, .slice none 0 0], []⟩ 8 (by kernel_rfl) (by kernel_rfl) (by kernel_rfl) (by kernel_rfl)) ?_
  intro W base args ds gs before hval0 hW hcnd _
  have hval : ∀ (j : Nat) t v, Try.f4.params[j]? = some t → args[j]? = some v → Value.okWide Try.prog W .any base t v := hval0
  have hW' := hW
  obtain ⟨p, q, hA0, hV, rfl, hfz, hnd⟩ := hW
  have hA : DataW.TrodAll enc Try.prog W 0 (fun _ => true) true Try.f4.params.toList args.toList ds p := hA0
  rw [Try.params4] at hA hval
  obtain ⟨v0, vs0, d0, ds0, p0, q0, hargs, rfl, rfl, h0, r0⟩ := trodAll_cons hA
  obtain ⟨v1, vs1, d1, ds1, p1, q1, rfl, rfl, rfl, h1, r1⟩ := trodAll_cons r0
  obtain ⟨rfl, rfl, rfl⟩ := trodAll_nil r1
  obtain rfl : args = #[v0, v1] := by cases args; simp_all
  obtain ⟨rfl, rfl⟩ := trodVars_none hV
  obtain ⟨a0, len0, cap0, rfl⟩ := okWide_slice Try.underlying22 (hval 0 22 v0 rfl rfl)
  have k0 := h0
  have lt0 : ∀ x ∈ p0, x.block < W.heap.size := by obtain ⟨m, hm⟩ := k0; exact DataW.trod_lt m _ _ _ hm
  obtain ⟨z0, w0⟩ : ∃ zs, IsRow .u8 W a0 len0 cap0 zs := by
    obtain ⟨fuel, hf⟩ := h0
    rcases open_ints Try.underlying22 Try.underlying5 (by kernel_rfl) hf with ⟨hcs, _⟩ | ⟨x, l, c, zs, hcs, _, hl, hm, hz, _, hcell, hwz⟩
    · simp [Value.cells] at hcs
      obtain ⟨rfl, rfl, rfl⟩ := hcs
      exact ⟨[], .inl ⟨rfl, rfl, rfl, rfl⟩⟩
    · simp [Value.cells] at hcs
      obtain ⟨rfl, rfl, rfl⟩ := hcs
      exact ⟨zs, .inr ⟨_, rfl, hl, hm, by simpa using hz, hcell, hwz⟩⟩
  obtain ⟨a1, len1, cap1, rfl⟩ := okWide_slice Try.underlying22 (hval 1 22 v1 rfl rfl)
  have k1 := h1
  have lt1 : ∀ x ∈ p1, x.block < W.heap.size := by obtain ⟨m, hm⟩ := k1; exact DataW.trod_lt m _ _ _ hm
  obtain ⟨z1, w1⟩ : ∃ zs, IsRow .u8 W a1 len1 cap1 zs := by
    obtain ⟨fuel, hf⟩ := h1
    rcases open_ints Try.underlying22 Try.underlying5 (by kernel_rfl) hf with ⟨hcs, _⟩ | ⟨x, l, c, zs, hcs, _, hl, hm, hz, _, hcell, hwz⟩
    · simp [Value.cells] at hcs
      obtain ⟨rfl, rfl, rfl⟩ := hcs
      exact ⟨[], .inl ⟨rfl, rfl, rfl, rfl⟩⟩
    · simp [Value.cells] at hcs
      obtain ⟨rfl, rfl, rfl⟩ := hcs
      exact ⟨zs, .inr ⟨_, rfl, hl, hm, by simpa using hz, hcell, hwz⟩⟩
  clear hA0 hval0
  refine (walk a0 len0 cap0 z0 a1 len1 cap1 z1 W w0 w1).mono fun e W' ⟨he, bel⟩ => ?_
  subst he
  exact ⟨_, rfl, _, _, _, [], _, [], hW', trodAll_mk1 (shut_bool Try.underlying4 _), (trodAll_cons_mk (Below.trod laidOut (by kernel_rfl) (of_decide_eq_true (by kernel_rfl)) k0 bel lt0) (trodAll_cons_mk (Below.trod laidOut (by kernel_rfl) (of_decide_eq_true (by kernel_rfl)) k1 bel lt1) trodAll_mk0)), rfl, bel.frame _, fun h => by cases h⟩

theorem over : Rows.fnKeptAllRow.holds Try.pinned (OpenSpec.ofChange Rows.fnKeptAllSpec) :=
  OpenClaim.holds_of_wide 4 Try.f4 rfl rfl rfl rfl rfl rfl rfl ⟨rfl, rfl, rfl, rfl, rfl⟩ rfl rfl rfl rfl rfl (by kernel_rfl) Try.func4 (by kernel_rfl)
    (of_decide_eq_true (by kernel_rfl)) (by unfold Func.isWrapper; first | (rw [if_pos (by decide +kernel)]; kernel_rfl) | (rw [if_neg (by decide +kernel)]; exact ⟨rfl, rfl⟩))
    (fun os started H enc _ => lifted os started H enc)

/-- ████ THE STATEMENT ████ -/
theorem proved : Rows.FnKeptAllSaid := over
#print axioms proved
end Go.Proofs.Ytajcmamapmeglaa.fnKeptAll

namespace Go.Proofs.Ytajcmamapmeglaa
theorem fnKeptAll_holds : Rows.FnKeptAllSaid := fnKeptAll.proved
end Go.Proofs.Ytajcmamapmeglaa
