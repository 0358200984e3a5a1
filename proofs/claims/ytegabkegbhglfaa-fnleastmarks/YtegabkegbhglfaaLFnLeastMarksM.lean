/- Proved: for every two lists of bytes, in whatever memory, the law FnLeastMarks returns true and leaves its arguments as they were; no condition. -/
import Derived.Test.YtegabkegbhglfaaP8
import Derived.WalkKit
import Derived.ProofKit
import Derived.OpenShut
import Derived.ShutString
import Derived.ChangeOld
import Derived.Below
namespace Go.Proofs.Ytegabkegbhglfaa.fnLeastMarks
open Go.ChangeShapes Go.WideShapes Go.ChangeAt Go.RowKit
open Go.ChangeMaps (open_string shut_string)
set_option linter.unusedVariables false

theorem own : ownKnob Try.prog.godebug = none := by kernel_rfl
theorem laidOut : laidOutB Try.prog = true := by kernel_rfl

/-- WHAT THE WALK IS TOLD OF A SLICE OF INTEGERS THAT CAME IN: it is nil; or it leads to a row of 'cap' cells, the numbers 'zs' (the first 'len' are its elements, the rest its spare room), each fitting its kind. -/
def IsRow (k : IntKind) (w : World) (a : Option Addr) (len cap : Nat) (zs : List Int) : Prop :=
  (a = none ∧ len = 0 ∧ cap = 0 ∧ zs = []) ∨
  ∃ x, a = some x ∧ len ≤ cap ∧ cap ≤ maxLen ∧ zs.length = cap ∧ (∀ i, i < zs.length → w.cell? (x.add i) = some (.int k (zs.getD i 0))) ∧ ∀ n ∈ zs, (Lit.int k n).wf = true

theorem rowOf {w : World} {a : Option Addr} {len cap : Nat} {zs : List Int} (h : IsRow .u8 w a len cap zs) : RowB w a len (zs.take len) ∧ len ≤ maxLen := by
  rcases h with ⟨rfl, rfl, rfl, rfl⟩ | ⟨x, rfl, hl, hm, hz, hcell, hwz⟩
  · exact ⟨⟨rfl, fun i => by simp, .inl rfl⟩, by unfold maxLen; omega⟩
  · refine ⟨⟨by rw [List.length_take]; omega, fun i => ?_, ?_⟩, by omega⟩
    · rw [List.getD_eq_getElem?_getD]
      by_cases hi : i < (zs.take len).length
      · rw [List.getElem?_eq_getElem hi]
        have := hwz _ (List.mem_of_mem_take (List.getElem_mem hi))
        have := bounds_u8 this
        simpa using this
      · rw [List.getElem?_eq_none (by omega)]; simp
    · by_cases h0 : len = 0
      · exact .inl h0
      · obtain ⟨b, off, spot⟩ := x
        have hc := hcell 0 (by omega)
        have hspot : spot = none := by simpa [Addr.add] using World.cell?_spot hc
        subst hspot
        refine .inr ⟨b, off, rfl, ?_, fun i hi => ?_⟩
        · have := block_lt_of_cell hc; simpa [Addr.add] using this
        · have := hcell i (by omega)
          rw [List.getD_eq_getElem?_getD, List.getElem?_take_of_lt hi, ← List.getD_eq_getElem?_getD]
          have ea : (⟨b, off, none⟩ : Addr).add i = ⟨b, off + i, none⟩ := by unfold Addr.add; split <;> simp_all
          rw [ea] at this
          exact this

theorem sizeL_le18 {R : List (List Int)} (h : ∀ x ∈ R, x.length ≤ 18) : sizeL R ≤ 18 * R.length := by
  induction R with
  | nil => simp [sizeL]
  | cons a R ih =>
    have h1 := h a (by simp)
    have h2 := ih fun x hx => h x (List.mem_cons_of_mem _ hx)
    simp only [sizeL, List.map_cons, List.sum_cons, List.length_cons] at *
    omega

theorem good_lenN {m : Nat} {xs : List Int} (h : goodB (m : Int) xs = true) : xs.length = m := by have := good_len h; rwa [show (m : Int).toNat = m by simp] at this

/-- What the law keeps in mind. -/
structure Lz (w v : World) (al : Option Addr) (q : Nat) (X : List (List Int)) (ag : Option Addr) (N : Nat) (K : List (List Int)) (ma : Option Addr) (mn : Nat) (cs : List Int) : Prop where
  old : Below w.heap.size w v
  l : Lists v al q X
  s : Lists v ag N K
  more : RowB v ma mn cs

theorem Lz.grow {w v v' : World} {al : Option Addr} {q : Nat} {X : List (List Int)} {ag : Option Addr} {N : Nat} {K : List (List Int)} {ma : Option Addr} {mn : Nat} {cs : List Int} (h : Lz w v al q X ag N K ma mn cs) (hb : Below v.heap.size v v') : Lz w v' al q X ag N K ma mn cs :=
  ⟨h.old.trans (hb.mono h.old.size), h.l.below hb, h.s.below hb, h.more.below hb⟩

set_option maxRecDepth 100000 in
set_option maxHeartbeats 8000000 in
theorem walk (a0 : Option Addr) (len0 cap0 : Nat) (z0 : List Int) (a1 : Option Addr) (len1 cap1 : Nat) (z1 : List Int) (w : World) (w0 : IsRow .u8 w a0 len0 cap0 z0) (w1 : IsRow .u8 w a1 len1 cap1 z1) :
    Calls Try.prog 3 #[.slice a0 len0 cap0, .slice a1 len1 cap1] w fun e w' => e = .returned (.bool true) ∧ Below w.heap.size w w' := by
  have hr := rowOf w0
  have hr2 := rowOf w1
  generalize z0.take len0 = bs at hr
  generalize z1.take len1 = cs at hr2
  obtain ⟨hr, hl0⟩ := hr
  obtain ⟨hr2, hl1⟩ := hr2
  have HR := hide hr
  have HR2 := hide hr2
  unfold maxLen at hl0 hl1
  clear w0 w1 hr hr2
  have hbb : ∀ b : Bool, (b != b) = false := by simp
  go_enter Try.func3, Try.ntmps3
  go_wp2_with fail
  refine (big_any _ _ _ _ _ _ _ hl0 hl1).mono ?_
  rintro e v0 ⟨r, rfl, hbig, hv0⟩
  rw [hv0]
  clear hv0 v0
  cases r
  rotate_left
  · go_wp2_with fail
    go_ret
    exact ⟨rfl, Below.refl _ _⟩
  have hn0 := (hbig.out rfl).1
  have hn1 := (hbig.out rfl).2
  clear hbig
  go_wp2_with fail
  refine (drawLeast_any _ _ _ bs _ HR.out hn0).mono ?_
  rintro e v1 ⟨m, al, q, cl, X, rfl, hm1, hm4, hq, hls, hle, hb⟩
  have HXL := hide hls.1
  have hsz : sizeN q X ≤ 1048576 := by have := sizeL_le18 hle; have := hls.1; unfold sizeN; omega
  have HIM := hide (leastI_any m al q cl X v1 hls hsz)
  have HSP := hide (fun w h => leastS_any m al q cl X w h hsz)
  have hKs := leastR_size m X
  have HMN := hide (fun h => (leastR_min (p := (m : Int)) (L := X) h).1)
  have HOA := hide (fun h => okL_all (p := (m : Int)) (L := X) h)
  obtain ⟨K, hK⟩ : ∃ K, Hid (leastR m X = K) := ⟨_, rfl⟩
  obtain ⟨g, hgg⟩ : ∃ g, Hid (okL m X = g) := ⟨_, rfl⟩
  rw [hK.out] at hKs
  rw [hK.out, hgg.out] at HIM HSP HMN
  rw [hgg.out] at HOA
  obtain ⟨N, hN⟩ : ∃ N, K.length = N := ⟨_, rfl⟩
  have HN := hide hN
  have HKS : Hid (sizeN N K ≤ 1048576) := by show _ ≤ _; unfold sizeN; omega
  have hN4 : N ≤ 400 := by omega
  have HLS := hide hls
  have HB1 := hide hb
  have HM1 := hide (HR2.out.below hb)
  have HLE := hide hle
  clear hKs hN hls hb hle HR HR2
  go_wp2_with fail
  refine HIM.out.mono ?_
  rintro e v2 ⟨ag, Bg, hig, cg, rfl, hng, _, _, hb, hcg⟩
  rw [HN.out] at hng hcg ⊢
  have ST := hide (Lz.mk (w := w) (HB1.out.trans (hb.mono HB1.out.size)) (HLS.out.below hb) (hng.lists1 HN.out HKS.out) (HM1.out.below hb))
  clear HIM hng hb HLS HB1 HM1
  go_wp2_with fail
  refine (HSP.out _ ST.out.l).mono ?_
  rintro e v3 ⟨aw, cw, rfl, hlw, hb⟩
  rw [HN.out] at hlw ⊢
  have ST2 := hide (ST.out.grow hb)
  have HW := hide (sameSS_any ag aw N cg cw K _ ST2.out.s hlw HKS.out)
  clear HSP hlw hb ST
  go_wp2_with fail
  refine HW.out.mono ?_
  rintro e v4 ⟨rfl, hb⟩
  have ST9 := hide (ST2.out.grow hb)
  clear HW hb ST2
  cases g
  · go_wp2_with fail
    refine (drawCmp_any _ _ _ cs _ ST9.out.more hn1).mono ?_
    rintro e t1 ⟨pp, at1, nt1, ct1, xs, at2, nt2, ct2, ys, rfl, hnx, hny, hrx, hry, hb⟩
    have TB := hide (ST9.out.old.trans (hb.mono ST9.out.old.size))
    have TX := hide hrx
    have TY := hide hry
    have hz := cmpB_one pp xs ys
    have han := cmpB_anti pp xs ys
    have hgc : (goodB pp ys && goodB pp xs) = (goodB pp xs && goodB pp ys) := Bool.and_comm _ _
    have C1 := hide (fun w h1 h2 => compareI_any pp at1 at2 nt1 nt2 ct1 ct2 xs ys w h1 h2 (by omega) (by omega))
    have C2 := hide (fun w h1 h2 => compareS_any pp at1 at2 nt1 nt2 ct1 ct2 xs ys w h1 h2 (by omega) (by omega))
    have C3 := hide (fun w h1 h2 => compareI_any pp at2 at1 nt2 nt1 ct2 ct1 ys xs w h1 h2 (by omega) (by omega))
    unfold CmpEnd at C1 C2 C3
    rw [hgc, han] at C3
    generalize cmpB pp xs ys = z at *
    generalize (goodB pp xs && goodB pp ys) = gg at *
    clear hb hrx hry ST9 han hgc
    have hzz : (z == z) = true := by simp
    have hnz : (-z == -z) = true := by simp
    have hg2 : (gg == gg) = true := by simp
    go_wp2_with fail
    refine (C1.out _ TX.out TY.out).mono ?_
    rintro e t2 ⟨rfl, hb⟩
    have TB2 := hide (TB.out.trans (hb.mono TB.out.size))
    have TX2 := hide (TX.out.below hb)
    have TY2 := hide (TY.out.below hb)
    clear TB TX TY hb
    go_wp2_with fail
    refine (C2.out _ TX2.out TY2.out).mono ?_
    rintro e t3 ⟨rfl, hb⟩
    have TB := hide (TB2.out.trans (hb.mono TB2.out.size))
    have TX := hide (TX2.out.below hb)
    have TY := hide (TY2.out.below hb)
    clear TB2 TX2 TY2 hb
    go_wp2_with fail
    refine (C3.out _ TY.out TX.out).mono ?_
    rintro e t4 ⟨rfl, hb⟩
    have TB2 := hide (TB.out.trans (hb.mono TB.out.size))
    clear TB TX TY hb C1 C2 C3
    go_wp2_with fail
    go_ret
    exact ⟨by simp, TB2.out⟩
  have hmn := HMN.out rfl
  have HGX := hide (HOA.out rfl)
  rw [show (m : Int).toNat = m by simp] at hmn
  have HGK : Hid (∀ x ∈ K, goodB m x = true) := fun x hx => HGX.out x ((hmn.2 x).mp hx).1
  have HCV := hide (min_cov (fun x hx => by have := good_len (HGX.out x hx); simpa using this) hmn)
  have HPR := hide (fun i j => min_pair hmn (i := i) (j := j))
  clear hmn HMN HOA
  go_wp2_with fail
  go_loopw [69] (fun i wr => ∃ k : Nat, k ≤ q ∧ i = .int .i64 k ∧ Hid (Lz w wr al q X ag N K a1 len1 cs)) (fun i _ => q - (intOf i).toNat)
  case atStart => exact ⟨0, Nat.zero_le _, rfl, ST9⟩
  case round =>
    obtain ⟨k, hk, rfl, st⟩ := hrel
    clear ST9
    by_cases hlt : k < q
    · have hlt' : k < X.length := by have := HXL.out; omega
      generalize wr = v0 at *
      obtain ⟨b, off, ax, nx, cx, rfl, hbx, hcx, mx, rx⟩ := st.out.l.at hlt
      have HGX1 := hide (HGX.out _ (getD_mem hlt'))
      have HCV1 := hide (HCV.out _ (getD_mem hlt'))
      have hlx : nx ≤ 18 := by have h1 := rx.1; have h2 := HLE.out _ (getD_mem hlt'); omega
      obtain ⟨x, hx⟩ : ∃ x, Hid (X.getD k [] = x) := ⟨_, rfl⟩
      rw [hx.out] at rx HGX1 HCV1
      have HRX := hide rx
      clear rx mx
      go_wp2_with fail
      go_loopw [13, 75] (fun t i v => ∃ (j : Nat) (mb : Bool), j ≤ N ∧ i = .int .i64 j ∧ t = .bool mb ∧ Hid (mb = metU m K x j) ∧ Hid (Below v0.heap.size v0 v)) (fun _ i _ => N - (intOf i).toNat)
      case atStart => exact ⟨0, false, Nat.zero_le _, rfl, rfl, rfl, Below.refl _ _⟩
      case round =>
        obtain ⟨j, mb, hj, rfl, rfl, hmb, hbv⟩ := hrel
        by_cases hjl : j < N
        · have hjl' : j < K.length := by have := HN.out; omega
          obtain ⟨b2, off2, ay, ny, cy, rfl, hby, hcy, my, ry⟩ := (st.out.grow hbv.out).s.at hjl
          have HGY := hide (HGK.out _ (getD_mem hjl'))
          have hly : ny ≤ 18 := by have h1 := ry.1; have h2 := good_lenN HGY.out; omega
          have hsu := metU_succ (n := m) (m := x) hjl'
          rw [← hmb.out] at hsu
          have hcv := covB_good HGX1.out HGY.out
          have HC := hide (coversI_any m ax ay nx ny cx cy x (K.getD j []) _ (HRX.out.below hbv.out) ry (by omega) (by omega))
          unfold CovEnd at HC
          rw [hcv, HGX1.out, HGY.out] at HC
          rw [show (m : Int).toNat = m by simp] at HC
          generalize covL m x (K.getD j []) = cv at *
          clear ry my hcv hmb hcx
          go_wp2_with fail
          refine HC.out.mono ?_
          rintro e v5 ⟨rfl, hb⟩
          have HB5 := hide (hbv.out.trans (hb.mono hbv.out.size))
          clear HC hb hcy
          cases mb
          · have HX : Hid (cv = metU m K x (j + 1)) := by rw [hsu]; rfl
            clear hsu
            go_wp2_with fail
            go_roundw
            case rel => exact ⟨j + 1, cv, by omega, by go_num, rfl, HX, HB5⟩
            case measure => simp [intOf]; omega
          · have HX : Hid (true = metU m K x (j + 1)) := by rw [hsu]; rfl
            clear hsu
            go_wp2_with fail
            go_roundw
            case rel => exact ⟨j + 1, true, by omega, by go_num, rfl, HX, HB5⟩
            case measure => simp [intOf]; omega
        · have hj' : j = N := by omega
          subst hj'
          have hm2 := hmb.out
          rw [← HN.out, metU_all HCV1.out] at hm2
          subst hm2
          have ST := hide (st.out.grow hbv.out)
          clear hmb hcx
          go_wp2_with fail
          go_roundw
          case rel => exact ⟨k + 1, by omega, by go_num, ST⟩
          case measure => simp [intOf]; omega
    · have hk' : k = q := by omega
      subst hk'
      go_wp2_with fail
      go_loopw [98] (fun i wr => ∃ k' : Nat, k' ≤ N ∧ i = .int .i64 k' ∧ Hid (Lz w wr al k X ag N K a1 len1 cs)) (fun i _ => N - (intOf i).toNat)
      case atStart => exact ⟨0, Nat.zero_le _, rfl, st⟩
      case round =>
        obtain ⟨i, hi, rfl, sv⟩ := hrel
        clear st
        by_cases hil : i < N
        · have hil' : i < K.length := by have := HN.out; omega
          generalize wr = v0 at *
          obtain ⟨b, off, ax, nx, cx, rfl, hbx, hcx, mx, rx⟩ := sv.out.s.at hil
          have HGX1 := hide (HGK.out _ (getD_mem hil'))
          have hlx : nx ≤ 18 := by have h1 := rx.1; have h2 := good_lenN HGX1.out; omega
          have HRX := hide rx
          have hic : (i : Int) ≤ (cg : Int) := by omega
          clear rx mx
          go_wp2_with fail
          go_loopw [107] (fun jv v => ∃ j : Nat, j ≤ i ∧ jv = .int .i64 j ∧ Hid (Below v0.heap.size v0 v)) (fun jv _ => i - (intOf jv).toNat)
          case atStart => exact ⟨0, Nat.zero_le _, rfl, Below.refl _ _⟩
          case round =>
            obtain ⟨j, hj, rfl, hbv⟩ := hrel
            by_cases hjl : j < i
            · have hjl' : j < K.length := by omega
              obtain ⟨b2, off2, ay, ny, cy, e2, hby, hcy, my, ry⟩ := (sv.out.grow hbv.out).s.at (show j < N by omega)
              obtain ⟨rfl, rfl⟩ : b = b2 ∧ off = off2 := by simpa using e2
              have HGY := hide (HGK.out _ (getD_mem hjl'))
              have hly : ny ≤ 18 := by have h1 := ry.1; have h2 := good_lenN HGY.out; omega
              obtain ⟨p1, p2, p3⟩ := HPR.out i j hjl hil'
              have HC1 := hide (fun w h1 h2 => coversI_any m ax ay nx ny cx cy (K.getD i []) (K.getD j []) w h1 h2 (by omega) (by omega))
              have HC2 := hide (fun w h1 h2 => coversI_any m ay ax ny nx cy cx (K.getD j []) (K.getD i []) w h1 h2 (by omega) (by omega))
              have HC3 := hide (fun w h1 h2 => compareI_any m ay ax ny nx cy cx (K.getD j []) (K.getD i []) w h1 h2 (by omega) (by omega))
              unfold CovEnd at HC1 HC2
              unfold CmpEnd at HC3
              rw [covB_good HGX1.out HGY.out, HGX1.out, HGY.out, show (m : Int).toNat = m by simp, p1] at HC1
              rw [covB_good HGY.out HGX1.out, HGX1.out, HGY.out, show (m : Int).toNat = m by simp, p2] at HC2
              rw [cmpB_good HGY.out HGX1.out, HGX1.out, HGY.out, show (m : Int).toNat = m by simp, p3] at HC3
              have HRY := hide ry
              generalize K.getD j [] = y at *
              generalize K.getD i [] = x at *
              clear ry my p1 p2 p3 e2 hcx
              go_wp2_with fail
              refine (HC1.out _ (HRX.out.below hbv.out) HRY.out).mono ?_
              rintro e v5 ⟨rfl, hb⟩
              have HB5 := hide (hbv.out.trans (hb.mono hbv.out.size))
              have HRY2 := hide (HRY.out.below hb)
              clear HC1 hb HRY hcy
              go_wp2_with fail
              refine (HC2.out _ HRY2.out (HRX.out.below HB5.out)).mono ?_
              rintro e v6 ⟨rfl, hb⟩
              have HB6 := hide (HB5.out.trans (hb.mono HB5.out.size))
              have HRY := hide (HRY2.out.below hb)
              clear HC2 hb HRY2 HB5
              go_wp2_with fail
              refine (HC3.out _ HRY.out (HRX.out.below HB6.out)).mono ?_
              rintro e v7 ⟨rfl, hb⟩
              have HB7 := hide (HB6.out.trans (hb.mono HB6.out.size))
              clear HC3 hb HRY HB6
              go_wp2_with fail
              go_roundw
              case rel => exact ⟨j + 1, by omega, by go_num, HB7⟩
              case measure => simp [intOf]; omega
            · have hj' : j = i := by omega
              subst hj'
              have SV := hide (sv.out.grow hbv.out)
              clear hcx
              go_wp2_with fail
              go_roundw
              case rel => exact ⟨j + 1, by omega, by go_num, SV⟩
              case measure => simp [intOf]; omega
        · have hi' : i = N := by omega
          subst hi'
          have ST9 := hide sv.out
          clear sv
          go_wp2_with fail
          refine (drawCmp_any _ _ _ cs _ ST9.out.more hn1).mono ?_
          rintro e t1 ⟨pp, at1, nt1, ct1, xs, at2, nt2, ct2, ys, rfl, hnx, hny, hrx, hry, hb⟩
          have TB := hide (ST9.out.old.trans (hb.mono ST9.out.old.size))
          have TX := hide hrx
          have TY := hide hry
          have hz := cmpB_one pp xs ys
          have han := cmpB_anti pp xs ys
          have hgc : (goodB pp ys && goodB pp xs) = (goodB pp xs && goodB pp ys) := Bool.and_comm _ _
          have C1 := hide (fun w h1 h2 => compareI_any pp at1 at2 nt1 nt2 ct1 ct2 xs ys w h1 h2 (by omega) (by omega))
          have C2 := hide (fun w h1 h2 => compareS_any pp at1 at2 nt1 nt2 ct1 ct2 xs ys w h1 h2 (by omega) (by omega))
          have C3 := hide (fun w h1 h2 => compareI_any pp at2 at1 nt2 nt1 ct2 ct1 ys xs w h1 h2 (by omega) (by omega))
          unfold CmpEnd at C1 C2 C3
          rw [hgc, han] at C3
          generalize cmpB pp xs ys = z at *
          generalize (goodB pp xs && goodB pp ys) = gg at *
          clear hb hrx hry ST9 han hgc
          have hzz : (z == z) = true := by simp
          have hnz : (-z == -z) = true := by simp
          have hg2 : (gg == gg) = true := by simp
          go_wp2_with fail
          refine (C1.out _ TX.out TY.out).mono ?_
          rintro e t2 ⟨rfl, hb⟩
          have TB2 := hide (TB.out.trans (hb.mono TB.out.size))
          have TX2 := hide (TX.out.below hb)
          have TY2 := hide (TY.out.below hb)
          clear TB TX TY hb
          go_wp2_with fail
          refine (C2.out _ TX2.out TY2.out).mono ?_
          rintro e t3 ⟨rfl, hb⟩
          have TB := hide (TB2.out.trans (hb.mono TB2.out.size))
          have TX := hide (TX2.out.below hb)
          have TY := hide (TY2.out.below hb)
          clear TB2 TX2 TY2 hb
          go_wp2_with fail
          refine (C3.out _ TY.out TX.out).mono ?_
          rintro e t4 ⟨rfl, hb⟩
          have TB2 := hide (TB.out.trans (hb.mono TB.out.size))
          clear TB TX TY hb C1 C2 C3
          go_wp2_with fail
          go_ret
          exact ⟨by simp, TB2.out⟩

/-! ### THE ROW's STEP: WRITTEN OUT: LEAVE IT -/
set_option maxRecDepth 100000 in
theorem lifted (os : Os) (started : os.Started) (H : Type) (enc : TypeId × Value → H) :
    ReturnsInHanded {} Try.checked os 3 .any (Rows.fnLeastMarksSpec.pre6 enc Try.prog Try.f3 Rows.fnLeastMarksRow.domain false) (Rows.fnLeastMarksSpec.post enc Try.prog Try.f3 false true false false) := by
  refine returnsInHanded_of_change (C := Try.checked) own started (by kernel_rfl) Try.func3
    (ChangeSpec.witness6 (enc := enc) (C := Try.checked) false ⟨#[], #[.slice none 0 0, .slice none 0 0], []⟩ 8 (by kernel_rfl) (by kernel_rfl) (by kernel_rfl) (by kernel_rfl)) ?_
  intro W base args ds gs before hval0 hW hcnd _
  have hval : ∀ (j : Nat) t v, Try.f3.params[j]? = some t → args[j]? = some v → Value.okWide Try.prog W .any base t v := hval0
  have hW' := hW
  obtain ⟨p, q, hA0, hV, rfl, hfz, hnd⟩ := hW
  have hA : DataW.TrodAll enc Try.prog W 0 (fun _ => true) true Try.f3.params.toList args.toList ds p := hA0
  rw [Try.params3] at hA hval
  obtain ⟨v0, vs0, d0, ds0, p0, q0, hargs, rfl, rfl, h0, r0⟩ := trodAll_cons hA
  obtain ⟨v1, vs1, d1, ds1, p1, q1, rfl, rfl, rfl, h1, r1⟩ := trodAll_cons r0
  obtain ⟨rfl, rfl, rfl⟩ := trodAll_nil r1
  obtain rfl : args = #[v0, v1] := by cases args; simp_all
  obtain ⟨rfl, rfl⟩ := trodVars_none hV
  obtain ⟨a0, len0, cap0, rfl⟩ := okWide_slice Try.underlying22 (hval 0 22 v0 rfl rfl)
  have k0 := h0
  have lt0 : ∀ x ∈ p0, x.block < W.heap.size := by obtain ⟨m, hm⟩ := k0; exact DataW.trod_lt m _ _ _ hm
  obtain ⟨z0, w0⟩ : ∃ zs, IsRow .u8 W a0 len0 cap0 zs := by
    obtain ⟨fuel, hf⟩ := h0
    rcases open_ints Try.underlying22 Try.underlying5 (by kernel_rfl) hf with ⟨hcs, _⟩ | ⟨x, l, c, zs, hcs, _, hl, hm, hz, _, hcell, hwz⟩
    · simp [Value.cells] at hcs
      obtain ⟨rfl, rfl, rfl⟩ := hcs
      exact ⟨[], .inl ⟨rfl, rfl, rfl, rfl⟩⟩
    · simp [Value.cells] at hcs
      obtain ⟨rfl, rfl, rfl⟩ := hcs
      exact ⟨zs, .inr ⟨_, rfl, hl, hm, by simpa using hz, hcell, hwz⟩⟩
  obtain ⟨a1, len1, cap1, rfl⟩ := okWide_slice Try.underlying22 (hval 1 22 v1 rfl rfl)
  have k1 := h1
  have lt1 : ∀ x ∈ p1, x.block < W.heap.size := by obtain ⟨m, hm⟩ := k1; exact DataW.trod_lt m _ _ _ hm
  obtain ⟨z1, w1⟩ : ∃ zs, IsRow .u8 W a1 len1 cap1 zs := by
    obtain ⟨fuel, hf⟩ := h1
    rcases open_ints Try.underlying22 Try.underlying5 (by kernel_rfl) hf with ⟨hcs, _⟩ | ⟨x, l, c, zs, hcs, _, hl, hm, hz, _, hcell, hwz⟩
    · simp [Value.cells] at hcs
      obtain ⟨rfl, rfl, rfl⟩ := hcs
      exact ⟨[], .inl ⟨rfl, rfl, rfl, rfl⟩⟩
    · simp [Value.cells] at hcs
      obtain ⟨rfl, rfl, rfl⟩ := hcs
      exact ⟨zs, .inr ⟨_, rfl, hl, hm, by simpa using hz, hcell, hwz⟩⟩
  clear hA0 hval0
  refine (walk a0 len0 cap0 z0 a1 len1 cap1 z1 W w0 w1).mono fun e W' ⟨he, bel⟩ => ?_
  subst he
  exact ⟨_, rfl, _, _, _, [], _, [], hW', trodAll_mk1 (shut_bool Try.underlying4 _), (trodAll_cons_mk (Below.trod laidOut (by kernel_rfl) (of_decide_eq_true (by kernel_rfl)) k0 bel lt0) (trodAll_cons_mk (Below.trod laidOut (by kernel_rfl) (of_decide_eq_true (by kernel_rfl)) k1 bel lt1) trodAll_mk0)), rfl, bel.frame _, fun h => by cases h⟩

theorem over : Rows.fnLeastMarksRow.holds Try.pinned (OpenSpec.ofChange Rows.fnLeastMarksSpec) :=
  OpenClaim.holds_of_wide 3 Try.f3 rfl rfl rfl rfl rfl rfl rfl ⟨rfl, rfl, rfl, rfl, rfl⟩ rfl rfl rfl rfl rfl (by kernel_rfl) Try.func3 (by kernel_rfl)
    (of_decide_eq_true (by kernel_rfl)) (by unfold Func.isWrapper; first | (rw [if_pos (by decide +kernel)]; kernel_rfl) | (rw [if_neg (by decide +kernel)]; exact ⟨rfl, rfl⟩))
    (fun os started H enc _ => lifted os started H enc)

/-- ████ THE STATEMENT ████ -/
theorem proved : Rows.FnLeastMarksSaid := over
#print axioms proved
end Go.Proofs.Ytegabkegbhglfaa.fnLeastMarks

namespace Go.Proofs.Ytegabkegbhglfaa
theorem fnLeastMarks_holds : Rows.FnLeastMarksSaid := fnLeastMarks.proved
end Go.Proofs.Ytegabkegbhglfaa
