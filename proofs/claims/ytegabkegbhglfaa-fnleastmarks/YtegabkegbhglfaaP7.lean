/- Contracts that the proof stands on, one behind the other. -/
import Derived.Test.YtegabkegbhglfaaP6
import Derived.Deep.AppendLies
import Derived.Maps.AppendAt
/- The specification's LeastMarks. -/
namespace Go.Proofs.Ytegabkegbhglfaa
open Go.RowKit
set_option maxRecDepth 10000

/-- Whether a mark is a least one, as far as it was asked. -/
def leastU (n : Nat) (L : List (List Int)) (m : List Int) (j : Nat) : Bool := (L.take j).all fun x => !covL n m x || sameB m x

theorem leastU_succ {n : Nat} {L : List (List Int)} {m : List Int} {j : Nat} (hj : j < L.length) : leastU n L m (j + 1) = (leastU n L m j && (!covL n m (L.getD j []) || sameB m (L.getD j []))) := by
  unfold leastU
  rw [take_getD hj, List.all_append]
  simp only [List.all_cons, List.all_nil, Bool.and_true]

theorem leastU_all (n : Nat) (L : List (List Int)) (m : List Int) : leastU n L m L.length = leastB n L m := by
  unfold leastU leastB; rw [List.take_length]

/-- What is there while the least ones are looked for. -/
structure LmSt (w v : World) (n k : Nat) (L : List (List Int)) (o : Value) (O : List (List Int)) : Prop where
  out : ∃ a q c, o = .slice a q c ∧ Lists v a q O
  min : MinUpto n L k O
  bel : Below w.heap.size w v

theorem LmSt.grow {w v v' : World} {n k : Nat} {L O : List (List Int)} {o : Value} (h : LmSt w v n k L o O) (hb : Below v.heap.size v v') : LmSt w v' n k L o O := by
  obtain ⟨a, q, c, e, hl⟩ := h.out
  exact ⟨⟨a, q, c, e, hl.below hb⟩, h.min, h.bel.trans (hb.mono h.bel.size)⟩

set_option maxHeartbeats 2000000 in
theorem leastB_any (n : Nat) (al : Option Addr) (ml cl : Nat) (L : List (List Int)) (w : World) (hl : Lists w al ml L) (hL : ∀ x ∈ L, x.length = n) (hn : n ≤ 16) (hm : ml ≤ 400) :
    Calls Try.prog 59 #[.slice al ml cl] w fun e w' => ∃ a q c O, e = .returned (.slice a q c) ∧ Lists w' a q O ∧ MinOf n L O ∧ Below w.heap.size w w' := by
  have HL := hide hl
  have HLE := hide hl.1
  have HN := hide hL
  clear hl hL
  go_enter Try.func59, Try.ntmps59
  go_wp2_with fail
  go_loopw [3, 11] (fun o i wr => ∃ (k : Nat) (O : List (List Int)), k ≤ ml ∧ i = .int .i64 k ∧ Hid (LmSt w wr n k L o O)) (fun _ i _ => ml - (intOf i).toNat)
  case atStart => exact ⟨0, [], Nat.zero_le _, rfl, ⟨none, 0, 0, rfl, rfl, .inl rfl⟩, MinUpto.first _ _, Below.refl _ _⟩
  case round =>
    obtain ⟨k, O, hk, rfl, st⟩ := hrel
    by_cases hlt : k < ml
    rotate_left
    · have hk' : k = ml := by omega
      subst hk'
      obtain ⟨a, q, c, rfl, hls⟩ := st.out.out
      have hmn := st.out.min
      rw [← HLE.out] at hmn
      have HE : Hid (∃ a' q' c' O', Ending.returned (.slice a q c) = .returned (.slice a' q' c') ∧ Lists wr a' q' O' ∧ MinOf n L O' ∧ Below w.heap.size w wr) := ⟨a, q, c, O, rfl, hls, hmn.done, st.out.bel⟩
      clear st hls hmn
      go_wp2_with fail
      go_ret
      exact HE.out
    have hlt' : k < L.length := by have := HLE.out; omega
    obtain ⟨b, off, a0, n0, c0, rfl, hb, hc0, m0, r0⟩ := (HL.out.below st.out.bel).at hlt
    obtain rfl : n0 = n := by have := HN.out _ (getD_mem hlt'); have := r0.1; omega
    obtain ⟨x, hx⟩ : ∃ x, Hid (L.getD k [] = x) := ⟨_, rfl⟩
    rw [hx.out] at r0
    have HR := hide r0
    clear r0 m0
    generalize wr = v0 at *
    obtain ⟨ao, qo, co, rfl, hlo⟩ := st.out.out
    have HO := hide hlo
    clear hlo
    go_wp2_with fail
    go_loopw [6, 17] (fun t i v => ∃ (j : Nat) (lb : Bool), j ≤ ml ∧ i = .int .i64 j ∧ t = .bool lb ∧ Hid (lb = leastU n0 L x j) ∧ Hid (Below v0.heap.size v0 v)) (fun _ i _ => ml - (intOf i).toNat)
    case atStart => exact ⟨0, true, Nat.zero_le _, rfl, rfl, rfl, Below.refl _ _⟩
    case round =>
      obtain ⟨j, lb, hj, rfl, rfl, hlb, hbv⟩ := hrel
      by_cases hjl : j < ml
      · have hjl' : j < L.length := by have := HLE.out; omega
        obtain ⟨b1, off1, a1, n1, c1, e1, hb1, hc1, m1, r1⟩ := (HL.out.below (st.out.bel.trans (hbv.out.mono st.out.bel.size))).at hjl
        obtain ⟨rfl, rfl⟩ : b = b1 ∧ off = off1 := by simpa using e1
        obtain rfl : n1 = n0 := by have := HN.out _ (getD_mem hjl'); have := r1.1; omega
        have hsu := leastU_succ (n := n1) (m := x) hjl'
        rw [← hlb.out] at hsu
        have HC := hide (covS_any a0 a1 n1 c0 c1 x (L.getD j []) _ (HR.out.below hbv.out) r1 hn)
        have HSM := hide (same_any a0 a1 n1 n1 c0 c1 x (L.getD j []) _ (HR.out.below hbv.out) r1 (by omega))
        have hcd : covF (getF x) (getF (L.getD j [])) n1 = covL n1 x (L.getD j []) := rfl
        rw [hcd] at HC
        clear r1 m1 hcd e1 hlb
        cases lb
        · have HX : Hid (false = leastU n1 L x (j + 1)) := by rw [hsu]; rfl
          clear HC HSM hsu
          go_wp2_with fail
          go_roundw
          case rel => exact ⟨j + 1, false, by omega, by go_num, rfl, HX, hbv⟩
          case measure => simp [intOf]; omega
        · cases hcv : covL n1 x (L.getD j [])
          · have HX : Hid (true = leastU n1 L x (j + 1)) := by rw [hsu, hcv]; rfl
            rw [hcv] at HC
            clear HSM hsu hcv
            go_wp2_with (go_at_call 108; refine HC.out.mono ?_; rintro e w' ⟨rfl, hw'⟩; have hw2 := hw'.symm; subst hw2; clear hw')
            go_roundw
            case rel => exact ⟨j + 1, true, by omega, by go_num, rfl, HX, hbv⟩
            case measure => simp [intOf]; omega
          · obtain ⟨sb, hsb⟩ : ∃ sb, Hid (sameB x (L.getD j []) = sb) := ⟨_, rfl⟩
            have HX : Hid (sb = leastU n1 L x (j + 1)) := by rw [hsu, hcv, hsb.out]; rfl
            rw [hcv] at HC
            rw [hsb.out] at HSM
            clear hsu hcv
            go_wp2_with (first
              | (go_at_call 108; refine HC.out.mono ?_; rintro e w' ⟨rfl, hw'⟩; have hw2 := hw'.symm; subst hw2; clear hw')
              | (go_at_call 109; refine HSM.out.mono ?_; rintro e w' ⟨rfl, qd, rfl⟩))
            have HBV := hide (hbv.out.trans ((below_drewN' _ qd).mono hbv.out.size))
            go_roundw
            case rel => exact ⟨j + 1, sb, by omega, by go_num, rfl, HX, HBV⟩
            case measure => simp [intOf]; omega
      · have hj' : j = ml := by omega
        subst hj'
        have HLB := hide hlb.out
        rw [← HLE.out, leastU_all, ← hx.out] at HLB
        cases lb
        · have ST := hide (LmSt.mk (w := w) (v := wr) ⟨ao, qo, co, rfl, HO.out.below hbv.out⟩ (st.out.min.skip hlt' HLB.out.symm) (st.out.bel.trans (hbv.out.mono st.out.bel.size)))
          clear hc0 st
          go_wp2_with fail
          go_roundw
          case rel => exact ⟨k + 1, O, by omega, by go_num, ST⟩
          case measure => simp [intOf]; omega
        · have HOW := hide (own3_any a0 n0 c0 x wr (HR.out.below hbv.out) (by omega))
          have hqo : qo ≤ 400 := by have h1 := HO.out.1; have h2 := st.out.min.2.2; omega
          clear hc0
          go_wp2_with fail
          refine HOW.out.mono ?_
          rintro e w2 ⟨a', c', rfl, hra, _, hb2⟩
          have hbb := hbv.out.trans (hb2.mono hbv.out.size)
          have HIO := hide (inOrder_any n0 ao qo co O a' c' x w2 (HO.out.below hbb) (st.out.min.len HN.out) hra st.out.min.1 hn hqo)
          clear HOW hra
          go_wp2_with fail
          refine HIO.out.mono ?_
          rintro e w3 ⟨a3, q3, c3, R, rfl, hl3, hin, hb3⟩
          rw [← hx.out] at hin
          have ST := hide (LmSt.mk (w := w) (v := w3) ⟨a3, q3, c3, rfl, hl3⟩ (st.out.min.put HN.out hlt' HLB.out.symm hin) (st.out.bel.trans ((hbb.trans (hb3.mono hbb.size)).mono st.out.bel.size)))
          clear st hl3 hin hb3 hbb hb2 HIO
          go_wp2_with fail
          go_roundw
          case rel => exact ⟨k + 1, R, by omega, by go_num, ST⟩
          case measure => simp [intOf]; omega

/-- How the specification's LeastMarks ends. -/
def LuEnd (ok : Bool) (R : List (List Int)) (w : World) (e : Ending) (w' : World) : Prop := ∃ a c, e = .returned (.tuple #[.slice a R.length c, .bool ok]) ∧ Lists w' a R.length R ∧ Below w.heap.size w w'

theorem luEnd_no {p : Int} {L : List (List Int)} {w w' : World} (h : okL p L = false) (hb : Below w.heap.size w w') : LuEnd (okL p L) (leastR p L) w (.returned (.tuple #[.slice none 0 0, .bool false])) w' := by
  have hr : leastR p L = [] := by unfold leastR; rw [h]; rfl
  rw [h, hr]
  exact ⟨none, 0, rfl, ⟨rfl, .inl rfl⟩, hb⟩

set_option maxHeartbeats 1000000 in
theorem leastS_any (p : Int) (a : Option Addr) (m c : Nat) (L : List (List Int)) (w : World) (h : Lists w a m L) (hs : sizeN m L ≤ 1048576) :
    Calls Try.prog 11 #[.int .i64 p, .slice a m c] w fun e w' => LuEnd (okL p L) (leastR p L) w e w' := by
  have hm := h.1
  have hm20 : m ≤ 1048576 := by unfold sizeN at hs; omega
  cases hp : inB p 1 16
  · have HG := hide (luEnd_no (okL_no1 (L := L) hp) (Below.refl w.heap.size w))
    clear h hs
    go_enter Try.func11, Try.ntmps11
    go_wp2_with (go_at_call 58; refine (places_any _ _).mono ?_; rintro e w' ⟨rfl, rfl⟩)
    go_ret2
    exact HG.out
  by_cases h4 : m ≤ 400
  rotate_left
  · have HG := hide (luEnd_no (okL_no2 (p := p) (L := L) (by omega)) (Below.refl w.heap.size w))
    clear h hs
    go_enter Try.func11, Try.ntmps11
    go_wp2_with (go_at_call 58; refine (places_any _ _).mono ?_; rintro e w' ⟨rfl, rfl⟩)
    go_ret2
    exact HG.out
  have hp2 := hp
  simp [inB] at hp2
  have hn16 : p.toNat ≤ 16 := by omega
  have HP := hide hp
  have HL := hide h
  have HM := hide hm
  have HS := hide hs
  clear h hm hs hp2
  go_enter Try.func11, Try.ntmps11
  go_wp2_with (go_at_call 58; refine (places_any _ _).mono ?_; rintro e w' ⟨rfl, hw'⟩; have hw2 := hw'.symm; subst hw2; clear hw')
  go_loopw [18] (fun i v => ∃ k : Nat, k ≤ m ∧ i = .int .i64 k ∧ Hid (∀ j, j < k → goodB p (L.getD j []) = true) ∧ Hid (Below w.heap.size w v)) (fun i _ => m - (intOf i).toNat)
  case atStart => exact ⟨0, Nat.zero_le _, rfl, fun j hj => absurd hj (by omega), Below.refl _ _⟩
  case round =>
    obtain ⟨k, hk, rfl, hgu, hbv⟩ := hrel
    clear hp
    by_cases hlt : k < m
    · obtain ⟨b, off, a0, n0, c0, rfl, hb, hc0, m0, r0⟩ := (HL.out.below hbv.out).at hlt
      have hl0 := len_le L k
      have hs' : m + sizeL L ≤ 1048576 := HS.out
      have q0 : n0 ≤ 1048576 := by have := r0.1; omega
      have HT := hide (goodS_any p a0 n0 c0 _ wr r0 q0)
      clear r0 hl0 q0 hs' m0
      cases hg : goodB p (L.getD k [])
      · have HE := hide (luEnd_no (w := w) (okL_no3 (p := p) (L := L) (k := k) (by have := HM.out; omega) hg) hbv.out)
        rw [hg] at HT
        clear hg
        go_wp2_with fail
        refine HT.out.mono ?_
        rintro e w' ⟨rfl, hb'⟩
        rw [hb']
        clear hb' HT
        go_wp2_with fail
        go_ret2
        exact HE.out
      · have HG : Hid (∀ j, j < k + 1 → goodB p (L.getD j []) = true) := fun j hj => by
          by_cases e : j = k
          · subst e; exact hg
          · exact hgu.out j (by omega)
        rw [hg] at HT
        clear hg
        go_wp2_with fail
        refine HT.out.mono ?_
        rintro e w' ⟨rfl, hb'⟩
        rw [hb']
        clear hb' HT hc0
        go_wp2_with fail
        go_roundw
        case rel => exact ⟨k + 1, by omega, by go_num, HG, hbv⟩
        case measure => simp [intOf]; omega
    · have hk' : k = m := by omega
      subst hk'
      have HOK : Hid (okL p L = true) := okL_yes HP.out (by have := HM.out; omega) fun j hj => hgu.out j (by have := HM.out; omega)
      have HT := hide (leastB_any p.toNat a k c L wr (HL.out.below hbv.out) (fun x hx => good_len (okL_all HOK.out x hx)) hn16 h4)
      go_wp2_with fail
      refine HT.out.mono ?_
      rintro e w' ⟨a', q', c', O, rfl, hls, hmin, hb'⟩
      have HE : Hid (LuEnd (okL p L) (leastR p L) w (.returned (.tuple #[.slice a' q' c', .bool true])) w') := by
        have e1 : O = leastR p L := by unfold leastR; rw [if_pos HOK.out]; exact hmin.least
        have e2 := hls.1
        subst e2
        rw [← e1, HOK.out]
        exact ⟨a', c', rfl, hls, hbv.out.trans (hb'.mono hbv.out.size)⟩
      clear HT hls hmin hb'
      go_wp2_with fail
      go_ret2
      exact HE.out
end Go.Proofs.Ytegabkegbhglfaa


/- How a slice of lists that comes in is opened. -/
namespace Go.Proofs.Ytegabkegbhglfaa
open Go.ChangeShapes Go.WideShapes Go.ChangeAt Go.RowKit Go.Deep Go.Joins

theorem lists_of {H : Type} {enc : TypeId × Value → H} {W : World} {base fuel : Nat} {v : Value} {x : DataW H × List MemPlace} (h : DataW.trod enc Try.prog W base (fun _ => true) true fuel 24 [v] = some x) :
    ∃ a n c L, v = .slice a n c ∧ n ≤ maxLen ∧ Lists W a n L := by
  have hC : Try.prog.cellsOf 30 = 1 := by kernel_rfl
  rcases open_slice Try.underlying24 h with ⟨hcs, _⟩ | ⟨a, len, cap, q, n', D, Pl, hcs, hb, hl, hm, hq, _, hel⟩
  · simp at hcs
    subst hcs
    exact ⟨none, 0, 0, [], rfl, Nat.zero_le _, rfl, .inl rfl⟩
  · simp at hcs
    subst hcs
    simp at hq
    subst hq
    rw [hC] at hel
    have key : ∀ i, i < len → ∃ t : Option Addr × Nat × Nat × List Int, W.cell? (a.add i) = some (.slice t.1 t.2.1 t.2.2.1) ∧ t.2.1 ≤ maxLen ∧ Row W t.1 t.2.1 t.2.2.2 := by
      intro i hi
      obtain ⟨cs', hc1, hc2⟩ := hel i (by omega)
      obtain ⟨_, hlen, hcell⟩ := World.cells?_some hc1
      match cs', hlen with
      | [u0], _ =>
        obtain ⟨a0, n0, c0, x0, rfl, l0, r0⟩ := row_of_ints hc2
        have w0 := hcell 0 (by omega)
        simp at w0
        exact ⟨(a0, n0, c0, x0), by simpa [Addr.add] using w0, l0, r0⟩
    obtain ⟨f, hf⟩ := choose_lt key
    refine ⟨some a, len, _, (List.range len).map fun j => (f j).2.2.2, rfl, by omega, by simp, ?_⟩
    by_cases h0 : len = 0
    · exact .inl h0
    · obtain ⟨b, off, spot⟩ := a
      have hc := (hf 0 (by omega)).1
      have hspot : spot = none := by simpa [Addr.add] using World.cell?_spot hc
      subst hspot
      refine .inr ⟨b, off, rfl, ?_, fun j hj => ?_⟩
      · have := block_lt_of_cell hc; simpa [Addr.add] using this
      · have q0 := hf j hj
        simp only [Addr.add_mid] at q0
        simp only [List.getD_eq_getElem?_getD, List.getElem?_map, List.getElem?_range hj, Option.map_some, Option.getD_some]
        exact ⟨_, _, _, q0⟩
end Go.Proofs.Ytegabkegbhglfaa


/- LeastMarks' law: how great the answer is; what the law keeps in mind. -/
namespace Go.Proofs.Ytegabkegbhglfaa
open Go.RowKit

theorem min_exists {n : Nat} {L : List (List Int)} (hl : ∀ x ∈ L, x.length = n) : ∃ R, MinOf n L R ∧ R.length ≤ L.length := by
  have hm : ∀ x, x ∈ L.mergeSort (fun x y => decide (cmpL n x y ≤ 0)) ↔ x ∈ L := fun x => (List.mergeSort_perm L _).mem_iff
  have hs : (L.mergeSort (fun x y => decide (cmpL n x y ≤ 0))).Pairwise fun x y => ¬ cmpL n y x < 0 := by
    have := List.pairwise_mergeSort (le := fun x y => decide (cmpL n x y ≤ 0)) (fun a b c h1 h2 => by
      simp only [decide_eq_true_eq] at *; exact cmpL_le h1 h2) (fun a b => by
      have := cmpL_anti n a b
      simp only [Bool.or_eq_true, decide_eq_true_eq]
      omega) L
    refine this.imp fun {x y} h => ?_
    simp only [decide_eq_true_eq] at h
    rw [cmpL_anti n x y]
    omega
  refine ⟨_, (keep_min (fun x hx => hl x ((hm x).mp hx)) hs).perm hm, ?_⟩
  have := keepL_len n (L.mergeSort (fun x y => decide (cmpL n x y ≤ 0))) _ (Nat.le_refl _)
  rw [List.take_length] at this
  simpa using this

theorem leastR_min {p : Int} {L : List (List Int)} (h : okL p L = true) : MinOf p.toNat L (leastR p L) ∧ (leastR p L).length ≤ L.length := by
  obtain ⟨R, h1, h2⟩ := min_exists (n := p.toNat) fun x hx => good_len (okL_all h x hx)
  have e : leastR p L = R := by unfold leastR; rw [if_pos h]; exact h1.least.symm
  rw [e]
  exact ⟨h1, h2⟩

theorem leastR_no {p : Int} {L : List (List Int)} (h : okL p L = false) : leastR p L = [] := by unfold leastR; rw [h]; rfl

theorem sizeL_le {R : List (List Int)} (h : ∀ x ∈ R, x.length ≤ 16) : sizeL R ≤ 16 * R.length := by
  induction R with
  | nil => simp [sizeL]
  | cons a R ih =>
    have h1 := h a (by simp)
    have h2 := ih fun x hx => h x (List.mem_cons_of_mem _ hx)
    simp only [sizeL, List.map_cons, List.sum_cons, List.length_cons] at *
    omega

theorem leastR_size (p : Int) (L : List (List Int)) : (leastR p L).length ≤ 400 ∧ sizeL (leastR p L) ≤ 6400 := by
  cases h : okL p L
  · rw [leastR_no h]; exact ⟨by simp, by simp [sizeL]⟩
  · obtain ⟨h1, h2⟩ := leastR_min h
    have h4 : L.length ≤ 400 := by unfold okL at h; simp only [Bool.and_eq_true, decide_eq_true_eq] at h; exact h.1.2
    have hp : p.toNat ≤ 16 := by unfold okL at h; simp only [Bool.and_eq_true] at h; have := h.1.1; simp [inB] at this; omega
    have := sizeL_le (R := leastR p L) fun x hx => by
      have := good_len (okL_all h x (((h1.2 x).mp hx).1)); omega
    omega

theorem cntF_size1 (L : List (List Int)) (k : Nat) (h : k ≤ L.length) : cntF (fun j => L.getD j []) k = sizeL (L.take k) := by
  induction k with
  | zero => simp [cntF, sizeL]
  | succ k ih => simp only [cntF]; rw [ih (by omega), sizeL_take_succ L k (by omega)]

theorem cntF_all1 {L : List (List Int)} {n : Nat} (hl : L.length = n) : cntF (fun j => L.getD j []) n = sizeL L := by
  rw [cntF_size1 L n (by omega), List.take_of_length_le (by omega)]

theorem PartF.lists1 {w : World} {B hi n : Nat} {T : TypeId} {L : List (List Int)} (h : PartF w B hi n T (fun j => L.getD j [])) (hl : L.length = n) (hs : sizeN n L ≤ 1048576) : Lists w (some ⟨B, 0, none⟩) n L := by
  obtain ⟨C, f, h1, h2, h3, h4⟩ := h
  refine ⟨hl, .inr ⟨B, 0, rfl, (Array.getElem?_eq_some_iff.mp h1).1, fun j hj => ?_⟩⟩
  obtain ⟨e1, e2, e3, e4⟩ := h3 j hj
  refine ⟨_, _, _, by rw [cell_of_row w B (0 + j) C T _ h1, Nat.zero_add]; exact e1, ?_, e4.row⟩
  have := len_le L j
  show (L.getD j []).length ≤ maxLen
  unfold sizeN at hs; unfold maxLen; omega

theorem NetF.lists1 {w : World} {a : Option Addr} {B hi n : Nat} {L : List (List Int)} (h : NetF w a B hi n (fun j => L.getD j [])) (hl : L.length = n) (hs : sizeN n L ≤ 1048576) : Lists w a n L := by
  rcases h with h0 | ⟨rfl, hp⟩
  · exact ⟨hl, .inl h0⟩
  · exact hp.lists1 hl hs

theorem NetF.grow {w w' : World} {a : Option Addr} {B hi n : Nat} {M : Nat → List Int} (h : NetF w a B hi n M) (hb : Below w.heap.size w w') : NetF w' a B hi n M := by
  rcases h with h0 | ⟨e, hp⟩
  · exact .inl h0
  · exact .inr ⟨e, hp.grow hb⟩

theorem PartF.over {w w' : World} {B hi n lo hi' : Nat} {T : TypeId} {M : Nat → List Int} (h : PartF w B hi n T M) (hk : Keeps lo hi' w w') (hB : hi' ≤ B) : PartF w' B hi n T M := by
  obtain ⟨C, f, h1, h2, h3, h4⟩ := h
  refine ⟨C, f, (hk.top B hB (Array.getElem?_eq_some_iff.mp h1).1).trans h1, h2, fun j hj => ?_, h4⟩
  obtain ⟨e1, e2, e3, e4⟩ := h3 j hj
  exact ⟨e1, e2, e3, e4.keeps hk (by omega)⟩

theorem NetF.over {w w' : World} {a : Option Addr} {B hi n lo hi' : Nat} {M : Nat → List Int} (h : NetF w a B hi n M) (hk : Keeps lo hi' w w') (hB : hi' ≤ B) : NetF w' a B hi n M := by
  rcases h with h0 | ⟨e, hp⟩
  · exact .inl h0
  · exact .inr ⟨e, hp.over hk hB⟩

/-- w: the world ahead of the law; u: behind the specification's answer; v: now. -/
structure Sx (w u v : World) (B hi n : Nat) (M : Nat → List Int) (ag : Option Addr) (Bg hig N : Nat) (Mg : Nat → List Int) : Prop where
  old : Below w.heap.size w v
  mid : Below u.heap.size u v
  net : PartF v B hi n 30 M
  gn : NetF v ag Bg hig N Mg

section
variable {w u v v' : World} {B hi n : Nat} {M M' : Nat → List Int} {ag : Option Addr} {Bg hig N : Nat} {Mg Mg' : Nat → List Int}

theorem Sx.grow (h : Sx w u v B hi n M ag Bg hig N Mg) (hb : Below v.heap.size v v') : Sx w u v' B hi n M ag Bg hig N Mg :=
  ⟨h.old.trans (hb.mono h.old.size), h.mid.trans (hb.mono h.mid.size), h.net.grow hb, h.gn.grow hb⟩

theorem Sx.markN (h : Sx w u v B hi n M ag Bg hig N Mg) (hm : PartF v' B hi n 30 M') (hk : Keeps (B + 1) hi v v') (h1 : w.heap.size ≤ B) (h2 : u.heap.size ≤ B) (hg : hi ≤ Bg) : Sx w u v' B hi n M' ag Bg hig N Mg :=
  ⟨h.old.trans (hk.bel.mono (by omega)), h.mid.trans (hk.bel.mono (by omega)), hm, h.gn.over hk hg⟩
end

/-- .. when the argument's copy is no more asked for. -/
structure Sy (w u v : World) (ag : Option Addr) (Bg hig N : Nat) (Mg : Nat → List Int) : Prop where
  old : Below w.heap.size w v
  mid : Below u.heap.size u v
  gn : NetF v ag Bg hig N Mg

theorem Sy.grow {w u v v' : World} {ag : Option Addr} {Bg hig N : Nat} {Mg : Nat → List Int} (h : Sy w u v ag Bg hig N Mg) (hb : Below v.heap.size v v') : Sy w u v' ag Bg hig N Mg :=
  ⟨h.old.trans (hb.mono h.old.size), h.mid.trans (hb.mono h.mid.size), h.gn.grow hb⟩

theorem Sx.markG {w u v v' : World} {B hi n : Nat} {M : Nat → List Int} {ag : Option Addr} {Bg hig N : Nat} {Mg Mg' : Nat → List Int} (h : Sx w u v B hi n M ag Bg hig N Mg) (hm : NetF v' ag Bg hig N Mg') (hk : Keeps (Bg + 1) hig v v') (h1 : w.heap.size ≤ Bg) (h2 : u.heap.size ≤ Bg) : Sy w u v' ag Bg hig N Mg' :=
  ⟨h.old.trans (hk.bel.mono (by omega)), h.mid.trans (hk.bel.mono (by omega)), hm⟩
end Go.Proofs.Ytegabkegbhglfaa


/- What the cursor's mark and the Draw functions of chapter 1 answer: some number of places in 0..17 and some lists in new memory, of at most eighteen numbers, whatever the bytes; nothing that was there is written. -/
namespace Go.Proofs.Ytegabkegbhglfaa
open Go.RowKit

theorem ownsRow_only {w w' : World} {B bc : Nat} {v : Value} {n : Nat} {l : List Value} (h : w.ownsRow B 3 1 v n l) (ho : OnlyC bc w w') (hb : bc < B) : w'.ownsRow B 3 1 v n l := by
  refine ⟨h.1, ?_⟩
  rcases h.2 with h0 | ⟨g, cap, cur, hv, hB, hh, r⟩
  · exact .inl h0
  · exact .inr ⟨g, cap, cur, hv, hB, (ho.block g (by omega)).trans hh, r⟩

/-- What holds while a mark is drawn: w ahead of the call, v now; k numbers have been laid into o. -/
structure MarkSt (w v : World) (bc : Nat) (ca : Option Addr) (cn cc p : Nat) (bs : List Int) (o : Value) (k : Nat) : Prop where
  own : ∃ xs : List Int, v.ownsRow w.heap.size 3 1 o k (xs.map (Value.int .i64))
  cur : Cur v bc ca cn cc p
  bytes : RowB v ca cn bs
  kept : Kept bc w.heap.size w v

theorem MarkSt.only {w v v' : World} {bc : Nat} {ca : Option Addr} {cn cc p p' : Nat} {bs : List Int} {o : Value} {k : Nat} (h : MarkSt w v bc ca cn cc p bs o k) (ho : OnlyC bc v v') (hc : Cur v' bc ca cn cc p') (hap : Apart ca cn bc) (hb : bc < w.heap.size) :
    MarkSt w v' bc ca cn cc p' bs o k := by
  obtain ⟨xs, hx⟩ := h.own
  exact ⟨⟨xs, ownsRow_only hx ho hb⟩, hc, h.bytes.keep ho hap, h.kept.trans (Kept.of_only ho)⟩

theorem MarkSt.alloc {w v : World} {bc : Nat} {ca : Option Addr} {cn cc p : Nat} {bs : List Int} {o : Value} {k : Nat} (h : MarkSt w v bc ca cn cc p bs o k) (ob : Obj) (hap : Apart ca cn bc) :
    MarkSt w (v.alloc ob) bc ca cn cc p bs o k := by
  obtain ⟨xs, hx⟩ := h.own
  have hb := (Below.refl v.heap.size v).alloc (Nat.le_refl _) ob
  exact ⟨⟨xs, hx.alloc ob⟩, h.cur.below hb h.cur.lt, h.bytes.kept (Kept.of_below hb) hap, h.kept.trans ((Kept.of_below hb).mono h.kept.size)⟩

theorem MarkSt.append {w v v' : World} {bc : Nat} {ca : Option Addr} {cn cc p : Nat} {bs : List Int} {o o' : Value} {k : Nat} {xs : List Int} {x : Int} (h : MarkSt w v bc ca cn cc p bs o k) (hx : v.ownsRow w.heap.size 3 1 o k (xs.map (Value.int .i64)))
    (hn : v'.ownsRow w.heap.size 3 1 o' (k + 1) (xs.map (Value.int .i64) ++ [.int .i64 x])) (hg : v.grownBy v' o.ownBlock) (hb : bc < w.heap.size) (hfar : 0 < cn → ∀ y, ca = some y → y.block < w.heap.size) :
    MarkSt w v' bc ca cn cc p bs o' (k + 1) := by
  have hbl : Below w.heap.size v v' := by
    refine (Below.refl w.heap.size v).grown hg h.kept.size fun j hj => ?_
    exact (hx.lt j hj).1
  refine ⟨⟨xs ++ [x], by rw [List.map_append]; exact hn⟩, h.cur.below hbl hb, ?_, h.kept.trans (Kept.of_below hbl)⟩
  refine ⟨h.bytes.1, h.bytes.2.1, ?_⟩
  rcases h.bytes.2.2 with h0 | ⟨b, off, e, hl, hc⟩
  · exact .inl h0
  · exact .inr ⟨b, off, e, Nat.lt_of_lt_of_le hl hbl.size, fun i hi => (World.cell?_of_block (hbl.block b (hfar (by omega) _ e))).trans (hc i hi)⟩

/-- How mark ends. -/
def MarkEnd (bc : Nat) (ca : Option Addr) (cn cc p : Nat) (bs : List Int) (w : World) (e : Ending) (w' : World) : Prop :=
  ∃ a n c xs p', e = .returned (.slice a n c) ∧ n ≤ 18 ∧ p' ≤ p + 60 ∧ Row w' a n xs ∧ Apart a n bc ∧ Cur w' bc ca cn cc p' ∧ RowB w' ca cn bs ∧ Kept bc w.heap.size w w'

theorem ownsRow_row' {B : Nat} {w : World} {v : Value} {n : Nat} {l : List Int} (hown : w.ownsRow B 3 1 v n (l.map (Value.int .i64))) : ∃ a c, v = .slice a n c ∧ Row w a n l := by
  have hl : l.length = n := by have := hown.1; simpa using this
  rcases hown.2 with ⟨rfl, rfl⟩ | ⟨g, cap, cur, rfl, hb, hh, hnc, _, hsz, ht⟩
  · exact ⟨none, 0, rfl, hl, .inl rfl⟩
  · refine ⟨_, cap, rfl, hl, .inr ⟨g, 0, rfl, (Array.getElem?_eq_some_iff.mp hh).1, fun i hi => ?_⟩⟩
    rw [cell_of_row w g (0 + i) _ _ _ hh, Nat.zero_add]
    have e1 : (cur.toList.take (n * 1))[i]? = some (.int .i64 (l.getD i 0)) := by
      rw [ht]; simp [List.getElem?_map, List.getElem?_eq_getElem (show i < l.length by omega)]
    rw [List.getElem?_take_of_lt (by omega)] at e1
    simpa using e1

theorem MarkSt.done {w v : World} {bc : Nat} {ca : Option Addr} {cn cc p q : Nat} {bs : List Int} {o : Value} {k : Nat} (h : MarkSt w v bc ca cn cc q bs o k) (hk : k ≤ 18) (hq : q ≤ p + 60) (hb : bc < w.heap.size) : MarkEnd bc ca cn cc p bs w (.returned o) v := by
  obtain ⟨xs, hx⟩ := h.own
  have hlt := hx.lt
  obtain ⟨a, c, rfl, hr⟩ := ownsRow_row' hx
  refine ⟨a, k, c, xs, q, rfl, hk, hq, hr, fun _ x hx => ?_, h.cur, h.bytes, h.kept⟩
  subst hx
  have := (hlt x.block rfl).1
  omega

/-- .. and the list lies in new memory. -/
def MarkEndW (bc : Nat) (ca : Option Addr) (cn cc p : Nat) (bs : List Int) (w : World) (e : Ending) (w' : World) : Prop :=
  ∃ a n c xs p', e = .returned (.slice a n c) ∧ n ≤ 18 ∧ p' ≤ p + 60 ∧ Row w' a n xs ∧ (0 < n → ∀ x, a = some x → w.heap.size ≤ x.block) ∧ Cur w' bc ca cn cc p' ∧ RowB w' ca cn bs ∧ Kept bc w.heap.size w w'

theorem MarkSt.doneW {w v : World} {bc : Nat} {ca : Option Addr} {cn cc p q : Nat} {bs : List Int} {o : Value} {k : Nat} (h : MarkSt w v bc ca cn cc q bs o k) (hk : k ≤ 18) (hq : q ≤ p + 60) (_hb : bc < w.heap.size) : MarkEndW bc ca cn cc p bs w (.returned o) v := by
  obtain ⟨xs, hx⟩ := h.own
  have hlt := hx.lt
  obtain ⟨a, c, rfl, hr⟩ := ownsRow_row' hx
  refine ⟨a, k, c, xs, q, rfl, hk, hq, hr, fun _ x hx => ?_, h.cur, h.bytes, h.kept⟩
  subst hx
  exact (hlt x.block rfl).1

set_option maxHeartbeats 1000000 in
theorem mark_drawW (m : Nat) (bc : Nat) (ca : Option Addr) (cn cc p : Nat) (bs : List Int) (w : World) (h : Cur w bc ca cn cc p) (hr : RowB w ca cn bs) (hap : Apart ca cn bc) (hfar : 0 < cn → ∀ y, ca = some y → y.block < w.heap.size) (hp : p ≤ 900000) (hn : cn ≤ 1048576) (hm : m ≤ 17) :
    Calls Try.prog 52 #[.pointer (some ⟨bc, 0, none⟩), .int .i64 (m : Int)] w fun e w' => MarkEndW bc ca cn cc p bs w e w' := by
  have hbc := h.lt
  have ST := hide (MarkSt.mk (w := w) (o := .slice none 0 0) ⟨[], World.ownsRow_nil _ _ _ _⟩ h hr (Kept.refl bc _ w))
  have HF := hide hfar
  clear h hr hfar
  obtain ⟨i0, hi, hz0, hz1, hz2⟩ := info_parts Try.info3
  go_enter Try.func52, Try.ntmps52
  go_wp2
  go_loopw [5, 6] (fun o i wr => ∃ k q : Nat, k ≤ m ∧ i = .int .i64 k ∧ q ≤ p + 3 * k ∧ Hid (MarkSt w wr bc ca cn cc q bs o k)) (fun _ i _ => m - (intOf i).toNat)
  case atStart => exact ⟨0, p, Nat.zero_le _, rfl, by omega, ST⟩
  case round =>
    obtain ⟨k, q, hk, rfl, hq, S0⟩ := hrel
    clear ST
    by_cases hlt : k < m
    · have hi1 : (k : Int) < (m : Int) := by omega
      go_wp2_with fail
      refine (pick_any 3 bc ca cn cc q bs _ S0.out.cur S0.out.bytes (by omega) hn (by omega) (by omega)).mono ?_
      rintro e v1 ⟨r, rfl, hr, hcur, ho⟩
      have S1 := hide (S0.out.only ho hcur hap hbc)
      clear hcur ho S0
      go_wp2_with fail
      refine (one_any 12 bc ca cn cc (q + 1) bs _ S1.out.cur S1.out.bytes (by omega) hn (by omega) (by omega)).mono ?_
      rintro e v2 ⟨b, rfl, hcur, ho⟩
      have S2 := hide (S1.out.only ho hcur hap hbc)
      clear hcur ho S1
      cases b
      · obtain ⟨xs, hown⟩ := S2.out.own
        have hsz := S2.out.kept.size
        have S3 := hide (fun v' W' (h1 : W'.ownsRow w.heap.size 3 1 v' (k + 1) (xs.map (Value.int .i64) ++ [.int .i64 (r : Int)])) (h2 : (v2.alloc (.cells #[.int .i64 (r : Int)] 3)).grownBy W' u5.ownBlock) => (S2.out.alloc (.cells #[.int .i64 (r : Int)] 3) hap).append (hown.alloc _) h1 h2 hbc HF.out)
        have HO := hide (hown.alloc (.cells #[.int .i64 (r : Int)] 3))
        clear hown S2
        go_wp2_with (at_builtin; refine wpList_append_own _ rfl (.tmp 20) (.tmp 22) 30 rfl w.heap.size 3 i0 (.int .i64 0) 1 8 Try.underlying30 hi hz0 hz1 hz2 rfl (by decide) u5 k _ rfl HO.out ⟨v2.heap.size, 0, none⟩ 1 1 [.int .i64 (r : Int)] rfl rfl (cell_one_new _ _ _) (by intro u hu; simp at hu; subst hu; rfl) (by unfold maxLen; omega) (by omega) (by simp; omega) ?_; intro v' W' r1 r2 _; have R := hide (S3.out v' W' r1 r2); clear r1 r2)
        go_roundw
        case rel => exact ⟨k + 1, q + 1 + 1, by omega, by go_num, by omega, R⟩
        case measure => simp [intOf]; omega
      · go_wp2_with fail
        have hB := (Below.refl v2.heap.size v2).alloc (Nat.le_refl _) (.cells (cellsOf [49, 50, 51]) 3)
        have hb2 := S2.out.cur.lt
        have S3 := hide (S2.out.alloc (.cells (cellsOf [49, 50, 51]) 3) hap)
        refine (among_any 3 3 (some ⟨v2.heap.size, 0, none⟩) [49, 50, 51] bc ca cn cc (q + 1 + 1) bs (v2.alloc (.cells (cellsOf [49, 50, 51]) 3)) S3.out.cur S3.out.bytes (by omega) hn (by omega) (by omega) (row_new v2 _ 3 _ rfl rfl) (by intro _ x hx; obtain rfl := Option.some.inj hx; simp; omega)).mono ?_
        rintro e v3 ⟨x, rfl, hx, hcur, ho⟩
        have S4 := hide (S3.out.only ho hcur hap hbc)
        clear hcur ho S3 S2 hB hb2 hx
        obtain ⟨xs, hown⟩ := S4.out.own
        have hsz := S4.out.kept.size
        have S5 := hide (fun v' W' (h1 : W'.ownsRow w.heap.size 3 1 v' (k + 1) (xs.map (Value.int .i64) ++ [.int .i64 x])) (h2 : (v3.alloc (.cells #[.int .i64 x] 3)).grownBy W' u5.ownBlock) => (S4.out.alloc (.cells #[.int .i64 x] 3) hap).append (hown.alloc _) h1 h2 hbc HF.out)
        have HO := hide (hown.alloc (.cells #[.int .i64 x] 3))
        clear hown S4
        go_wp2_with (at_builtin; refine wpList_append_own _ rfl (.tmp 20) (.tmp 22) 30 rfl w.heap.size 3 i0 (.int .i64 0) 1 8 Try.underlying30 hi hz0 hz1 hz2 rfl (by decide) u5 k _ rfl HO.out ⟨v3.heap.size, 0, none⟩ 1 1 [.int .i64 x] rfl rfl (cell_one_new _ _ _) (by intro u hu; simp at hu; subst hu; rfl) (by unfold maxLen; omega) (by omega) (by simp; omega) ?_; intro v' W' r1 r2 _; have R := hide (S5.out v' W' r1 r2); clear r1 r2)
        go_roundw
        case rel => exact ⟨k + 1, q + 1 + 1 + 1, by omega, by go_num, by omega, R⟩
        case measure => simp [intOf]; omega
    · have hk' : k = m := by omega
      subst hk'
      go_wp2_with fail
      refine (one_any 40 bc ca cn cc q bs _ S0.out.cur S0.out.bytes (by omega) hn (by omega) (by omega)).mono ?_
      rintro e v2 ⟨b, rfl, hcur, ho⟩
      have S2 := hide (S0.out.only ho hcur hap hbc)
      clear hcur ho S0
      cases b
      · go_wp2
        go_ret
        exact S2.out.doneW (by omega) (by omega) hbc
      · obtain ⟨xs, hown⟩ := S2.out.own
        have hsz := S2.out.kept.size
        have S3 := hide (fun v' W' (h1 : W'.ownsRow w.heap.size 3 1 v' (k + 1) (xs.map (Value.int .i64) ++ [.int .i64 0])) (h2 : (v2.alloc (.cells #[.int .i64 0] 3)).grownBy W' u5.ownBlock) => (S2.out.alloc (.cells #[.int .i64 0] 3) hap).append (hown.alloc _) h1 h2 hbc HF.out)
        have HO := hide (hown.alloc (.cells #[.int .i64 0] 3))
        clear hown S2
        go_wp2_with (at_builtin; refine wpList_append_own _ rfl (.tmp 26) (.tmp 27) 30 rfl w.heap.size 3 i0 (.int .i64 0) 1 8 Try.underlying30 hi hz0 hz1 hz2 rfl (by decide) u5 k _ rfl HO.out ⟨v2.heap.size, 0, none⟩ 1 1 [.int .i64 0] rfl rfl (cell_one_new _ _ _) (by intro u hu; simp at hu; subst hu; rfl) (by unfold maxLen; omega) (by omega) (by simp; omega) ?_; intro v' W' r1 r2 _; have R := hide (S3.out v' W' r1 r2); clear r1 r2)
        go_ret
        exact R.out.doneW (by omega) (by omega) hbc

theorem mark_draw (m : Nat) (bc : Nat) (ca : Option Addr) (cn cc p : Nat) (bs : List Int) (w : World) (h : Cur w bc ca cn cc p) (hr : RowB w ca cn bs) (hap : Apart ca cn bc) (hfar : 0 < cn → ∀ y, ca = some y → y.block < w.heap.size) (hp : p ≤ 900000) (hn : cn ≤ 1048576) (hm : m ≤ 17) :
    Calls Try.prog 52 #[.pointer (some ⟨bc, 0, none⟩), .int .i64 (m : Int)] w fun e w' => MarkEnd bc ca cn cc p bs w e w' := by
  have hbc := h.lt
  refine (mark_drawW m bc ca cn cc p bs w h hr hap hfar hp hn hm).mono ?_
  rintro e w' ⟨a, n, c, xs, p', h1, h2, h3, h4, h5, h6⟩
  exact ⟨a, n, c, xs, p', h1, h2, h3, h4, fun h0 x hx => by have := h5 h0 x hx; omega, h6⟩

/-- How a function ends that draws a number of places and a list. -/
def DrawEnd1 (w : World) (e : Ending) (w' : World) : Prop :=
  ∃ (p : Int) (a : Option Addr) (n c : Nat) (xs : List Int), e = .returned (.tuple #[.int .i64 p, .slice a n c]) ∧ n ≤ 18 ∧ Row w' a n xs ∧ Below w.heap.size w w'

/-- .. and two lists. -/
def DrawEnd2 (w : World) (e : Ending) (w' : World) : Prop :=
  ∃ (p : Int) (a : Option Addr) (n c : Nat) (xs : List Int) (b : Option Addr) (m d : Nat) (ys : List Int), e = .returned (.tuple #[.int .i64 p, .slice a n c, .slice b m d]) ∧ n ≤ 18 ∧ m ≤ 18 ∧ Row w' a n xs ∧ Row w' b m ys ∧ Below w.heap.size w w'

theorem RowB.below {w w' : World} {a : Option Addr} {n : Nat} {xs : List Int} (h : RowB w a n xs) (hb : Below w.heap.size w w') : RowB w' a n xs := by
  refine ⟨h.1, h.2.1, ?_⟩
  rcases h.2.2 with h0 | ⟨b, off, e, hl, hc⟩
  · exact .inl h0
  · exact .inr ⟨b, off, e, Nat.lt_of_lt_of_le hl hb.size, fun i hi => (hb.cell (p := ⟨b, off + i, none⟩) hl).trans (hc i hi)⟩

theorem RowB.far {w : World} {ca : Option Addr} {cn : Nat} {bs : List Int} (h : RowB w ca cn bs) (h0 : 0 < cn) (y : Addr) (hy : ca = some y) : y.block < w.heap.size := by
  rcases h.2.2 with h1 | ⟨b, off, e, hl, _⟩
  · omega
  · rw [e] at hy; obtain rfl := Option.some.inj hy; exact hl



set_option maxHeartbeats 400000 in
theorem draw2_any (ca : Option Addr) (cn cc : Nat) (bs : List Int) (w : World) (hr : RowB w ca cn bs) (hn : cn ≤ 1048576) :
    Calls Try.prog 63 #[.slice ca cn cc] w fun e w' => DrawEnd2 w e w' := by
  have HB := hide ((Below.refl w.heap.size w).alloc (Nat.le_refl _) (.cells #[.slice ca cn cc, .int .i64 0, .int .u64 0] 75))
  have HR := hide (hr.below HB.out)
  have hap : Hid (Apart ca cn w.heap.size) := fun h0 y hy => by have := hr.far h0 y hy; omega
  have HC : Hid (Cur (w.alloc (.cells #[.slice ca cn cc, .int .i64 0, .int .u64 0] 75)) w.heap.size ca cn cc 0) := ⟨0, heap_alloc_new _ _⟩
  clear hr
  go_enter Try.func63, Try.ntmps63
  go_wp2_with fail
  refine (places_draw w.heap.size ca cn cc 0 bs _ HC.out HR.out hap.out (by omega) hn).mono ?_
  rintro e v1 ⟨x, rfl, hx, hcur, hk⟩
  obtain ⟨m, rfl⟩ : ∃ m : Nat, x = (m : Int) := ⟨x.toNat, by omega⟩
  have HR1 := hide (HR.out.kept hk hap.out)
  have HK1 := hide ((Kept.of_below (bc := w.heap.size) HB.out).trans (hk.mono (by simp)))
  have HC1 := hide hcur
  clear HC HR hk hcur HB
  go_wp2_with fail
  refine (mark_draw m w.heap.size ca cn cc (0 + 1) bs _ HC1.out HR1.out hap.out (HR1.out.far) (by omega) hn (by omega)).mono ?_
  rintro e v2 ⟨a, n, c, xs, p', rfl, hn18, hp', hrow, hapa, hcur, hrb, hk⟩
  have HK2 := hide (HK1.out.trans (hk.mono HK1.out.size))
  have HROW := hide hrow
  have HAPA := hide hapa
  have HC2 := hide hcur
  have HR2 := hide hrb
  clear hrow hapa hcur hrb hk HK1 HC1 HR1
  go_wp2_with fail
  refine (mark_draw m w.heap.size ca cn cc p' bs _ HC2.out HR2.out hap.out (HR2.out.far) (by omega) hn (by omega)).mono ?_
  rintro e v3 ⟨b, n2, c2, ys, p2, rfl, hm18, hp2, hrow, hapb, hcur, hrb, hk⟩
  have HE := hide (⟨(m : Int), a, n, c, xs, b, n2, c2, ys, rfl, hn18, hm18, HROW.out.kept hk HAPA.out, hrow, (HK2.out.trans (hk.mono HK2.out.size)).below (Nat.le_refl _)⟩ : DrawEnd2 w _ v3)
  clear hrow hapb hcur hrb hk HK2 HC2 HR2 hap HROW HAPA
  go_wp2
  go_ret3
  exact HE.out
end Go.Proofs.Ytegabkegbhglfaa


/- DrawLeastMarks: some lists of at most eighteen numbers, for one to four places; nothing that was there is written. -/
namespace Go.Proofs.Ytegabkegbhglfaa
open Go.RowKit
set_option maxRecDepth 10000

/-- A row of lists that append made, the lists from B on, none of them in the row's own block. -/
structure SsOwn (B : Nat) (v : World) (o : Value) (q : Nat) (cs : List Value) (X : List (List Int)) : Prop where
  own : v.ownsRow B 30 1 o q cs
  len : X.length = q
  cell : ∀ j, j < q → ∃ a n c, cs[j]? = some (.slice a n c) ∧ n ≤ 18 ∧ Row v a n (X.getD j []) ∧ (0 < n → ∀ x, a = some x → B ≤ x.block ∧ o.ownBlock ≠ some x.block)

theorem own_kept {B bc : Nat} {e : TypeId} {s : Nat} {w w' : World} {v : Value} {n : Nat} {l : List Value} (hown : w.ownsRow B e s v n l) (hk : Kept bc w.heap.size w w') (hb : bc < B) : w'.ownsRow B e s v n l := by
  refine ⟨hown.1, ?_⟩
  rcases hown.2 with h0 | ⟨g, cap, cur, e, h1, h2, h3⟩
  · exact .inl h0
  · exact .inr ⟨g, cap, cur, e, h1, (hk.block g (Array.getElem?_eq_some_iff.mp h2).1 (by omega)).trans h2, h3⟩

theorem SsOwn.kept {B bc : Nat} {v v' : World} {o : Value} {q : Nat} {cs : List Value} {X : List (List Int)} (h : SsOwn B v o q cs X) (hk : Kept bc v.heap.size v v') (hb : bc < B) : SsOwn B v' o q cs X := by
  refine ⟨own_kept h.own hk hb, h.len, fun j hj => ?_⟩
  obtain ⟨a, n, c, h1, h2, h3, h4⟩ := h.cell j hj
  exact ⟨a, n, c, h1, h2, h3.kept hk fun h0 x hx => by have := (h4 h0 x hx).1; omega, h4⟩

theorem Row.off {w w' : World} {a : Option Addr} {n : Nat} {xs : List Int} {row : Option Nat} (h : Row w a n xs) (hg : w.grownBy w' row) (hne : 0 < n → ∀ x, a = some x → row ≠ some x.block) : Row w' a n xs := by
  refine ⟨h.1, ?_⟩
  rcases h.2 with h0 | ⟨b, off, e, hl, hc⟩
  · exact .inl h0
  · refine .inr ⟨b, off, e, Nat.lt_of_lt_of_le hl hg.size, fun i hi => ?_⟩
    rw [World.cell?_of_block (hg.block b hl (fun e' => hne (by omega) _ e e'.symm))]
    exact hc i hi

theorem Row.lt {w : World} {a : Option Addr} {n : Nat} {xs : List Int} (h : Row w a n xs) (h0 : 0 < n) (x : Addr) (hx : a = some x) : x.block < w.heap.size := by
  rcases h.2 with h1 | ⟨b, off, e, hl, _⟩
  · omega
  · rw [e] at hx; obtain rfl := Option.some.inj hx; exact hl

theorem SsOwn.append {B : Nat} {v v' : World} {o : Value} {q g cap : Nat} {cs : List Value} {X : List (List Int)} {a : Option Addr} {n c : Nat} {x : List Int} (h : SsOwn B v o q cs X) (hr : Row v a n x) (hn : n ≤ 18) (hx : 0 < n → ∀ y, a = some y → B ≤ y.block ∧ o.ownBlock ≠ some y.block)
    (r1 : v'.ownsRow B 30 1 (.slice (some ⟨g, 0, none⟩) (q + 1) cap) (q + 1) (cs ++ [.slice a n c])) (r2 : v.grownBy v' o.ownBlock) (r3 : o.ownBlock = some g ∨ g = v.heap.size) : SsOwn B v' (.slice (some ⟨g, 0, none⟩) (q + 1) cap) (q + 1) (cs ++ [.slice a n c]) (X ++ [x]) := by
  have hcl : cs.length = q := by have := h.own.1; omega
  have hxl := h.len
  have key : ∀ (a : Option Addr) (n : Nat) (x : List Int), Row v a n x → (0 < n → ∀ y, a = some y → B ≤ y.block ∧ o.ownBlock ≠ some y.block) → Row v' a n x ∧ (0 < n → ∀ y, a = some y → B ≤ y.block ∧ Value.ownBlock (.slice (some ⟨g, 0, none⟩) (q + 1) cap) ≠ some y.block) := by
    intro a n x hr hx
    refine ⟨hr.off r2 fun h0 y hy => (hx h0 y hy).2, fun h0 y hy => ⟨(hx h0 y hy).1, ?_⟩⟩
    simp only [Value.ownBlock, ne_eq, Option.some.injEq]
    rcases r3 with e | e
    · intro e2
      exact (hx h0 y hy).2 (by rw [e, e2])
    · have := hr.lt h0 y hy
      omega
  refine ⟨r1, by simp [hxl], fun j hj => ?_⟩
  by_cases hjq : j < q
  · obtain ⟨a', n', c', h1, h2, h3, h4⟩ := h.cell j hjq
    obtain ⟨k1, k2⟩ := key a' n' _ h3 h4
    refine ⟨a', n', c', by rw [List.getElem?_append_left (by omega)]; exact h1, h2, ?_, k2⟩
    rw [List.getD_eq_getElem?_getD, List.getElem?_append_left (by omega), ← List.getD_eq_getElem?_getD]
    exact k1
  · obtain rfl : j = q := by omega
    obtain ⟨k1, k2⟩ := key a n _ hr hx
    refine ⟨a, n, c, by rw [List.getElem?_append_right (by omega)]; simp [hcl], hn, ?_, k2⟩
    rw [List.getD_eq_getElem?_getD, List.getElem?_append_right (by omega)]
    simpa [hxl] using k1

theorem SsOwn.lists {B : Nat} {v : World} {o : Value} {q : Nat} {cs : List Value} {X : List (List Int)} (h : SsOwn B v o q cs X) : ∃ a c, o = .slice a q c ∧ Lists v a q X ∧ ∀ x ∈ X, x.length ≤ 18 := by
  have hcl : cs.length = q := by have := h.own.1; omega
  have hxl := h.len
  have hle : ∀ x ∈ X, x.length ≤ 18 := fun x hx => by
    obtain ⟨j, hj, rfl⟩ := List.getElem_of_mem hx
    obtain ⟨a, n, c, h1, h2, h3, _⟩ := h.cell j (by omega)
    have := h3.1
    simp [hj] at this
    omega
  rcases h.own.2 with ⟨rfl, rfl⟩ | ⟨g, cap, cur, rfl, hb, hh, hnc, _, hsz, ht⟩
  · exact ⟨none, 0, rfl, ⟨h.len, .inl rfl⟩, hle⟩
  · refine ⟨_, cap, rfl, ⟨h.len, .inr ⟨g, 0, rfl, (Array.getElem?_eq_some_iff.mp hh).1, fun j hj => ?_⟩⟩, hle⟩
    obtain ⟨a, n, c, h1, h2, h3, _⟩ := h.cell j hj
    refine ⟨a, n, c, ?_, by unfold maxLen; omega, h3⟩
    rw [cell_of_row v g _ _ _ _ hh, Nat.zero_add, ← Array.getElem?_toList, ← h1, ← ht, List.getElem?_take_of_lt (by omega)]

theorem SsOwn.form {B : Nat} {v : World} {o : Value} {q : Nat} {cs : List Value} {X : List (List Int)} (h : SsOwn B v o q cs X) (hq : 0 < q) :
    ∃ g cap a n c, o = .slice (some ⟨g, 0, none⟩) q cap ∧ g < v.heap.size ∧ v.cell? ⟨g, 0, none⟩ = some (.slice a n c) ∧ n ≤ 18 ∧ Row v a n (X.getD 0 []) ∧ (0 < n → ∀ x, a = some x → B ≤ x.block ∧ o.ownBlock ≠ some x.block) := by
  rcases h.own.2 with ⟨rfl, rfl⟩ | ⟨g, cap, cur, rfl, hb, hh, hnc, _, hsz, ht⟩
  · omega
  · obtain ⟨a, n, c, h1, h2, h3, h4⟩ := h.cell 0 hq
    refine ⟨g, cap, a, n, c, rfl, (Array.getElem?_eq_some_iff.mp hh).1, ?_, h2, h3, h4⟩
    rw [cell_of_row v g _ _ _ _ hh, ← Array.getElem?_toList, ← h1, ← ht, List.getElem?_take_of_lt (by omega)]

/-- What is there while the lists are drawn. -/
structure DkSt (w v : World) (ca : Option Addr) (cn cc p : Nat) (bs : List Int) (o : Value) (q : Nat) (cs : List Value) (X : List (List Int)) : Prop where
  row : SsOwn (w.heap.size + 1) v o q cs X
  cur : Cur v w.heap.size ca cn cc p
  bytes : RowB v ca cn bs
  bel : Below w.heap.size w v

theorem DkSt.step {w v v' : World} {ca : Option Addr} {cn cc p p' : Nat} {bs : List Int} {o : Value} {q : Nat} {cs : List Value} {X : List (List Int)} (h : DkSt w v ca cn cc p bs o q cs X) (hk : Kept w.heap.size v.heap.size v v') (hc : Cur v' w.heap.size ca cn cc p') (hr : RowB v' ca cn bs) : DkSt w v' ca cn cc p' bs o q cs X :=
  ⟨h.row.kept hk (by omega), hc, hr, h.bel.trans ((hk.mono h.bel.size).below (Nat.le_refl _))⟩

theorem DkSt.only {w v v' : World} {ca : Option Addr} {cn cc p p' : Nat} {bs : List Int} {o : Value} {q : Nat} {cs : List Value} {X : List (List Int)} (h : DkSt w v ca cn cc p bs o q cs X) (ho : OnlyC w.heap.size v v') (hc : Cur v' w.heap.size ca cn cc p') (hap : Apart ca cn w.heap.size) : DkSt w v' ca cn cc p' bs o q cs X :=
  h.step (Kept.of_only ho) hc (h.bytes.keep ho hap)

theorem DkSt.alloc {w v : World} {ca : Option Addr} {cn cc p : Nat} {bs : List Int} {o : Value} {q : Nat} {cs : List Value} {X : List (List Int)} (h : DkSt w v ca cn cc p bs o q cs X) (ob : Obj) : DkSt w (v.alloc ob) ca cn cc p bs o q cs X := by
  have hb := (Below.refl v.heap.size v).alloc (Nat.le_refl _) ob
  exact h.step (Kept.of_below hb) (h.cur.below hb h.cur.lt) (h.bytes.below hb)

theorem DkSt.append {w v v' : World} {ca : Option Addr} {cn cc p : Nat} {bs : List Int} {o : Value} {q g cap : Nat} {cs : List Value} {X : List (List Int)} {a : Option Addr} {n c : Nat} {x : List Int} (h : DkSt w v ca cn cc p bs o q cs X) (hfar : 0 < cn → ∀ y, ca = some y → y.block < w.heap.size) (hr : Row v a n x) (hn : n ≤ 18) (hx : 0 < n → ∀ y, a = some y → w.heap.size + 1 ≤ y.block ∧ o.ownBlock ≠ some y.block)
    (r1 : v'.ownsRow (w.heap.size + 1) 30 1 (.slice (some ⟨g, 0, none⟩) (q + 1) cap) (q + 1) (cs ++ [.slice a n c])) (r2 : v.grownBy v' o.ownBlock) (r3 : o.ownBlock = some g ∨ g = v.heap.size) : DkSt w v' ca cn cc p bs (.slice (some ⟨g, 0, none⟩) (q + 1) cap) (q + 1) (cs ++ [.slice a n c]) (X ++ [x]) := by
  have hlo := h.cur.lt
  have hbl : Below (w.heap.size + 1) v v' := (Below.refl _ v).grown r2 (by omega) fun j hj => (h.row.own.lt j hj).1
  refine ⟨h.row.append hr hn hx r1 r2 r3, h.cur.below hbl (by omega), ⟨h.bytes.1, h.bytes.2.1, ?_⟩, h.bel.trans (hbl.mono (by omega))⟩
  rcases h.bytes.2.2 with h0 | ⟨b, off, e, hl, hc⟩
  · exact .inl h0
  · exact .inr ⟨b, off, e, Nat.lt_of_lt_of_le hl hbl.size, fun i hi => (World.cell?_of_block (hbl.block b (Nat.lt_succ_of_lt (hfar (by omega) _ e)))).trans (hc i hi)⟩

/-- How it ends. -/
def DkEnd (w : World) (e : Ending) (w' : World) : Prop :=
  ∃ (m : Nat) (a : Option Addr) (q c : Nat) (X : List (List Int)), e = .returned (.tuple #[.int .i64 (m : Int), .slice a q c]) ∧ 1 ≤ m ∧ m ≤ 4 ∧ q ≤ 8 ∧ Lists w' a q X ∧ (∀ x ∈ X, x.length ≤ 18) ∧ Below w.heap.size w w'

set_option maxHeartbeats 2000000 in
theorem drawLeast_any (ca : Option Addr) (cn cc : Nat) (bs : List Int) (w : World) (hr : RowB w ca cn bs) (hn : cn ≤ 1048576) :
    Calls Try.prog 9 #[.slice ca cn cc] w fun e w' => DkEnd w e w' := by
  have HB := hide ((Below.refl w.heap.size w).alloc (Nat.le_refl _) (.cells #[.slice ca cn cc, .int .i64 0, .int .u64 0] 75))
  have HR := hide (hr.below HB.out)
  have hap : Hid (Apart ca cn w.heap.size) := fun h0 y hy => by have := hr.far h0 y hy; omega
  have HF := hide (fun h0 y hy => hr.far h0 y hy)
  have HC : Hid (Cur (w.alloc (.cells #[.slice ca cn cc, .int .i64 0, .int .u64 0] 75)) w.heap.size ca cn cc 0) := ⟨0, heap_alloc_new _ _⟩
  obtain ⟨i0, hi, hz0, hz1, hz2⟩ := info_split Try.info30
  have HI := hide (And.intro hi (And.intro hz0 (And.intro hz1 hz2)))
  have S0 : Hid (DkSt w (w.alloc (.cells #[.slice ca cn cc, .int .i64 0, .int .u64 0] 75)) ca cn cc 0 bs (.slice none 0 0) 0 [] []) := ⟨⟨World.ownsRow_nil _ _ _ _, rfl, fun j hj => absurd hj (by omega)⟩, HC.out, HR.out, HB.out⟩
  clear hr hi hz0 hz1 hz2 HC HR HB
  go_enter Try.func9, Try.ntmps9
  go_wp2_with fail
  have hv0 : (w.alloc (.cells #[.slice ca cn cc, .int .i64 0, .int .u64 0] 75)).heap.size = w.heap.size + 1 := by simp
  generalize w.alloc (.cells #[.slice ca cn cc, .int .i64 0, .int .u64 0] 75) = v0 at *
  have S1 := hide (S0.out.alloc (.cells (cellsOf [1, 2, 2, 3, 4]) 3))
  refine (among_any 5 5 (some ⟨w.heap.size + 1, 0, none⟩) [1, 2, 2, 3, 4] w.heap.size ca cn cc 0 bs (v0.alloc (.cells (cellsOf [1, 2, 2, 3, 4]) 3)) S1.out.cur S1.out.bytes (by omega) hn (by omega) (by omega) (row_new v0 _ 5 _ rfl hv0.symm) (by intro _ x hx; obtain rfl := Option.some.inj hx; simp)).mono ?_
  rintro e v1 ⟨x, rfl, hx, hcur, ho⟩
  have S2 := hide (S1.out.only ho hcur hap.out)
  obtain ⟨m, rfl, hm1, hm4⟩ : ∃ m : Nat, x = (m : Int) ∧ 1 ≤ m ∧ m ≤ 4 := ⟨x.toNat, by simp at hx; omega, by simp at hx; omega, by simp at hx; omega⟩
  clear hcur ho S1 S0 hx hv0
  go_wp2_with fail
  refine (pick_any 7 w.heap.size ca cn cc (0 + 1) bs _ S2.out.cur S2.out.bytes (by omega) hn (by omega) (by omega)).mono ?_
  rintro e v2 ⟨r, rfl, hr7, hcur, ho⟩
  have S3 := hide (S2.out.only ho hcur hap.out)
  clear hcur ho S2
  go_wp2_with fail
  go_loopw [6, 7] (fun o kv wr => ∃ (k q p' : Nat) (cs : List Value) (X : List (List Int)), kv = .int .i64 (k : Int) ∧ k + q ≤ 6 ∧ p' ≤ 2 + 60 * q ∧ Hid (DkSt w wr ca cn cc p' bs o q cs X)) (fun _ kv _ => (intOf kv).toNat)
  case atStart => exact ⟨r, 0, _, _, _, rfl, by omega, by omega, S3⟩
  case round =>
    obtain ⟨k, q, p', cs, X, rfl, hkq, hp', st⟩ := hrel
    clear S3
    obtain ⟨hi, hz0, hz1, hz2⟩ := HI.out
    by_cases hk0 : 0 < k
    · have hki : (0 : Int) < (k : Int) := by omega
      have HM := hide (mark_drawW m w.heap.size ca cn cc p' bs wr st.out.cur st.out.bytes hap.out st.out.bytes.far (by omega) hn (by omega))
      go_wp2_with fail
      refine HM.out.mono ?_
      rintro e v3 ⟨a, n, c, xs, p2, rfl, hn18, hp2, hrow, hnew, hcur, hrb, hk⟩
      have hlo := st.out.cur.lt
      have hz3 := hk.size
      have HX : Hid (0 < n → ∀ y, a = some y → w.heap.size + 1 ≤ y.block ∧ u6.ownBlock ≠ some y.block) := fun h0 y hy => by
        have h1 := hnew h0 y hy
        refine ⟨by omega, fun e => ?_⟩
        have h2 := (st.out.row.own.lt _ e).2
        omega
      have S4 := hide (st.out.step hk hcur hrb)
      have S5 := hide (S4.out.alloc (.cells #[.slice a n c] 30))
      have HROW := hide hrow
      clear HM hk hcur hrb hnew st S4 hrow
      go_wp2_with (at_builtin; refine wpList_append_lies _ rfl (.tmp 20) (.tmp 24) 24 rfl (w.heap.size + 1) 30 i0 _ 1 24 Try.underlying24 hi hz0 hz1 hz2 rfl (by decide) u6 q _ rfl S5.out.row.own ⟨v3.heap.size, 0, none⟩ 1 1 [.slice a n c] rfl rfl (cell_one_new _ _ _) (by simp [Value.oneCell']) (by decide) (by unfold maxLen; omega) (by omega) (by simp; omega) (v3.heap.size + 1) (by simp) ?_; intro g' cp W' hown hgr hlies hglt; have S6 := hide (S5.out.append HF.out (HROW.out.below (below_al v3 _)) hn18 HX.out hown hgr (by simpa using hlies)); clear hown hgr hlies hglt)
      go_roundw
      case rel => exact ⟨k - 1, q + 1, p2, _, _, by go_num, by omega, by omega, S6⟩
      case measure => simp [intOf]; omega
    · obtain rfl : k = 0 := by omega
      by_cases hq0 : 0 < q
      rotate_left
      · obtain rfl : q = 0 := by omega
        obtain ⟨al, cl, rfl, hls, hle⟩ := st.out.row.lists
        have HE : Hid (DkEnd w (.returned (.tuple #[.int .i64 (m : Int), .slice al 0 cl])) wr) := ⟨m, al, 0, cl, X, rfl, hm1, hm4, by omega, hls, hle, st.out.bel⟩
        clear st hls hle
        go_wp2_with fail
        go_ret2
        exact HE.out
      · obtain ⟨g, cap, a, n, c, rfl, hg, hc0, hn18, hrow, hx⟩ := st.out.row.form hq0
        have hqi : (0 : Int) < (q : Int) := by omega
        have HO := hide (one_any 3 w.heap.size ca cn cc p' bs wr st.out.cur st.out.bytes (by omega) hn (by omega) (by omega))
        clear hc0 hn18 hrow hx hg
        go_wp2_with fail
        refine HO.out.mono ?_
        rintro e v3 ⟨b, rfl, hcur, ho⟩
        have S4 := hide (st.out.only ho hcur hap.out)
        clear hcur ho st HO
        cases b
        · obtain ⟨al, cl, e0, hls, hle⟩ := S4.out.row.lists
          simp only [Value.slice.injEq] at e0
          obtain ⟨rfl, _, rfl⟩ := e0
          have HE : Hid (DkEnd w (.returned (.tuple #[.int .i64 (m : Int), .slice (some ⟨g, 0, none⟩) q cap])) v3) := ⟨m, _, q, cap, X, rfl, hm1, hm4, by omega, hls, hle, S4.out.bel⟩
          clear S4 hls hle
          go_wp2_with fail
          go_ret2
          exact HE.out
        · obtain ⟨g2, cap2, a, n, c, e0, hg, hc0, hn18, hrow, hx⟩ := S4.out.row.form hq0
          simp only [Value.slice.injEq, Option.some.injEq, Addr.mk.injEq] at e0
          obtain ⟨⟨rfl, _⟩, _, rfl⟩ := e0
          have S5 := hide (S4.out.alloc (.cells #[.slice a n c] 30))
          have HROW := hide hrow
          have HX := hide hx
          have hlo := S4.out.cur.lt
          clear hrow hx S4
          go_wp2_with (at_builtin; refine wpList_append_lies _ rfl (.tmp 33) (.tmp 37) 24 rfl (w.heap.size + 1) 30 i0 _ 1 24 Try.underlying24 hi hz0 hz1 hz2 rfl (by decide) (.slice (some ⟨g, 0, none⟩) q cap) q _ rfl S5.out.row.own ⟨v3.heap.size, 0, none⟩ 1 1 [.slice a n c] rfl rfl (cell_one_new _ _ _) (by simp [Value.oneCell']) (by decide) (by unfold maxLen; omega) (by omega) (by simp; omega) (v3.heap.size + 1) (by simp) ?_; intro g' cp W' hown hgr hlies hglt; have S6 := hide (S5.out.append HF.out (HROW.out.below (below_al v3 _)) hn18 HX.out hown hgr (by simpa using hlies)); clear hown hgr hlies hglt)
          obtain ⟨al, cl, e0, hls, hle⟩ := S6.out.row.lists
          simp only [Value.slice.injEq] at e0
          obtain ⟨rfl, _, rfl⟩ := e0
          have HE : Hid (DkEnd w (.returned (.tuple #[.int .i64 (m : Int), .slice (some ⟨g', 0, none⟩) (q + 1) cp])) W') := ⟨m, _, q + 1, cp, _, rfl, hm1, hm4, by omega, hls, hle, S6.out.bel⟩
          clear S6 hls hle
          go_wp2_with fail
          go_ret2
          exact HE.out
end Go.Proofs.Ytegabkegbhglfaa


/- What the laws' own sameInts, big and numberOf answer. -/
namespace Go.Proofs.Ytegabkegbhglfaa
open Go.RowKit
set_option maxRecDepth 10000

set_option maxHeartbeats 400000 in
theorem sameI_any (a b : Option Addr) (n m ca cb : Nat) (xs ys : List Int) (w : World) (ha : Row w a n xs) (hb : Row w b m ys) (hn : n ≤ 1048576) :
    Calls Try.prog 22 #[.slice a n ca, .slice b m cb] w fun e w' => e = .returned (.bool (sameB xs ys)) ∧ ∃ q, w' = w.drewN q := by
  by_cases hnm : n = m
  · subst hnm
    have hne : ((n : Int) != (n : Int)) = false := by simp
    go_enter Try.func22, Try.ntmps22
    go_wp2
    clear hne
    go_loopw [13] (fun i wr => ∃ k : Nat, k ≤ n ∧ i = .int .i64 k ∧ Upto xs ys k ∧ ∃ q, wr = w.drewN q) (fun i _ => n - (intOf i).toNat)
    case atStart => exact ⟨0, Nat.zero_le _, rfl, rfl, 0, rfl⟩
    case round =>
      obtain ⟨k, hk, rfl, hu, q, rfl⟩ := hrel
      by_cases hlt : k < n
      · obtain ⟨b1, o1, x, rfl, hl1, hc1, H1⟩ := ha.at hlt
        obtain ⟨b2, o2, y, rfl, hl2, hc2, H2⟩ := hb.at hlt
        have hi1 : ((k : Int)) < ((n : Int)) := by omega
        clear ha hb
        by_cases he : x = y
        · subst he
          have HU := hu.step H1 H2
          clear hu H1 H2
          go_wp2
          go_quiet (fail)
          go_wp2
          go_roundw
          case rel => exact ⟨k + 1, by omega, by go_num, HU, _, rfl⟩
          case measure => simp [intOf]; omega
        · have HS := sameB_ne H1 H2 he
          have hd : (x != y) = true := by simp [he]
          clear hu H1 H2 he
          go_wp2
          go_quiet (fail)
          go_wp2
          go_ret
          exact ⟨ret_bool HS.symm, _, drewN_two w _ _⟩
      · have hx := ha.1
        have hy := hb.1
        have HS := hu.done (by omega) (by omega)
        go_wp2
        go_ret
        exact ⟨ret_bool HS.symm, _, rfl⟩
  · have hx := ha.1
    have hy := hb.1
    have HS := sameB_len (show xs.length ≠ ys.length by omega)
    have hne : ((n : Int) != (m : Int)) = true := by simp; omega
    clear ha hb hx hy
    go_enter Try.func22, Try.ntmps22
    go_wp2
    go_ret
    exact ⟨ret_bool HS.symm, 0, rfl⟩


def BigEnd (n m : Nat) (w : World) (e : Ending) (w' : World) : Prop := ∃ r : Bool, e = .returned (.bool r) ∧ Hid (r = false → n ≤ 1048576 ∧ m ≤ 1048576) ∧ w' = w

set_option maxHeartbeats 400000 in
theorem big_any (a b : Option Addr) (n m ca cb : Nat) (w : World) (hn : n ≤ 9223372036854775807) (hm : m ≤ 9223372036854775807) :
    Calls Try.prog 8 #[.slice a n ca, .slice b m cb] w fun e w' => BigEnd n m w e w' := by
  by_cases h1 : 1048576 < n
  · go_enter Try.func8, Try.ntmps8
    go_wp2
    go_ret
    exact ⟨true, rfl, fun h => by simp at h, rfl⟩
  · have h1' : (n : Int) ≤ 1048576 := by omega
    by_cases h2 : (1048576 : Int) - (n : Int) < (m : Int)
    · go_enter Try.func8, Try.ntmps8
      go_wp2
      go_ret
      exact ⟨true, rfl, fun h => by simp at h, rfl⟩
    · go_enter Try.func8, Try.ntmps8
      go_wp2
      go_ret
      exact ⟨_, rfl, fun _ => by omega, rfl⟩

/-- Some slices read as some lists. -/
def Rs (v : World) (l : List (Option Addr × Nat × List Int)) : Prop := ∀ t ∈ l, Row v t.1 t.2.1 t.2.2

theorem Rs.nil (v : World) : Rs v [] := by intro t ht; simp at ht
theorem Rs.cons {v : World} {a : Option Addr} {n : Nat} {xs : List Int} {l : List (Option Addr × Nat × List Int)} (h : Row v a n xs) (hl : Rs v l) : Rs v ((a, n, xs) :: l) := by
  intro t ht
  rcases List.mem_cons.mp ht with rfl | ht
  · exact h
  · exact hl t ht
theorem Rs.below {v v' : World} {l : List (Option Addr × Nat × List Int)} (h : Rs v l) (hb : Below v.heap.size v v') : Rs v' l := fun t ht => (h t ht).below hb
theorem Rs.at {v : World} {l : List (Option Addr × Nat × List Int)} (h : Rs v l) (a : Option Addr) (n : Nat) (xs : List Int) (hm : (a, n, xs) ∈ l) : Row v a n xs := h _ hm


/-- How numberOf ends. -/
def NumEnd (w : World) (e : Ending) (w' : World) : Prop := ∃ z : Nat, e = .returned (.int .i64 (z : Int)) ∧ z < 1000003 ∧ w' = w

set_option maxHeartbeats 400000 in
theorem number_any (a : Option Addr) (n c : Nat) (bs : List Int) (w : World) (h : RowB w a n bs) (hn : n ≤ 1048576) :
    Calls Try.prog 23 #[.slice a n c] w fun e w' => NumEnd w e w' := by
  have HR := hide h
  clear h
  go_enter Try.func23, Try.ntmps23
  go_wp2_with fail
  go_loop [3, 8] (fun m i => ∃ k z : Nat, k ≤ n ∧ i = .int .i64 k ∧ m = .int .i64 (z : Int) ∧ z < 1000003) (fun _ i => n - (intOf i).toNat)
  case atStart => exact ⟨0, 0, Nat.zero_le _, rfl, rfl, by omega⟩
  case round =>
    obtain ⟨k, z, hk, rfl, rfl, hz⟩ := hrel
    by_cases hlt : k < n
    · have hi1 : (k : Int) < (n : Int) := by omega
      rcases HR.out.2.2 with h0 | ⟨b, off, rfl, hl, hc⟩
      · omega
      have hck := hc k hlt
      have hx := HR.out.2.1 k
      generalize bs.getD k 0 = x at hck hx
      clear hc HR
      have hz1 : (0 : Int) ≤ (z : Int) ∧ (z : Int) < 1000003 := by omega
      go_wp2_with fail
      go_round
      case rel => exact ⟨k + 1, ((31 * (z : Int) + x) % 1000003).toNat, by omega, by go_num, by have := Int.emod_nonneg (31 * (z : Int) + x) (show (1000003 : Int) ≠ 0 by omega); congr 1; omega, by have := Int.emod_lt_of_pos (31 * (z : Int) + x) (show (0 : Int) < 1000003 by omega); omega⟩
      case measure => simp [intOf]; omega
    · go_wp2_with fail
      go_ret
      exact ⟨z, rfl, hz, rfl⟩
end Go.Proofs.Ytegabkegbhglfaa
