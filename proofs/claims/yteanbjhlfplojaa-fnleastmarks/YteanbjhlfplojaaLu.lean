/- The specification's LeastMarks. -/
import Derived.Test.YteanbjhlfplojaaLt
namespace Go.Proofs.Yteanbjhlfplojaa
open Go.RowKit
set_option maxRecDepth 10000

/-- Whether a mark is a least one, as far as it was asked. -/
def leastU (n : Nat) (L : List (List Int)) (m : List Int) (j : Nat) : Bool := (L.take j).all fun x => !covL n m x || sameB m x

theorem leastU_succ {n : Nat} {L : List (List Int)} {m : List Int} {j : Nat} (hj : j < L.length) : leastU n L m (j + 1) = (leastU n L m j && (!covL n m (L.getD j []) || sameB m (L.getD j []))) := by
  unfold leastU
  rw [take_getD hj, List.all_append]
  simp only [List.all_cons, List.all_nil, Bool.and_true]

theorem leastU_all (n : Nat) (L : List (List Int)) (m : List Int) : leastU n L m L.length = leastB n L m := by
  unfold leastU leastB; rw [List.take_length]

/-- What is there while the least ones are looked for. -/
structure LmSt (w v : World) (n k : Nat) (L : List (List Int)) (o : Value) (O : List (List Int)) : Prop where
  out : ∃ a q c, o = .slice a q c ∧ Lists v a q O
  min : MinUpto n L k O
  bel : Below w.heap.size w v

theorem LmSt.grow {w v v' : World} {n k : Nat} {L O : List (List Int)} {o : Value} (h : LmSt w v n k L o O) (hb : Below v.heap.size v v') : LmSt w v' n k L o O := by
  obtain ⟨a, q, c, e, hl⟩ := h.out
  exact ⟨⟨a, q, c, e, hl.below hb⟩, h.min, h.bel.trans (hb.mono h.bel.size)⟩

set_option maxHeartbeats 2000000 in
theorem leastB_any (n : Nat) (al : Option Addr) (ml cl : Nat) (L : List (List Int)) (w : World) (hl : Lists w al ml L) (hL : ∀ x ∈ L, x.length = n) (hn : n ≤ 16) (hm : ml ≤ 400) :
    Calls Try.prog 29 #[.slice al ml cl] w fun e w' => ∃ a q c O, e = .returned (.slice a q c) ∧ Lists w' a q O ∧ MinOf n L O ∧ Below w.heap.size w w' := by
  have HL := hide hl
  have HLE := hide hl.1
  have HN := hide hL
  clear hl hL
  go_enter Try.func29, Try.ntmps29
  go_wp2_with fail
  go_loopw [3, 11] (fun o i wr => ∃ (k : Nat) (O : List (List Int)), k ≤ ml ∧ i = .int .i64 k ∧ Hid (LmSt w wr n k L o O)) (fun _ i _ => ml - (intOf i).toNat)
  case atStart => exact ⟨0, [], Nat.zero_le _, rfl, ⟨none, 0, 0, rfl, rfl, .inl rfl⟩, MinUpto.first _ _, Below.refl _ _⟩
  case round =>
    obtain ⟨k, O, hk, rfl, st⟩ := hrel
    by_cases hlt : k < ml
    rotate_left
    · have hk' : k = ml := by omega
      subst hk'
      obtain ⟨a, q, c, rfl, hls⟩ := st.out.out
      have hmn := st.out.min
      rw [← HLE.out] at hmn
      have HE : Hid (∃ a' q' c' O', Ending.returned (.slice a q c) = .returned (.slice a' q' c') ∧ Lists wr a' q' O' ∧ MinOf n L O' ∧ Below w.heap.size w wr) := ⟨a, q, c, O, rfl, hls, hmn.done, st.out.bel⟩
      clear st hls hmn
      go_wp2_with fail
      go_ret
      exact HE.out
    have hlt' : k < L.length := by have := HLE.out; omega
    obtain ⟨b, off, a0, n0, c0, rfl, hb, hc0, m0, r0⟩ := (HL.out.below st.out.bel).at hlt
    obtain rfl : n0 = n := by have := HN.out _ (getD_mem hlt'); have := r0.1; omega
    obtain ⟨x, hx⟩ : ∃ x, Hid (L.getD k [] = x) := ⟨_, rfl⟩
    rw [hx.out] at r0
    have HR := hide r0
    clear r0 m0
    generalize wr = v0 at *
    obtain ⟨ao, qo, co, rfl, hlo⟩ := st.out.out
    have HO := hide hlo
    clear hlo
    go_wp2_with fail
    go_loopw [6, 17] (fun t i v => ∃ (j : Nat) (lb : Bool), j ≤ ml ∧ i = .int .i64 j ∧ t = .bool lb ∧ Hid (lb = leastU n0 L x j) ∧ Hid (Below v0.heap.size v0 v)) (fun _ i _ => ml - (intOf i).toNat)
    case atStart => exact ⟨0, true, Nat.zero_le _, rfl, rfl, rfl, Below.refl _ _⟩
    case round =>
      obtain ⟨j, lb, hj, rfl, rfl, hlb, hbv⟩ := hrel
      by_cases hjl : j < ml
      · have hjl' : j < L.length := by have := HLE.out; omega
        obtain ⟨b1, off1, a1, n1, c1, e1, hb1, hc1, m1, r1⟩ := (HL.out.below (st.out.bel.trans (hbv.out.mono st.out.bel.size))).at hjl
        obtain ⟨rfl, rfl⟩ : b = b1 ∧ off = off1 := by simpa using e1
        obtain rfl : n1 = n0 := by have := HN.out _ (getD_mem hjl'); have := r1.1; omega
        have hsu := leastU_succ (n := n1) (m := x) hjl'
        rw [← hlb.out] at hsu
        have HC := hide (covS_any a0 a1 n1 c0 c1 x (L.getD j []) _ (HR.out.below hbv.out) r1 hn)
        have HSM := hide (same_any a0 a1 n1 n1 c0 c1 x (L.getD j []) _ (HR.out.below hbv.out) r1 (by omega))
        have hcd : covF (getF x) (getF (L.getD j [])) n1 = covL n1 x (L.getD j []) := rfl
        rw [hcd] at HC
        clear r1 m1 hcd e1 hlb
        cases lb
        · have HX : Hid (false = leastU n1 L x (j + 1)) := by rw [hsu]; rfl
          clear HC HSM hsu
          go_wp2_with fail
          go_roundw
          case rel => exact ⟨j + 1, false, by omega, by go_num, rfl, HX, hbv⟩
          case measure => simp [intOf]; omega
        · cases hcv : covL n1 x (L.getD j [])
          · have HX : Hid (true = leastU n1 L x (j + 1)) := by rw [hsu, hcv]; rfl
            rw [hcv] at HC
            clear HSM hsu hcv
            go_wp2_with (go_at_call 47; refine HC.out.mono ?_; rintro e w' ⟨rfl, hw'⟩; have hw2 := hw'.symm; subst hw2; clear hw')
            go_roundw
            case rel => exact ⟨j + 1, true, by omega, by go_num, rfl, HX, hbv⟩
            case measure => simp [intOf]; omega
          · obtain ⟨sb, hsb⟩ : ∃ sb, Hid (sameB x (L.getD j []) = sb) := ⟨_, rfl⟩
            have HX : Hid (sb = leastU n1 L x (j + 1)) := by rw [hsu, hcv, hsb.out]; rfl
            rw [hcv] at HC
            rw [hsb.out] at HSM
            clear hsu hcv
            go_wp2_with (first
              | (go_at_call 47; refine HC.out.mono ?_; rintro e w' ⟨rfl, hw'⟩; have hw2 := hw'.symm; subst hw2; clear hw')
              | (go_at_call 48; refine HSM.out.mono ?_; rintro e w' ⟨rfl, qd, rfl⟩))
            have HBV := hide (hbv.out.trans ((below_drewN' _ qd).mono hbv.out.size))
            go_roundw
            case rel => exact ⟨j + 1, sb, by omega, by go_num, rfl, HX, HBV⟩
            case measure => simp [intOf]; omega
      · have hj' : j = ml := by omega
        subst hj'
        have HLB := hide hlb.out
        rw [← HLE.out, leastU_all, ← hx.out] at HLB
        cases lb
        · have ST := hide (LmSt.mk (w := w) (v := wr) ⟨ao, qo, co, rfl, HO.out.below hbv.out⟩ (st.out.min.skip hlt' HLB.out.symm) (st.out.bel.trans (hbv.out.mono st.out.bel.size)))
          clear hc0 st
          go_wp2_with fail
          go_roundw
          case rel => exact ⟨k + 1, O, by omega, by go_num, ST⟩
          case measure => simp [intOf]; omega
        · have HOW := hide (own3_any a0 n0 c0 x wr (HR.out.below hbv.out) (by omega))
          have hqo : qo ≤ 400 := by have h1 := HO.out.1; have h2 := st.out.min.2.2; omega
          clear hc0
          go_wp2_with fail
          refine HOW.out.mono ?_
          rintro e w2 ⟨a', c', rfl, hra, _, hb2⟩
          have hbb := hbv.out.trans (hb2.mono hbv.out.size)
          have HIO := hide (inOrder_any n0 ao qo co O a' c' x w2 (HO.out.below hbb) (st.out.min.len HN.out) hra st.out.min.1 hn hqo)
          clear HOW hra
          go_wp2_with fail
          refine HIO.out.mono ?_
          rintro e w3 ⟨a3, q3, c3, R, rfl, hl3, hin, hb3⟩
          rw [← hx.out] at hin
          have ST := hide (LmSt.mk (w := w) (v := w3) ⟨a3, q3, c3, rfl, hl3⟩ (st.out.min.put HN.out hlt' HLB.out.symm hin) (st.out.bel.trans ((hbb.trans (hb3.mono hbb.size)).mono st.out.bel.size)))
          clear st hl3 hin hb3 hbb hb2 HIO
          go_wp2_with fail
          go_roundw
          case rel => exact ⟨k + 1, R, by omega, by go_num, ST⟩
          case measure => simp [intOf]; omega

/-- How the specification's LeastMarks ends. -/
def LuEnd (ok : Bool) (R : List (List Int)) (w : World) (e : Ending) (w' : World) : Prop := ∃ a c, e = .returned (.tuple #[.slice a R.length c, .bool ok]) ∧ Lists w' a R.length R ∧ Below w.heap.size w w'

theorem luEnd_no {p : Int} {L : List (List Int)} {w w' : World} (h : okL p L = false) (hb : Below w.heap.size w w') : LuEnd (okL p L) (leastR p L) w (.returned (.tuple #[.slice none 0 0, .bool false])) w' := by
  have hr : leastR p L = [] := by unfold leastR; rw [h]; rfl
  rw [h, hr]
  exact ⟨none, 0, rfl, ⟨rfl, .inl rfl⟩, hb⟩

set_option maxHeartbeats 1000000 in
theorem leastS_any (p : Int) (a : Option Addr) (m c : Nat) (L : List (List Int)) (w : World) (h : Lists w a m L) (hs : sizeN m L ≤ 1048576) :
    Calls Try.prog 8 #[.int .i64 p, .slice a m c] w fun e w' => LuEnd (okL p L) (leastR p L) w e w' := by
  have hm := h.1
  have hm20 : m ≤ 1048576 := by unfold sizeN at hs; omega
  cases hp : inB p 1 16
  · have HG := hide (luEnd_no (okL_no1 (L := L) hp) (Below.refl w.heap.size w))
    clear h hs
    go_enter Try.func8, Try.ntmps8
    go_wp2_with (go_at_call 27; refine (places_any _ _).mono ?_; rintro e w' ⟨rfl, rfl⟩)
    go_ret2
    exact HG.out
  by_cases h4 : m ≤ 400
  rotate_left
  · have HG := hide (luEnd_no (okL_no2 (p := p) (L := L) (by omega)) (Below.refl w.heap.size w))
    clear h hs
    go_enter Try.func8, Try.ntmps8
    go_wp2_with (go_at_call 27; refine (places_any _ _).mono ?_; rintro e w' ⟨rfl, rfl⟩)
    go_ret2
    exact HG.out
  have hp2 := hp
  simp [inB] at hp2
  have hn16 : p.toNat ≤ 16 := by omega
  have HP := hide hp
  have HL := hide h
  have HM := hide hm
  have HS := hide hs
  clear h hm hs hp2
  go_enter Try.func8, Try.ntmps8
  go_wp2_with (go_at_call 27; refine (places_any _ _).mono ?_; rintro e w' ⟨rfl, hw'⟩; have hw2 := hw'.symm; subst hw2; clear hw')
  go_loopw [18] (fun i v => ∃ k : Nat, k ≤ m ∧ i = .int .i64 k ∧ Hid (∀ j, j < k → goodB p (L.getD j []) = true) ∧ Hid (Below w.heap.size w v)) (fun i _ => m - (intOf i).toNat)
  case atStart => exact ⟨0, Nat.zero_le _, rfl, fun j hj => absurd hj (by omega), Below.refl _ _⟩
  case round =>
    obtain ⟨k, hk, rfl, hgu, hbv⟩ := hrel
    clear hp
    by_cases hlt : k < m
    · obtain ⟨b, off, a0, n0, c0, rfl, hb, hc0, m0, r0⟩ := (HL.out.below hbv.out).at hlt
      have hl0 := len_le L k
      have hs' : m + sizeL L ≤ 1048576 := HS.out
      have q0 : n0 ≤ 1048576 := by have := r0.1; omega
      have HT := hide (goodS_any p a0 n0 c0 _ wr r0 q0)
      clear r0 hl0 q0 hs' m0
      cases hg : goodB p (L.getD k [])
      · have HE := hide (luEnd_no (w := w) (okL_no3 (p := p) (L := L) (k := k) (by have := HM.out; omega) hg) hbv.out)
        rw [hg] at HT
        clear hg
        go_wp2_with fail
        refine HT.out.mono ?_
        rintro e w' ⟨rfl, hb'⟩
        rw [hb']
        clear hb' HT
        go_wp2_with fail
        go_ret2
        exact HE.out
      · have HG : Hid (∀ j, j < k + 1 → goodB p (L.getD j []) = true) := fun j hj => by
          by_cases e : j = k
          · subst e; exact hg
          · exact hgu.out j (by omega)
        rw [hg] at HT
        clear hg
        go_wp2_with fail
        refine HT.out.mono ?_
        rintro e w' ⟨rfl, hb'⟩
        rw [hb']
        clear hb' HT hc0
        go_wp2_with fail
        go_roundw
        case rel => exact ⟨k + 1, by omega, by go_num, HG, hbv⟩
        case measure => simp [intOf]; omega
    · have hk' : k = m := by omega
      subst hk'
      have HOK : Hid (okL p L = true) := okL_yes HP.out (by have := HM.out; omega) fun j hj => hgu.out j (by have := HM.out; omega)
      have HT := hide (leastB_any p.toNat a k c L wr (HL.out.below hbv.out) (fun x hx => good_len (okL_all HOK.out x hx)) hn16 h4)
      go_wp2_with fail
      refine HT.out.mono ?_
      rintro e w' ⟨a', q', c', O, rfl, hls, hmin, hb'⟩
      have HE : Hid (LuEnd (okL p L) (leastR p L) w (.returned (.tuple #[.slice a' q' c', .bool true])) w') := by
        have e1 : O = leastR p L := by unfold leastR; rw [if_pos HOK.out]; exact hmin.least
        have e2 := hls.1
        subst e2
        rw [← e1, HOK.out]
        exact ⟨a', c', rfl, hls, hbv.out.trans (hb'.mono hbv.out.size)⟩
      clear HT hls hmin hb'
      go_wp2_with fail
      go_ret2
      exact HE.out
end Go.Proofs.Yteanbjhlfplojaa
