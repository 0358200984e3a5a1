/- Contracts that the proof stands on, one behind the other. -/
import Derived.Test.YtedbihlpggficaaP11
import Derived.Deep.MidRow
/- Slices of lists: what szIntSS, toIntSS, eqIntSS, markIntSS and heldIntSS answer, make and write. -/
namespace Go.Proofs.Ytedbihlpggficaa
open Go.RowKit
set_option maxRecDepth 10000

theorem Lists.at {w : World} {a : Option Addr} {n : Nat} {L : List (List Int)} (h : Lists w a n L) {k : Nat} (hk : k < n) :
    ∃ b off a' n' c', a = some ⟨b, off, none⟩ ∧ b < w.heap.size ∧ w.cell? ⟨b, off + k, none⟩ = some (.slice a' n' c') ∧ n' ≤ maxLen ∧ Row w a' n' (L.getD k []) := by
  rcases h.2 with h0 | ⟨b, off, e, hl, hc⟩
  · omega
  · obtain ⟨a', n', c', h1, h2, h3⟩ := hc k hk
    exact ⟨b, off, a', n', c', e, hl, h1, h2, h3⟩

set_option maxHeartbeats 400000 in
theorem szSS_any (a : Option Addr) (n c : Nat) (L : List (List Int)) (left : Int) (w : World) (h : Lists w a n L) (hn : n ≤ maxLen) (hl0 : 0 ≤ left) (hl1 : left ≤ 1048576) :
    Calls Try.prog 21 #[.slice a n c, .int .i64 left] w fun e w' => e = .returned (.int .i64 (leftOf left (sizeN n L))) ∧ w' = w := by
  have hmx : (n : Int) ≤ 9223372036854775807 := by unfold maxLen at hn; omega
  by_cases h0 : (n : Int) ≤ left
  rotate_left
  · have HS := hide (show leftOf left (sizeN n L) = -1 by unfold leftOf sizeN; rw [if_neg (by omega)])
    clear h
    go_enter Try.func21, Try.ntmps21
    go_wp2_with fail
    go_ret
    exact ⟨ret_int HS.out.symm, rfl⟩
  have HL := hide h
  clear h
  go_enter Try.func21, Try.ntmps21
  go_wp2_with fail
  go_loop [1, 5] (fun t i => ∃ k : Nat, k ≤ n ∧ i = .int .i64 k ∧ t = .int .i64 (left - (n + sizeL (L.take k) : Nat)) ∧ Hid ((((n + sizeL (L.take k) : Nat)) : Int) ≤ left)) (fun _ i => n - (intOf i).toNat)
  case atStart => exact ⟨0, Nat.zero_le _, rfl, by simp [sizeL], by simpa [Hid, sizeL] using h0⟩
  case round =>
    obtain ⟨k, hk, rfl, rfl, hle⟩ := hrel
    obtain ⟨s, hs⟩ : ∃ s : Nat, Hid (n + sizeL (L.take k) = s) := ⟨_, rfl⟩
    rw [hs.out] at hle ⊢
    by_cases hlt : k < n
    · obtain ⟨b, off, a0, n0, c0, rfl, hb, hc0, m0, r0⟩ := HL.out.at hlt
      have hl := HL.out.1
      have e0 := sizeL_take_succ L k (by omega)
      have HE : Hid (n + sizeL (L.take (k + 1)) = s + n0) := by
        show n + sizeL (L.take (k + 1)) = s + n0
        rw [e0, r0.1, ← hs.out]; omega
      have HE2 : Hid (n + sizeL (L.take (k + 1)) ≤ sizeN n L) := by
        show _ ≤ _
        unfold sizeN
        have := sizeL_take_le L (k + 1)
        omega
      clear e0 r0 hl hs
      have hz0 : 0 ≤ left - s := by have := hle.out; omega
      have hz1 : left - s ≤ 1048576 := by omega
      go_wp2_with fail
      refine (szInt_any _ _ _ _ _ m0 hz0 hz1).mono ?_
      rintro e w' ⟨rfl, rfl⟩
      by_cases g : leftOf (left - s) n0 < 0
      · have HS : Hid (leftOf left (sizeN n L) = -1) := by
          show leftOf left (sizeN n L) = -1
          have h1 := leftOf_neg g
          have h2 := HE.out
          have h3 := HE2.out
          unfold leftOf; rw [if_neg (by omega)]
        generalize leftOf (left - s) n0 = l0 at *
        clear hc0
        go_wp2_with fail
        go_ret
        exact ⟨ret_int HS.out.symm, rfl⟩
      · have hq := leftOf_pos g
        rw [hq.2] at g ⊢
        have HQ := hide hq.1
        clear hq hc0
        have HR : Hid ((((n + sizeL (L.take (k + 1)) : Nat)) : Int) ≤ left) := by
          show _ ≤ _
          rw [HE.out]; have := HQ.out; omega
        have HV : Hid (left - s - (n0 : Int) = left - ((n + sizeL (L.take (k + 1)) : Nat) : Int)) := by
          show _ = _
          rw [HE.out]; omega
        generalize left - s - (n0 : Int) = l0 at *
        go_wp2_with fail
        go_round
        case rel => exact ⟨k + 1, by omega, by go_num, by rw [HV.out], HR⟩
        case measure => simp [intOf]; omega
    · have hk' : k = n := by omega
      subst hk'
      have HS : Hid (leftOf left (sizeN k L) = left - s) := by
        show leftOf left (sizeN k L) = left - s
        have h1 := hs.out
        rw [List.take_of_length_le (by have := HL.out.1; omega)] at h1
        unfold sizeN; rw [h1]; exact if_pos hle.out
      go_wp2_with fail
      go_ret
      exact ⟨ret_int HS.out.symm, rfl⟩

theorem Try.info25 : (Try.prog.info? 25).map (fun i => (i.zero, i.size, i.bytes)) = some (some (.slice none 0 0), 1, 24) := by kernel_rfl

theorem PartL.step1 {v w : World} {B n k b0 : Nat} {T : TypeId} {L : List (List Int)} {x0 : List Int} (h : PartL v B n k T L) (hk : k < n) (hb : Below v.heap.size v w)
    (h0 : v.heap.size ≤ b0) (g0 : w.heap[b0]? = some (.cells (cellsOf x0) 3 (0, 0))) (e0 : L.getD k [] = x0) :
    PartL (w.setCell ⟨B, k, none⟩ (.slice (some ⟨b0, 0, none⟩) x0.length x0.length)) B n (k + 1) T L := by
  obtain ⟨C, f, h1, h2, h3, h4⟩ := h
  have hB := (Array.getElem?_eq_some_iff.mp h1).1
  have hold : ∀ j, j < k → f j < v.heap.size := fun j hj => (Array.getElem?_eq_some_iff.mp (h3 j hj).2.2).1
  refine ⟨_, fun j => if j < k then f j else b0, heap_setCell_same _ _ _ _ _ _ ((hb.block B hB).trans h1), by simp [h2], fun j hj => ?_, fun i j hij hj => ?_⟩
  · by_cases hj3 : j < k
    · obtain ⟨q1, q2, q3⟩ := h3 j hj3
      simp only [if_pos hj3]
      refine ⟨?_, q2, ?_⟩
      · rw [Array.getElem?_setIfInBounds_ne (by omega)]; exact q1
      · rw [Below.heap_setCell _ _ _ _ (show f j ≠ B by omega)]; exact (hb.block _ (hold j hj3)).trans q3
    · simp only [if_neg hj3]
      obtain rfl : j = k := by omega
      rw [e0]
      refine ⟨?_, by omega, ?_⟩
      · rw [Array.getElem?_setIfInBounds, if_pos rfl, if_pos (by omega)]
      · rw [Below.heap_setCell _ _ _ _ (show b0 ≠ B by omega)]; exact g0
  · have := h4 i j hij
    by_cases hi3 : i < k
    · have := hold i hi3
      simp only [if_pos hi3]
      split
      all_goals omega
    · omega

/-- The cell k of the row is there, and can be written. -/
theorem PartL.spot {w : World} {B n k : Nat} {T : TypeId} {L : List (List Int)} (h : PartL w B n k T L) {j : Nat} (hj : j < n) : ∃ v, w.cell? ⟨B, j, none⟩ = some v ∧ w.frozen? ⟨B, j, none⟩ = false := by
  obtain ⟨C, f, h1, h2, h3, h4⟩ := h
  exact ⟨_, by rw [cell_of_row w B j C _ _ h1]; exact Array.getElem?_eq_getElem (by omega), frozen_of_row w B j C _ h1⟩

theorem PartL.lists1 {w : World} {B n : Nat} {T : TypeId} {L : List (List Int)} (h : PartL w B n n T L) (hl : L.length = n) (hs : sizeN n L ≤ 1048576) : Lists w (some ⟨B, 0, none⟩) n L := by
  obtain ⟨C, f, h1, h2, h3, h4⟩ := h
  refine ⟨hl, .inr ⟨B, 0, rfl, (Array.getElem?_eq_some_iff.mp h1).1, fun j hj => ?_⟩⟩
  obtain ⟨e1, e2, e3⟩ := h3 j hj
  refine ⟨_, _, _, by rw [cell_of_row w B (0 + j) C T _ h1, Nat.zero_add]; exact e1, ?_, Own.row (B := 0) ⟨rfl, _, rfl, Nat.zero_le _, e3⟩⟩
  have := len_le L j
  unfold sizeN at hs; unfold maxLen; omega

/-- How a call that makes one list ends. -/
def NewRow (xs : List Int) (w : World) (e : Ending) (w' : World) : Prop :=
  ∃ b, e = .returned (.slice (some ⟨b, 0, none⟩) xs.length xs.length) ∧ w.heap.size ≤ b ∧ w'.heap[b]? = some (.cells (cellsOf xs) 3 (0, 0)) ∧ Below w.heap.size w w'

theorem toIntN_any (a : Option Addr) (n ca : Nat) (xs : List Int) (w : World) (ha : Row w a n xs) (hn : n ≤ 1048576) :
    Calls Try.prog 12 #[.slice a n ca] w fun e w' => NewRow xs w e w' := by
  obtain rfl := ha.1
  refine (toInt_any a _ ca xs w ha hn).mono ?_
  rintro e w' ⟨rfl, rfl⟩
  exact ⟨_, rfl, Nat.le_refl _, heap_alloc_new _ _, below_al _ _⟩

set_option maxHeartbeats 1000000 in
theorem toSS_any (a : Option Addr) (n c : Nat) (L : List (List Int)) (w : World) (h : Lists w a n L) (hs : sizeN n L ≤ 1048576) :
    Calls Try.prog 23 #[.slice a n c] w fun e w' => e = .returned (.slice (some ⟨w.heap.size, 0, none⟩) n n) ∧ PartL w' w.heap.size n n 25 L ∧ Below w.heap.size w w' := by
  have hn : n ≤ 1048576 := by unfold sizeN at hs; omega
  have hmk := run_make_many (P := Try.prog) 27 25 _ 1 24 Try.underlying27 Try.info25 .i64 .i64 n (by omega) (by omega)
  simp only [Value.cells] at hmk
  have HL := hide h
  clear h
  go_enter Try.func23, Try.ntmps23
  go_wp2_with fail
  go_loopw [4] (fun i wr => ∃ k : Nat, k ≤ n ∧ i = .int .i64 k ∧ Hid (PartL wr w.heap.size n k 25 L) ∧ Hid (Below w.heap.size w wr)) (fun i _ => n - (intOf i).toNat)
  case atStart =>
    refine ⟨0, Nat.zero_le _, rfl, ⟨_, fun _ => 0, heap_alloc_new _ _, by rw [size_madeCells], fun j hj => absurd hj (by omega), fun i j _ hj => absurd hj (by omega)⟩, below_al _ _⟩
  case round =>
    obtain ⟨k, hk, rfl, hp, hbw⟩ := hrel
    by_cases hlt : k < n
    · obtain ⟨b, off, a0, n0, c0, rfl, hb, hc0, m0, r0⟩ := (HL.out.below hbw.out).at hlt
      have hl0 := len_le L k
      have hs' : n + sizeL L ≤ 1048576 := hs
      obtain ⟨x0, hx0⟩ : ∃ x, Hid (L.getD k [] = x) := ⟨_, rfl⟩
      rw [hx0.out] at r0 hl0
      have q0 : n0 ≤ 1048576 := by have := r0.1; omega
      have HT := hide (toIntN_any a0 n0 c0 _ wr r0 q0)
      clear r0 hmk hl0 q0 hs'
      go_wp2_with fail
      refine HT.out.mono ?_
      rintro e w' ⟨b0, rfl, hb0, g0, hbb⟩
      have HP := hide (hp.out.step1 hlt hbb hb0 g0 hx0.out)
      have HB := hide ((hbw.out.trans (hbb.mono hbw.out.size)).setCell (p := ⟨w.heap.size, k, none⟩) (Nat.le_refl _) (.slice (some ⟨b0, 0, none⟩) x0.length x0.length))
      obtain ⟨v0, hv0, hfr⟩ := (hp.out.grow hbb).spot hlt
      clear HT hb0 g0 hbb hx0 hc0 hb
      go_wp2_with fail
      go_roundw
      case rel => exact ⟨k + 1, by omega, by go_num, HP, HB⟩
      case measure => simp [intOf]; omega
    · have hk' : k = n := by omega
      subst hk'
      clear hmk
      go_wp2_with fail
      go_ret
      exact ⟨rfl, hp.out, hbw.out⟩

set_option maxHeartbeats 400000 in
theorem eqSS_any (a d : Option Addr) (n c e : Nat) (L : List (List Int)) (w : World) (h : Lists w a n L) (g : Lists w d n L) (hs : sizeN n L ≤ 1048576) :
    Calls Try.prog 25 #[.slice a n c, .slice d n e] w fun e w' => e = .returned (.bool true) ∧ Below w.heap.size w w' := by
  have hn : n ≤ 1048576 := by unfold sizeN at hs; omega
  have hne : ((n : Int) != (n : Int)) = false := by simp
  have HL := hide h
  have HG := hide g
  clear h g
  go_enter Try.func25, Try.ntmps25
  go_wp2_with fail
  go_loopw [5] (fun i wr => ∃ k : Nat, k ≤ n ∧ i = .int .i64 k ∧ Hid (Below w.heap.size w wr)) (fun i _ => n - (intOf i).toNat)
  case atStart => exact ⟨0, Nat.zero_le _, rfl, Below.refl _ _⟩
  case round =>
    obtain ⟨k, hk, rfl, hbw⟩ := hrel
    clear hne
    by_cases hlt : k < n
    · obtain ⟨b, off, a0, n0, c0, rfl, hb, hc0, m0, r0⟩ := (HL.out.below hbw.out).at hlt
      obtain ⟨b', off', a0', n0', c0', rfl, hb', hc0', m0', r0'⟩ := (HG.out.below hbw.out).at hlt
      have hl0 := len_le L k
      have hs' : n + sizeL L ≤ 1048576 := hs
      have q0 : n0 ≤ 1048576 := by have := r0.1; omega
      have HT := hide (fun q => eq_any a0 a0' n0 n0' c0 c0' _ _ (wr.drewN q) (r0.drewN q) (r0'.drewN q) q0)
      have hsm := sameB_self (L.getD k [])
      generalize L.getD k [] = x0 at *
      clear r0 hl0 q0 hs' r0' m0 m0'
      go_wp2_with fail
      go_region_with (go_at_call 16; refine (HT.out 1).mono ?_; rintro e w1 ⟨rfl, q, rfl⟩)
      all_goals
        have HB := hide (hbw.out.trans ((below_drewN' wr (1 + q)).mono hbw.out.size))
        clear HT
        go_wp2_with fail
        go_roundw
        case rel => exact ⟨k + 1, by omega, by go_num, HB⟩
        case measure => simp [intOf]; omega
    · have hk' : k = n := by omega
      subst hk'
      go_wp2_with fail
      go_ret
      exact ⟨rfl, hbw.out⟩

set_option maxHeartbeats 1000000 in
theorem markSF_any (B hi n c k0 : Nat) (T : TypeId) (M : Nat → List Int) (w : World) (h : PartF w B hi n T M) (hs : cntF M n ≤ 1048576) (hn : n ≤ 1048576) (hk0 : k0 ≤ 2097152) :
    Calls Try.prog 26 #[.slice (some ⟨B, 0, none⟩) n c, .int .i64 (k0 : Int)] w fun e w' => e = .returned (.int .i64 ((k0 + cntF M n : Nat) : Int)) ∧ PartF w' B hi n T (markedF k0 M n) ∧ Keeps (B + 1) hi w w' := by
  have HP := hide h
  clear h
  go_enter Try.func26, Try.ntmps26
  go_wp2_with fail
  go_loopw [1, 5] (fun t i wr => ∃ k t' : Nat, k ≤ n ∧ i = .int .i64 k ∧ t = .int .i64 (t' : Int) ∧ Hid (t' = k0 + cntF M k) ∧ Hid (PartF wr B hi n T (markedF k0 M k)) ∧ Hid (Keeps (B + 1) hi w wr)) (fun _ i _ => n - (intOf i).toNat)
  case atStart => exact ⟨0, k0, Nat.zero_le _, rfl, rfl, rfl, by have := HP.out; exact (show markedF k0 M 0 = M from by funext j; unfold markedF; rw [if_neg (by omega)]) ▸ this, Keeps.refl _ _ _⟩
  case round =>
    obtain ⟨k, t0, hk, rfl, rfl, ht0, hp, hkp⟩ := hrel
    clear HP
    by_cases hlt : k < n
    rotate_left
    · have hk' : k = n := by omega
      subst hk'
      have HT := hide ht0.out.symm
      go_wp2_with fail
      go_ret
      exact ⟨by rw [HT.out]; rfl, hp.out, hkp.out⟩
    have HQ := hide (And.intro (cntF_mono (M := M) (show k + 1 ≤ n by omega)) (show cntF M (k + 1) = cntF M k + (M k).length from rfl))
    obtain ⟨b0, l0, hl0, hc0, hb0, st0⟩ := mark_step hp.out hlt k rfl
    have HM0 := hide (mark_any _ b0 _ l0 t0 _ wr hb0.out (by have := HQ.out; have := hl0.out; omega) (by have := HQ.out; have := ht0.out; omega))
    go_wp2_with fail
    refine HM0.out.mono ?_
    rintro e w1 ⟨rfl, hbk, ho⟩
    rw [ht0.out] at hbk
    obtain ⟨p1, kp1⟩ := st0.out w1 hbk ho
    have HP1 := hide p1
    have HK1 := hide (hkp.out.trans kp1)
    obtain ⟨t1, ht1⟩ : ∃ t, Hid (t0 + l0 = t) := ⟨_, rfl⟩
    rw [ht1.out]
    have HT1 : Hid (t1 = k0 + cntF M (k + 1)) := by show _ = _; have := HQ.out; have := hl0.out; have := ht0.out; have := ht1.out; omega
    clear st0 HM0 hc0 hbk ho p1 kp1 hp hkp hb0
    go_wp2_with fail
    go_roundw
    case rel => exact ⟨k + 1, t1, by omega, by go_num, rfl, HT1, HP1, HK1⟩
    case measure => simp [intOf]; omega

/-- Lists that were made: none, or behind a block that leads to them. -/
def NetF (w : World) (a : Option Addr) (B hi n : Nat) (M : Nat → List Int) : Prop := n = 0 ∨ (a = some ⟨B, 0, none⟩ ∧ PartF w B hi n 25 M)

set_option maxHeartbeats 400000 in
theorem markSS_any (a : Option Addr) (B hi n c k0 : Nat) (M : Nat → List Int) (w : World) (h : NetF w a B hi n M) (hs : cntF M n ≤ 1048576) (hn : n ≤ 1048576) (hk0 : k0 ≤ 2097152) :
    Calls Try.prog 26 #[.slice a n c, .int .i64 (k0 : Int)] w fun e w' => e = .returned (.int .i64 ((k0 + cntF M n : Nat) : Int)) ∧ NetF w' a B hi n (markedF k0 M n) ∧ Keeps (B + 1) hi w w' := by
  rcases h with h0 | ⟨rfl, hp⟩
  · subst h0
    go_enter Try.func26, Try.ntmps26
    go_wp2_with fail
    go_loop [1, 5] (fun t i => i = .int .i64 0 ∧ t = .int .i64 (k0 : Int)) (fun _ _ => 0)
    case atStart => exact ⟨rfl, rfl⟩
    case round =>
      obtain ⟨rfl, rfl⟩ := hrel
      go_wp2_with fail
      go_ret
      exact ⟨rfl, .inl rfl, Keeps.refl _ _ _⟩
  · refine (markSF_any B hi n c k0 _ M w hp hs hn hk0).mono fun e w' ⟨q1, q2, q3⟩ => ⟨q1, .inr ⟨rfl, q2⟩, q3⟩

theorem NetF.seq1 {w : World} {a : Option Addr} {B hi n k0 : Nat} {M : Nat → List Int} (h : NetF w a B hi n (markedF k0 M n)) {k : Nat} (hk : k < n) :
    ∃ b l, a = some ⟨B, 0, none⟩ ∧ w.cell? ⟨B, k, none⟩ = some (.slice (some ⟨b, 0, none⟩) l l) ∧ Hid ((M k).length = l) ∧ Hid (Row w (some ⟨b, 0, none⟩) l (seqL (k0 + cntF M k) l)) := by
  rcases h with h0 | ⟨rfl, hp⟩
  · omega
  · obtain ⟨b, h1, h2, h3, h4, _⟩ := hp.one hk
    have hm : markedF k0 M n k = seqL (k0 + cntF M k) (M k).length := by unfold markedF; rw [if_pos hk]
    rw [hm, seqL_len] at h1 h4
    exact ⟨b, _, rfl, h1, rfl, h4.row⟩

set_option maxHeartbeats 400000 in
theorem heldSS_any (a : Option Addr) (B hi n c k0 : Nat) (M : Nat → List Int) (w : World) (h : NetF w a B hi n (markedF k0 M n)) (hs : cntF M n ≤ 1048576) (hn : n ≤ 1048576) (hk0 : k0 ≤ 2097152) :
    Calls Try.prog 27 #[.slice a n c, .int .i64 (k0 : Int)] w fun e w' => e = .returned (.int .i64 ((k0 + cntF M n : Nat) : Int)) ∧ w' = w := by
  have HP := hide h
  clear h
  go_enter Try.func27, Try.ntmps27
  go_wp2_with fail
  go_loop [1, 5] (fun t i => ∃ k t' : Nat, k ≤ n ∧ i = .int .i64 k ∧ t = .int .i64 (t' : Int) ∧ Hid (t' = k0 + cntF M k)) (fun _ i => n - (intOf i).toNat)
  case atStart => exact ⟨0, k0, Nat.zero_le _, rfl, rfl, rfl⟩
  case round =>
    obtain ⟨k, t0, hk, rfl, rfl, ht0⟩ := hrel
    by_cases hlt : k < n
    rotate_left
    · have hk' : k = n := by omega
      subst hk'
      have HT := hide ht0.out.symm
      go_wp2_with fail
      go_ret
      exact ⟨ret_int (by have := HT.out; omega), rfl⟩
    have HQ := hide (And.intro (cntF_mono (M := M) (show k + 1 ≤ n by omega)) (show cntF M (k + 1) = cntF M k + (M k).length from rfl))
    obtain ⟨b, l, rfl, hc0, hl, r0⟩ := HP.out.seq1 hlt
    have r0' := r0.out
    rw [← ht0.out] at r0'
    have HM0 := hide (held_any _ _ l t0 w r0' (by have := HQ.out; have := hl.out; omega) (by have := HQ.out; have := ht0.out; omega))
    obtain ⟨t1, ht1⟩ : ∃ t, Hid (t0 + l = t) := ⟨_, rfl⟩
    have HT1 : Hid (t1 = k0 + cntF M (k + 1)) := by show _ = _; have := HQ.out; have := hl.out; have := ht0.out; have := ht1.out; omega
    rw [ht1.out] at HM0
    have hp1 : (0 : Int) ≤ (t1 : Int) := by omega
    clear hl r0 r0' HQ
    go_wp2_with fail
    refine HM0.out.mono ?_
    rintro e w' ⟨rfl, rfl⟩
    go_wp2_with fail
    go_round
    case rel => exact ⟨k + 1, t1, by omega, by go_num, rfl, HT1⟩
    case measure => simp [intOf]; omega
end Go.Proofs.Ytedbihlpggficaa


/- The program's lists of some marks, each in a block of its own. -/
namespace Go.Proofs.Ytedbihlpggficaa
open Go.RowKit
set_option maxRecDepth 10000

/-- A slice of marks, one behind the other, each of l places. -/
structure TokL (w : World) (a : Option Addr) (N l : Nat) (ms : List (List Int)) : Prop where
  len : ms.length = N
  cells : N = 0 ∨ ∃ G o, a = some ⟨G, o, none⟩ ∧ G < w.heap.size ∧ ∀ k, k < N → w.rangeAt G (o + k * 16) ((packOf (ms.getD k []) l).toList)

theorem encU_len (l : Nat) (m : List Int) : (packOf m l).toList.length = 16 := by simp [packOf_size]

theorem wpList_load_tokU {ops : Array Oper} {rest : List Oper} {op : Oper} {a : Act} {w : World} {Q : Exit → Act → World → Prop} (hgd : op.guard = none) (x : Operand) (ho : op.op = .load 84 x)
    (b o : Nat) (hx : a.eval x = .pointer (some ⟨b, o, none⟩)) (l : Nat) (m : List Int) (hc : w.rangeAt b o (packOf m l).toList)
    (h : wpList Try.prog ops Q rest (a.put op.dst (.agg (packOf m l))) w) : wpList Try.prog ops Q (op :: rest) a w := by
  refine wpList_load_mid hgd 84 x ho b o hx (packOf m l).toList _ hc Try.underlying84 rfl (by rw [encU_len]; exact Try.size84) ?_
  simpa using h

theorem TokL.grow {w w' : World} {a : Option Addr} {N l : Nat} {ms : List (List Int)} (h : TokL w a N l ms) (hb : Below w.heap.size w w') : TokL w' a N l ms := by
  refine ⟨h.len, ?_⟩
  rcases h.cells with h0 | ⟨G, o, e, hG, hc⟩
  · exact .inl h0
  · exact .inr ⟨G, o, e, Nat.lt_of_lt_of_le hG hb.size, fun k hk j v hv => (hb.cell (p := ⟨G, o + k * 16 + j, none⟩) hG).trans (hc k hk j v hv)⟩

theorem TokL.at_ {w : World} {a : Option Addr} {N l : Nat} {ms : List (List Int)} (h : TokL w a N l ms) {k : Nat} (hk : k < N) : ∃ G o, a = some ⟨G, o, none⟩ ∧ G < w.heap.size ∧ w.rangeAt G (o + k * 16) ((packOf (ms.getD k []) l).toList) := by
  rcases h.cells with h0 | ⟨G, o, e, hG, hc⟩
  · omega
  · exact ⟨G, o, e, hG, hc k hk⟩

theorem listF_fU {m : List Int} {l : Nat} (h : m.length = l) : listF (fOf m l) l = m := by
  apply List.ext_getElem (by rw [listF_len]; omega)
  intro i h1 h2
  simp only [listF, List.getElem_map, List.getElem_range, fOf]
  rw [if_pos (by rw [listF_len] at h1; exact h1)]
  simp [h2]

theorem Try.info25u : (Try.prog.info? 25).map (fun i => (i.zero, i.size, i.bytes)) = some (some (.slice none 0 0), 1, 24) := by kernel_rfl

set_option maxHeartbeats 2000000 in
theorem listsTok_any (l N c : Nat) (a : Option Addr) (ms : List (List Int)) (w : World) (h : TokL w a N l ms) (hl : l ≤ 16) (hN : N ≤ 400) (hg : ∀ k, k < N → (ms.getD k []).length = l ∧ ∀ i, 0 ≤ (ms.getD k []).getD i 0 ∧ (ms.getD k []).getD i 0 ≤ 50) :
    Calls Try.prog 57 #[.int .i64 (l : Int), .slice a N c] w fun e w' => ∃ M, e = .returned (.slice (some ⟨M, 0, none⟩) N N) ∧ w.heap.size ≤ M ∧ PartL w' M N N 25 ms ∧ Below w.heap.size w w' := by
  have hmk := run_make_many (P := Try.prog) 27 25 _ 1 24 Try.underlying27 Try.info25u .i64 .i64 N (by omega) (by omega)
  simp only [Value.cells, Nat.mul_one] at hmk
  have HT := hide h
  have HG := hide hg
  clear h hg
  go_enter Try.func57, Try.ntmps57
  have HP1 := hide (show PartL (w.alloc (.cells (madeCells #[.slice none 0 0] N) 25)) w.heap.size N 0 25 ms from ⟨_, fun _ => 0, heap_alloc_new _ _, by rw [size_madeCells], fun j hj => absurd hj (by omega), fun i j _ hj => absurd hj (by omega)⟩)
  have HB1 := hide (below_al w (.cells (madeCells #[.slice none 0 0] N) 25))
  go_wp2_with fail
  generalize w.alloc (.cells (madeCells #[.slice none 0 0] N) 25) = v1 at *
  go_loopw [13] (fun i wr => ∃ k : Nat, k ≤ N ∧ i = .int .i64 k ∧ Hid (PartL wr w.heap.size N k 25 ms) ∧ Hid (Below w.heap.size w wr)) (fun i _ => N - (intOf i).toNat)
  case atStart => exact ⟨0, Nat.zero_le _, rfl, HP1, HB1⟩
  case round =>
    obtain ⟨k, hk, rfl, hp, hbw⟩ := hrel
    clear hmk HP1 HB1
    by_cases hlt : k < N
    rotate_left
    · have hk' : k = N := by omega
      rw [hk'] at hp
      have HPF := hide hp.out
      clear hp
      subst hk'
      go_wp2_with fail
      go_ret
      exact ⟨_, rfl, Nat.le_refl _, HPF.out, hbw.out⟩
    obtain ⟨G, o, rfl, hGl, hrg⟩ := (HT.out.grow hbw.out).at_ hlt
    obtain ⟨m, hm⟩ : ∃ m, Hid (ms.getD k [] = m) := ⟨_, rfl⟩
    have HGk := hide (HG.out k hlt)
    rw [hm.out] at hrg HGk
    have hkN : (k : Int) < (N : Int) := by omega
    have hk0 : (0 : Int) ≤ (k : Int) := by omega
    have hk4 : (k : Int) ≤ 400 := by omega
    have hA1 := below_al wr (.cells #[.int .u8 0, .int .u8 0, .int .u8 0, .int .u8 0, .int .u8 0, .int .u8 0, .int .u8 0, .int .u8 0, .int .u8 0, .int .u8 0, .int .u8 0, .int .u8 0, .int .u8 0, .int .u8 0, .int .u8 0, .int .u8 0] 84)
    have hg0 := heap_alloc_new wr (.cells #[.int .u8 0, .int .u8 0, .int .u8 0, .int .u8 0, .int .u8 0, .int .u8 0, .int .u8 0, .int .u8 0, .int .u8 0, .int .u8 0, .int .u8 0, .int .u8 0, .int .u8 0, .int .u8 0, .int .u8 0, .int .u8 0] 84)
    have hV := below_setRow hA1 wr.heap.size (Nat.le_refl _) (packOf m l)
    have hz := setRow_same hg0 (packOf m l)
    have HB2 := hide hV
    go_wp2_with (first
      | ((show wpList _ _ _ (⟨some 17, .load 84 (.tmp 16), _, _, _, _⟩ :: _) _ _); refine wpList_load_tokU rfl (.tmp 16) rfl G (o + k * 16) rfl l m hrg ?_)
      | ((show wpList _ _ _ (⟨none, .store 84 (.tmp 7) (.tmp 17), _, _, _, _⟩ :: _) _ _); refine wpList_store_row rfl 84 _ _ rfl _ _ rfl rfl 84 _ hg0 (by rw [packOf_size]; exact Try.size84) (by rw [packOf_size]; rfl) (packOf_one _ _) ?_)
      | ((show wpList _ _ _ (⟨some 20, .load 84 (.tmp 7), _, _, _, _⟩ :: _) _ _); refine wpList_load_row rfl 84 (.tmp 7) rfl _ rfl 84 (packOf m l) (0, 0) _ hz Try.underlying84 rfl (by rw [packOf_size]; exact Try.size84) ?_))
    clear hg0 hz hA1 hV hrg
    generalize (wr.alloc (.cells #[.int .u8 0, .int .u8 0, .int .u8 0, .int .u8 0, .int .u8 0, .int .u8 0, .int .u8 0, .int .u8 0, .int .u8 0, .int .u8 0, .int .u8 0, .int .u8 0, .int .u8 0, .int .u8 0, .int .u8 0, .int .u8 0] 84)).setRow wr.heap.size (packOf m l) = w2 at *
    refine (list_any (fOf m l) l w2 hl (fun i => by have := HGk.out.2 i; unfold fOf; split <;> omega)).mono ?_
    rintro e w3 ⟨rfl, rfl⟩
    have hA2 := (below_al w2 (.cells (tokF (fOf m l)) 84)).trans ((below_al (w2.alloc (.cells (tokF (fOf m l)) 84)) (.cells (cellsOf (listF (fOf m l) l)) 3)).mono (by simp))
    have hnew := heap_alloc2_new w2 (.cells (tokF (fOf m l)) 84) (.cells (cellsOf (listF (fOf m l) l)) 3)
    have hml := HGk.out.1
    rw [listF_fU hml] at hnew hA2 ⊢
    have hbb := HB2.out.trans (hA2.mono HB2.out.size)
    have hst := hp.out.step1 hlt hbb (show wr.heap.size ≤ w2.heap.size + 1 by have := HB2.out.size; omega) hnew hm.out
    rw [hml] at hst
    have HP := hide hst
    have HB := hide ((hbw.out.trans (hbb.mono hbw.out.size)).setCell (p := ⟨w.heap.size, k, none⟩) (Nat.le_refl _) (.slice (some ⟨w2.heap.size + 1, 0, none⟩) l l))
    obtain ⟨v0, hv0, hfr⟩ := (hp.out.grow hbb).spot hlt
    clear hst hnew hA2 hbb hml
    go_wp2_with fail
    go_roundw
    case rel => exact ⟨k + 1, by omega, by go_num, HP, HB⟩
    case measure => simp [intOf]; omega
end Go.Proofs.Ytedbihlpggficaa


/- The program's lists of a space. -/
namespace Go.Proofs.Ytedbihlpggficaa
open Go.RowKit
set_option maxRecDepth 10000

theorem cell_rowU {w : World} {b g : Nat} (h : b ≠ g) (D : Array Value) (k : Nat) : (w.setRow g D).cell? ⟨b, k, none⟩ = w.cell? ⟨b, k, none⟩ := by
  simp only [World.cell?]
  rw [setRow_otherW _ h _]

theorem spaceOne_res {fn : Func} {q : Tmp} (hr : fn.results = #[.cell q 30]) (tmps : Array Value) (W : World) (b : Nat) (C : Array Value) (h4 : tmps.getD q undef = .pointer (some ⟨b, 0, none⟩))
    (hs : C.size = 2) (q4 : W.heap[b]? = some (.cells C 30 (0, 0))) : (results fn tmps).run Try.prog W = .ok (.agg C) W := by
  have r1 : (loadVar 30 ⟨b, 0, none⟩).run Try.prog W = .ok (.agg C) W := run_loadVar_row _ _ 30 30 C (0, 0) _ q4 Try.underlying30 rfl (by rw [hs]; exact size_space)
  have e : (results fn tmps).run Try.prog W = ((asAddr (tmps.getD q undef)).run Try.prog W).andThen fun a w1 => ((loadVar 30 a).run Try.prog w1) := by
    simp only [results, hr]
    simp [Sem.run_bind, Result.andThen]
  rw [e, h4]
  show ((loadVar 30 ⟨b, 0, none⟩).run Try.prog W) = _
  exact r1

theorem part_row {w : World} {B n k g : Nat} {T : TypeId} {L : List (List Int)} (h : PartL w B n k T L) (hg : g < B) (D : Array Value) : PartL (w.setRow g D) B n k T L := by
  obtain ⟨C, f, h1, h2, h3, h4⟩ := h
  refine ⟨C, f, (setRow_otherW _ (show B ≠ g by omega) _).trans h1, h2, fun j hj => ?_, h4⟩
  obtain ⟨e1, e2, e3⟩ := h3 j hj
  exact ⟨e1, e2, (setRow_otherW _ (show f j ≠ g by omega) _).trans e3⟩

set_option maxHeartbeats 2000000 in
/-- The lists of whatever lies in a space's struct. -/
theorem listsV_any (V : Array Value) (l N c : Nat) (a aa : Option Addr) (na ac : Nat) (ms : List (List Int)) (w : World) (hV0 : V[0]? = some (.int .i64 (l : Int))) (hV3 : V[3]? = some (.slice a N c)) (hV4 : V[4]? = some (.slice aa na ac))
    (h : TokL w a N l ms) (hl : l ≤ 16) (hN : N ≤ 400) (hg : ∀ k, k < N → (ms.getD k []).length = l ∧ ∀ i, 0 ≤ (ms.getD k []).getD i 0 ∧ (ms.getD k []).getD i 0 ≤ 50) :
    Calls Try.prog 45 #[.agg V] w fun e w' => ∃ M, e = .returned (.agg #[.slice (some ⟨M, 0, none⟩) N N, .slice aa na ac]) ∧ w.heap.size ≤ M ∧ PartL w' M N N 25 ms ∧ Below w.heap.size w w' := by
  have hAl := (below_al w (.cells V 73)).trans ((below_al (w.alloc (.cells V 73)) (.cells #[.slice none 0 0, .slice none 0 0] 30)).mono (by simp))
  have hb0 := keep (heap_alloc_new w (.cells V 73)) (below_al (w.alloc (.cells V 73)) (.cells #[.slice none 0 0, .slice none 0 0] 30))
  have HR0 := hide (heap_alloc2_new w (.cells V 73) (.cells #[.slice none 0 0, .slice none 0 0] 30))
  have HT0 := hide (h.grow hAl)
  have HB0 := hide hAl
  have HG := hide hg
  have HC : Hid (∀ W, Below ((w.alloc (.cells V 73)).alloc (.cells #[.slice none 0 0, .slice none 0 0] 30)).heap.size ((w.alloc (.cells V 73)).alloc (.cells #[.slice none 0 0, .slice none 0 0] 30)) W → W.cell? ⟨w.heap.size, 0, none⟩ = some (.int .i64 (l : Int)) ∧ W.cell? ⟨w.heap.size, 3, none⟩ = some (.slice a N c) ∧ W.cell? ⟨w.heap.size, 4, none⟩ = some (.slice aa na ac)) := fun W hW => by
    have hk := keep hb0 hW
    exact ⟨(cell_of_row W w.heap.size 0 _ _ _ hk).trans hV0, (cell_of_row W w.heap.size 3 _ _ _ hk).trans hV3, (cell_of_row W w.heap.size 4 _ _ _ hk).trans hV4⟩
  clear h hAl hg hb0 hV0 hV3 hV4
  go_enter Try.func45, Try.ntmps45
  go_upto_region 1 with fail
  have hs0 : Hid (((w.alloc (.cells V 73)).alloc (.cells #[.slice none 0 0, .slice none 0 0] 30)).heap.size = w.heap.size + 2) := by show _ = _; simp
  generalize (w.alloc (.cells V 73)).alloc (.cells #[.slice none 0 0, .slice none 0 0] 30) = v at *
  have hdr := (Below.refl v.heap.size v).drew
  have HB1 := hide (HB0.out.trans (hdr.mono HB0.out.size))
  have HT1 := hide (HT0.out.grow hdr)
  have HR1 := hide (keep HR0.out hdr)
  have HC1 := hide (fun W (hW : Below v.drew.heap.size v.drew W) => HC.out W (hdr.trans (hW.mono hdr.size)))
  have hz1 : Hid (v.drew.heap.size = w.heap.size + 2) := hs0
  refine wp_region_held_drew (S := fun W => W.cell? ⟨w.heap.size, 0, none⟩ = some (.int .i64 (l : Int)) ∧ W.cell? ⟨w.heap.size, 3, none⟩ = some (.slice a N c) ∧ W.cell? ⟨w.heap.size, 4, none⟩ = some (.slice aa na ac)) (by kernel_rfl) (HC.out _ hdr) (fun hHeld => ?_)
  clear HB0 HT0 HR0 HC hs0 hdr hHeld
  have hS1 := HC1.out _ (Below.refl _ v.drew)
  generalize v.drew = v1 at *
  refine take_yes (i := 0) (some 3) (.pointer (some ⟨w.heap.size, 0, none⟩)) rfl rfl (by kernel_rfl) (by kernel_rfl) (by kernel_rfl) (fun _ _ _ h => h) (by rfl) ?_ (by assumption) ?_
  · intro W' hSw
    obtain ⟨hz0, hz3, hz4⟩ := hSw
    go_simp
  simp only [Act.put, List.setIfInBounds_toArray, List.set_cons_zero, List.set_cons_succ]
  refine take_yes (i := 1) (some 4) (.pointer (some ⟨w.heap.size, 0, none⟩)) rfl rfl (by kernel_rfl) (by kernel_rfl) (by kernel_rfl) (fun _ _ _ h => h) (by rfl) ?_ (by assumption) ?_
  · intro W' hSw
    obtain ⟨hz0, hz3, hz4⟩ := hSw
    go_simp
  simp only [Act.put, List.setIfInBounds_toArray, List.set_cons_zero, List.set_cons_succ]
  refine take_yes (i := 2) (some 5) (.int .i64 (l : Int)) rfl rfl (by kernel_rfl) (by kernel_rfl) (by kernel_rfl) (fun _ _ _ h => h) (by rfl) ?_ (by assumption) ?_
  · intro W' hSw
    obtain ⟨hz0, hz3, hz4⟩ := hSw
    go_simp
  simp only [Act.put, List.setIfInBounds_toArray, List.set_cons_zero, List.set_cons_succ]
  refine take_yes (i := 3) (some 6) (.pointer (some ⟨w.heap.size, 3, none⟩)) rfl rfl (by kernel_rfl) (by kernel_rfl) (by kernel_rfl) (fun _ _ _ h => h) (by rfl) ?_ (by assumption) ?_
  · intro W' hSw
    obtain ⟨hz0, hz3, hz4⟩ := hSw
    go_simp
  simp only [Act.put, List.setIfInBounds_toArray, List.set_cons_zero, List.set_cons_succ]
  refine take_yes (i := 4) (some 7) (.slice a N c) rfl rfl (by kernel_rfl) (by kernel_rfl) (by kernel_rfl) (fun _ _ _ h => h) (by rfl) ?_ (by assumption) ?_
  · intro W' hSw
    obtain ⟨hz0, hz3, hz4⟩ := hSw
    go_simp
  simp only [Act.put, List.setIfInBounds_toArray, List.set_cons_zero, List.set_cons_succ]
  refine take_yes (i := 6) (some 9) (.pointer (some ⟨w.heap.size, 4, none⟩)) rfl rfl (by kernel_rfl) (by kernel_rfl) (by kernel_rfl) (fun _ _ _ h => h) (by rfl) ?_ (by assumption) ?_
  · intro W' hSw
    obtain ⟨hz0, hz3, hz4⟩ := hSw
    go_simp
  simp only [Act.put, List.setIfInBounds_toArray, List.set_cons_zero, List.set_cons_succ]
  refine take_yes (i := 7) (some 10) (.slice aa na ac) rfl rfl (by kernel_rfl) (by kernel_rfl) (by kernel_rfl) (fun _ _ _ h => h) (by rfl) ?_ (by assumption) ?_
  · intro W' hSw
    obtain ⟨hz0, hz3, hz4⟩ := hSw
    go_simp
  simp only [Act.put, List.setIfInBounds_toArray, List.set_cons_zero, List.set_cons_succ]
  refine call_next (i := 5) (some 8) rfl rfl (by kernel_rfl) (by rfl) 57 _ _ _ rfl Try.func57 (by decide) rfl #[.int .i64 (l : Int), .slice a N c] (mapw2 _ _ _ _ _ rfl rfl) _ (listsTok_any l N c a ms v1 HT1.out hl hN HG.out) ?_
  rintro e w2 ⟨M, rfl, hM, hP, hb2⟩
  have HB2 := hide (HB1.out.trans (hb2.mono HB1.out.size))
  have HR2 := hide (keep HR1.out hb2)
  have HP2 := hide hP
  have HM : Hid (w.heap.size + 2 ≤ M) := by have := hz1.out; show _ ≤ _; omega
  have hS2 := HC1.out _ hb2
  refine ⟨_, rfl, hS2, fun _ => ?_⟩
  simp only [Act.put, List.setIfInBounds_toArray, List.set_cons_zero, List.set_cons_succ]
  clear HB1 HR1 HC1 hb2 hP HT1 HG hS1 hM hz1
  refine take_yes (i := 8) (some 11) (.agg #[.slice (some ⟨M, 0, none⟩) N N, .slice aa na ac]) rfl rfl (by kernel_rfl) (by kernel_rfl) (by kernel_rfl) (fun _ _ _ h => h) (by rfl) ?_ (by assumption) ?_
  · intro W' hSw
    obtain ⟨hz0, hz3, hz4⟩ := hSw
    go_simp
  simp only [Act.put, List.setIfInBounds_toArray, List.set_cons_zero, List.set_cons_succ]
  have hone2 : (#[.slice (some ⟨M, 0, none⟩) N N, .slice aa na ac] : Array Value).all (·.oneCell') = true := by simp [Value.oneCell']
  have hz := setRow_same HR2.out #[.slice (some ⟨M, 0, none⟩) N N, .slice aa na ac]
  have HBW := hide (below_setRow HB2.out (w.heap.size + 1) (by omega) #[.slice (some ⟨M, 0, none⟩) N N, .slice aa na ac])
  have HPS := hide (part_row (g := w.heap.size + 1) HP2.out (by have := HM.out; omega) #[.slice (some ⟨M, 0, none⟩) N N, .slice aa na ac])
  have hS3 : (fun W : World => W.cell? ⟨w.heap.size, 0, none⟩ = some (.int .i64 (l : Int)) ∧ W.cell? ⟨w.heap.size, 3, none⟩ = some (.slice a N c) ∧ W.cell? ⟨w.heap.size, 4, none⟩ = some (.slice aa na ac)) (w2.setRow (w.heap.size + 1) #[.slice (some ⟨M, 0, none⟩) N N, .slice aa na ac]) := by
    obtain ⟨hz0, hz3, hz4⟩ := hS2
    have hne : w.heap.size ≠ w.heap.size + 1 := by omega
    exact ⟨(cell_rowU hne _ _).trans hz0, (cell_rowU hne _ _).trans hz3, (cell_rowU hne _ _).trans hz4⟩
  refine store_next (i := 9) rfl rfl (by kernel_rfl) (by rfl) 30 _ _ rfl (w.heap.size + 1) _ rfl rfl 30 _ HR2.out size_space rfl hone2 hS3 (fun _ => ?_)
  refine wpAnyH_done (by kernel_rfl) ?_ _
  go_wp2_with fail
  refine bodyPost_ret (v := .agg #[.slice (some ⟨M, 0, none⟩) N N, .slice aa na ac]) ?_ rfl ⟨_, rfl, by have := HM.out; omega, HPS.out, HBW.out⟩
  exact spaceOne_res Try.results45 _ _ (w.heap.size + 1) _ rfl rfl hz

theorem lists_any {p : Int} {n l : Nat} {L : List (List Int)} {ys : List Int} {bg : Int} {s : Sea} (hok : SpOk p n l L ys bg s) (BS mb G : Nat) (aa : Option Addr) (ac : Nat) (w : World) (ht : TokAll w G l s.ms) :
    Calls Try.prog 45 #[.agg (spV p n BS mb G s.ms.length (.slice aa s.ar.length ac))] w fun e w' => ∃ M, e = .returned (.agg #[.slice (some ⟨M, 0, none⟩) s.ms.length s.ms.length, .slice aa s.ar.length ac]) ∧ w.heap.size ≤ M ∧ PartL w' M s.ms.length s.ms.length 25 s.ms ∧ Below w.heap.size w w' := by
  have hlp := hok.hl
  refine listsV_any (spV p n BS mb G s.ms.length (.slice aa s.ar.length ac)) l s.ms.length s.ms.length (some ⟨G, 0, none⟩) aa s.ar.length ac s.ms w (by rw [hlp]; rfl) rfl rfl ⟨rfl, .inr ⟨G, 0, rfl, ht.lt, fun k hk => ?_⟩⟩ hok.l16 hok.m4 (fun k hk => hok.goodAt hk)
  have h := ht.cells k hk
  rw [Nat.zero_add]
  exact h
end Go.Proofs.Ytedbihlpggficaa


/- Explore of both, in one form. -/
namespace Go.Proofs.Ytedbihlpggficaa
open Go.RowKit
set_option maxRecDepth 10000

def xpMs (p : Int) (n : Nat) (L : List (List Int)) (ys : List Int) (bg : Int) : List (List Int) := if spCode p n L ys bg = 1 then (spSea p n L ys bg).ms else []
def xpAr (p : Int) (n : Nat) (L : List (List Int)) (ys : List Int) (bg : Int) : List (Nat × Nat × Nat) := if spCode p n L ys bg = 1 then (spSea p n L ys bg).ar else []

theorem spCode_ask (p : Int) (n : Nat) (L : List (List Int)) (ys : List Int) (bg : Int) : ((spCode p n L ys bg : Int) != 0) = askB p n L ys bg := by
  unfold spCode
  cases h : askB p n L ys bg
  · rfl
  · simp only [if_true]
    cases hs : searchS p n L bg.toNat ys with
    | ok s => rfl
    | error c =>
      rcases seaS_err hs with rfl | rfl <;> rfl

theorem xpMs_yes {p : Int} {n l : Nat} {L : List (List Int)} {ys : List Int} {bg : Int} {s : Sea} (hc : spCode p n L ys bg = 1) (hs : SpOk p n l L ys bg s) : xpMs p n L ys bg = s.ms ∧ xpAr p n L ys bg = s.ar := by
  unfold xpMs xpAr; rw [if_pos hc, if_pos hc, hs.is]; exact ⟨rfl, rfl⟩
theorem xpMs_no {p : Int} {n : Nat} {L : List (List Int)} {ys : List Int} {bg : Int} (hc : spCode p n L ys bg ≠ 1) : xpMs p n L ys bg = [] ∧ xpAr p n L ys bg = [] := by
  unfold xpMs xpAr; rw [if_neg hc, if_neg hc]; exact ⟨rfl, rfl⟩

/-- How the specification's Explore ends. -/
def XsEnd (p : Int) (n : Nat) (L : List (List Int)) (ys : List Int) (bg : Int) (w : World) (e : Ending) (w' : World) : Prop :=
  ∃ ma mc aa ac, e = .returned (.tuple #[.agg #[.slice ma (xpMs p n L ys bg).length mc, .slice aa (xpAr p n L ys bg).length ac], .int .i64 (spCode p n L ys bg : Int), .bool (askB p n L ys bg)]) ∧ Lists w' ma (xpMs p n L ys bg).length (xpMs p n L ys bg) ∧ (∃ B, w'.ownsRow B 129 3 (.slice aa (xpAr p n L ys bg).length ac) (xpAr p n L ys bg).length (arcsL (xpAr p n L ys bg))) ∧ Below w.heap.size w w'

theorem exploreS_end (p : Int) (a am : Option Addr) (n c nm cm : Nat) (L : List (List Int)) (ys : List Int) (bg : Int) (w : World) (h : Lists w a (3 * n) L) (rm : Row w am nm ys) (hs : sizeN n L ≤ 1048576) (hnm : nm ≤ 1048576) :
    Calls Try.prog 10 #[.agg #[.int .i64 p, .slice a n c], .slice am nm cm, .int .i64 bg] w fun e w' => XsEnd p n L ys bg w e w' := by
  refine (xplore_any p a am n c nm cm L ys bg w h rm hs hnm).mono ?_
  rintro e w' ⟨hb, hx⟩
  rcases hx with ⟨hc, s, ma, mc, aa, ac, hok, rfl, hm, ha⟩ | ⟨hc, rfl⟩
  · obtain ⟨e1, e2⟩ := xpMs_yes hc hok
    unfold XsEnd
    rw [e1, e2, hc, hok.ask]
    exact ⟨ma, mc, aa, ac, rfl, hm.lists (by have := hok.l16; unfold maxLen; omega), ⟨_, ha⟩, hb⟩
  · obtain ⟨e1, e2⟩ := xpMs_no hc
    unfold XsEnd
    rw [e1, e2]
    exact ⟨none, 0, none, 0, rfl, ⟨rfl, .inl rfl⟩, ⟨0, World.ownsRow_nil _ _ _ _⟩, hb⟩

/-- How the program's Explore ends: all that is answered lies in blocks of its own. -/
def XiEnd (p : Int) (n : Nat) (L : List (List Int)) (ys : List Int) (bg : Int) (w : World) (e : Ending) (w' : World) : Prop :=
  ∃ M aa ac, e = .returned (.tuple #[.agg #[.slice (some ⟨M, 0, none⟩) (xpMs p n L ys bg).length (xpMs p n L ys bg).length, .slice aa (xpAr p n L ys bg).length ac], .int .i64 (spCode p n L ys bg : Int), .bool (askB p n L ys bg)]) ∧
    w.heap.size ≤ M ∧ PartL w' M (xpMs p n L ys bg).length (xpMs p n L ys bg).length 25 (xpMs p n L ys bg) ∧ w'.ownsRow w.heap.size 129 3 (.slice aa (xpAr p n L ys bg).length ac) (xpAr p n L ys bg).length (arcsL (xpAr p n L ys bg)) ∧ (∀ g, (Value.slice aa (xpAr p n L ys bg).length ac).ownBlock = some g → g < M) ∧ Below w.heap.size w w'

theorem listsZ_any (w : World) : Calls Try.prog 45 #[.agg spZ] w fun e w' => ∃ M, e = .returned (.agg #[.slice (some ⟨M, 0, none⟩) 0 0, .slice none 0 0]) ∧ w.heap.size ≤ M ∧ PartL w' M 0 0 25 [] ∧ Below w.heap.size w w' :=
  listsV_any spZ 0 0 0 none none 0 0 [] w rfl rfl rfl ⟨rfl, .inl rfl⟩ (by omega) (by omega) (fun k hk => absurd hk (by omega))

set_option maxHeartbeats 1000000 in
theorem exploreI_any (p : Int) (a am : Option Addr) (n c nm cm : Nat) (L : List (List Int)) (ys : List Int) (bg : Int) (w : World) (h : Lists w a (3 * n) L) (rm : Row w am nm ys) (hs : sizeN n L ≤ 1048576) (hnm : nm ≤ 1048576) :
    Calls Try.prog 13 #[.agg #[.int .i64 p, .slice a n c], .slice am nm cm, .int .i64 bg] w fun e w' => XiEnd p n L ys bg w e w' := by
  have hAl := (below_al w (.cells #[.int .i64 p, .slice a n c] 35)).trans ((below_al (w.alloc (.cells #[.int .i64 p, .slice a n c] 35)) (.cells #[.slice none 0 0, .slice none 0 0] 30)).mono (by simp))
  have HX := hide (spaceOf_any p a am n c nm cm L ys bg _ (h.below hAl) (rm.below hAl) hs hnm)
  have HR0 := hide (heap_alloc2_new w (.cells #[.int .i64 p, .slice a n c] 35) (.cells #[.slice none 0 0, .slice none 0 0] 30))
  have HB0 := hide hAl
  have hlt0 := row_lt HR0.out
  clear h rm hAl
  go_enter Try.func13, Try.ntmps13
  go_wp2_with fail
  generalize (w.alloc (.cells #[.int .i64 p, .slice a n c] 35)).alloc (.cells #[.slice none 0 0, .slice none 0 0] 30) = v0 at *
  refine HX.out.mono ?_
  rintro e w1 ⟨hb1, hxx⟩
  have HB1 := hide (HB0.out.trans (hb1.mono HB0.out.size))
  have HR1 := hide (keep HR0.out hb1)
  have hv01 := hb1.size
  clear hb1 HX HR0
  have hg0 := heap_alloc_new w1 (.cells spZ 73)
  have hA3 := below_al w1 (.cells spZ 73)
  obtain ⟨sv, e', rfl, hone, hsz, HSV⟩ : ∃ sv : Array Value, ∃ _u : Unit, e = .returned (.tuple #[.agg sv, .int .i64 (spCode p n L ys bg : Int)]) ∧ sv.all (·.oneCell') = true ∧ sv.size = 5 ∧
      Hid (∀ W, Below w1.heap.size w1 W → Calls Try.prog 45 #[.agg sv] W fun e W' => ∃ M aa ac, e = .returned (.agg #[.slice (some ⟨M, 0, none⟩) (xpMs p n L ys bg).length (xpMs p n L ys bg).length, .slice aa (xpAr p n L ys bg).length ac]) ∧ W.heap.size ≤ M ∧ PartL W' M (xpMs p n L ys bg).length (xpMs p n L ys bg).length 25 (xpMs p n L ys bg) ∧ W'.ownsRow v0.heap.size 129 3 (.slice aa (xpAr p n L ys bg).length ac) (xpAr p n L ys bg).length (arcsL (xpAr p n L ys bg)) ∧ (∀ g, (Value.slice aa (xpAr p n L ys bg).length ac).ownBlock = some g → g < M) ∧ Below W.heap.size W W') := by
    rcases hxx with ⟨hcode, s, BS, mb, G, av, hok, hst, ⟨aa, ac, rfl⟩, rfl⟩ | ⟨hcode, rfl⟩
    · obtain ⟨e1, e2⟩ := xpMs_yes hcode hok
      refine ⟨_, (), by rw [hcode]; rfl, spV_one _ _ _ _ _ _ _ _ _, rfl, fun W hW => ?_⟩
      rw [e1, e2]
      refine (lists_any hok BS mb G aa ac W (hst.toks.grow hW)).mono ?_
      rintro e W' ⟨M, rfl, hM, hP, hb⟩
      have hh := hW.trans (hb.mono hW.size)
      exact ⟨M, aa, ac, rfl, hM, hP, ownsRow_kept hst.arcs fun g hg => hh.block g (own_lt hst.arcs hg).2, fun g hg => Nat.lt_of_lt_of_le (own_lt hst.arcs hg).2 (Nat.le_trans hW.size hM), hb⟩
    · obtain ⟨e1, e2⟩ := xpMs_no hcode
      refine ⟨_, (), rfl, spZ_one, rfl, fun W hW => ?_⟩
      rw [e1, e2]
      refine (listsZ_any W).mono ?_
      rintro e W' ⟨M, rfl, hM, hP, hb⟩
      exact ⟨M, none, 0, rfl, hM, hP, World.ownsRow_nil _ _ _ _, fun g hg => by simp [Value.ownBlock] at hg, hb⟩
  have HASK := hide (spCode_ask p n L ys bg)
  have hV := below_setRow hA3 w1.heap.size (Nat.le_refl _) sv
  have hz5 := setRow_same hg0 sv
  have HL := hide (HSV.out _ hV)
  have HB3 := hide (HB1.out.trans (hV.mono HB1.out.size))
  have HR3 := hide (keep HR1.out hV)
  have hsz3 := hV.size
  clear hxx hA3 hV HB1 HR1 HSV e'
  obtain ⟨ms, hms⟩ : ∃ ms, Hid (xpMs p n L ys bg = ms) := ⟨_, rfl⟩
  obtain ⟨ar, har⟩ : ∃ ar, Hid (xpAr p n L ys bg = ar) := ⟨_, rfl⟩
  obtain ⟨cd, hcd⟩ : ∃ cd, Hid ((spCode p n L ys bg : Int) = cd) := ⟨_, rfl⟩
  obtain ⟨ak, hak⟩ : ∃ ak, Hid (askB p n L ys bg = ak) := ⟨_, rfl⟩
  rw [hms.out, har.out] at HL
  rw [hcd.out, hak.out] at HASK
  have hask := HASK.out
  have HEND := hide (show ∀ e W', (∃ M aa ac, e = .returned (.tuple #[.agg #[.slice (some ⟨M, 0, none⟩) ms.length ms.length, .slice aa ar.length ac], .int .i64 cd, .bool ak]) ∧
    w.heap.size ≤ M ∧ PartL W' M ms.length ms.length 25 ms ∧ W'.ownsRow w.heap.size 129 3 (.slice aa ar.length ac) ar.length (arcsL ar) ∧ (∀ g, (Value.slice aa ar.length ac).ownBlock = some g → g < M) ∧ Below w.heap.size w W') → XiEnd p n L ys bg w e W' from fun e W' hh => by
      unfold XiEnd; rw [hms.out, har.out, hcd.out, hak.out]; exact hh)
  rw [hcd.out]
  go_wp2_with (first
    | ((show wpList _ _ _ (⟨none, .store 73 (.tmp 9) (.tmp 16), _, _, _, _⟩ :: _) _ _); refine wpList_store_row rfl 73 _ _ rfl _ _ rfl rfl 73 _ hg0 (by rw [hsz]; exact Try.size73) (by rw [hsz]; rfl) hone ?_)
    | ((show wpList _ _ _ (⟨some 18, .load 73 (.tmp 9), _, _, _, _⟩ :: _) _ _); refine wpList_load_row rfl 73 (.tmp 9) rfl _ rfl 73 sv (0, 0) _ hz5 Try.underlying73 rfl (by rw [hsz]; exact Try.size73) ?_))
  clear hg0 hz5
  generalize (w1.alloc (.cells spZ 73)).setRow w1.heap.size sv = w3 at *
  refine HL.out.mono ?_
  rintro e w4 ⟨M, aa, ac, rfl, hM, hP, hO, hgm, hb⟩
  have HB4 := hide (HB3.out.trans (hb.mono HB3.out.size))
  have hR4 := keep HR3.out hb
  have hw3 := HB3.out.size
  have hv0 := HB0.out.size
  have hone2 : (#[.slice (some ⟨M, 0, none⟩) ms.length ms.length, .slice aa ar.length ac] : Array Value).all (·.oneCell') = true := by simp [Value.oneCell']
  have hz := setRow_same hR4 #[.slice (some ⟨M, 0, none⟩) ms.length ms.length, .slice aa ar.length ac]
  have hP2 := part_row (g := w.heap.size + 1) hP (by omega) #[.slice (some ⟨M, 0, none⟩) ms.length ms.length, .slice aa ar.length ac]
  have hO2 := (ownsRow_kept (w' := w4.setRow (w.heap.size + 1) #[.slice (some ⟨M, 0, none⟩) ms.length ms.length, .slice aa ar.length ac]) hO fun g hg => setRow_otherW _ (by have := (own_lt hO hg).1; omega) _).mono hv0
  have HE := hide (HEND.out _ _ ⟨M, aa, ac, rfl, by omega, hP2, hO2, hgm, below_setRow HB4.out (w.heap.size + 1) (by omega) _⟩)
  clear hP hO hP2 hO2 hb HEND
  go_wp2_with ((show wpList _ _ _ (⟨none, .store 30 (.tmp 6) (.tmp 19), _, _, _, _⟩ :: _) _ _); refine wpList_store_row rfl 30 _ _ rfl _ _ rfl rfl 30 _ hR4 size_space rfl hone2 ?_)
  refine bodyPost_ret (v := .tuple #[.agg #[.slice (some ⟨M, 0, none⟩) ms.length ms.length, .slice aa ar.length ac], .int .i64 cd, .bool ak]) ?_ rfl HE.out
  exact space_res3 Try.results13 _ _ (w.heap.size + 1) _ _ _ rfl rfl rfl rfl hz
end Go.Proofs.Ytedbihlpggficaa


/- What the law's helpers do with arcs and with a space: compare, mark, hold. -/
namespace Go.Proofs.Ytedbihlpggficaa
open Go.RowKit
set_option maxRecDepth 10000

/-- A slice of N arcs from the head of the block b, in which there may be more room: the numbers xs, three an arc; or an empty one. -/
def AB (w : World) (a : Option Addr) (b N : Nat) (xs : List Int) : Prop :=
  xs.length = 3 * N ∧ (N = 0 ∨ (a = some ⟨b, 0, none⟩ ∧ ∃ cur, w.heap[b]? = some (.cells cur 129 (0, 0)) ∧ 3 * N ≤ cur.size ∧ ∀ i, i < 3 * N → cur[i]? = some (.int .i64 (xs.getD i 0))))

def arI (ar : List (Nat × Nat × Nat)) : List Int := ar.flatMap fun a => [(a.1 : Int), (a.2.1 : Int), (a.2.2 : Int)]
theorem arI_map (ar : List (Nat × Nat × Nat)) : (arI ar).map (Value.int .i64) = arcsL ar := by
  unfold arI arcsL; rw [List.map_flatMap]; rfl
theorem arI_len (ar : List (Nat × Nat × Nat)) : (arI ar).length = 3 * ar.length := by
  induction ar with
  | nil => rfl
  | cons a r ih => unfold arI at *; simp only [List.flatMap_cons, List.length_append, List.length_cons, ih, List.length_nil]; omega

theorem AB.of_own {w : World} {B : Nat} {aa : Option Addr} {ac : Nat} {ar : List (Nat × Nat × Nat)} (h : w.ownsRow B 129 3 (.slice aa ar.length ac) ar.length (arcsL ar)) :
    ∃ b, AB w aa b ar.length (arI ar) ∧ (ar.length ≠ 0 → (Value.slice aa ar.length ac).ownBlock = some b) := by
  rcases h.2 with ⟨_, h0⟩ | ⟨g, cap, cur, e, hb, hh, hn, hc, hs, ht⟩
  · exact ⟨0, ⟨arI_len ar, .inl h0⟩, fun hne => absurd h0 hne⟩
  · have e' := e
    simp only [Value.slice.injEq] at e'
    obtain ⟨rfl, _, rfl⟩ := e'
    refine ⟨g, ⟨arI_len ar, .inr ⟨rfl, cur, hh, ?_, fun i hi => ?_⟩⟩, fun _ => rfl⟩
    · rw [hs]; have := Nat.mul_le_mul_right 3 hc; omega
    · have h1 := h.cellAt i (by omega)
      rw [cell_of_row w g i _ _ _ hh] at h1
      rw [h1, ← arI_map, List.getElem?_map, List.getElem?_eq_getElem (show i < (arI ar).length by rw [arI_len]; exact hi), List.getD_eq_getElem?_getD, List.getElem?_eq_getElem (show i < (arI ar).length by rw [arI_len]; exact hi)]
      rfl

theorem AB.grow {w w' : World} {a : Option Addr} {b N : Nat} {xs : List Int} (h : AB w a b N xs) (hb : Below w.heap.size w w') : AB w' a b N xs := by
  refine ⟨h.1, ?_⟩
  rcases h.2 with h0 | ⟨e, cur, h1, h2⟩
  · exact .inl h0
  · exact .inr ⟨e, cur, keep h1 hb, h2⟩

theorem AB.only {w w' : World} {a : Option Addr} {b c N : Nat} {xs : List Int} (h : AB w a b N xs) (ho : Only c w w') (hB : N ≠ 0 → b ≠ c) : AB w' a b N xs := by
  refine ⟨h.1, ?_⟩
  rcases h.2 with h0 | ⟨e, cur, h1, h2⟩
  · exact .inl h0
  · by_cases hn : N = 0
    · exact .inl hn
    · exact .inr ⟨e, cur, (ho.block b (hB hn)).trans h1, h2⟩

theorem AB.keepsLow {w w' : World} {a : Option Addr} {b N lo hi : Nat} {xs : List Int} (h : AB w a b N xs) (hk : Keeps lo hi w w') (hb : N ≠ 0 → b < lo) : AB w' a b N xs := by
  refine ⟨h.1, ?_⟩
  rcases h.2 with h0 | ⟨e, cur, h1, h2⟩
  · exact .inl h0
  · by_cases hn : N = 0
    · exact .inl hn
    · exact .inr ⟨e, cur, (hk.bel.block b (hb hn)).trans h1, h2⟩

theorem AB.keepsHigh {w w' : World} {a : Option Addr} {b N lo hi : Nat} {xs : List Int} (h : AB w a b N xs) (hk : Keeps lo hi w w') (hb : N ≠ 0 → hi ≤ b) : AB w' a b N xs := by
  refine ⟨h.1, ?_⟩
  rcases h.2 with h0 | ⟨e, cur, h1, h2⟩
  · exact .inl h0
  · by_cases hn : N = 0
    · exact .inl hn
    · exact .inr ⟨e, cur, (hk.top b (hb hn) (row_lt h1)).trans h1, h2⟩

theorem AB.at3 {w : World} {a : Option Addr} {b N : Nat} {xs : List Int} (h : AB w a b N xs) {k : Nat} (hk : k < N) :
    a = some ⟨b, 0, none⟩ ∧ w.cell? ⟨b, k * 3, none⟩ = some (.int .i64 (xs.getD (k * 3) 0)) ∧ w.cell? ⟨b, k * 3 + 1, none⟩ = some (.int .i64 (xs.getD (k * 3 + 1) 0)) ∧ w.cell? ⟨b, k * 3 + 2, none⟩ = some (.int .i64 (xs.getD (k * 3 + 2) 0)) := by
  rcases h.2 with h0 | ⟨e, cur, h1, h2, h3⟩
  · omega
  · refine ⟨e, ?_, ?_, ?_⟩
    · rw [cell_of_row w b _ _ _ _ h1]; exact h3 _ (by omega)
    · rw [cell_of_row w b _ _ _ _ h1]; exact h3 _ (by omega)
    · rw [cell_of_row w b _ _ _ _ h1]; exact h3 _ (by omega)

set_option maxHeartbeats 400000 in
theorem eqArc_any (x y z : Int) (w : World) : Calls Try.prog 87 #[.agg #[.int .i64 x, .int .i64 y, .int .i64 z], .agg #[.int .i64 x, .int .i64 y, .int .i64 z]] w fun e w' => e = .returned (.bool true) ∧ Below w.heap.size w w' := by
  have h1 : (x != x) = false := by simp
  have h2 : (y != y) = false := by simp
  have h3 : (z != z) = false := by simp
  have HB := hide (below_two w (.cells #[.int .i64 x, .int .i64 y, .int .i64 z] 129) (.cells #[.int .i64 x, .int .i64 y, .int .i64 z] 129))
  go_enter Try.func87, Try.ntmps87
  go_wp2_with fail
  go_ret
  exact ⟨rfl, HB.out⟩

set_option maxHeartbeats 1000000 in
theorem eqArcS_any (a d : Option Addr) (b b' N c c' : Nat) (xs : List Int) (w : World) (h : AB w a b N xs) (g : AB w d b' N xs) (hN : N ≤ 9600) :
    Calls Try.prog 46 #[.slice a N c, .slice d N c'] w fun e w' => e = .returned (.bool true) ∧ Below w.heap.size w w' := by
  have hne : ((N : Int) != (N : Int)) = false := by simp
  have HL := hide h
  have HG := hide g
  clear h g
  go_enter Try.func46, Try.ntmps46
  go_wp2_with fail
  go_loopw [5] (fun i wr => ∃ k : Nat, k ≤ N ∧ i = .int .i64 k ∧ Hid (Below w.heap.size w wr)) (fun i _ => N - (intOf i).toNat)
  case atStart => exact ⟨0, Nat.zero_le _, rfl, Below.refl _ _⟩
  case round =>
    obtain ⟨k, hk, rfl, hbw⟩ := hrel
    clear hne
    by_cases hlt : k < N
    · obtain ⟨rfl, p0, p1, p2⟩ := (HL.out.grow hbw.out).at3 hlt
      obtain ⟨rfl, q0, q1, q2⟩ := (HG.out.grow hbw.out).at3 hlt
      generalize xs.getD (k * 3) 0 = x at *
      generalize xs.getD (k * 3 + 1) 0 = y at *
      generalize xs.getD (k * 3 + 2) 0 = z at *
      have HT := hide (fun q => eqArc_any x y z (wr.drewN q))
      have hkN : (k : Int) < (N : Int) := by omega
      have hk9 : (k : Int) ≤ 9600 := by omega
      go_wp2_with fail
      go_region_with (go_at_call 87; refine (HT.out 1).mono ?_; rintro e w1 ⟨rfl, hb⟩)
      all_goals
        have HB := hide (hbw.out.trans (((below_drewN' wr 1).trans hb).mono hbw.out.size))
        clear HT hb
        go_wp2_with fail
        go_roundw
        case rel => exact ⟨k + 1, by omega, by go_num, HB⟩
        case measure => simp [intOf]; omega
    · have hk' : k = N := by omega
      subst hk'
      go_wp2_with fail
      go_ret
      exact ⟨rfl, hbw.out⟩

/-- The first k numbers of a block are there. -/
theorem AB.mark3 {cs : Array Value} {k0 n k : Nat} (h : FillR (seqL k0 (3 * n)) (3 * n) (3 * k) cs) (hk : k < n) :
    FillR (seqL k0 (3 * n)) (3 * n) (3 * (k + 1)) (((cs.setIfInBounds (k * 3) (.int .i64 ((k0 + 3 * k : Nat) : Int))).setIfInBounds (k * 3 + 1) (.int .i64 ((k0 + 3 * k + 1 : Nat) : Int))).setIfInBounds (k * 3 + 2) (.int .i64 ((k0 + 3 * k + 2 : Nat) : Int))) := by
  have e : 3 * k = k * 3 := Nat.mul_comm _ _
  have h1 := set_fillR h (show 3 * k < 3 * n by omega) (seqL_at k0 (3 * n) (3 * k) (by omega))
  have h2 := set_fillR h1 (show 3 * k + 1 < 3 * n by omega) (seqL_at k0 (3 * n) (3 * k + 1) (by omega))
  have h3 := set_fillR h2 (show 3 * k + 1 + 1 < 3 * n by omega) (seqL_at k0 (3 * n) (3 * k + 1 + 1) (by omega))
  rw [show 3 * (k + 1) = 3 * k + 1 + 1 + 1 by omega]
  simpa [e, Nat.add_assoc] using h3

set_option maxHeartbeats 1000000 in
theorem markArcS_any (a : Option Addr) (b N c k0 : Nat) (xs : List Int) (w : World) (h : AB w a b N xs) (hN : N ≤ 9600) (hk0 : k0 ≤ 2097152) :
    Calls Try.prog 49 #[.slice a N c, .int .i64 (k0 : Int)] w fun e w' => e = .returned (.int .i64 ((k0 + 3 * N : Nat) : Int)) ∧ AB w' a b N (seqL k0 (3 * N)) ∧ Only b w w' := by
  have HB := hide h
  clear h
  go_enter Try.func49, Try.ntmps49
  go_wp2
  go_loopw [1, 5] (fun t i wr => ∃ k : Nat, k ≤ N ∧ i = .int .i64 k ∧ t = .int .i64 ((k0 + 3 * k : Nat) : Int) ∧ Only b w wr ∧ (N = 0 ∨ (a = some ⟨b, 0, none⟩ ∧ ∃ cs, FillR (seqL k0 (3 * N)) (3 * N) (3 * k) cs ∧ wr.heap[b]? = some (.cells cs 129 (0, 0))))) (fun _ i _ => N - (intOf i).toNat)
  case atStart =>
    refine ⟨0, Nat.zero_le _, rfl, rfl, Only.refl _ _, ?_⟩
    rcases HB.out.2 with h0 | ⟨e, hh⟩
    · exact .inl h0
    · obtain ⟨cur, q1, q2, _⟩ := hh
      exact .inr ⟨e, cur, ⟨q2, fun i hi => absurd hi (by omega)⟩, q1⟩
  case round =>
    obtain ⟨k, hk, rfl, rfl, ho, hd⟩ := hrel
    by_cases hlt : k < N
    · obtain ⟨rfl, cs, hf, hh⟩ : a = some ⟨b, 0, none⟩ ∧ ∃ cs, FillR (seqL k0 (3 * N)) (3 * N) (3 * k) cs ∧ wr.heap[b]? = some (.cells cs 129 (0, 0)) := by
        rcases hd with h0 | h
        · omega
        · exact h
      have HF := hide (AB.mark3 hf hlt)
      have hsz := hf.1
      obtain ⟨t, ht⟩ : ∃ t : Nat, Hid (k0 + 3 * k = t) := ⟨_, rfl⟩
      have hb1 : ((t : Nat) : Int) ≤ 5242880 := by have := ht.out; omega
      have hb0 : (0 : Int) ≤ ((t : Nat) : Int) := by omega
      rw [ht.out] at HF ⊢
      have hh1 := heap_setCell_same wr b (k * 3) cs _ (.int .i64 (t : Int)) hh
      have hh2 := heap_setCell_same _ b (k * 3 + 1) _ _ (.int .i64 ((t + 1 : Nat) : Int)) hh1
      have hh3 := heap_setCell_same _ b (k * 3 + 2) _ _ (.int .i64 ((t + 2 : Nat) : Int)) hh2
      obtain ⟨v0, hv0⟩ : ∃ v0, wr.cell? ⟨b, k * 3, none⟩ = some v0 := ⟨_, by rw [cell_of_row wr b _ cs _ _ hh]; exact Array.getElem?_eq_getElem (by omega)⟩
      obtain ⟨v1, hv1⟩ : ∃ v0, (wr.setCell ⟨b, k * 3, none⟩ (.int .i64 (t : Int))).cell? ⟨b, k * 3 + 1, none⟩ = some v0 := ⟨_, by rw [cell_of_row _ b _ _ _ _ hh1]; exact Array.getElem?_eq_getElem (by simp; omega)⟩
      obtain ⟨v2, hv2⟩ : ∃ v0, ((wr.setCell ⟨b, k * 3, none⟩ (.int .i64 (t : Int))).setCell ⟨b, k * 3 + 1, none⟩ (.int .i64 ((t + 1 : Nat) : Int))).cell? ⟨b, k * 3 + 2, none⟩ = some v0 := ⟨_, by rw [cell_of_row _ b _ _ _ _ hh2]; exact Array.getElem?_eq_getElem (by simp; omega)⟩
      have hfr0 := frozen_of_row wr b (k * 3) cs _ hh
      have hfr1 := frozen_of_row _ b (k * 3 + 1) _ _ hh1
      have hfr2 := frozen_of_row _ b (k * 3 + 2) _ _ hh2
      have HH := hide hh3
      have HO := hide (((ho.setCell (k * 3) (.int .i64 (t : Int))).setCell (k * 3 + 1) (.int .i64 ((t + 1 : Nat) : Int))).setCell (k * 3 + 2) (.int .i64 ((t + 2 : Nat) : Int)))
      have hkN : (k : Int) < (N : Int) := by omega
      have hk9 : (k : Int) ≤ 9600 := by omega
      have e1 : ((t + 1 : Nat) : Int) = (t : Int) + 1 := by omega
      have e2 : ((t + 2 : Nat) : Int) = (t : Int) + 1 + 1 := by omega
      rw [e1] at hv2 hfr2 HH HO HF
      rw [e2] at HH HO HF
      clear hd ho hf hh HB hh1 hh2 hh3
      go_wp2
      go_roundw
      case rel => exact ⟨k + 1, by omega, by go_num, by rw [show k0 + 3 * (k + 1) = t + 1 + 1 + 1 by have := ht.out; omega]; go_num, HO.out, by first | exact .inr ⟨rfl, _, HF.out, HH.out⟩ | exact .inr ⟨trivial, _, HF.out, HH.out⟩⟩
      case measure => simp [intOf]; omega
    · have hk' : k = N := by omega
      subst hk'
      have HD := hide hd
      have HO := hide ho
      clear hd ho
      go_wp2
      go_ret
      refine ⟨rfl, ⟨seqL_len _ _, ?_⟩, HO.out⟩
      rcases HD.out with h0 | ⟨e, cs, hf, hh⟩
      · exact .inl h0
      · exact .inr ⟨e, cs, hh, hf.1, hf.2⟩

set_option maxHeartbeats 1000000 in
theorem heldArcS_any (a : Option Addr) (b N c k0 : Nat) (w : World) (h : AB w a b N (seqL k0 (3 * N))) (hN : N ≤ 9600) (hk0 : k0 ≤ 2097152) :
    Calls Try.prog 50 #[.slice a N c, .int .i64 (k0 : Int)] w fun e w' => e = .returned (.int .i64 ((k0 + 3 * N : Nat) : Int)) ∧ w' = w := by
  have HB := hide h
  clear h
  go_enter Try.func50, Try.ntmps50
  go_wp2
  go_loop [1, 5] (fun t i => ∃ k : Nat, k ≤ N ∧ i = .int .i64 k ∧ t = .int .i64 ((k0 + 3 * k : Nat) : Int)) (fun _ i => N - (intOf i).toNat)
  case atStart => exact ⟨0, Nat.zero_le _, rfl, rfl⟩
  case round =>
    obtain ⟨k, hk, rfl, rfl⟩ := hrel
    by_cases hlt : k < N
    · obtain ⟨rfl, p0, p1, p2⟩ := HB.out.at3 hlt
      rw [seqL_at k0 (3 * N) (k * 3) (by omega)] at p0
      rw [seqL_at k0 (3 * N) (k * 3 + 1) (by omega)] at p1
      rw [seqL_at k0 (3 * N) (k * 3 + 2) (by omega)] at p2
      obtain ⟨t, ht⟩ : ∃ t : Nat, Hid (k0 + 3 * k = t) := ⟨_, rfl⟩
      have hb1 : ((t : Nat) : Int) ≤ 5242880 := by have := ht.out; omega
      have hb0 : (0 : Int) ≤ ((t : Nat) : Int) := by omega
      rw [show ((k0 + k * 3 : Nat) : Int) = (t : Int) by have := ht.out; omega] at p0
      rw [show ((k0 + (k * 3 + 1) : Nat) : Int) = (t : Int) + 1 by have := ht.out; omega] at p1
      rw [show ((k0 + (k * 3 + 2) : Nat) : Int) = (t : Int) + 1 + 1 by have := ht.out; omega] at p2
      rw [ht.out]
      have hne0 : ∀ u : Int, (u != u) = false := by simp
      have hkN : (k : Int) < (N : Int) := by omega
      have hk9 : (k : Int) ≤ 9600 := by omega
      go_wp2
      go_round
      case rel => exact ⟨k + 1, by omega, by go_num, by rw [show k0 + 3 * (k + 1) = t + 1 + 1 + 1 by have := ht.out; omega]; go_num⟩
      case measure => simp [intOf]; omega
    · have hk' : k = N := by omega
      subst hk'
      go_wp2
      go_ret
      exact ⟨rfl, rfl⟩
end Go.Proofs.Ytedbihlpggficaa
