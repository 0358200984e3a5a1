/- Slices of lists: what szIntSS, toIntSS, eqIntSS, markIntSS and heldIntSS answer, make and write. -/
import Derived.Test.YteanbjhlfplojaaMn
import Derived.Test.YteanbjhlfplojaaOn
namespace Go.Proofs.Yteanbjhlfplojaa
open Go.RowKit
set_option maxRecDepth 10000

theorem Lists.at {w : World} {a : Option Addr} {n : Nat} {L : List (List Int)} (h : Lists w a n L) {k : Nat} (hk : k < n) :
    ∃ b off a' n' c', a = some ⟨b, off, none⟩ ∧ b < w.heap.size ∧ w.cell? ⟨b, off + k, none⟩ = some (.slice a' n' c') ∧ n' ≤ maxLen ∧ Row w a' n' (L.getD k []) := by
  rcases h.2 with h0 | ⟨b, off, e, hl, hc⟩
  · omega
  · obtain ⟨a', n', c', h1, h2, h3⟩ := hc k hk
    exact ⟨b, off, a', n', c', e, hl, h1, h2, h3⟩

set_option maxHeartbeats 400000 in
theorem szSS_any (a : Option Addr) (n c : Nat) (L : List (List Int)) (left : Int) (w : World) (h : Lists w a n L) (hn : n ≤ maxLen) (hl0 : 0 ≤ left) (hl1 : left ≤ 1048576) :
    Calls Try.prog 14 #[.slice a n c, .int .i64 left] w fun e w' => e = .returned (.int .i64 (leftOf left (sizeN n L))) ∧ w' = w := by
  have hmx : (n : Int) ≤ 9223372036854775807 := by unfold maxLen at hn; omega
  by_cases h0 : (n : Int) ≤ left
  rotate_left
  · have HS := hide (show leftOf left (sizeN n L) = -1 by unfold leftOf sizeN; rw [if_neg (by omega)])
    clear h
    go_enter Try.func14, Try.ntmps14
    go_wp2_with fail
    go_ret
    exact ⟨ret_int HS.out.symm, rfl⟩
  have HL := hide h
  clear h
  go_enter Try.func14, Try.ntmps14
  go_wp2_with fail
  go_loop [1, 5] (fun t i => ∃ k : Nat, k ≤ n ∧ i = .int .i64 k ∧ t = .int .i64 (left - (n + sizeL (L.take k) : Nat)) ∧ Hid ((((n + sizeL (L.take k) : Nat)) : Int) ≤ left)) (fun _ i => n - (intOf i).toNat)
  case atStart => exact ⟨0, Nat.zero_le _, rfl, by simp [sizeL], by simpa [Hid, sizeL] using h0⟩
  case round =>
    obtain ⟨k, hk, rfl, rfl, hle⟩ := hrel
    obtain ⟨s, hs⟩ : ∃ s : Nat, Hid (n + sizeL (L.take k) = s) := ⟨_, rfl⟩
    rw [hs.out] at hle ⊢
    by_cases hlt : k < n
    · obtain ⟨b, off, a0, n0, c0, rfl, hb, hc0, m0, r0⟩ := HL.out.at hlt
      have hl := HL.out.1
      have e0 := sizeL_take_succ L k (by omega)
      have HE : Hid (n + sizeL (L.take (k + 1)) = s + n0) := by
        show n + sizeL (L.take (k + 1)) = s + n0
        rw [e0, r0.1, ← hs.out]; omega
      have HE2 : Hid (n + sizeL (L.take (k + 1)) ≤ sizeN n L) := by
        show _ ≤ _
        unfold sizeN
        have := sizeL_take_le L (k + 1)
        omega
      clear e0 r0 hl hs
      have hz0 : 0 ≤ left - s := by have := hle.out; omega
      have hz1 : left - s ≤ 1048576 := by omega
      go_wp2_with fail
      refine (szInt_any _ _ _ _ _ m0 hz0 hz1).mono ?_
      rintro e w' ⟨rfl, rfl⟩
      by_cases g : leftOf (left - s) n0 < 0
      · have HS : Hid (leftOf left (sizeN n L) = -1) := by
          show leftOf left (sizeN n L) = -1
          have h1 := leftOf_neg g
          have h2 := HE.out
          have h3 := HE2.out
          unfold leftOf; rw [if_neg (by omega)]
        generalize leftOf (left - s) n0 = l0 at *
        clear hc0
        go_wp2_with fail
        go_ret
        exact ⟨ret_int HS.out.symm, rfl⟩
      · have hq := leftOf_pos g
        rw [hq.2] at g ⊢
        have HQ := hide hq.1
        clear hq hc0
        have HR : Hid ((((n + sizeL (L.take (k + 1)) : Nat)) : Int) ≤ left) := by
          show _ ≤ _
          rw [HE.out]; have := HQ.out; omega
        have HV : Hid (left - s - (n0 : Int) = left - ((n + sizeL (L.take (k + 1)) : Nat) : Int)) := by
          show _ = _
          rw [HE.out]; omega
        generalize left - s - (n0 : Int) = l0 at *
        go_wp2_with fail
        go_round
        case rel => exact ⟨k + 1, by omega, by go_num, by rw [HV.out], HR⟩
        case measure => simp [intOf]; omega
    · have hk' : k = n := by omega
      subst hk'
      have HS : Hid (leftOf left (sizeN k L) = left - s) := by
        show leftOf left (sizeN k L) = left - s
        have h1 := hs.out
        rw [List.take_of_length_le (by have := HL.out.1; omega)] at h1
        unfold sizeN; rw [h1]; exact if_pos hle.out
      go_wp2_with fail
      go_ret
      exact ⟨ret_int HS.out.symm, rfl⟩

theorem Try.info30 : (Try.prog.info? 30).map (fun i => (i.zero, i.size, i.bytes)) = some (some (.slice none 0 0), 1, 24) := by kernel_rfl

theorem PartL.step1 {v w : World} {B n k b0 : Nat} {T : TypeId} {L : List (List Int)} {x0 : List Int} (h : PartL v B n k T L) (hk : k < n) (hb : Below v.heap.size v w)
    (h0 : v.heap.size ≤ b0) (g0 : w.heap[b0]? = some (.cells (cellsOf x0) 3 (0, 0))) (e0 : L.getD k [] = x0) :
    PartL (w.setCell ⟨B, k, none⟩ (.slice (some ⟨b0, 0, none⟩) x0.length x0.length)) B n (k + 1) T L := by
  obtain ⟨C, f, h1, h2, h3, h4⟩ := h
  have hB := (Array.getElem?_eq_some_iff.mp h1).1
  have hold : ∀ j, j < k → f j < v.heap.size := fun j hj => (Array.getElem?_eq_some_iff.mp (h3 j hj).2.2).1
  refine ⟨_, fun j => if j < k then f j else b0, heap_setCell_same _ _ _ _ _ _ ((hb.block B hB).trans h1), by simp [h2], fun j hj => ?_, fun i j hij hj => ?_⟩
  · by_cases hj3 : j < k
    · obtain ⟨q1, q2, q3⟩ := h3 j hj3
      simp only [if_pos hj3]
      refine ⟨?_, q2, ?_⟩
      · rw [Array.getElem?_setIfInBounds_ne (by omega)]; exact q1
      · rw [Below.heap_setCell _ _ _ _ (show f j ≠ B by omega)]; exact (hb.block _ (hold j hj3)).trans q3
    · simp only [if_neg hj3]
      obtain rfl : j = k := by omega
      rw [e0]
      refine ⟨?_, by omega, ?_⟩
      · rw [Array.getElem?_setIfInBounds, if_pos rfl, if_pos (by omega)]
      · rw [Below.heap_setCell _ _ _ _ (show b0 ≠ B by omega)]; exact g0
  · have := h4 i j hij
    by_cases hi3 : i < k
    · have := hold i hi3
      simp only [if_pos hi3]
      split
      all_goals omega
    · omega

/-- The cell k of the row is there, and can be written. -/
theorem PartL.spot {w : World} {B n k : Nat} {T : TypeId} {L : List (List Int)} (h : PartL w B n k T L) {j : Nat} (hj : j < n) : ∃ v, w.cell? ⟨B, j, none⟩ = some v ∧ w.frozen? ⟨B, j, none⟩ = false := by
  obtain ⟨C, f, h1, h2, h3, h4⟩ := h
  exact ⟨_, by rw [cell_of_row w B j C _ _ h1]; exact Array.getElem?_eq_getElem (by omega), frozen_of_row w B j C _ h1⟩

theorem PartL.lists1 {w : World} {B n : Nat} {T : TypeId} {L : List (List Int)} (h : PartL w B n n T L) (hl : L.length = n) (hs : sizeN n L ≤ 1048576) : Lists w (some ⟨B, 0, none⟩) n L := by
  obtain ⟨C, f, h1, h2, h3, h4⟩ := h
  refine ⟨hl, .inr ⟨B, 0, rfl, (Array.getElem?_eq_some_iff.mp h1).1, fun j hj => ?_⟩⟩
  obtain ⟨e1, e2, e3⟩ := h3 j hj
  refine ⟨_, _, _, by rw [cell_of_row w B (0 + j) C T _ h1, Nat.zero_add]; exact e1, ?_, Own.row (B := 0) ⟨rfl, _, rfl, Nat.zero_le _, e3⟩⟩
  have := len_le L j
  unfold sizeN at hs; unfold maxLen; omega

/-- How a call that makes one list ends. -/
def NewRow (xs : List Int) (w : World) (e : Ending) (w' : World) : Prop :=
  ∃ b, e = .returned (.slice (some ⟨b, 0, none⟩) xs.length xs.length) ∧ w.heap.size ≤ b ∧ w'.heap[b]? = some (.cells (cellsOf xs) 3 (0, 0)) ∧ Below w.heap.size w w'

theorem toIntN_any (a : Option Addr) (n ca : Nat) (xs : List Int) (w : World) (ha : Row w a n xs) (hn : n ≤ 1048576) :
    Calls Try.prog 38 #[.slice a n ca] w fun e w' => NewRow xs w e w' := by
  obtain rfl := ha.1
  refine (toInt_any a _ ca xs w ha hn).mono ?_
  rintro e w' ⟨rfl, rfl⟩
  exact ⟨_, rfl, Nat.le_refl _, heap_alloc_new _ _, below_al _ _⟩

set_option maxHeartbeats 1000000 in
theorem toSS_any (a : Option Addr) (n c : Nat) (L : List (List Int)) (w : World) (h : Lists w a n L) (hs : sizeN n L ≤ 1048576) :
    Calls Try.prog 15 #[.slice a n c] w fun e w' => e = .returned (.slice (some ⟨w.heap.size, 0, none⟩) n n) ∧ PartL w' w.heap.size n n 30 L ∧ Below w.heap.size w w' := by
  have hn : n ≤ 1048576 := by unfold sizeN at hs; omega
  have hmk := run_make_many (P := Try.prog) 24 30 _ 1 24 Try.underlying24 Try.info30 .i64 .i64 n (by omega) (by omega)
  simp only [Value.cells] at hmk
  have HL := hide h
  clear h
  go_enter Try.func15, Try.ntmps15
  go_wp2_with fail
  go_loopw [4] (fun i wr => ∃ k : Nat, k ≤ n ∧ i = .int .i64 k ∧ Hid (PartL wr w.heap.size n k 30 L) ∧ Hid (Below w.heap.size w wr)) (fun i _ => n - (intOf i).toNat)
  case atStart =>
    refine ⟨0, Nat.zero_le _, rfl, ⟨_, fun _ => 0, heap_alloc_new _ _, by rw [size_madeCells], fun j hj => absurd hj (by omega), fun i j _ hj => absurd hj (by omega)⟩, below_al _ _⟩
  case round =>
    obtain ⟨k, hk, rfl, hp, hbw⟩ := hrel
    by_cases hlt : k < n
    · obtain ⟨b, off, a0, n0, c0, rfl, hb, hc0, m0, r0⟩ := (HL.out.below hbw.out).at hlt
      have hl0 := len_le L k
      have hs' : n + sizeL L ≤ 1048576 := hs
      obtain ⟨x0, hx0⟩ : ∃ x, Hid (L.getD k [] = x) := ⟨_, rfl⟩
      rw [hx0.out] at r0 hl0
      have q0 : n0 ≤ 1048576 := by have := r0.1; omega
      have HT := hide (toIntN_any a0 n0 c0 _ wr r0 q0)
      clear r0 hmk hl0 q0 hs'
      go_wp2_with fail
      refine HT.out.mono ?_
      rintro e w' ⟨b0, rfl, hb0, g0, hbb⟩
      have HP := hide (hp.out.step1 hlt hbb hb0 g0 hx0.out)
      have HB := hide ((hbw.out.trans (hbb.mono hbw.out.size)).setCell (p := ⟨w.heap.size, k, none⟩) (Nat.le_refl _) (.slice (some ⟨b0, 0, none⟩) x0.length x0.length))
      obtain ⟨v0, hv0, hfr⟩ := (hp.out.grow hbb).spot hlt
      clear HT hb0 g0 hbb hx0 hc0 hb
      go_wp2_with fail
      go_roundw
      case rel => exact ⟨k + 1, by omega, by go_num, HP, HB⟩
      case measure => simp [intOf]; omega
    · have hk' : k = n := by omega
      subst hk'
      clear hmk
      go_wp2_with fail
      go_ret
      exact ⟨rfl, hp.out, hbw.out⟩

set_option maxHeartbeats 400000 in
theorem eqSS_any (a d : Option Addr) (n c e : Nat) (L : List (List Int)) (w : World) (h : Lists w a n L) (g : Lists w d n L) (hs : sizeN n L ≤ 1048576) :
    Calls Try.prog 16 #[.slice a n c, .slice d n e] w fun e w' => e = .returned (.bool true) ∧ Below w.heap.size w w' := by
  have hn : n ≤ 1048576 := by unfold sizeN at hs; omega
  have hne : ((n : Int) != (n : Int)) = false := by simp
  have HL := hide h
  have HG := hide g
  clear h g
  go_enter Try.func16, Try.ntmps16
  go_wp2_with fail
  go_loopw [5] (fun i wr => ∃ k : Nat, k ≤ n ∧ i = .int .i64 k ∧ Hid (Below w.heap.size w wr)) (fun i _ => n - (intOf i).toNat)
  case atStart => exact ⟨0, Nat.zero_le _, rfl, Below.refl _ _⟩
  case round =>
    obtain ⟨k, hk, rfl, hbw⟩ := hrel
    clear hne
    by_cases hlt : k < n
    · obtain ⟨b, off, a0, n0, c0, rfl, hb, hc0, m0, r0⟩ := (HL.out.below hbw.out).at hlt
      obtain ⟨b', off', a0', n0', c0', rfl, hb', hc0', m0', r0'⟩ := (HG.out.below hbw.out).at hlt
      have hl0 := len_le L k
      have hs' : n + sizeL L ≤ 1048576 := hs
      have q0 : n0 ≤ 1048576 := by have := r0.1; omega
      have HT := hide (fun q => eq_any a0 a0' n0 n0' c0 c0' _ _ (wr.drewN q) (r0.drewN q) (r0'.drewN q) q0)
      have hsm := sameB_self (L.getD k [])
      generalize L.getD k [] = x0 at *
      clear r0 hl0 q0 hs' r0' m0 m0'
      go_wp2_with fail
      go_region_with (go_at_call 39; refine (HT.out 1).mono ?_; rintro e w1 ⟨rfl, q, rfl⟩)
      all_goals
        have HB := hide (hbw.out.trans ((below_drewN' wr (1 + q)).mono hbw.out.size))
        clear HT
        go_wp2_with fail
        go_roundw
        case rel => exact ⟨k + 1, by omega, by go_num, HB⟩
        case measure => simp [intOf]; omega
    · have hk' : k = n := by omega
      subst hk'
      go_wp2_with fail
      go_ret
      exact ⟨rfl, hbw.out⟩

set_option maxHeartbeats 1000000 in
theorem markSF_any (B hi n c k0 : Nat) (T : TypeId) (M : Nat → List Int) (w : World) (h : PartF w B hi n T M) (hs : cntF M n ≤ 1048576) (hn : n ≤ 1048576) (hk0 : k0 ≤ 2097152) :
    Calls Try.prog 17 #[.slice (some ⟨B, 0, none⟩) n c, .int .i64 (k0 : Int)] w fun e w' => e = .returned (.int .i64 ((k0 + cntF M n : Nat) : Int)) ∧ PartF w' B hi n T (markedF k0 M n) ∧ Keeps (B + 1) hi w w' := by
  have HP := hide h
  clear h
  go_enter Try.func17, Try.ntmps17
  go_wp2_with fail
  go_loopw [1, 5] (fun t i wr => ∃ k t' : Nat, k ≤ n ∧ i = .int .i64 k ∧ t = .int .i64 (t' : Int) ∧ Hid (t' = k0 + cntF M k) ∧ Hid (PartF wr B hi n T (markedF k0 M k)) ∧ Hid (Keeps (B + 1) hi w wr)) (fun _ i _ => n - (intOf i).toNat)
  case atStart => exact ⟨0, k0, Nat.zero_le _, rfl, rfl, rfl, by have := HP.out; exact (show markedF k0 M 0 = M from by funext j; unfold markedF; rw [if_neg (by omega)]) ▸ this, Keeps.refl _ _ _⟩
  case round =>
    obtain ⟨k, t0, hk, rfl, rfl, ht0, hp, hkp⟩ := hrel
    clear HP
    by_cases hlt : k < n
    rotate_left
    · have hk' : k = n := by omega
      subst hk'
      have HT := hide ht0.out.symm
      go_wp2_with fail
      go_ret
      exact ⟨by rw [HT.out]; rfl, hp.out, hkp.out⟩
    have HQ := hide (And.intro (cntF_mono (M := M) (show k + 1 ≤ n by omega)) (show cntF M (k + 1) = cntF M k + (M k).length from rfl))
    obtain ⟨b0, l0, hl0, hc0, hb0, st0⟩ := mark_step hp.out hlt k rfl
    have HM0 := hide (mark_any _ b0 _ l0 t0 _ wr hb0.out (by have := HQ.out; have := hl0.out; omega) (by have := HQ.out; have := ht0.out; omega))
    go_wp2_with fail
    refine HM0.out.mono ?_
    rintro e w1 ⟨rfl, hbk, ho⟩
    rw [ht0.out] at hbk
    obtain ⟨p1, kp1⟩ := st0.out w1 hbk ho
    have HP1 := hide p1
    have HK1 := hide (hkp.out.trans kp1)
    obtain ⟨t1, ht1⟩ : ∃ t, Hid (t0 + l0 = t) := ⟨_, rfl⟩
    rw [ht1.out]
    have HT1 : Hid (t1 = k0 + cntF M (k + 1)) := by show _ = _; have := HQ.out; have := hl0.out; have := ht0.out; have := ht1.out; omega
    clear st0 HM0 hc0 hbk ho p1 kp1 hp hkp hb0
    go_wp2_with fail
    go_roundw
    case rel => exact ⟨k + 1, t1, by omega, by go_num, rfl, HT1, HP1, HK1⟩
    case measure => simp [intOf]; omega

/-- Lists that were made: none, or behind a block that leads to them. -/
def NetF (w : World) (a : Option Addr) (B hi n : Nat) (M : Nat → List Int) : Prop := n = 0 ∨ (a = some ⟨B, 0, none⟩ ∧ PartF w B hi n 30 M)

set_option maxHeartbeats 400000 in
theorem markSS_any (a : Option Addr) (B hi n c k0 : Nat) (M : Nat → List Int) (w : World) (h : NetF w a B hi n M) (hs : cntF M n ≤ 1048576) (hn : n ≤ 1048576) (hk0 : k0 ≤ 2097152) :
    Calls Try.prog 17 #[.slice a n c, .int .i64 (k0 : Int)] w fun e w' => e = .returned (.int .i64 ((k0 + cntF M n : Nat) : Int)) ∧ NetF w' a B hi n (markedF k0 M n) ∧ Keeps (B + 1) hi w w' := by
  rcases h with h0 | ⟨rfl, hp⟩
  · subst h0
    go_enter Try.func17, Try.ntmps17
    go_wp2_with fail
    go_loop [1, 5] (fun t i => i = .int .i64 0 ∧ t = .int .i64 (k0 : Int)) (fun _ _ => 0)
    case atStart => exact ⟨rfl, rfl⟩
    case round =>
      obtain ⟨rfl, rfl⟩ := hrel
      go_wp2_with fail
      go_ret
      exact ⟨rfl, .inl rfl, Keeps.refl _ _ _⟩
  · refine (markSF_any B hi n c k0 _ M w hp hs hn hk0).mono fun e w' ⟨q1, q2, q3⟩ => ⟨q1, .inr ⟨rfl, q2⟩, q3⟩

theorem NetF.seq1 {w : World} {a : Option Addr} {B hi n k0 : Nat} {M : Nat → List Int} (h : NetF w a B hi n (markedF k0 M n)) {k : Nat} (hk : k < n) :
    ∃ b l, a = some ⟨B, 0, none⟩ ∧ w.cell? ⟨B, k, none⟩ = some (.slice (some ⟨b, 0, none⟩) l l) ∧ Hid ((M k).length = l) ∧ Hid (Row w (some ⟨b, 0, none⟩) l (seqL (k0 + cntF M k) l)) := by
  rcases h with h0 | ⟨rfl, hp⟩
  · omega
  · obtain ⟨b, h1, h2, h3, h4, _⟩ := hp.one hk
    have hm : markedF k0 M n k = seqL (k0 + cntF M k) (M k).length := by unfold markedF; rw [if_pos hk]
    rw [hm, seqL_len] at h1 h4
    exact ⟨b, _, rfl, h1, rfl, h4.row⟩

set_option maxHeartbeats 400000 in
theorem heldSS_any (a : Option Addr) (B hi n c k0 : Nat) (M : Nat → List Int) (w : World) (h : NetF w a B hi n (markedF k0 M n)) (hs : cntF M n ≤ 1048576) (hn : n ≤ 1048576) (hk0 : k0 ≤ 2097152) :
    Calls Try.prog 18 #[.slice a n c, .int .i64 (k0 : Int)] w fun e w' => e = .returned (.int .i64 ((k0 + cntF M n : Nat) : Int)) ∧ w' = w := by
  have HP := hide h
  clear h
  go_enter Try.func18, Try.ntmps18
  go_wp2_with fail
  go_loop [1, 5] (fun t i => ∃ k t' : Nat, k ≤ n ∧ i = .int .i64 k ∧ t = .int .i64 (t' : Int) ∧ Hid (t' = k0 + cntF M k)) (fun _ i => n - (intOf i).toNat)
  case atStart => exact ⟨0, k0, Nat.zero_le _, rfl, rfl, rfl⟩
  case round =>
    obtain ⟨k, t0, hk, rfl, rfl, ht0⟩ := hrel
    by_cases hlt : k < n
    rotate_left
    · have hk' : k = n := by omega
      subst hk'
      have HT := hide ht0.out.symm
      go_wp2_with fail
      go_ret
      exact ⟨ret_int (by have := HT.out; omega), rfl⟩
    have HQ := hide (And.intro (cntF_mono (M := M) (show k + 1 ≤ n by omega)) (show cntF M (k + 1) = cntF M k + (M k).length from rfl))
    obtain ⟨b, l, rfl, hc0, hl, r0⟩ := HP.out.seq1 hlt
    have r0' := r0.out
    rw [← ht0.out] at r0'
    have HM0 := hide (held_any _ _ l t0 w r0' (by have := HQ.out; have := hl.out; omega) (by have := HQ.out; have := ht0.out; omega))
    obtain ⟨t1, ht1⟩ : ∃ t, Hid (t0 + l = t) := ⟨_, rfl⟩
    have HT1 : Hid (t1 = k0 + cntF M (k + 1)) := by show _ = _; have := HQ.out; have := hl.out; have := ht0.out; have := ht1.out; omega
    rw [ht1.out] at HM0
    have hp1 : (0 : Int) ≤ (t1 : Int) := by omega
    clear hl r0 r0' HQ
    go_wp2_with fail
    refine HM0.out.mono ?_
    rintro e w' ⟨rfl, rfl⟩
    go_wp2_with fail
    go_round
    case rel => exact ⟨k + 1, t1, by omega, by go_num, rfl, HT1⟩
    case measure => simp [intOf]; omega
end Go.Proofs.Yteanbjhlfplojaa
