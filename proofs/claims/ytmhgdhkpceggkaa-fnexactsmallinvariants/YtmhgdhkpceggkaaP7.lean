/- Contracts that the proof stands on, one behind the other. -/
import Derived.Test.YtmhgdhkpceggkaaP6
/- Slices of lists: what szIntSS, toIntSS, eqIntSS, markIntSS and heldIntSS answer, make and write. -/
namespace Go.Proofs.Ytmhgdhkpceggkaa
open Go.RowKit
set_option maxRecDepth 10000

theorem Lists.at {w : World} {a : Option Addr} {n : Nat} {L : List (List Int)} (h : Lists w a n L) {k : Nat} (hk : k < n) :
    ∃ b off a' n' c', a = some ⟨b, off, none⟩ ∧ b < w.heap.size ∧ w.cell? ⟨b, off + k, none⟩ = some (.slice a' n' c') ∧ n' ≤ maxLen ∧ Row w a' n' (L.getD k []) := by
  rcases h.2 with h0 | ⟨b, off, e, hl, hc⟩
  · omega
  · obtain ⟨a', n', c', h1, h2, h3⟩ := hc k hk
    exact ⟨b, off, a', n', c', e, hl, h1, h2, h3⟩


theorem Try.info40 : (Try.prog.info? 40).map (fun i => (i.zero, i.size, i.bytes)) = some (some (.slice none 0 0), 1, 24) := by kernel_rfl

theorem PartL.step1 {v w : World} {B n k b0 : Nat} {T : TypeId} {L : List (List Int)} {x0 : List Int} (h : PartL v B n k T L) (hk : k < n) (hb : Below v.heap.size v w)
    (h0 : v.heap.size ≤ b0) (g0 : w.heap[b0]? = some (.cells (cellsOf x0) 3 (0, 0))) (e0 : L.getD k [] = x0) :
    PartL (w.setCell ⟨B, k, none⟩ (.slice (some ⟨b0, 0, none⟩) x0.length x0.length)) B n (k + 1) T L := by
  obtain ⟨C, f, h1, h2, h3, h4⟩ := h
  have hB := (Array.getElem?_eq_some_iff.mp h1).1
  have hold : ∀ j, j < k → f j < v.heap.size := fun j hj => (Array.getElem?_eq_some_iff.mp (h3 j hj).2.2).1
  refine ⟨_, fun j => if j < k then f j else b0, heap_setCell_same _ _ _ _ _ _ ((hb.block B hB).trans h1), by simp [h2], fun j hj => ?_, fun i j hij hj => ?_⟩
  · by_cases hj3 : j < k
    · obtain ⟨q1, q2, q3⟩ := h3 j hj3
      simp only [if_pos hj3]
      refine ⟨?_, q2, ?_⟩
      · rw [Array.getElem?_setIfInBounds_ne (by omega)]; exact q1
      · rw [Below.heap_setCell _ _ _ _ (show f j ≠ B by omega)]; exact (hb.block _ (hold j hj3)).trans q3
    · simp only [if_neg hj3]
      obtain rfl : j = k := by omega
      rw [e0]
      refine ⟨?_, by omega, ?_⟩
      · rw [Array.getElem?_setIfInBounds, if_pos rfl, if_pos (by omega)]
      · rw [Below.heap_setCell _ _ _ _ (show b0 ≠ B by omega)]; exact g0
  · have := h4 i j hij
    by_cases hi3 : i < k
    · have := hold i hi3
      simp only [if_pos hi3]
      split
      all_goals omega
    · omega

/-- The cell k of the row is there, and can be written. -/
theorem PartL.spot {w : World} {B n k : Nat} {T : TypeId} {L : List (List Int)} (h : PartL w B n k T L) {j : Nat} (hj : j < n) : ∃ v, w.cell? ⟨B, j, none⟩ = some v ∧ w.frozen? ⟨B, j, none⟩ = false := by
  obtain ⟨C, f, h1, h2, h3, h4⟩ := h
  exact ⟨_, by rw [cell_of_row w B j C _ _ h1]; exact Array.getElem?_eq_getElem (by omega), frozen_of_row w B j C _ h1⟩

theorem PartL.lists1 {w : World} {B n : Nat} {T : TypeId} {L : List (List Int)} (h : PartL w B n n T L) (hl : L.length = n) (hs : sizeN n L ≤ 1048576) : Lists w (some ⟨B, 0, none⟩) n L := by
  obtain ⟨C, f, h1, h2, h3, h4⟩ := h
  refine ⟨hl, .inr ⟨B, 0, rfl, (Array.getElem?_eq_some_iff.mp h1).1, fun j hj => ?_⟩⟩
  obtain ⟨e1, e2, e3⟩ := h3 j hj
  refine ⟨_, _, _, by rw [cell_of_row w B (0 + j) C T _ h1, Nat.zero_add]; exact e1, ?_, Own.row (B := 0) ⟨rfl, _, rfl, Nat.zero_le _, e3⟩⟩
  have := len_le L j
  unfold sizeN at hs; unfold maxLen; omega

/-- How a call that makes one list ends. -/
def NewRow (xs : List Int) (w : World) (e : Ending) (w' : World) : Prop :=
  ∃ b, e = .returned (.slice (some ⟨b, 0, none⟩) xs.length xs.length) ∧ w.heap.size ≤ b ∧ w'.heap[b]? = some (.cells (cellsOf xs) 3 (0, 0)) ∧ Below w.heap.size w w'

theorem toIntN_any (a : Option Addr) (n ca : Nat) (xs : List Int) (w : World) (ha : Row w a n xs) (hn : n ≤ 1048576) :
    Calls Try.prog 21 #[.slice a n ca] w fun e w' => NewRow xs w e w' := by
  obtain rfl := ha.1
  refine (toInt_any a _ ca xs w ha hn).mono ?_
  rintro e w' ⟨rfl, rfl⟩
  exact ⟨_, rfl, Nat.le_refl _, heap_alloc_new _ _, below_al _ _⟩


set_option maxHeartbeats 400000 in
theorem eqSS_any (a d : Option Addr) (n c e : Nat) (L : List (List Int)) (w : World) (h : Lists w a n L) (g : Lists w d n L) (hs : sizeN n L ≤ 1048576) :
    Calls Try.prog 13 #[.slice a n c, .slice d n e] w fun e w' => e = .returned (.bool true) ∧ Below w.heap.size w w' := by
  have hn : n ≤ 1048576 := by unfold sizeN at hs; omega
  have hne : ((n : Int) != (n : Int)) = false := by simp
  have HL := hide h
  have HG := hide g
  clear h g
  go_enter Try.func13, Try.ntmps13
  go_wp2_with fail
  go_loopw [5] (fun i wr => ∃ k : Nat, k ≤ n ∧ i = .int .i64 k ∧ Hid (Below w.heap.size w wr)) (fun i _ => n - (intOf i).toNat)
  case atStart => exact ⟨0, Nat.zero_le _, rfl, Below.refl _ _⟩
  case round =>
    obtain ⟨k, hk, rfl, hbw⟩ := hrel
    clear hne
    by_cases hlt : k < n
    · obtain ⟨b, off, a0, n0, c0, rfl, hb, hc0, m0, r0⟩ := (HL.out.below hbw.out).at hlt
      obtain ⟨b', off', a0', n0', c0', rfl, hb', hc0', m0', r0'⟩ := (HG.out.below hbw.out).at hlt
      have hl0 := len_le L k
      have hs' : n + sizeL L ≤ 1048576 := hs
      have q0 : n0 ≤ 1048576 := by have := r0.1; omega
      have HT := hide (fun q => eq_any a0 a0' n0 n0' c0 c0' _ _ (wr.drewN q) (r0.drewN q) (r0'.drewN q) q0)
      have hsm := sameB_self (L.getD k [])
      generalize L.getD k [] = x0 at *
      clear r0 hl0 q0 hs' r0' m0 m0'
      go_wp2_with fail
      go_region_with (go_at_call 23; refine (HT.out 1).mono ?_; rintro e w1 ⟨rfl, q, rfl⟩)
      all_goals
        have HB := hide (hbw.out.trans ((below_drewN' wr (1 + q)).mono hbw.out.size))
        clear HT
        go_wp2_with fail
        go_roundw
        case rel => exact ⟨k + 1, by omega, by go_num, HB⟩
        case measure => simp [intOf]; omega
    · have hk' : k = n := by omega
      subst hk'
      go_wp2_with fail
      go_ret
      exact ⟨rfl, hbw.out⟩

set_option maxHeartbeats 1000000 in
theorem markSF_any (B hi n c k0 : Nat) (T : TypeId) (M : Nat → List Int) (w : World) (h : PartF w B hi n T M) (hs : cntF M n ≤ 1048576) (hn : n ≤ 1048576) (hk0 : k0 ≤ 2097152) :
    Calls Try.prog 16 #[.slice (some ⟨B, 0, none⟩) n c, .int .i64 (k0 : Int)] w fun e w' => e = .returned (.int .i64 ((k0 + cntF M n : Nat) : Int)) ∧ PartF w' B hi n T (markedF k0 M n) ∧ Keeps (B + 1) hi w w' := by
  have HP := hide h
  clear h
  go_enter Try.func16, Try.ntmps16
  go_wp2_with fail
  go_loopw [1, 5] (fun t i wr => ∃ k t' : Nat, k ≤ n ∧ i = .int .i64 k ∧ t = .int .i64 (t' : Int) ∧ Hid (t' = k0 + cntF M k) ∧ Hid (PartF wr B hi n T (markedF k0 M k)) ∧ Hid (Keeps (B + 1) hi w wr)) (fun _ i _ => n - (intOf i).toNat)
  case atStart => exact ⟨0, k0, Nat.zero_le _, rfl, rfl, rfl, by have := HP.out; exact (show markedF k0 M 0 = M from by funext j; unfold markedF; rw [if_neg (by omega)]) ▸ this, Keeps.refl _ _ _⟩
  case round =>
    obtain ⟨k, t0, hk, rfl, rfl, ht0, hp, hkp⟩ := hrel
    clear HP
    by_cases hlt : k < n
    rotate_left
    · have hk' : k = n := by omega
      subst hk'
      have HT := hide ht0.out.symm
      go_wp2_with fail
      go_ret
      exact ⟨by rw [HT.out]; rfl, hp.out, hkp.out⟩
    have HQ := hide (And.intro (cntF_mono (M := M) (show k + 1 ≤ n by omega)) (show cntF M (k + 1) = cntF M k + (M k).length from rfl))
    obtain ⟨b0, l0, hl0, hc0, hb0, st0⟩ := mark_step hp.out hlt k rfl
    have HM0 := hide (mark_any _ b0 _ l0 t0 _ wr hb0.out (by have := HQ.out; have := hl0.out; omega) (by have := HQ.out; have := ht0.out; omega))
    go_wp2_with fail
    refine HM0.out.mono ?_
    rintro e w1 ⟨rfl, hbk, ho⟩
    rw [ht0.out] at hbk
    obtain ⟨p1, kp1⟩ := st0.out w1 hbk ho
    have HP1 := hide p1
    have HK1 := hide (hkp.out.trans kp1)
    obtain ⟨t1, ht1⟩ : ∃ t, Hid (t0 + l0 = t) := ⟨_, rfl⟩
    rw [ht1.out]
    have HT1 : Hid (t1 = k0 + cntF M (k + 1)) := by show _ = _; have := HQ.out; have := hl0.out; have := ht0.out; have := ht1.out; omega
    clear st0 HM0 hc0 hbk ho p1 kp1 hp hkp hb0
    go_wp2_with fail
    go_roundw
    case rel => exact ⟨k + 1, t1, by omega, by go_num, rfl, HT1, HP1, HK1⟩
    case measure => simp [intOf]; omega

/-- Lists that were made: none, or behind a block that leads to them. -/
def NetF (w : World) (a : Option Addr) (B hi n : Nat) (M : Nat → List Int) : Prop := n = 0 ∨ (a = some ⟨B, 0, none⟩ ∧ PartF w B hi n 40 M)

set_option maxHeartbeats 400000 in
theorem markSS_any (a : Option Addr) (B hi n c k0 : Nat) (M : Nat → List Int) (w : World) (h : NetF w a B hi n M) (hs : cntF M n ≤ 1048576) (hn : n ≤ 1048576) (hk0 : k0 ≤ 2097152) :
    Calls Try.prog 16 #[.slice a n c, .int .i64 (k0 : Int)] w fun e w' => e = .returned (.int .i64 ((k0 + cntF M n : Nat) : Int)) ∧ NetF w' a B hi n (markedF k0 M n) ∧ Keeps (B + 1) hi w w' := by
  rcases h with h0 | ⟨rfl, hp⟩
  · subst h0
    go_enter Try.func16, Try.ntmps16
    go_wp2_with fail
    go_loop [1, 5] (fun t i => i = .int .i64 0 ∧ t = .int .i64 (k0 : Int)) (fun _ _ => 0)
    case atStart => exact ⟨rfl, rfl⟩
    case round =>
      obtain ⟨rfl, rfl⟩ := hrel
      go_wp2_with fail
      go_ret
      exact ⟨rfl, .inl rfl, Keeps.refl _ _ _⟩
  · refine (markSF_any B hi n c k0 _ M w hp hs hn hk0).mono fun e w' ⟨q1, q2, q3⟩ => ⟨q1, .inr ⟨rfl, q2⟩, q3⟩

theorem NetF.seq1 {w : World} {a : Option Addr} {B hi n k0 : Nat} {M : Nat → List Int} (h : NetF w a B hi n (markedF k0 M n)) {k : Nat} (hk : k < n) :
    ∃ b l, a = some ⟨B, 0, none⟩ ∧ w.cell? ⟨B, k, none⟩ = some (.slice (some ⟨b, 0, none⟩) l l) ∧ Hid ((M k).length = l) ∧ Hid (Row w (some ⟨b, 0, none⟩) l (seqL (k0 + cntF M k) l)) := by
  rcases h with h0 | ⟨rfl, hp⟩
  · omega
  · obtain ⟨b, h1, h2, h3, h4, _⟩ := hp.one hk
    have hm : markedF k0 M n k = seqL (k0 + cntF M k) (M k).length := by unfold markedF; rw [if_pos hk]
    rw [hm, seqL_len] at h1 h4
    exact ⟨b, _, rfl, h1, rfl, h4.row⟩

set_option maxHeartbeats 400000 in
theorem heldSS_any (a : Option Addr) (B hi n c k0 : Nat) (M : Nat → List Int) (w : World) (h : NetF w a B hi n (markedF k0 M n)) (hs : cntF M n ≤ 1048576) (hn : n ≤ 1048576) (hk0 : k0 ≤ 2097152) :
    Calls Try.prog 17 #[.slice a n c, .int .i64 (k0 : Int)] w fun e w' => e = .returned (.int .i64 ((k0 + cntF M n : Nat) : Int)) ∧ w' = w := by
  have HP := hide h
  clear h
  go_enter Try.func17, Try.ntmps17
  go_wp2_with fail
  go_loop [1, 5] (fun t i => ∃ k t' : Nat, k ≤ n ∧ i = .int .i64 k ∧ t = .int .i64 (t' : Int) ∧ Hid (t' = k0 + cntF M k)) (fun _ i => n - (intOf i).toNat)
  case atStart => exact ⟨0, k0, Nat.zero_le _, rfl, rfl, rfl⟩
  case round =>
    obtain ⟨k, t0, hk, rfl, rfl, ht0⟩ := hrel
    by_cases hlt : k < n
    rotate_left
    · have hk' : k = n := by omega
      subst hk'
      have HT := hide ht0.out.symm
      go_wp2_with fail
      go_ret
      exact ⟨ret_int (by have := HT.out; omega), rfl⟩
    have HQ := hide (And.intro (cntF_mono (M := M) (show k + 1 ≤ n by omega)) (show cntF M (k + 1) = cntF M k + (M k).length from rfl))
    obtain ⟨b, l, rfl, hc0, hl, r0⟩ := HP.out.seq1 hlt
    have r0' := r0.out
    rw [← ht0.out] at r0'
    have HM0 := hide (held_any _ _ l t0 w r0' (by have := HQ.out; have := hl.out; omega) (by have := HQ.out; have := ht0.out; omega))
    obtain ⟨t1, ht1⟩ : ∃ t, Hid (t0 + l = t) := ⟨_, rfl⟩
    have HT1 : Hid (t1 = k0 + cntF M (k + 1)) := by show _ = _; have := HQ.out; have := hl.out; have := ht0.out; have := ht1.out; omega
    rw [ht1.out] at HM0
    have hp1 : (0 : Int) ≤ (t1 : Int) := by omega
    clear hl r0 r0' HQ
    go_wp2_with fail
    refine HM0.out.mono ?_
    rintro e w' ⟨rfl, rfl⟩
    go_wp2_with fail
    go_round
    case rel => exact ⟨k + 1, t1, by omega, by go_num, rfl, HT1⟩
    case measure => simp [intOf]; omega
end Go.Proofs.Ytmhgdhkpceggkaa


/- listsOfSets and SmallInvariants of the program; lists that append has made, behind a block that leads to them: marked, held. -/
namespace Go.Proofs.Ytmhgdhkpceggkaa
open Go.RowKit
set_option maxRecDepth 10000

/-- The lists below k, behind them none. -/
def fillK (K : List (List Int)) (k j : Nat) : List Int := if j < k then K.getD j [] else []

theorem fillK_all (K : List (List Int)) {n : Nat} (h : K.length = n) : fillK K n = fun j => K.getD j [] := by
  funext j
  unfold fillK
  by_cases hj : j < n
  · rw [if_pos hj]
  · rw [if_neg hj, List.getD_eq_getElem?_getD, List.getElem?_eq_none (by omega)]; rfl

theorem partG_madeK (W : World) (lo hi n : Nat) (K : List (List Int)) (T : TypeId) : PartG (W.alloc (.cells (madeCells #[.slice none 0 0] n) T)) W.heap.size lo hi n T (fillK K 0) := by
  refine ⟨_, fun _ => none, fun _ => 0, fun _ => 0, heap_alloc_new _ _, by rw [size_madeCells]; omega, fun j hj => ?_, fun i j _ _ hm => absurd rfl hm⟩
  refine ⟨?_, ⟨rfl, .inl rfl⟩, fun hm => absurd rfl hm⟩
  unfold madeCells fillK
  simp [hj, Nat.mod_one]

theorem PartG.roomK {w : World} {B lo hi hi' n : Nat} {T : TypeId} {M : Nat → List Int} (h : PartG w B lo hi n T M) (hh : hi ≤ hi') : PartG w B lo hi' n T M := by
  obtain ⟨C, A, f, cap, h1, h2, h3, h4⟩ := h
  refine ⟨C, A, f, cap, h1, h2, fun j hj => ?_, h4⟩
  obtain ⟨e1, e2, e3⟩ := h3 j hj
  exact ⟨e1, e2, fun hm => ⟨(e3 hm).1, by have := (e3 hm).2.1; omega, (e3 hm).2.2⟩⟩

theorem Ob.farK {w : World} {a : Option Addr} {b n B o : Nat} {u : Value} {xs : List Int} (h : Ob w a b n xs) (hb : xs ≠ [] → b ≠ B) : Ob (w.setCell ⟨B, o, none⟩ u) a b n xs := by
  by_cases hx : xs = []
  · subst hx; exact ⟨h.1, .inl (by rw [← h.1]; rfl)⟩
  · refine ⟨h.1, ?_⟩
    rcases h.2 with h0 | ⟨e, cur, h1, h2⟩
    · exact .inl h0
    · exact .inr ⟨e, cur, (heap_setCell_other _ _ _ _ (show b ≠ B from hb hx)).trans h1, h2⟩

theorem PartG.put1 {w : World} {B lo hi hi' n k b1 m1 c1 : Nat} {T : TypeId} {K : List (List Int)} {a1 : Option Addr} {X : List Int} (h : PartG w B lo hi n T (fillK K k)) (hk : k < n)
    (o1 : Ob w a1 b1 m1 X) (e1 : X = K.getD k []) (hlo : lo ≤ hi) (hB : B < hi) (g1 : hi ≤ b1) (g1' : X ≠ [] → b1 < hi') (hh : hi ≤ hi') :
    PartG (w.setCell ⟨B, k, none⟩ (.slice a1 m1 c1)) B lo hi' n T (fillK K (k + 1)) := by
  obtain ⟨C, A, f, cap, h1, h2, h3, h4⟩ := h
  have hl1 := o1.1
  have hold : ∀ j, j ≠ k → fillK K (k + 1) j = fillK K k j := fun j hj => by
    unfold fillK
    by_cases h : j < k
    · rw [if_pos h, if_pos (by omega)]
    · rw [if_neg h, if_neg (by omega)]
  have hnew : fillK K (k + 1) k = X := by unfold fillK; rw [if_pos (by omega), e1]
  refine ⟨_, fun j => if j = k then a1 else A j, fun j => if j = k then b1 else f j, fun j => if j = k then c1 else cap j, heap_setCell_same w B k C T _ h1, by simpa using h2, fun j hj => ?_, fun i j hij hj hi0 hj0 => ?_⟩
  · by_cases jk : j = k
    · subst jk
      simp only [if_true]
      rw [hnew, hl1]
      refine ⟨?_, o1.farK (fun _ => by omega), fun hx => ⟨by omega, g1' hx, by omega⟩⟩
      rw [Array.getElem?_setIfInBounds, if_pos rfl, if_pos (by omega)]
    · simp only [if_neg jk]
      obtain ⟨q1, q2, q3⟩ := h3 j hj
      rw [hold j jk]
      refine ⟨?_, q2.farK (fun hx => (q3 hx).2.2), fun hx => ⟨(q3 hx).1, by have := (q3 hx).2.1; omega, (q3 hx).2.2⟩⟩
      rw [Array.getElem?_setIfInBounds_ne (by omega)]
      exact q1
  · by_cases jk : j = k
    · subst jk
      simp only [if_neg (show i ≠ j by omega), if_true]
      rw [hold i (by omega)] at hi0
      have := (h3 i (by omega)).2.2 hi0
      omega
    · have hjk : j < k := by
        rcases Nat.lt_or_ge j k with h | h
        · exact h
        · exfalso; exact hj0 (by unfold fillK; rw [if_neg (by omega)])
      simp only [if_neg jk, if_neg (show i ≠ k by omega)]
      rw [hold i (by omega)] at hi0
      rw [hold j jk] at hj0
      exact h4 i j hij hj hi0 hj0

set_option maxHeartbeats 4000000 in
theorem listsOfSets_any (B0 m c : Nat) (a : Option Addr) (l : List Nat) (w : World) (h : w.ownsRow B0 65 1 (.slice a m c) m (encS l)) (hl : ∀ s ∈ l, s < 2 ^ 16) (hm : m ≤ 1024) :
    Calls Try.prog 38 #[.slice a m c] w fun e w' => ∃ B, e = .returned (.slice (some ⟨B, 0, none⟩) m m) ∧ PartG w' B w.heap.size w'.heap.size m 40 (fun j => (listsN l).getD j []) ∧ w.heap.size ≤ B ∧ Below w.heap.size w w' := by
  have hmk := run_make_many (P := Try.prog) 26 40 (.slice none 0 0) 1 24 Try.und26k Try.info40k .i64 .i64 m (by omega) (by omega)
  simp only [Value.cells, Nat.mul_one] at hmk
  have HO := hide h
  have HL := hide hl
  have hlen : l.length = m := by have := h.1; rw [encS_len] at this; omega
  clear h hl
  go_enter Try.func38, Try.ntmps38
  go_wp2_with fail
  have HP := hide (partG_madeK w w.heap.size (w.heap.size + 1) m (listsN l) 40)
  have HW := hide (below_al w (.cells (madeCells #[.slice none 0 0] m) 40))
  have hvs : Hid ((w.alloc (.cells (madeCells #[.slice none 0 0] m) 40)).heap.size = w.heap.size + 1) := by show _ = _; simp
  generalize w.alloc (.cells (madeCells #[.slice none 0 0] m) 40) = v at *
  rw [← hvs.out] at HP
  obtain ⟨g, hg⟩ : ∃ g, Hid (w.heap.size = g) := ⟨_, rfl⟩
  have HP1 : Hid (PartG v g w.heap.size v.heap.size m 40 (fillK (listsN l) 0)) := by rw [← hg.out]; exact HP.out
  rw [hg.out]
  have hgw : w.heap.size ≤ g := by rw [hg.out]; exact Nat.le_refl _
  clear hmk HP hvs hg
  go_loopw [11] (fun i wr => ∃ k : Nat, k ≤ m ∧ i = .int .i64 k ∧ Hid (PartG wr g w.heap.size wr.heap.size m 40 (fillK (listsN l) k)) ∧ Hid (Below w.heap.size w wr)) (fun i _ => m - (intOf i).toNat)
  case atStart => exact ⟨0, Nat.zero_le _, rfl, HP1, HW⟩
  case round =>
    obtain ⟨k, hk, rfl, hp, hbw⟩ := hrel
    clear HP1 HW
    by_cases hkm : k < m
    rotate_left
    · have hk' : m = k := by omega
      subst hk'
      have HE : Hid (PartG wr g w.heap.size wr.heap.size m 40 (fun j => (listsN l).getD j [])) := by
        have := hp.out
        rw [fillK_all _ (by rw [listsN_len]; exact hlen)] at this
        exact this
      clear hp
      go_wp2_with fail
      go_ret
      exact ⟨g, rfl, HE.out, hgw, hbw.out⟩
    obtain ⟨g5, c5, ev, hgl, hcg, hlk⟩ := setSet_at (own_growK HO.out hbw.out) hkm
    injection ev with e1 _ e3
    subst e1 e3
    have hsl := HL.out _ (List.mem_of_getElem? hlk)
    have HKD : Hid ((listsN l).getD k [] = nums2 (l.getD k 0).testBit 16) := by
      show _ = _
      unfold listsN
      rw [List.getD_eq_getElem?_getD, List.getElem?_map, hlk]; rfl
    obtain ⟨s, hs⟩ : ∃ s, Hid (l.getD k 0 = s) := ⟨_, rfl⟩
    rw [hs.out] at hcg hsl HKD
    clear hlk hs
    go_wp2_with fail
    refine (setList_any s wr hsl).mono ?_
    rintro e w1 ⟨a1, b1, m1, c1, rfl, hb1, ho1, hb⟩
    have HB1 := hide (hbw.out.trans (hb.mono hbw.out.size))
    have HP2 := hp.out.grow hb
    have hgl2 : g < wr.heap.size := by obtain ⟨C, A, f, cap, q1, _⟩ := hp.out; exact (Array.getElem?_eq_some_iff.mp q1).1
    have hgl3 : g < w1.heap.size := by have := hb.size; omega
    have hbl : nums2 s.testBit 16 ≠ [] → b1 < w1.heap.size := fun hne => by
      rcases ho1.2 with h0 | ⟨_, cur, hh, _⟩
      · have := ho1.1; rw [h0] at this; exact absurd (List.length_eq_zero_iff.mp this) hne
      · exact (Array.getElem?_eq_some_iff.mp hh).1
    obtain ⟨y, hcy, hfr⟩ : ∃ y, w1.cell? ⟨g, k, none⟩ = some y ∧ w1.frozen? ⟨g, k, none⟩ = false := by
      obtain ⟨C, A, f, cap, q1, q2, q3, _⟩ := HP2
      exact ⟨_, by rw [cell_of_row w1 g k C _ _ q1]; exact (q3 k hkm).1, frozen_of_row w1 g k C _ q1⟩
    have HN := hide (HP2.put1 (c1 := c1) hkm ho1 HKD.out.symm (by have := hbw.out.size; omega) hgl2 hb1 hbl hb.size)
    have HBN := hide (HB1.out.setCell (p := ⟨g, k, none⟩) hgw (.slice a1 m1 c1))
    have HSZ : Hid ((w1.setCell ⟨g, k, none⟩ (.slice a1 m1 c1)).heap.size = w1.heap.size) := by show _ = _; simp [World.setCell]
    rw [← HSZ.out] at HN
    clear hb HP2 ho1 hb1 hp hbw hbl HB1 hcg hgl HKD
    go_wp2_with fail
    go_roundw
    case rel => exact ⟨k + 1, by omega, by go_num, HN, HBN⟩
    case measure => simp [intOf]; omega


set_option maxHeartbeats 1000000 in
theorem markSG_any (B lo hi n c k0 : Nat) (T : TypeId) (M : Nat → List Int) (w : World) (h : PartG w B lo hi n T M) (hs : cntF M n ≤ 1048576) (hn : n ≤ 1048576) (hk0 : k0 ≤ 2097152) :
    Calls Try.prog 16 #[.slice (some ⟨B, 0, none⟩) n c, .int .i64 (k0 : Int)] w fun e w' => e = .returned (.int .i64 ((k0 + cntF M n : Nat) : Int)) ∧ PartG w' B lo hi n T (markedF k0 M n) ∧ Keeps lo hi w w' := by
  have HP := hide h
  clear h
  go_enter Try.func16, Try.ntmps16
  go_wp2_with fail
  go_loopw [1, 5] (fun t i wr => ∃ k t' : Nat, k ≤ n ∧ i = .int .i64 k ∧ t = .int .i64 (t' : Int) ∧ Hid (t' = k0 + cntF M k) ∧ Hid (PartG wr B lo hi n T (markedF k0 M k)) ∧ Hid (Keeps lo hi w wr)) (fun _ i _ => n - (intOf i).toNat)
  case atStart => exact ⟨0, k0, Nat.zero_le _, rfl, rfl, rfl, by have := HP.out; exact (show markedF k0 M 0 = M from by funext j; unfold markedF; rw [if_neg (by omega)]) ▸ this, Keeps.refl _ _ _⟩
  case round =>
    obtain ⟨k, t0, hk, rfl, rfl, ht0, hp, hkp⟩ := hrel
    clear HP
    by_cases hlt : k < n
    rotate_left
    · have hk' : k = n := by omega
      subst hk'
      have HT := hide ht0.out.symm
      go_wp2_with fail
      go_ret
      exact ⟨by rw [HT.out]; rfl, hp.out, hkp.out⟩
    have HQ := hide (And.intro (cntF_mono (M := M) (show k + 1 ≤ n by omega)) (show cntF M (k + 1) = cntF M k + (M k).length from rfl))
    obtain ⟨a0, l0, cp0, hl0, hc0, HM0⟩ := hp.out.one hlt t0 (by rw [markedF_at]; have := HQ.out; omega) (by have := HQ.out; have := ht0.out; omega) k rfl
    rw [markedF_at] at hl0
    have hBl := World.block_lt_of_cell? _ _ hc0
    go_wp2_with fail
    refine HM0.out.mono ?_
    rintro e w1 ⟨rfl, p1, kp1, hB1⟩
    rw [ht0.out, ← hl0.out, markedF_step] at p1
    have HP1 := hide p1
    have HK1 := hide (hkp.out.trans kp1)
    obtain ⟨t1, ht1⟩ : ∃ t, Hid (t0 + l0 = t) := ⟨_, rfl⟩
    rw [ht1.out]
    have HT1 : Hid (t1 = k0 + cntF M (k + 1)) := by show _ = _; have := HQ.out; have := hl0.out; have := ht0.out; have := ht1.out; omega
    clear HM0 hc0 p1 kp1 hp hkp hB1 hBl
    go_wp2_with fail
    go_roundw
    case rel => exact ⟨k + 1, t1, by omega, by go_num, rfl, HT1, HP1, HK1⟩
    case measure => simp [intOf]; omega

theorem PartG.seqK {w : World} {B lo hi n k0 : Nat} {T : TypeId} {M : Nat → List Int} (h : PartG w B lo hi n T (markedF k0 M n)) {k : Nat} (hk : k < n) :
    ∃ a l cp, w.cell? ⟨B, k, none⟩ = some (.slice a l cp) ∧ Hid ((M k).length = l) ∧ Hid (Row w a l (seqL (k0 + cntF M k) l)) := by
  obtain ⟨C, A, f, cap, h1, h2, h3, h4⟩ := h
  obtain ⟨e1, e2, e3⟩ := h3 k hk
  have hm : markedF k0 M n k = seqL (k0 + cntF M k) (M k).length := by unfold markedF; rw [if_pos hk]
  rw [hm, seqL_len] at e1 e2
  exact ⟨_, _, _, by rw [cell_of_row w B k C T _ h1]; exact e1, rfl, e2.row⟩

set_option maxHeartbeats 1000000 in
theorem heldSG_any (B lo hi n c k0 : Nat) (T : TypeId) (M : Nat → List Int) (w : World) (h : PartG w B lo hi n T (markedF k0 M n)) (hs : cntF M n ≤ 1048576) (hn : n ≤ 1048576) (hk0 : k0 ≤ 2097152) :
    Calls Try.prog 17 #[.slice (some ⟨B, 0, none⟩) n c, .int .i64 (k0 : Int)] w fun e w' => e = .returned (.int .i64 ((k0 + cntF M n : Nat) : Int)) ∧ w' = w := by
  have HP := hide h
  clear h
  go_enter Try.func17, Try.ntmps17
  go_wp2_with fail
  go_loop [1, 5] (fun t i => ∃ k t' : Nat, k ≤ n ∧ i = .int .i64 k ∧ t = .int .i64 (t' : Int) ∧ Hid (t' = k0 + cntF M k)) (fun _ i => n - (intOf i).toNat)
  case atStart => exact ⟨0, k0, Nat.zero_le _, rfl, rfl, rfl⟩
  case round =>
    obtain ⟨k, t0, hk, rfl, rfl, ht0⟩ := hrel
    by_cases hlt : k < n
    rotate_left
    · have hk' : k = n := by omega
      subst hk'
      have HT := hide ht0.out.symm
      go_wp2_with fail
      go_ret
      exact ⟨ret_int (by have := HT.out; omega), rfl⟩
    have HQ := hide (And.intro (cntF_mono (M := M) (show k + 1 ≤ n by omega)) (show cntF M (k + 1) = cntF M k + (M k).length from rfl))
    obtain ⟨a, l, cp, hc0, hl, r0⟩ := HP.out.seqK hlt
    have hBl := World.block_lt_of_cell? _ _ hc0
    have r0' := r0.out
    rw [← ht0.out] at r0'
    have HM0 := hide (held_any _ _ cp t0 w r0' (by have := HQ.out; have := hl.out; omega) (by have := HQ.out; have := ht0.out; omega))
    obtain ⟨t1, ht1⟩ : ∃ t, Hid (t0 + l = t) := ⟨_, rfl⟩
    have HT1 : Hid (t1 = k0 + cntF M (k + 1)) := by show _ = _; have := HQ.out; have := hl.out; have := ht0.out; have := ht1.out; omega
    rw [ht1.out] at HM0
    have hp1 : (0 : Int) ≤ (t1 : Int) := by omega
    clear hl r0 r0' HQ
    go_wp2_with fail
    refine HM0.out.mono ?_
    rintro e w' ⟨rfl, rfl⟩
    clear HM0 hc0 hBl
    go_wp2_with fail
    go_round
    case rel => exact ⟨k + 1, t1, by omega, by go_num, rfl, HT1⟩
    case measure => simp [intOf]; omega
end Go.Proofs.Ytmhgdhkpceggkaa


/- SmallInvariants of the program. -/
namespace Go.Proofs.Ytmhgdhkpceggkaa
open Go.RowKit
set_option maxRecDepth 10000

/-- How the program's SmallInvariants ends. -/
def SimEnd (p : Int) (n : Nat) (L : List (List Int)) (w : World) (e : Ending) (w' : World) : Prop :=
  ∃ B m lo, e = .returned (.tuple #[.slice (some ⟨B, 0, none⟩) m m, .bool (siOk p n L)]) ∧ m = (siN p n L).length ∧ PartG w' B lo w'.heap.size m 40 (fun j => (listsN (siN p n L)).getD j []) ∧ w.heap.size ≤ B ∧ w.heap.size ≤ lo ∧ lo ≤ w'.heap.size ∧ Below w.heap.size w w'

set_option maxHeartbeats 400000 in
theorem smallI_any (p : Int) (a : Option Addr) (n c : Nat) (L : List (List Int)) (w : World) (h : Lists w a (3 * n) L) (hs : sizeN n L ≤ 1048576) :
    Calls Try.prog 12 #[.agg #[.int .i64 p, .slice a n c]] w fun e w' => SimEnd p n L w e w' := by
  have hAl := below_al w (.cells #[.int .i64 p, .slice a n c] 31)
  have HT := hide (smallInvI_any p a n c L _ (h.below hAl) hs)
  have HB0 := hide hAl
  clear h hAl
  go_enter Try.func12, Try.ntmps12
  go_wp2_with fail
  refine HT.out.mono ?_
  rintro e w1 ⟨v, m, p', a', m', c', rfl, hown, hpe, hb⟩
  rw [soN_si] at hown
  have HB1 := hide (HB0.out.trans (hb.mono HB0.out.size))
  have hA1 := below_al w1 (.cells #[.int .i64 p', .slice a' m' c'] 55)
  have HB2 := hide (HB1.out.trans (hA1.mono HB1.out.size))
  have HO2 := hide (own_growK hown hA1)
  obtain ⟨l, hl⟩ : ∃ l, Hid (siN p n L = l) := ⟨_, rfl⟩
  have hml : m = l.length := by have := hown.1; rw [encS_len, hl.out] at this; omega
  have hm : m ≤ 1024 := by rw [hml, ← hl.out]; exact siN_len _ _ _
  have HLT := hide (show ∀ s ∈ l, s < 2 ^ 16 from fun s hs => by rw [← hl.out] at hs; have := (siN_mem hs).2.1; omega)
  rw [hl.out] at HO2
  obtain ⟨av, cv, rfl⟩ := own_slice HO2.out
  obtain ⟨ok, hok⟩ : ∃ ok, Hid (siOk p n L = ok) := ⟨_, rfl⟩
  rw [hok.out]
  have HML := hide hml
  clear hb hown hA1 HT HB1 HB0 hpe hml
  go_wp2_with fail
  refine (listsOfSets_any _ m cv av l _ HO2.out HLT.out hm).mono ?_
  rintro e w3 ⟨B, rfl, hp, hB, hb⟩
  have HE : Hid (SimEnd p n L w (.returned (.tuple #[.slice (some ⟨B, 0, none⟩) m m, .bool ok])) w3) := by
    refine ⟨B, m, _, by rw [hok.out], by rw [hl.out]; exact HML.out, by rw [hl.out]; exact hp, by have := HB2.out.size; omega, HB2.out.size, hb.size, HB2.out.trans (hb.mono HB2.out.size)⟩
  clear hp hB hb HO2 HLT HB2 hl HML
  go_wp2_with fail
  go_ret2
  exact HE.out
end Go.Proofs.Ytmhgdhkpceggkaa


/- SmallInvariants of both, told alike; what the law keeps in mind. -/
namespace Go.Proofs.Ytmhgdhkpceggkaa
open Go.RowKit
set_option maxRecDepth 10000

theorem sizeL_leK {R : List (List Int)} (h : ∀ x ∈ R, x.length ≤ 16) : sizeL R ≤ 16 * R.length := by
  induction R with
  | nil => simp [sizeL]
  | cons a R ih =>
    have h1 := h a (by simp)
    have h2 := ih fun x hx => h x (List.mem_cons_of_mem _ hx)
    simp only [sizeL, List.map_cons, List.sum_cons, List.length_cons] at *
    omega

theorem cntF_sizeK (L : List (List Int)) (k : Nat) (h : k ≤ L.length) : cntF (fun j => L.getD j []) k = sizeL (L.take k) := by
  induction k with
  | zero => simp [cntF, sizeL]
  | succ k ih => simp only [cntF]; rw [ih (by omega), sizeL_take_succ L k (by omega)]

theorem cntF_allK {L : List (List Int)} {n : Nat} (hl : L.length = n) : cntF (fun j => L.getD j []) n = sizeL L := by
  rw [cntF_sizeK L n (by omega), List.take_of_length_le (by omega)]

theorem PartG.listsK {w : World} {B lo hi n : Nat} {T : TypeId} {K : List (List Int)} (h : PartG w B lo hi n T (fun j => K.getD j [])) (hl : K.length = n) (hs : sizeN n K ≤ 1048576) : Lists w (some ⟨B, 0, none⟩) n K := by
  obtain ⟨C, A, f, cap, h1, h2, h3, h4⟩ := h
  refine ⟨hl, .inr ⟨B, 0, rfl, (Array.getElem?_eq_some_iff.mp h1).1, fun j hj => ?_⟩⟩
  obtain ⟨e1, e2, e3⟩ := h3 j hj
  refine ⟨_, _, _, by rw [cell_of_row w B (0 + j) C T _ h1, Nat.zero_add]; exact e1, ?_, e2.row⟩
  have := len_le K j
  show (K.getD j []).length ≤ maxLen
  unfold sizeN at hs; unfold maxLen; omega

theorem sm_pack (p : Int) (n : Nat) (L : List (List Int)) (hs : sizeN n L ≤ 1048576) : ∃ (g : Bool) (N : Nat) (K : List (List Int)), Hid (K.length = N ∧ sizeN N K ≤ 1048576 ∧ cntF (fun j => K.getD j []) N ≤ 1048576) ∧ N ≤ 1048576 ∧
    Hid (∀ (a : Option Addr) (c : Nat) (w : World), Lists w a (3 * n) L → Calls Try.prog 10 #[.agg #[.int .i64 p, .slice a n c]] w fun e w' => ∃ a c, e = .returned (.tuple #[.slice a N c, .bool g]) ∧ Lists w' a N K ∧ Below w.heap.size w w') ∧
    Hid (∀ (a : Option Addr) (c : Nat) (w : World), Lists w a (3 * n) L → Calls Try.prog 12 #[.agg #[.int .i64 p, .slice a n c]] w fun e w' => ∃ B lo, e = .returned (.tuple #[.slice (some ⟨B, 0, none⟩) N N, .bool g]) ∧ PartG w' B lo w'.heap.size N 40 (fun j => K.getD j []) ∧ w.heap.size ≤ B ∧ w.heap.size ≤ lo ∧ lo ≤ w'.heap.size ∧ Below w.heap.size w w') := by
  have h16 : ∀ x ∈ listsN (siN p n L), x.length ≤ 16 := fun x hx => by
    obtain ⟨s, _, rfl⟩ := List.mem_map.mp hx
    exact nums2_len _ _
  have hN := siN_len p n L
  have hz := sizeL_leK h16
  rw [listsN_len] at hz
  refine ⟨siOk p n L, (siN p n L).length, listsN (siN p n L), ⟨listsN_len _, by unfold sizeN; omega, by rw [cntF_allK (listsN_len _)]; omega⟩, by omega, fun a c w hl => ?_, fun a c w hl => ?_⟩
  · refine (smallInvS_any p a n c L w hl hs).mono ?_
    rintro e w' ⟨v, rfl, hlr, hb⟩
    obtain ⟨a', c', rfl, h2⟩ := hlr.lists (listsN_at _)
    rw [listsN_len] at h2
    exact ⟨a', c', by rw [listsN_len], h2, hb⟩
  · refine (smallI_any p a n c L w hl hs).mono ?_
    rintro e w' ⟨B, m, lo, rfl, rfl, hp, h1, h2, h3, hb⟩
    exact ⟨B, lo, rfl, hp, h1, h2, h3, hb⟩

theorem Keeps.atTopK {lo hi : Nat} {w w' : World} (h : Keeps lo hi w w') {b : Nat} {o : Obj} (hb : w.heap[b]? = some o) (hh : hi ≤ b) : w'.heap[b]? = some o := (h.top b hh (Array.getElem?_eq_some_iff.mp hb).1).trans hb
theorem Keeps.atLowK {lo hi : Nat} {w w' : World} (h : Keeps lo hi w w') {b : Nat} {o : Obj} (hb : w.heap[b]? = some o) (hh : b < lo) : w'.heap[b]? = some o := (h.bel.block b hh).trans hb

theorem PartF.lowK {w w' : World} {B hi n lo : Nat} {T : TypeId} {M : Nat → List Int} (h : PartF w B hi n T M) (hb : Below lo w w') (hB : B < lo) (hh : hi ≤ lo) : PartF w' B hi n T M := by
  obtain ⟨C, f, h1, h2, h3, h4⟩ := h
  refine ⟨C, f, (hb.block B hB).trans h1, h2, fun j hj => ?_, h4⟩
  obtain ⟨e1, e2, e3, e4⟩ := h3 j hj
  refine ⟨e1, e2, e3, e4.1, ?_⟩
  rcases e4.2 with h0 | ⟨e, hh'⟩
  · exact .inl h0
  · exact .inr ⟨e, (hb.block _ (by omega)).trans hh'⟩

structure S7 (w u v : World) (p : Int) (a : Option Addr) (n c B hi bx : Nat) (M : Nat → List Int) (Bg lo hig N : Nat) (Mg : Nat → List Int) : Prop where
  old : Below w.heap.size w v
  mid : Below u.heap.size u v
  par : v.heap[w.heap.size]? = some (.cells #[.int .i64 p, .slice a n c] 24 (0, 0))
  x0 : v.heap[bx]? = some (.cells #[.int .i64 p, .slice (some ⟨B, 0, none⟩) n n] 31 (0, 0))
  net : PartF v B hi (3 * n) 74 M
  gn : PartG v Bg lo hig N 40 Mg

section
variable {w u v v' : World} {p : Int} {a : Option Addr} {n c B hi bx : Nat} {M M' : Nat → List Int} {Bg lo hig N : Nat} {Mg Mg' : Nat → List Int}

theorem S7.grow (h : S7 w u v p a n c B hi bx M Bg lo hig N Mg) (hb : Below v.heap.size v v') : S7 w u v' p a n c B hi bx M Bg lo hig N Mg :=
  ⟨h.old.trans (hb.mono h.old.size), h.mid.trans (hb.mono h.mid.size), keep h.par hb, keep h.x0 hb, h.net.grow hb, h.gn.grow hb⟩

theorem S7.markN (h : S7 w u v p a n c B hi bx M Bg lo hig N Mg) (hm : PartF v' B hi (3 * n) 74 M') (hk : Keeps (B + 1) hi v v') (h1 : w.heap.size ≤ B) (h2 : u.heap.size ≤ B) (hx : hi ≤ bx) (hl : hi ≤ lo) (hg : hi ≤ Bg) : S7 w u v' p a n c B hi bx M' Bg lo hig N Mg :=
  ⟨h.old.trans (hk.bel.mono (by omega)), h.mid.trans (hk.bel.mono (by omega)), hk.atLowK h.par (by omega), hk.atTopK h.x0 hx, hm, h.gn.keeps hk hl hg⟩

theorem S7.markG (h : S7 w u v p a n c B hi bx M Bg lo hig N Mg) (hm : PartG v' Bg lo hig N 40 Mg') (hk : Keeps lo hig v v') (h1 : w.heap.size < lo) (h2 : u.heap.size ≤ lo) (hx : bx < lo) (hB : B < lo) (hh : hi ≤ lo) : S7 w u v' p a n c B hi bx M Bg lo hig N Mg' :=
  ⟨h.old.trans (hk.bel.mono (by omega)), h.mid.trans (hk.bel.mono h2), hk.atLowK h.par h1, hk.atLowK h.x0 hx, h.net.lowK hk.bel hB hh, hm⟩
end
end Go.Proofs.Ytmhgdhkpceggkaa
