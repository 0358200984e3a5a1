/- Nets whose lists append has made: each list in a block of its own in which there may be more room, or empty; what markTransS and markNet write into one, and what heldTransS and heldNet answer. -/
import Derived.Test.YtnknhjiofpjbbaaOb
namespace Go.Proofs.Ytnknhjiofpjbbaa
open Go.RowKit

/-- Lists by their number, each that is not empty in a block of its own between lo and hi. -/
def PartG (w : World) (B lo hi n : Nat) (T : TypeId) (M : Nat → List Int) : Prop :=
  ∃ (C : Array Value) (A : Nat → Option Addr) (f cap : Nat → Nat), w.heap[B]? = some (.cells C T (0, 0)) ∧ n ≤ C.size ∧
    (∀ j, j < n → C[j]? = some (.slice (A j) (M j).length (cap j)) ∧ Ob w (A j) (f j) (M j).length (M j) ∧ (M j ≠ [] → lo ≤ f j ∧ f j < hi ∧ f j ≠ B)) ∧
    (∀ i j, i < j → j < n → M i ≠ [] → M j ≠ [] → f i ≠ f j)

theorem PartG.grow {w w' : World} {B lo hi n : Nat} {T : TypeId} {M : Nat → List Int} (h : PartG w B lo hi n T M) (hb : Below w.heap.size w w') : PartG w' B lo hi n T M := by
  obtain ⟨C, A, f, cap, h1, h2, h3, h4⟩ := h
  refine ⟨C, A, f, cap, (hb.block B (Array.getElem?_eq_some_iff.mp h1).1).trans h1, h2, fun j hj => ?_, h4⟩
  obtain ⟨e1, e2, e3⟩ := h3 j hj
  exact ⟨e1, e2.grow hb, e3⟩

theorem PartG.keeps {w w' : World} {B lo hi n lo' hi' : Nat} {T : TypeId} {M : Nat → List Int} (h : PartG w B lo hi n T M) (hk : Keeps lo' hi' w w') (h1 : hi' ≤ lo) (h2 : hi' ≤ B) : PartG w' B lo hi n T M := by
  obtain ⟨C, A, f, cap, q1, q2, q3, q4⟩ := h
  refine ⟨C, A, f, cap, (hk.top B h2 (Array.getElem?_eq_some_iff.mp q1).1).trans q1, q2, fun j hj => ?_, q4⟩
  obtain ⟨e1, e2, e3⟩ := q3 j hj
  refine ⟨e1, ?_, e3⟩
  by_cases he : M j = []
  · rw [he]; exact ⟨rfl, .inl rfl⟩
  · exact e2.keeps hk (by have := (e3 he).1; omega)

/-- The list j is marked. -/
theorem PartG.one {w : World} {B lo hi n : Nat} {T : TypeId} {M : Nat → List Int} (h : PartG w B lo hi n T M) {j : Nat} (hj : j < n) (k0 : Nat) (hl : (M j).length ≤ 1048576) (hk0 : k0 ≤ 4194304) (o : Nat) (ho : o = j) :
    ∃ a ln cp, Hid ((M j).length = ln) ∧ w.cell? ⟨B, o, none⟩ = some (.slice a ln cp) ∧ Hid (Calls Try.prog 21 #[.slice a ln cp, .int .i64 (k0 : Int)] w fun e w' => e = .returned (.int .i64 ((k0 + ln : Nat) : Int)) ∧ PartG w' B lo hi n T (updF M j (seqL k0 ln)) ∧ Keeps lo hi w w' ∧ w'.heap[B]? = w.heap[B]?) := by
  subst ho
  obtain ⟨C, A, f, cap, h1, h2, h3, h4⟩ := h
  obtain ⟨e1, e2, e3⟩ := h3 o hj
  refine ⟨A o, _, cap o, rfl, by rw [cell_of_row w B o C T _ h1]; exact e1, ?_⟩
  by_cases he : M o = []
  · -- nothing is written
    have hob : Ob w (A o) w.heap.size (M o).length (M o) := ⟨rfl, .inl (by rw [he]; rfl)⟩
    refine (markO_any (A o) w.heap.size _ (cap o) k0 (M o) w hob hl hk0).mono fun e w' ⟨q1, q2, q3⟩ => ⟨q1, ?_, ?_, ?_⟩
    · have hB := (Array.getElem?_eq_some_iff.mp h1).1
      refine ⟨C, A, f, cap, (q3.block B (by omega)).trans h1, h2, fun i hi => ?_, fun i i' hii hi' hm hm' => ?_⟩
      · obtain ⟨p1, p2, p3⟩ := h3 i hi
        unfold updF
        by_cases hio : i = o
        · subst hio
          rw [if_pos rfl, he]
          refine ⟨by rw [he] at p1; exact p1, ⟨rfl, .inl rfl⟩, fun hc => absurd rfl hc⟩
        · rw [if_neg hio]
          refine ⟨p1, ?_, p3⟩
          by_cases hmi : M i = []
          · rw [hmi]; exact ⟨rfl, .inl rfl⟩
          · rcases p2.2 with h0 | ⟨_, cur, hh, _⟩
            · exact absurd (List.length_eq_zero_iff.mp h0) hmi
            · have := (Array.getElem?_eq_some_iff.mp hh).1
              exact p2.only q3 (by omega)
      · unfold updF at hm hm'
        have hne : i ≠ o := by intro e; subst e; rw [if_pos rfl, he] at hm; exact hm rfl
        have hne' : i' ≠ o := by intro e; subst e; rw [if_pos rfl, he] at hm'; exact hm' rfl
        rw [if_neg hne] at hm
        rw [if_neg hne'] at hm'
        exact h4 i i' hii hi' hm hm'
    · exact ⟨⟨q3.os, q3.tape, q3.output, Nat.le_of_eq q3.size.symm, fun k _ => by
        by_cases hk : k = w.heap.size
        · subst hk
          rw [Array.getElem?_eq_none (xs := w'.heap) (by have := q3.size; omega), Array.getElem?_eq_none (xs := w.heap) (Nat.le_refl _)]
        · exact q3.block k hk⟩, fun k _ hk => q3.block k (by omega)⟩
    · exact q3.block B (by have := (Array.getElem?_eq_some_iff.mp h1).1; omega)
  · obtain ⟨g1, g2, g3⟩ := e3 he
    refine (markO_any (A o) (f o) _ (cap o) k0 (M o) w e2 hl hk0).mono fun e w' ⟨q1, q2, q3⟩ => ⟨q1, ?_, Keeps.of_only q3 g1 g2, q3.block B (fun e => g3 e.symm)⟩
    refine ⟨C, A, f, cap, (q3.block B (fun e => g3 e.symm)).trans h1, h2, fun i hi => ?_, fun i i' hii hi' hm hm' => ?_⟩
    · obtain ⟨p1, p2, p3⟩ := h3 i hi
      unfold updF
      by_cases hio : i = o
      · subst hio
        rw [if_pos rfl, seqL_len]
        exact ⟨p1, q2, fun _ => p3 he⟩
      · rw [if_neg hio]
        refine ⟨p1, ?_, p3⟩
        by_cases hmi : M i = []
        · rw [hmi]; exact ⟨rfl, .inl rfl⟩
        · refine p2.only q3 ?_
          rcases Nat.lt_or_gt_of_ne hio with hlt | hlt
          · exact h4 i o hlt hj hmi he
          · exact fun e => h4 o i hlt hi he hmi e.symm
    · unfold updF at hm hm'
      have hMi : M i ≠ [] := by
        by_cases hio : i = o
        · subst hio; exact he
        · rwa [if_neg hio] at hm
      have hMi' : M i' ≠ [] := by
        by_cases hio : i' = o
        · subst hio; exact he
        · rwa [if_neg hio] at hm'
      exact h4 i i' hii hi' hMi hMi'

theorem markedF_at (k0 : Nat) (M : Nat → List Int) (q : Nat) : markedF k0 M q q = M q := by unfold markedF; rw [if_neg (by omega)]

set_option maxHeartbeats 1000000 in
theorem markTrisG_any (B lo hi n c k0 : Nat) (T : TypeId) (M : Nat → List Int) (w : World) (h : PartG w B lo hi (3 * n) T M) (hs : cntF M (3 * n) ≤ 1048576) (hn : n ≤ 1048576) (hk0 : k0 ≤ 2097152) :
    Calls Try.prog 49 #[.slice (some ⟨B, 0, none⟩) n c, .int .i64 (k0 : Int)] w fun e w' => e = .returned (.int .i64 ((k0 + cntF M (3 * n) : Nat) : Int)) ∧ PartG w' B lo hi (3 * n) T (markedF k0 M (3 * n)) ∧ Keeps lo hi w w' ∧ w'.heap[B]? = w.heap[B]? := by
  have HP := hide h
  clear h
  go_enter Try.func49, Try.ntmps49
  go_wp2_with fail
  go_loopw [1, 5] (fun t i wr => ∃ k t' : Nat, k ≤ n ∧ i = .int .i64 k ∧ t = .int .i64 (t' : Int) ∧ Hid (t' = k0 + cntF M (3 * k)) ∧ Hid (PartG wr B lo hi (3 * n) T (markedF k0 M (3 * k))) ∧ Hid (Keeps lo hi w wr ∧ wr.heap[B]? = w.heap[B]?)) (fun _ i _ => n - (intOf i).toNat)
  case atStart => exact ⟨0, k0, Nat.zero_le _, rfl, rfl, rfl, by have := HP.out; exact (show markedF k0 M (3 * 0) = M from by funext j; unfold markedF; rw [if_neg (by omega)]) ▸ this, Keeps.refl _ _ _, rfl⟩
  case round =>
    obtain ⟨k, t0, hk, rfl, rfl, ht0, hp, hkp⟩ := hrel
    clear HP
    by_cases hlt : k < n
    rotate_left
    · have hk' : k = n := by omega
      subst hk'
      have HT := hide ht0.out.symm
      go_wp2_with fail
      go_ret
      exact ⟨by rw [HT.out]; rfl, hp.out, hkp.out⟩
    have HQ := hide (And.intro (cntF_mono (M := M) (show 3 * k + 1 + 1 + 1 ≤ 3 * n by omega)) (And.intro (show cntF M (3 * k + 1) = cntF M (3 * k) + (M (3 * k)).length from rfl) (And.intro (show cntF M (3 * k + 1 + 1) = cntF M (3 * k + 1) + (M (3 * k + 1)).length from rfl) (show cntF M (3 * k + 1 + 1 + 1) = cntF M (3 * k + 1 + 1) + (M (3 * k + 1 + 1)).length from rfl))))
    obtain ⟨a0, l0, cp0, hl0, hc0, HM0⟩ := hp.out.one (show 3 * k < 3 * n by omega) t0 (by rw [markedF_at]; have := HQ.out; omega) (by have := HQ.out; have := ht0.out; omega) (k * 3) (by omega)
    rw [markedF_at] at hl0
    go_wp2_with fail
    refine HM0.out.mono ?_
    rintro e w1 ⟨rfl, p1, kp1, hB1⟩
    rw [ht0.out, ← hl0.out, markedF_step] at p1
    have HK1 := hide (And.intro (hkp.out.1.trans kp1) (hB1.trans hkp.out.2))
    obtain ⟨t1, ht1⟩ : ∃ t, Hid (t0 + l0 = t) := ⟨_, rfl⟩
    rw [ht1.out]
    have HT1 : Hid (t1 = k0 + cntF M (3 * k + 1)) := by show _ = _; have := HQ.out; have := hl0.out; have := ht0.out; have := ht1.out; omega
    obtain ⟨a1, l1, cp1, hl1, hc1, HM1⟩ := p1.one (show 3 * k + 1 < 3 * n by omega) t1 (by rw [markedF_at]; have := HQ.out; omega) (by have := HQ.out; have := HT1.out; omega) (k * 3 + 1) (by omega)
    rw [markedF_at] at hl1
    clear HM0 hc0 p1 kp1 hp hkp hB1
    go_wp2_with fail
    refine HM1.out.mono ?_
    rintro e w2 ⟨rfl, p2, kp2, hB2⟩
    rw [HT1.out, ← hl1.out, markedF_step] at p2
    have HK2 := hide (And.intro (HK1.out.1.trans kp2) (hB2.trans HK1.out.2))
    obtain ⟨t2, ht2⟩ : ∃ t, Hid (t1 + l1 = t) := ⟨_, rfl⟩
    rw [ht2.out]
    have HT2 : Hid (t2 = k0 + cntF M (3 * k + 1 + 1)) := by show _ = _; have := HQ.out; have := hl1.out; have := HT1.out; have := ht2.out; omega
    obtain ⟨a2, l2, cp2, hl2, hc2, HM2⟩ := p2.one (show 3 * k + 1 + 1 < 3 * n by omega) t2 (by rw [markedF_at]; have := HQ.out; omega) (by have := HQ.out; have := HT2.out; omega) (k * 3 + 2) (by omega)
    rw [markedF_at] at hl2
    clear HM1 hc1 p2 kp2 HK1 hB2
    go_wp2_with fail
    refine HM2.out.mono ?_
    rintro e w3 ⟨rfl, p3, kp3, hB3⟩
    rw [HT2.out, ← hl2.out, markedF_step] at p3
    have HK3 := hide (And.intro (HK2.out.1.trans kp3) (hB3.trans HK2.out.2))
    have e3 : 3 * (k + 1) = 3 * k + 1 + 1 + 1 := by omega
    have HP3 : Hid (PartG w3 B lo hi (3 * n) T (markedF k0 M (3 * (k + 1)))) := by
      show PartG w3 B lo hi (3 * n) T (markedF k0 M (3 * (k + 1)))
      rw [e3]; exact p3
    obtain ⟨t3, ht3⟩ : ∃ t, Hid (t2 + l2 = t) := ⟨_, rfl⟩
    rw [ht3.out]
    have HT3 : Hid (t3 = k0 + cntF M (3 * (k + 1))) := by
      show _ = _
      rw [e3]
      have := HQ.out; have := hl2.out; have := HT2.out; have := ht3.out; omega
    clear HM2 hc2 p3 kp3 HK2 e3 hB3
    go_wp2_with fail
    go_roundw
    case rel => exact ⟨k + 1, t3, by omega, by go_num, rfl, HT3, HP3, HK3⟩
    case measure => simp [intOf]; omega

/-- A net's slice: nil where there is no transition, or a block that leads to the lists. -/
def NetG (w : World) (a : Option Addr) (B lo hi n : Nat) (M : Nat → List Int) : Prop := n = 0 ∨ (a = some ⟨B, 0, none⟩ ∧ PartG w B lo hi (3 * n) 56 M)

set_option maxHeartbeats 400000 in
theorem markTrisN_any (a : Option Addr) (B lo hi n c k0 : Nat) (M : Nat → List Int) (w : World) (h : NetG w a B lo hi n M) (hs : cntF M (3 * n) ≤ 1048576) (hn : n ≤ 1048576) (hk0 : k0 ≤ 2097152) :
    Calls Try.prog 49 #[.slice a n c, .int .i64 (k0 : Int)] w fun e w' => e = .returned (.int .i64 ((k0 + cntF M (3 * n) : Nat) : Int)) ∧ NetG w' a B lo hi n (markedF k0 M (3 * n)) ∧ Keeps lo hi w w' ∧ w'.heap[B]? = w.heap[B]? := by
  rcases h with h0 | ⟨rfl, hp⟩
  · subst h0
    go_enter Try.func49, Try.ntmps49
    go_wp2_with fail
    go_loop [1, 5] (fun t i => i = .int .i64 0 ∧ t = .int .i64 (k0 : Int)) (fun _ _ => 0)
    case atStart => exact ⟨rfl, rfl⟩
    case round =>
      obtain ⟨rfl, rfl⟩ := hrel
      go_wp2_with fail
      go_ret
      exact ⟨rfl, .inl rfl, Keeps.refl _ _ _, rfl⟩
  · refine (markTrisG_any B lo hi n c k0 _ M w hp hs hn hk0).mono fun e w' ⟨q1, q2, q3, q4⟩ => ⟨q1, .inr ⟨rfl, q2⟩, q3, q4⟩

set_option maxHeartbeats 400000 in
theorem markNetG_any (p : Int) (a : Option Addr) (B lo hi n c k0 : Nat) (M : Nat → List Int) (w : World) (h : NetG w a B lo hi n M) (hlo : lo ≤ w.heap.size) (hs : cntF M (3 * n) ≤ 1048576) (hn : n ≤ 1048576) (hk0 : k0 ≤ 2097152) :
    Calls Try.prog 20 #[.agg #[.int .i64 p, .slice a n c], .int .i64 (k0 : Int)] w fun e w' => e = .returned (.int .i64 ((k0 + cntF M (3 * n) : Nat) : Int)) ∧ NetG w' a B lo hi n (markedF k0 M (3 * n)) ∧ Keeps lo hi w w' := by
  have hA := below_al w (.cells #[.int .i64 p, .slice a n c] 31)
  have hg : NetG (w.alloc (.cells #[.int .i64 p, .slice a n c] 31)) a B lo hi n M := by
    rcases h with h0 | ⟨e, hp⟩
    · exact .inl h0
    · exact .inr ⟨e, hp.grow hA⟩
  have HT := hide (markTrisN_any a B lo hi n c k0 M _ hg hs hn hk0)
  have HK := hide (Keeps.of_below (lo := lo) (hi := hi) hA hlo)
  obtain ⟨t0, ht0⟩ : ∃ t, Hid (k0 + cntF M (3 * n) = t) := ⟨_, rfl⟩
  rw [ht0.out] at HT ⊢
  clear h hg hA
  go_enter Try.func20, Try.ntmps20
  go_wp2_with fail
  refine HT.out.mono ?_
  rintro e w3 ⟨rfl, p3, kp3, _⟩
  have HP3 := hide p3
  have HK3 := hide (HK.out.trans kp3)
  clear p3 kp3 HT HK
  go_wp2_with fail
  go_ret
  exact ⟨rfl, HP3.out, HK3.out⟩

theorem NetG.lists {w : World} {a : Option Addr} {B lo hi n : Nat} {L : List (List Int)} (h : NetG w a B lo hi n (fun j => L.getD j [])) (hl : L.length = 3 * n) (hs : sizeN n L ≤ 1048576) : Lists w a (3 * n) L := by
  rcases h with h0 | ⟨rfl, C, A, f, cap, h1, h2, h3, h4⟩
  · exact ⟨hl, .inl (by omega)⟩
  · refine ⟨hl, .inr ⟨B, 0, rfl, (Array.getElem?_eq_some_iff.mp h1).1, fun j hj => ?_⟩⟩
    obtain ⟨e1, e2, e3⟩ := h3 j hj
    refine ⟨_, _, _, by rw [cell_of_row w B (0 + j) C _ _ h1, Nat.zero_add]; exact e1, ?_, e2.row⟩
    have := len_le L j
    show (L.getD j []).length ≤ maxLen
    unfold sizeN at hs; unfold maxLen; omega

/-- Lists by their number, to be read. -/
def ListsF (w : World) (a : Option Addr) (n : Nat) (M : Nat → List Int) : Prop :=
  n = 0 ∨ ∃ b off, a = some ⟨b, off, none⟩ ∧ ∀ j, j < n → ∃ a' c', w.cell? ⟨b, off + j, none⟩ = some (.slice a' (M j).length c') ∧ Row w a' (M j).length (M j)

theorem NetG.listsF {w : World} {a : Option Addr} {B lo hi n : Nat} {M : Nat → List Int} (h : NetG w a B lo hi n M) : ListsF w a (3 * n) M := by
  rcases h with h0 | ⟨rfl, C, A, f, cap, h1, h2, h3, h4⟩
  · exact .inl (by omega)
  · refine .inr ⟨B, 0, rfl, fun j hj => ?_⟩
    obtain ⟨e1, e2, e3⟩ := h3 j hj
    exact ⟨_, _, by rw [cell_of_row w B (0 + j) C _ _ h1, Nat.zero_add]; exact e1, e2.row⟩

theorem ListsF.seq3 {w : World} {a : Option Addr} {n k0 : Nat} {M : Nat → List Int} (h : ListsF w a (3 * n) (markedF k0 M (3 * n))) {k : Nat} (hk : k < n) :
    ∃ b off a0 c0 a1 c1 a2 c2 l0 l1 l2, a = some ⟨b, off, none⟩ ∧ w.cell? ⟨b, off + k * 3, none⟩ = some (.slice a0 l0 c0) ∧ w.cell? ⟨b, off + k * 3 + 1, none⟩ = some (.slice a1 l1 c1) ∧ w.cell? ⟨b, off + k * 3 + 2, none⟩ = some (.slice a2 l2 c2) ∧
      Hid ((M (3 * k)).length = l0 ∧ (M (3 * k + 1)).length = l1 ∧ (M (3 * k + 1 + 1)).length = l2) ∧ Hid (Row w a0 l0 (seqL (k0 + cntF M (3 * k)) l0)) ∧ Hid (Row w a1 l1 (seqL (k0 + cntF M (3 * k + 1)) l1)) ∧ Hid (Row w a2 l2 (seqL (k0 + cntF M (3 * k + 1 + 1)) l2)) := by
  rcases h with h0 | ⟨b, off, e, h⟩
  · omega
  · have key : ∀ j, j < 3 * n → ∃ a' c', w.cell? ⟨b, off + j, none⟩ = some (.slice a' (M j).length c') ∧ Row w a' (M j).length (seqL (k0 + cntF M j) (M j).length) := by
      intro j hj
      obtain ⟨a', c', h1, h2⟩ := h j hj
      have hm : markedF k0 M (3 * n) j = seqL (k0 + cntF M j) (M j).length := by unfold markedF; rw [if_pos hj]
      rw [hm, seqL_len] at h1 h2
      exact ⟨a', c', h1, h2⟩
    obtain ⟨a0, c0, x0, y0⟩ := key (3 * k) (by omega)
    obtain ⟨a1, c1, x1, y1⟩ := key (3 * k + 1) (by omega)
    obtain ⟨a2, c2, x2, y2⟩ := key (3 * k + 1 + 1) (by omega)
    refine ⟨b, off, a0, c0, a1, c1, a2, c2, _, _, _, e, ?_, ?_, ?_, ⟨rfl, rfl, rfl⟩, y0, y1, y2⟩
    · rw [Nat.mul_comm k 3]; exact x0
    · rw [Nat.mul_comm k 3]; exact x1
    · rw [Nat.mul_comm k 3]; exact x2

set_option maxHeartbeats 1000000 in
theorem heldTris_any (a : Option Addr) (n c k0 : Nat) (M : Nat → List Int) (w : World) (h : ListsF w a (3 * n) (markedF k0 M (3 * n))) (hs : cntF M (3 * n) ≤ 1048576) (hn : n ≤ 1048576) (hk0 : k0 ≤ 2097152) :
    Calls Try.prog 55 #[.slice a n c, .int .i64 (k0 : Int)] w fun e w' => e = .returned (.int .i64 ((k0 + cntF M (3 * n) : Nat) : Int)) ∧ w' = w := by
  have HL := hide h
  clear h
  go_enter Try.func55, Try.ntmps55
  go_wp2_with fail
  go_loop [1, 5] (fun t i => ∃ k t' : Nat, k ≤ n ∧ i = .int .i64 k ∧ t = .int .i64 (t' : Int) ∧ Hid (t' = k0 + cntF M (3 * k))) (fun _ i => n - (intOf i).toNat)
  case atStart => exact ⟨0, k0, Nat.zero_le _, rfl, rfl, rfl⟩
  case round =>
    obtain ⟨k, t0, hk, rfl, rfl, ht0⟩ := hrel
    by_cases hlt : k < n
    rotate_left
    · have hk' : k = n := by omega
      subst hk'
      have HT := hide ht0.out.symm
      go_wp2_with fail
      go_ret
      exact ⟨ret_int (by have := HT.out; omega), rfl⟩
    have HQ := hide (And.intro (cntF_mono (M := M) (show 3 * k + 1 + 1 + 1 ≤ 3 * n by omega)) (And.intro (show cntF M (3 * k + 1) = cntF M (3 * k) + (M (3 * k)).length from rfl) (And.intro (show cntF M (3 * k + 1 + 1) = cntF M (3 * k + 1) + (M (3 * k + 1)).length from rfl) (show cntF M (3 * k + 1 + 1 + 1) = cntF M (3 * k + 1 + 1) + (M (3 * k + 1 + 1)).length from rfl))))
    obtain ⟨b, off, a0, c0, a1, c1, a2, c2, l0, l1, l2, rfl, hc0, hc1, hc2, hl, r0, r1, r2⟩ := HL.out.seq3 hlt
    have HM0 := hide (held_any a0 l0 c0 t0 w (by have := ht0.out; rw [this]; exact r0.out) (by have := HQ.out; have := hl.out; omega) (by have := HQ.out; have := ht0.out; omega))
    obtain ⟨t1, ht1⟩ : ∃ t, Hid (t0 + l0 = t) := ⟨_, rfl⟩
    have HT1 : Hid (t1 = k0 + cntF M (3 * k + 1)) := by show _ = _; have := HQ.out; have := hl.out; have := ht0.out; have := ht1.out; omega
    have HM1 := hide (held_any a1 l1 c1 t1 w (by have := HT1.out; rw [this]; exact r1.out) (by have := HQ.out; have := hl.out; omega) (by have := HQ.out; have := HT1.out; omega))
    obtain ⟨t2, ht2⟩ : ∃ t, Hid (t1 + l1 = t) := ⟨_, rfl⟩
    have HT2 : Hid (t2 = k0 + cntF M (3 * k + 1 + 1)) := by show _ = _; have := HQ.out; have := hl.out; have := HT1.out; have := ht2.out; omega
    have HM2 := hide (held_any a2 l2 c2 t2 w (by have := HT2.out; rw [this]; exact r2.out) (by have := HQ.out; have := hl.out; omega) (by have := HQ.out; have := HT2.out; omega))
    obtain ⟨t3, ht3⟩ : ∃ t, Hid (t2 + l2 = t) := ⟨_, rfl⟩
    have HT3 : Hid (t3 = k0 + cntF M (3 * (k + 1))) := by
      show _ = _
      rw [show 3 * (k + 1) = 3 * k + 1 + 1 + 1 by omega]
      have := HQ.out; have := hl.out; have := HT2.out; have := ht3.out; omega
    rw [ht1.out] at HM0
    rw [ht2.out] at HM1
    rw [ht3.out] at HM2
    have hp1 : (0 : Int) ≤ (t1 : Int) := by omega
    have hp2 : (0 : Int) ≤ (t2 : Int) := by omega
    have hp3 : (0 : Int) ≤ (t3 : Int) := by omega
    clear hl r0 r1 r2 HQ
    go_wp2_with fail
    refine HM0.out.mono ?_
    rintro e w' ⟨rfl, rfl⟩
    go_wp2_with fail
    refine HM1.out.mono ?_
    rintro e w' ⟨rfl, rfl⟩
    go_wp2_with fail
    refine HM2.out.mono ?_
    rintro e w' ⟨rfl, rfl⟩
    go_wp2_with fail
    go_round
    case rel => exact ⟨k + 1, t3, by omega, by go_num, rfl, HT3⟩
    case measure => simp [intOf]; omega

set_option maxHeartbeats 400000 in
theorem heldNet_any (p : Int) (a : Option Addr) (B lo hi n c k0 : Nat) (M : Nat → List Int) (w : World) (h : NetG w a B lo hi n (markedF k0 M (3 * n))) (hs : cntF M (3 * n) ≤ 1048576) (hn : n ≤ 1048576) (hk0 : k0 ≤ 2097152) :
    Calls Try.prog 30 #[.agg #[.int .i64 p, .slice a n c], .int .i64 (k0 : Int)] w fun e w' => e = .returned (.int .i64 ((k0 + cntF M (3 * n) : Nat) : Int)) ∧ Below w.heap.size w w' := by
  have hA := below_al w (.cells #[.int .i64 p, .slice a n c] 31)
  have hg : NetG (w.alloc (.cells #[.int .i64 p, .slice a n c] 31)) a B lo hi n (markedF k0 M (3 * n)) := by
    rcases h with h0 | ⟨e, hp⟩
    · exact .inl h0
    · exact .inr ⟨e, hp.grow hA⟩
  have HT := hide (heldTris_any a n c k0 M _ hg.listsF hs hn hk0)
  obtain ⟨t0, ht0⟩ : ∃ t, Hid (k0 + cntF M (3 * n) = t) := ⟨_, rfl⟩
  rw [ht0.out] at HT ⊢
  have hp0 : (0 : Int) ≤ (t0 : Int) := by omega
  clear h hg hA
  go_enter Try.func30, Try.ntmps30
  go_wp2_with fail
  refine HT.out.mono ?_
  rintro e w3 ⟨rfl, rfl⟩
  go_wp2_with fail
  go_ret
  exact ⟨rfl, below_al _ _⟩
end Go.Proofs.Ytnknhjiofpjbbaa
