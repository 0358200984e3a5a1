/- Contracts that the proof stands on, one behind the other. -/
import Derived.Test.YtmhgdhkpceggkabP3
import Derived.OwnWalk
import Derived.BigQuiet
import Derived.Lib.Strings
import Derived.Lib.Slices
import Derived.Lib.Small
import Derived.Lib.Walk
import Derived.Lib.Tables
import Derived.Lib.BitFns
/- Nets whose lists append has made: each list in a block of its own in which there may be more room, or empty; what markTransS and markNet write into one, and what heldTransS and heldNet answer. -/
namespace Go.Proofs.Ytmhgdhkpceggkab
open Go.RowKit

/-- Lists by their number, each that is not empty in a block of its own between lo and hi. -/
def PartG (w : World) (B lo hi n : Nat) (T : TypeId) (M : Nat → List Int) : Prop :=
  ∃ (C : Array Value) (A : Nat → Option Addr) (f cap : Nat → Nat), w.heap[B]? = some (.cells C T (0, 0)) ∧ n ≤ C.size ∧
    (∀ j, j < n → C[j]? = some (.slice (A j) (M j).length (cap j)) ∧ Ob w (A j) (f j) (M j).length (M j) ∧ (M j ≠ [] → lo ≤ f j ∧ f j < hi ∧ f j ≠ B)) ∧
    (∀ i j, i < j → j < n → M i ≠ [] → M j ≠ [] → f i ≠ f j)

theorem PartG.grow {w w' : World} {B lo hi n : Nat} {T : TypeId} {M : Nat → List Int} (h : PartG w B lo hi n T M) (hb : Below w.heap.size w w') : PartG w' B lo hi n T M := by
  obtain ⟨C, A, f, cap, h1, h2, h3, h4⟩ := h
  refine ⟨C, A, f, cap, (hb.block B (Array.getElem?_eq_some_iff.mp h1).1).trans h1, h2, fun j hj => ?_, h4⟩
  obtain ⟨e1, e2, e3⟩ := h3 j hj
  exact ⟨e1, e2.grow hb, e3⟩

theorem PartG.keeps {w w' : World} {B lo hi n lo' hi' : Nat} {T : TypeId} {M : Nat → List Int} (h : PartG w B lo hi n T M) (hk : Keeps lo' hi' w w') (h1 : hi' ≤ lo) (h2 : hi' ≤ B) : PartG w' B lo hi n T M := by
  obtain ⟨C, A, f, cap, q1, q2, q3, q4⟩ := h
  refine ⟨C, A, f, cap, (hk.top B h2 (Array.getElem?_eq_some_iff.mp q1).1).trans q1, q2, fun j hj => ?_, q4⟩
  obtain ⟨e1, e2, e3⟩ := q3 j hj
  refine ⟨e1, ?_, e3⟩
  by_cases he : M j = []
  · rw [he]; exact ⟨rfl, .inl rfl⟩
  · exact e2.keeps hk (by have := (e3 he).1; omega)

/-- The list j is marked. -/
theorem PartG.one {w : World} {B lo hi n : Nat} {T : TypeId} {M : Nat → List Int} (h : PartG w B lo hi n T M) {j : Nat} (hj : j < n) (k0 : Nat) (hl : (M j).length ≤ 1048576) (hk0 : k0 ≤ 4194304) (o : Nat) (ho : o = j) :
    ∃ a ln cp, Hid ((M j).length = ln) ∧ w.cell? ⟨B, o, none⟩ = some (.slice a ln cp) ∧ Hid (Calls Try.prog 27 #[.slice a ln cp, .int .i64 (k0 : Int)] w fun e w' => e = .returned (.int .i64 ((k0 + ln : Nat) : Int)) ∧ PartG w' B lo hi n T (updF M j (seqL k0 ln)) ∧ Keeps lo hi w w' ∧ w'.heap[B]? = w.heap[B]?) := by
  subst ho
  obtain ⟨C, A, f, cap, h1, h2, h3, h4⟩ := h
  obtain ⟨e1, e2, e3⟩ := h3 o hj
  refine ⟨A o, _, cap o, rfl, by rw [cell_of_row w B o C T _ h1]; exact e1, ?_⟩
  by_cases he : M o = []
  · -- nothing is written
    have hob : Ob w (A o) w.heap.size (M o).length (M o) := ⟨rfl, .inl (by rw [he]; rfl)⟩
    refine (markO_any (A o) w.heap.size _ (cap o) k0 (M o) w hob hl hk0).mono fun e w' ⟨q1, q2, q3⟩ => ⟨q1, ?_, ?_, ?_⟩
    · have hB := (Array.getElem?_eq_some_iff.mp h1).1
      refine ⟨C, A, f, cap, (q3.block B (by omega)).trans h1, h2, fun i hi => ?_, fun i i' hii hi' hm hm' => ?_⟩
      · obtain ⟨p1, p2, p3⟩ := h3 i hi
        unfold updF
        by_cases hio : i = o
        · subst hio
          rw [if_pos rfl, he]
          refine ⟨by rw [he] at p1; exact p1, ⟨rfl, .inl rfl⟩, fun hc => absurd rfl hc⟩
        · rw [if_neg hio]
          refine ⟨p1, ?_, p3⟩
          by_cases hmi : M i = []
          · rw [hmi]; exact ⟨rfl, .inl rfl⟩
          · rcases p2.2 with h0 | ⟨_, cur, hh, _⟩
            · exact absurd (List.length_eq_zero_iff.mp h0) hmi
            · have := (Array.getElem?_eq_some_iff.mp hh).1
              exact p2.only q3 (by omega)
      · unfold updF at hm hm'
        have hne : i ≠ o := by intro e; subst e; rw [if_pos rfl, he] at hm; exact hm rfl
        have hne' : i' ≠ o := by intro e; subst e; rw [if_pos rfl, he] at hm'; exact hm' rfl
        rw [if_neg hne] at hm
        rw [if_neg hne'] at hm'
        exact h4 i i' hii hi' hm hm'
    · exact ⟨⟨q3.os, q3.tape, q3.output, Nat.le_of_eq q3.size.symm, fun k _ => by
        by_cases hk : k = w.heap.size
        · subst hk
          rw [Array.getElem?_eq_none (xs := w'.heap) (by have := q3.size; omega), Array.getElem?_eq_none (xs := w.heap) (Nat.le_refl _)]
        · exact q3.block k hk⟩, fun k _ hk => q3.block k (by omega)⟩
    · exact q3.block B (by have := (Array.getElem?_eq_some_iff.mp h1).1; omega)
  · obtain ⟨g1, g2, g3⟩ := e3 he
    refine (markO_any (A o) (f o) _ (cap o) k0 (M o) w e2 hl hk0).mono fun e w' ⟨q1, q2, q3⟩ => ⟨q1, ?_, Keeps.of_only q3 g1 g2, q3.block B (fun e => g3 e.symm)⟩
    refine ⟨C, A, f, cap, (q3.block B (fun e => g3 e.symm)).trans h1, h2, fun i hi => ?_, fun i i' hii hi' hm hm' => ?_⟩
    · obtain ⟨p1, p2, p3⟩ := h3 i hi
      unfold updF
      by_cases hio : i = o
      · subst hio
        rw [if_pos rfl, seqL_len]
        exact ⟨p1, q2, fun _ => p3 he⟩
      · rw [if_neg hio]
        refine ⟨p1, ?_, p3⟩
        by_cases hmi : M i = []
        · rw [hmi]; exact ⟨rfl, .inl rfl⟩
        · refine p2.only q3 ?_
          rcases Nat.lt_or_gt_of_ne hio with hlt | hlt
          · exact h4 i o hlt hj hmi he
          · exact fun e => h4 o i hlt hi he hmi e.symm
    · unfold updF at hm hm'
      have hMi : M i ≠ [] := by
        by_cases hio : i = o
        · subst hio; exact he
        · rwa [if_neg hio] at hm
      have hMi' : M i' ≠ [] := by
        by_cases hio : i' = o
        · subst hio; exact he
        · rwa [if_neg hio] at hm'
      exact h4 i i' hii hi' hMi hMi'

theorem markedF_at (k0 : Nat) (M : Nat → List Int) (q : Nat) : markedF k0 M q q = M q := by unfold markedF; rw [if_neg (by omega)]

set_option maxHeartbeats 1000000 in
theorem markTrisG_any (B lo hi n c k0 : Nat) (T : TypeId) (M : Nat → List Int) (w : World) (h : PartG w B lo hi (3 * n) T M) (hs : cntF M (3 * n) ≤ 1048576) (hn : n ≤ 1048576) (hk0 : k0 ≤ 2097152) :
    Calls Try.prog 26 #[.slice (some ⟨B, 0, none⟩) n c, .int .i64 (k0 : Int)] w fun e w' => e = .returned (.int .i64 ((k0 + cntF M (3 * n) : Nat) : Int)) ∧ PartG w' B lo hi (3 * n) T (markedF k0 M (3 * n)) ∧ Keeps lo hi w w' ∧ w'.heap[B]? = w.heap[B]? := by
  have HP := hide h
  clear h
  go_enter Try.func26, Try.ntmps26
  go_wp2_with fail
  go_loopw [1, 5] (fun t i wr => ∃ k t' : Nat, k ≤ n ∧ i = .int .i64 k ∧ t = .int .i64 (t' : Int) ∧ Hid (t' = k0 + cntF M (3 * k)) ∧ Hid (PartG wr B lo hi (3 * n) T (markedF k0 M (3 * k))) ∧ Hid (Keeps lo hi w wr ∧ wr.heap[B]? = w.heap[B]?)) (fun _ i _ => n - (intOf i).toNat)
  case atStart => exact ⟨0, k0, Nat.zero_le _, rfl, rfl, rfl, by have := HP.out; exact (show markedF k0 M (3 * 0) = M from by funext j; unfold markedF; rw [if_neg (by omega)]) ▸ this, Keeps.refl _ _ _, rfl⟩
  case round =>
    obtain ⟨k, t0, hk, rfl, rfl, ht0, hp, hkp⟩ := hrel
    clear HP
    by_cases hlt : k < n
    rotate_left
    · have hk' : k = n := by omega
      subst hk'
      have HT := hide ht0.out.symm
      go_wp2_with fail
      go_ret
      exact ⟨by rw [HT.out]; rfl, hp.out, hkp.out⟩
    have HQ := hide (And.intro (cntF_mono (M := M) (show 3 * k + 1 + 1 + 1 ≤ 3 * n by omega)) (And.intro (show cntF M (3 * k + 1) = cntF M (3 * k) + (M (3 * k)).length from rfl) (And.intro (show cntF M (3 * k + 1 + 1) = cntF M (3 * k + 1) + (M (3 * k + 1)).length from rfl) (show cntF M (3 * k + 1 + 1 + 1) = cntF M (3 * k + 1 + 1) + (M (3 * k + 1 + 1)).length from rfl))))
    obtain ⟨a0, l0, cp0, hl0, hc0, HM0⟩ := hp.out.one (show 3 * k < 3 * n by omega) t0 (by rw [markedF_at]; have := HQ.out; omega) (by have := HQ.out; have := ht0.out; omega) (k * 3) (by omega)
    rw [markedF_at] at hl0
    go_wp2_with fail
    refine HM0.out.mono ?_
    rintro e w1 ⟨rfl, p1, kp1, hB1⟩
    rw [ht0.out, ← hl0.out, markedF_step] at p1
    have HK1 := hide (And.intro (hkp.out.1.trans kp1) (hB1.trans hkp.out.2))
    obtain ⟨t1, ht1⟩ : ∃ t, Hid (t0 + l0 = t) := ⟨_, rfl⟩
    rw [ht1.out]
    have HT1 : Hid (t1 = k0 + cntF M (3 * k + 1)) := by show _ = _; have := HQ.out; have := hl0.out; have := ht0.out; have := ht1.out; omega
    obtain ⟨a1, l1, cp1, hl1, hc1, HM1⟩ := p1.one (show 3 * k + 1 < 3 * n by omega) t1 (by rw [markedF_at]; have := HQ.out; omega) (by have := HQ.out; have := HT1.out; omega) (k * 3 + 1) (by omega)
    rw [markedF_at] at hl1
    clear HM0 hc0 p1 kp1 hp hkp hB1
    go_wp2_with fail
    refine HM1.out.mono ?_
    rintro e w2 ⟨rfl, p2, kp2, hB2⟩
    rw [HT1.out, ← hl1.out, markedF_step] at p2
    have HK2 := hide (And.intro (HK1.out.1.trans kp2) (hB2.trans HK1.out.2))
    obtain ⟨t2, ht2⟩ : ∃ t, Hid (t1 + l1 = t) := ⟨_, rfl⟩
    rw [ht2.out]
    have HT2 : Hid (t2 = k0 + cntF M (3 * k + 1 + 1)) := by show _ = _; have := HQ.out; have := hl1.out; have := HT1.out; have := ht2.out; omega
    obtain ⟨a2, l2, cp2, hl2, hc2, HM2⟩ := p2.one (show 3 * k + 1 + 1 < 3 * n by omega) t2 (by rw [markedF_at]; have := HQ.out; omega) (by have := HQ.out; have := HT2.out; omega) (k * 3 + 2) (by omega)
    rw [markedF_at] at hl2
    clear HM1 hc1 p2 kp2 HK1 hB2
    go_wp2_with fail
    refine HM2.out.mono ?_
    rintro e w3 ⟨rfl, p3, kp3, hB3⟩
    rw [HT2.out, ← hl2.out, markedF_step] at p3
    have HK3 := hide (And.intro (HK2.out.1.trans kp3) (hB3.trans HK2.out.2))
    have e3 : 3 * (k + 1) = 3 * k + 1 + 1 + 1 := by omega
    have HP3 : Hid (PartG w3 B lo hi (3 * n) T (markedF k0 M (3 * (k + 1)))) := by
      show PartG w3 B lo hi (3 * n) T (markedF k0 M (3 * (k + 1)))
      rw [e3]; exact p3
    obtain ⟨t3, ht3⟩ : ∃ t, Hid (t2 + l2 = t) := ⟨_, rfl⟩
    rw [ht3.out]
    have HT3 : Hid (t3 = k0 + cntF M (3 * (k + 1))) := by
      show _ = _
      rw [e3]
      have := HQ.out; have := hl2.out; have := HT2.out; have := ht3.out; omega
    clear HM2 hc2 p3 kp3 HK2 e3 hB3
    go_wp2_with fail
    go_roundw
    case rel => exact ⟨k + 1, t3, by omega, by go_num, rfl, HT3, HP3, HK3⟩
    case measure => simp [intOf]; omega

/-- A net's slice: nil where there is no transition, or a block that leads to the lists. -/
def NetG (w : World) (a : Option Addr) (B lo hi n : Nat) (M : Nat → List Int) : Prop := n = 0 ∨ (a = some ⟨B, 0, none⟩ ∧ PartG w B lo hi (3 * n) 77 M)

set_option maxHeartbeats 400000 in
theorem markTrisN_any (a : Option Addr) (B lo hi n c k0 : Nat) (M : Nat → List Int) (w : World) (h : NetG w a B lo hi n M) (hs : cntF M (3 * n) ≤ 1048576) (hn : n ≤ 1048576) (hk0 : k0 ≤ 2097152) :
    Calls Try.prog 26 #[.slice a n c, .int .i64 (k0 : Int)] w fun e w' => e = .returned (.int .i64 ((k0 + cntF M (3 * n) : Nat) : Int)) ∧ NetG w' a B lo hi n (markedF k0 M (3 * n)) ∧ Keeps lo hi w w' ∧ w'.heap[B]? = w.heap[B]? := by
  rcases h with h0 | ⟨rfl, hp⟩
  · subst h0
    go_enter Try.func26, Try.ntmps26
    go_wp2_with fail
    go_loop [1, 5] (fun t i => i = .int .i64 0 ∧ t = .int .i64 (k0 : Int)) (fun _ _ => 0)
    case atStart => exact ⟨rfl, rfl⟩
    case round =>
      obtain ⟨rfl, rfl⟩ := hrel
      go_wp2_with fail
      go_ret
      exact ⟨rfl, .inl rfl, Keeps.refl _ _ _, rfl⟩
  · refine (markTrisG_any B lo hi n c k0 _ M w hp hs hn hk0).mono fun e w' ⟨q1, q2, q3, q4⟩ => ⟨q1, .inr ⟨rfl, q2⟩, q3, q4⟩

set_option maxHeartbeats 400000 in
theorem markNetG_any (p : Int) (a : Option Addr) (B lo hi n c k0 : Nat) (M : Nat → List Int) (w : World) (h : NetG w a B lo hi n M) (hlo : lo ≤ w.heap.size) (hs : cntF M (3 * n) ≤ 1048576) (hn : n ≤ 1048576) (hk0 : k0 ≤ 2097152) :
    Calls Try.prog 11 #[.agg #[.int .i64 p, .slice a n c], .int .i64 (k0 : Int)] w fun e w' => e = .returned (.int .i64 ((k0 + cntF M (3 * n) : Nat) : Int)) ∧ NetG w' a B lo hi n (markedF k0 M (3 * n)) ∧ Keeps lo hi w w' := by
  have hA := below_al w (.cells #[.int .i64 p, .slice a n c] 31)
  have hg : NetG (w.alloc (.cells #[.int .i64 p, .slice a n c] 31)) a B lo hi n M := by
    rcases h with h0 | ⟨e, hp⟩
    · exact .inl h0
    · exact .inr ⟨e, hp.grow hA⟩
  have HT := hide (markTrisN_any a B lo hi n c k0 M _ hg hs hn hk0)
  have HK := hide (Keeps.of_below (lo := lo) (hi := hi) hA hlo)
  obtain ⟨t0, ht0⟩ : ∃ t, Hid (k0 + cntF M (3 * n) = t) := ⟨_, rfl⟩
  rw [ht0.out] at HT ⊢
  clear h hg hA
  go_enter Try.func11, Try.ntmps11
  go_wp2_with fail
  refine HT.out.mono ?_
  rintro e w3 ⟨rfl, p3, kp3, _⟩
  have HP3 := hide p3
  have HK3 := hide (HK.out.trans kp3)
  clear p3 kp3 HT HK
  go_wp2_with fail
  go_ret
  exact ⟨rfl, HP3.out, HK3.out⟩

theorem NetG.lists {w : World} {a : Option Addr} {B lo hi n : Nat} {L : List (List Int)} (h : NetG w a B lo hi n (fun j => L.getD j [])) (hl : L.length = 3 * n) (hs : sizeN n L ≤ 1048576) : Lists w a (3 * n) L := by
  rcases h with h0 | ⟨rfl, C, A, f, cap, h1, h2, h3, h4⟩
  · exact ⟨hl, .inl (by omega)⟩
  · refine ⟨hl, .inr ⟨B, 0, rfl, (Array.getElem?_eq_some_iff.mp h1).1, fun j hj => ?_⟩⟩
    obtain ⟨e1, e2, e3⟩ := h3 j hj
    refine ⟨_, _, _, by rw [cell_of_row w B (0 + j) C _ _ h1, Nat.zero_add]; exact e1, ?_, e2.row⟩
    have := len_le L j
    show (L.getD j []).length ≤ maxLen
    unfold sizeN at hs; unfold maxLen; omega

/-- Lists by their number, to be read. -/
def ListsF (w : World) (a : Option Addr) (n : Nat) (M : Nat → List Int) : Prop :=
  n = 0 ∨ ∃ b off, a = some ⟨b, off, none⟩ ∧ ∀ j, j < n → ∃ a' c', w.cell? ⟨b, off + j, none⟩ = some (.slice a' (M j).length c') ∧ Row w a' (M j).length (M j)

theorem NetG.listsF {w : World} {a : Option Addr} {B lo hi n : Nat} {M : Nat → List Int} (h : NetG w a B lo hi n M) : ListsF w a (3 * n) M := by
  rcases h with h0 | ⟨rfl, C, A, f, cap, h1, h2, h3, h4⟩
  · exact .inl (by omega)
  · refine .inr ⟨B, 0, rfl, fun j hj => ?_⟩
    obtain ⟨e1, e2, e3⟩ := h3 j hj
    exact ⟨_, _, by rw [cell_of_row w B (0 + j) C _ _ h1, Nat.zero_add]; exact e1, e2.row⟩

end Go.Proofs.Ytmhgdhkpceggkab


/- The list of a set of places: list of the program. -/
namespace Go.Proofs.Ytmhgdhkpceggkab
open Go.RowKit

/-- The numbers below k that are as asked. -/
def nums2 (f : Nat → Bool) (k : Nat) : List Int := ((List.range k).filter f).map fun (i : Nat) => (i : Int)

theorem nums2_yes {f : Nat → Bool} {k : Nat} (h : f k = true) : nums2 f (k + 1) = nums2 f k ++ [(k : Int)] := by simp [nums2, List.range_succ, List.filter_append, h]
theorem nums2_no {f : Nat → Bool} {k : Nat} (h : f k = false) : nums2 f (k + 1) = nums2 f k := by simp [nums2, List.range_succ, List.filter_append, h]

theorem own_below2 {B : Nat} {w w' : World} {v : Value} {n : Nat} {l : List Value} (hown : w.ownsRow B 3 1 v n l) (hg : w.grownBy w' v.ownBlock) {a : World} {C : Nat} (h : Below C a w) (hC : C ≤ w.heap.size) (hB : C ≤ B) : Below C a w' := by
  refine h.grown hg hC fun k hk => ?_
  rcases hown.2 with ⟨rfl, _⟩ | ⟨g, cap, cur, rfl, hb, _⟩
  · simp [Value.ownBlock] at hk
  · simp [Value.ownBlock] at hk; omega

theorem one_cell2 (w : World) (v : Value) : ∀ j u, ([v] : List Value)[j]? = some u → (w.alloc (.cells #[v] 3)).cell? ((⟨w.heap.size, 0, none⟩ : Addr).add j) = some u := by
  intro j u hu
  match j, hu with
  | 0, hu =>
    simp at hu; subst hu
    rw [Addr.add_mid]
    exact cell_of_row _ w.heap.size 0 #[v] _ _ (heap_alloc_new _ _)
  | (q + 1), hu => simp at hu

theorem own_ob2 {B : Nat} {w : World} {v : Value} {n : Nat} {l : List Int} (hown : w.ownsRow B 3 1 v n (l.map (Value.int .i64))) : ∃ a b c, v = .slice a n c ∧ B ≤ b ∧ Ob w a b n l := by
  have hl : l.length = n := by have := hown.1; simpa using this
  rcases hown.2 with ⟨rfl, rfl⟩ | ⟨g, cap, cur, rfl, hb, hh, hnc, _, hsz, ht⟩
  · exact ⟨none, B, 0, rfl, Nat.le_refl _, hl, .inl rfl⟩
  · refine ⟨_, g, cap, rfl, hb, hl, .inr ⟨rfl, cur, hh, by omega, fun i hi => ?_⟩⟩
    have e : (cur.toList.take (n * 1))[i]? = (l.map (Value.int .i64))[i]? := by rw [ht]
    rw [List.getElem?_take_of_lt (by omega), Array.getElem?_toList] at e
    rw [e]
    simp [List.getElem?_eq_getElem (show i < l.length by omega)]

theorem info_split2 {P : Program} {e : TypeId} {z : Value} {size bytes : Nat} (h : (P.info? e).map (fun i => (i.zero, i.size, i.bytes)) = some (some z, size, bytes)) : ∃ i, P.info? e = some i ∧ i.zero = some z ∧ i.size = size ∧ i.bytes = bytes := by
  obtain ⟨i, hi, hzz⟩ := Option.map_eq_some_iff.1 h
  simp only [Prod.mk.injEq] at hzz
  exact ⟨i, hi, hzz.1, hzz.2.1, hzz.2.2⟩

theorem bit_of2 (s k : Nat) (hs : s < 2 ^ 16) : (bits .and .u16 ((s : Int) / 2 ^ k) 1 == 1) = s.testBit k := by
  have h1 : ((s : Int) / 2 ^ k) = ((s / 2 ^ k : Nat) : Int) := by simp
  have h2 : s / 2 ^ k < 2 ^ 16 := Nat.lt_of_le_of_lt (Nat.div_le_self _ _) hs
  have h3 := and_u16 (s / 2 ^ k) 1 h2 (by decide)
  rw [h1]
  rw [show ((1 : Nat) : Int) = (1 : Int) from rfl] at h3
  rw [h3, Nat.and_one_is_mod, Nat.testBit_eq_decide_div_mod_eq]
  by_cases h : s / 2 ^ k % 2 = 1
  · rw [h]; rfl
  · have h4 : s / 2 ^ k % 2 = 0 := by omega
    rw [h4]; rfl

set_option maxHeartbeats 400000 in
theorem has2_any (s k : Nat) (w : World) (hs : s < 2 ^ 16) (hk : k < 16) :
    Calls Try.prog 66 #[.int .u16 (s : Int), .int .i64 (k : Int)] w fun e w' => e = .returned (.bool (s.testBit k)) ∧ w' = w := by
  have hk0 : (0 : Int) ≤ (k : Int) := by omega
  have HB := hide (bit_of2 s k hs)
  go_enter Try.func66, Try.ntmps66
  go_wp2_with fail
  go_ret
  exact ⟨ret_bool HB.out, rfl⟩

/-- The places of a rising list are its bits. -/
theorem nums2_mask {p : Int} {xs : List Int} (hp : p ≤ 16) (h : riseB xs 0 (p - 1) = true) : nums2 (maskL xs).testBit 16 = xs := by
  have hm := fun z hz => riseB_mem h z hz
  have key : ∀ z, z ∈ nums2 (maskL xs).testBit 16 ↔ z ∈ xs := by
    intro z
    unfold nums2
    simp only [List.mem_map, List.mem_filter, List.mem_range]
    constructor
    · rintro ⟨i, ⟨_, hb⟩, rfl⟩
      rw [maskL_bit _ _ (fun z hz => (hm z hz).1)] at hb
      simpa using hb
    · intro hz
      have := hm z hz
      refine ⟨z.toNat, ⟨by omega, ?_⟩, by omega⟩
      rw [maskL_bit _ _ (fun z hz => (hm z hz).1), Int.toNat_of_nonneg this.1]
      simpa using hz
  have hrise : ∀ (f : Nat → Bool) (n : Nat), riseB (nums2 f n) 0 ((n : Int) - 1) = true := by
    intro f n
    induction n with
    | zero => rfl
    | succ n ih =>
      have hup : ∀ (ys : List Int) (lo hi hi' : Int), hi ≤ hi' → riseB ys lo hi = true → riseB ys lo hi' = true := by
        intro ys
        induction ys with
        | nil => intros; rfl
        | cons y r ihr =>
          intro lo hi hi' hh hr
          simp only [riseB, Bool.and_eq_true, decide_eq_true_eq] at hr ⊢
          exact ⟨⟨hr.1.1, by omega⟩, ihr _ _ _ hh hr.2⟩
      by_cases hf : f n = true
      · rw [nums2_yes hf, riseB_append, hup _ _ _ _ (by omega) ih]
        simp only [Bool.true_and, riseB, Bool.and_true, Bool.and_eq_true, decide_eq_true_eq]
        refine ⟨?_, by omega⟩
        cases hg : (nums2 f n).getLast? with
        | none => simp
        | some z =>
          have hz := List.mem_of_getLast? hg
          have := riseB_mem ih z hz
          simp; omega
      · have hf' : f n = false := by simpa using hf
        rw [nums2_no hf']
        exact hup _ _ _ _ (by omega) ih
  have hext : ∀ (ys zs : List Int) (lo hi : Int), riseB ys lo hi = true → riseB zs lo hi = true → (∀ z, z ∈ ys ↔ z ∈ zs) → ys = zs := by
    intro ys
    induction ys with
    | nil =>
      intro zs lo hi _ _ hh
      cases zs with
      | nil => rfl
      | cons y r => have := (hh y).mpr (by simp); simp at this
    | cons x r ih =>
      intro zs lo hi hx hy hh
      cases zs with
      | nil => have := (hh x).mp (by simp); simp at this
      | cons y s =>
        simp [riseB] at hx hy
        have hxm := riseB_mem hx.2
        have hym := riseB_mem hy.2
        have e : x = y := by
          have h1 := (hh x).mp (by simp)
          have h2 := (hh y).mpr (by simp)
          rcases List.mem_cons.mp h1 with e | h1
          · exact e
          · rcases List.mem_cons.mp h2 with e | h2
            · exact e.symm
            · have := hym x h1; have := hxm y h2; omega
        subst e
        congr 1
        refine ih s _ _ hx.2 hy.2 fun z => ?_
        have hz := hh z
        simp only [List.mem_cons] at hz
        constructor
        · intro hm
          rcases hz.mp (.inr hm) with e | hm'
          · have := hxm z hm; omega
          · exact hm'
        · intro hm
          rcases hz.mpr (.inr hm) with e | hm'
          · have := hym z hm; omega
          · exact hm'
  have hup2 : riseB xs 0 15 = true := by
    have : ∀ (ys : List Int) (lo hi hi' : Int), hi ≤ hi' → riseB ys lo hi = true → riseB ys lo hi' = true := by
      intro ys
      induction ys with
      | nil => intros; rfl
      | cons y r ihr =>
        intro lo hi hi' hh hr
        simp only [riseB, Bool.and_eq_true, decide_eq_true_eq] at hr ⊢
        exact ⟨⟨hr.1.1, by omega⟩, ihr _ _ _ hh hr.2⟩
    exact this xs 0 (p - 1) 15 (by omega) h
  exact hext _ _ 0 15 (hrise _ 16) hup2 key

set_option maxHeartbeats 1000000 in
theorem setList_any (s : Nat) (w : World) (hs : s < 2 ^ 16) :
    Calls Try.prog 47 #[.int .u16 (s : Int)] w fun e w' => ∃ a b m c, e = .returned (.slice a m c) ∧ w.heap.size ≤ b ∧ Ob w' a b m (nums2 s.testBit 16) ∧ Below w.heap.size w w' := by
  obtain ⟨i0, hi, hz0, hz1, hz2⟩ := info_split2 Try.info3
  go_enter Try.func47, Try.ntmps47
  go_wp2_with fail
  go_loopw [3, 5] (fun o i wr => ∃ k m : Nat, k ≤ 16 ∧ i = .int .i64 k ∧ Hid (m ≤ k) ∧ Hid (wr.ownsRow w.heap.size 3 1 o m ((nums2 s.testBit k).map (Value.int .i64))) ∧ Hid (Below w.heap.size w wr)) (fun _ i _ => 16 - (intOf i).toNat)
  case atStart => exact ⟨0, 0, Nat.zero_le _, rfl, Nat.le_refl _, World.ownsRow_nil _ _ _ _, Below.refl _ _⟩
  case round =>
    obtain ⟨k, m, hk, rfl, hmk, hown, hbw⟩ := hrel
    by_cases hlt : k < 16
    rotate_left
    · have hk' : k = 16 := by omega
      subst hk'
      obtain ⟨av, bv, cv, hv, hbv, hob⟩ := own_ob2 hown.out
      subst hv
      have HE := hide (And.intro hbv (And.intro hob hbw.out))
      clear hown hob hbv
      go_wp2_with fail
      go_ret
      exact ⟨av, bv, m, cv, rfl, HE.out⟩
    have hi1 : ((k : Int)) < 16 := by omega
    cases hh : s.testBit k
    · have HN := hide (nums2_no hh)
      go_wp2_with (go_at_call 66; refine (has2_any s k _ hs hlt).mono ?_; rintro e w' ⟨rfl, rfl⟩)
      go_roundw
      case rel => exact ⟨k + 1, m, by omega, by go_num, Nat.le_succ_of_le hmk.out, by rw [HN.out]; exact hown, hbw⟩
      case measure => simp [intOf]; omega
    have HN := hide (nums2_yes hh)
    have hA2 := below_al wr (.cells #[.int .i64 (k : Int)] 3)
    have HO2 := hide (hown.out.alloc (.cells #[.int .i64 (k : Int)] 3))
    have HB2 := hide (hbw.out.trans (hA2.mono hbw.out.size))
    have HCE : Hid (∀ j u, ([.int .i64 (k : Int)] : List Value)[j]? = some u → (wr.alloc (.cells #[.int .i64 (k : Int)] 3)).cell? ((⟨wr.heap.size, 0, none⟩ : Addr).add j) = some u) := one_cell2 wr _
    have H1c : Hid (∀ u ∈ ([.int .i64 (k : Int)] : List Value), u.oneCell' = true) := fun u hu => by simp at hu; subst hu; rfl
    have HX := hide (show m + 1 ≤ maxLen by have := hmk.out; unfold maxLen; omega)
    have HY := hide (show (m + 1) * 8 ≤ 140737488355328 by have := hmk.out; omega)
    have HZ := hide HB2.out.size
    clear hA2 hown hbw
    go_wp2_with (first
      | (go_at_call 66; refine (has2_any s k _ hs hlt).mono ?_; rintro e w' ⟨rfl, rfl⟩)
      | (refine wpList_append_own _ rfl (.tmp 11) (.tmp 13) 38 rfl w.heap.size 3 i0 (.int .i64 0) 1 8 Try.underlying38 hi hz0 hz1 hz2 rfl (by decide) u3 m _ rfl HO2.out ⟨_, 0, none⟩ 1 1 [.int .i64 (k : Int)] rfl rfl HCE.out H1c.out HX.out HY.out HZ.out ?_; intro v' W' r1 r2 r3))
    have HR1 : Hid (W'.ownsRow w.heap.size 3 1 v' (m + 1) ((nums2 s.testBit (k + 1)).map (Value.int .i64))) := by
      show World.ownsRow _ _ _ _ _ _ _
      rw [HN.out, List.map_append]; exact r1
    have HB3 := hide (own_below2 HO2.out r2 HB2.out HB2.out.size (Nat.le_refl _))
    clear r1 r2 r3
    go_wp2_with fail
    go_roundw
    case rel => exact ⟨k + 1, m + 1, by omega, by go_num, Nat.succ_le_succ hmk.out, HR1, HB3⟩
    case measure => simp [intOf]; omega
end Go.Proofs.Ytmhgdhkpceggkab


/- What firings change: change, changes, changesAt, changesBy, keepsWeight of the program. -/
namespace Go.Proofs.Ytmhgdhkpceggkab
open Go.RowKit
set_option maxRecDepth 10000

/-- What one firing of a step changes at a place, by its sets. -/
def chI (s0 s1 j : Nat) : Int := (if s1.testBit j then 1 else 0) - (if s0.testBit j then 1 else 0)

def chL (L : List (List Int)) (j k : Nat) : Int := chI (maskL (L.getD (3 * k) [])) (maskL (L.getD (3 * k + 1) [])) j

/-- What counted firings change at a place. -/
def chBy (L : List (List Int)) (n : Nat) (cs : List Int) (j : Nat) : Int := sumF (fun k => chL L j k * cs.getD k 0) n

/-- What a step changes of a weight. -/
def chW (s0 s1 : Nat) (ws : List Int) (P : Nat) : Int := sumF (fun j => chI s0 s1 j * ws.getD j 0) P

theorem chI_cases (s0 s1 j : Nat) : chI s0 s1 j = -1 ∨ chI s0 s1 j = 0 ∨ chI s0 s1 j = 1 := by
  unfold chI; cases s1.testBit j <;> cases s0.testBit j <;> simp

theorem chI_mul {s0 s1 j : Nat} {x : Int} (h : -1000 ≤ x ∧ x ≤ 1000) : -1000000 ≤ chI s0 s1 j * x ∧ chI s0 s1 j * x ≤ 1000000 := by
  rcases chI_cases s0 s1 j with e | e | e <;> rw [e] <;> omega

theorem cells3E {w : World} {b : Nat} {v0 v1 v2 : Value} {T : TypeId} (h : w.heap[b]? = some (.cells #[v0, v1, v2] T (0, 0))) : w.cell? ⟨b, 0, none⟩ = some v0 ∧ w.cell? ⟨b, 1, none⟩ = some v1 ∧ w.cell? ⟨b, 2, none⟩ = some v2 :=
  ⟨cell_of_row w b 0 _ _ _ h, cell_of_row w b 1 _ _ _ h, cell_of_row w b 2 _ _ _ h⟩





end Go.Proofs.Ytmhgdhkpceggkab


/- l2Fire and the specification's Fire, for every net and mark in memory. -/
namespace Go.Proofs.Ytmhgdhkpceggkab
open Go.RowKit

/-- The numbers at the places xs are changed by g, one behind the other. -/
def updL (g : Int → Int) (xs ys : List Int) : List Int := xs.foldl (fun l p => l.set p.toNat (g (l.getD p.toNat 0))) ys

theorem updL_snoc (g : Int → Int) (xs ys : List Int) (x : Int) : updL g (xs ++ [x]) ys = (updL g xs ys).set x.toNat (g ((updL g xs ys).getD x.toNat 0)) := by simp [updL, List.foldl_append]

theorem updL_take (g : Int → Int) (xs ys : List Int) (k : Nat) (x : Int) (h : xs[k]? = some x) : updL g (xs.take (k + 1)) ys = (updL g (xs.take k) ys).set x.toNat (g ((updL g (xs.take k) ys).getD x.toNat 0)) := by
  rw [List.take_add_one, h]; exact updL_snoc _ _ _ _

theorem updL_len (g : Int → Int) (xs ys : List Int) : (updL g xs ys).length = ys.length := by
  induction xs using snoc_ind with
  | h0 => rfl
  | h1 xs x ih => rw [updL_snoc, List.length_set, ih]

theorem riseB_snoc {xs : List Int} {x lo hi : Int} (h : riseB (xs ++ [x]) lo hi = true) : riseB xs lo hi = true ∧ x ∉ xs := by
  induction xs generalizing lo with
  | nil => exact ⟨rfl, by simp⟩
  | cons y r ih =>
    simp only [List.cons_append, riseB, Bool.and_eq_true, decide_eq_true_eq] at h ⊢
    obtain ⟨h1, h2⟩ := h
    have := ih h2
    refine ⟨⟨h1, this.1⟩, ?_⟩
    intro hm
    rcases List.mem_cons.mp hm with e | hm
    · have := riseB_mem h2 x (by simp); omega
    · exact this.2 hm

theorem updL_at (g : Int → Int) {xs : List Int} (ys : List Int) (hi : Int) (h : riseB xs 0 hi = true) (hl : hi < ys.length) (i : Nat) : (updL g xs ys).getD i 0 = if (i : Int) ∈ xs then g (ys.getD i 0) else ys.getD i 0 := by
  induction xs using snoc_ind with
  | h0 => simp [updL]
  | h1 xs x ih =>
    have hs := riseB_snoc h
    have hx := riseB_mem h x (by simp)
    have ih' := ih hs.1
    rw [updL_snoc, List.getD_eq_getElem?_getD, List.getElem?_set, updL_len]
    by_cases e : x.toNat = i
    · subst e
      rw [if_pos rfl, if_pos (by omega), ih', Int.toNat_of_nonneg hx.1, if_neg hs.2, if_pos (by simp)]
      rfl
    · rw [if_neg e, ← List.getD_eq_getElem?_getD, ih']
      have hne : (i : Int) ≠ x := by omega
      by_cases hm : (i : Int) ∈ xs
      · rw [if_pos hm, if_pos (by simp [hm])]
      · rw [if_neg hm, if_neg (by simp [hm, hne])]

theorem bound3 (g : Int → Int) {xs : List Int} (ys : List Int) (hi : Int) (h : riseB xs 0 hi = true) (hl : hi < ys.length) (i : Nat) (hb : -60 ≤ ys.getD i 0 ∧ ys.getD i 0 ≤ 60) (hg : -60 ≤ g (ys.getD i 0) ∧ g (ys.getD i 0) ≤ 60) : -60 ≤ (updL g xs ys).getD i 0 ∧ (updL g xs ys).getD i 0 ≤ 60 := by
  rw [updL_at g ys hi h hl i]; split
  · exact hg
  · exact hb

def fireL (x0 x1 x2 ys : List Int) : List Int := updL (· + 1) x1 (updL (fun _ => 0) x2 (updL (· - 1) x0 ys))

end Go.Proofs.Ytmhgdhkpceggkab


/- The specification's l7Plain, l7Counts, l7Weights, l7Change. -/
namespace Go.Proofs.Ytmhgdhkpceggkab
open Go.RowKit
set_option maxRecDepth 10000

set_option maxHeartbeats 1000000 in
theorem plainS_any (p : Int) (a : Option Addr) (n c : Nat) (L : List (List Int)) (w : World) (h : Lists w a (3 * n) L) (hs : sizeN n L ≤ 1048576) :
    Calls Try.prog 19 #[.agg #[.int .i64 p, .slice a n c]] w fun e w' => e = .returned (.bool (plainB p n L)) ∧ Below w.heap.size w w' := by
  have hAl := below_al w (.cells #[.int .i64 p, .slice a n c] 31)
  have PAR := hide (heap_alloc_new w (.cells #[.int .i64 p, .slice a n c] 31))
  have HG := hide (goodNetS_any p a n c L _ (h.below hAl) hs)
  have HL := hide h
  have HB0 := hide hAl
  clear h hAl
  by_cases hg : netOk p n L = true
  rotate_left
  · have hg' : netOk p n L = false := by simpa using hg
    rw [hg'] at HG
    have HF := hide (show plainB p n L = false by unfold plainB; rw [hg']; rfl)
    clear hg hg'
    go_enter Try.func19, Try.ntmps19
    go_wp2_with fail
    refine HG.out.mono ?_
    rintro e w2 ⟨rfl, hb⟩
    have HB1 := hide (HB0.out.trans (hb.mono HB0.out.size))
    clear hb
    go_wp2_with fail
    go_ret
    exact ⟨ret_bool HF.out.symm, HB1.out⟩
  have hn := netN hg
  rw [hg] at HG
  have HF := hide (show plainB p n L = !resB n L by unfold plainB; rw [hg]; rfl)
  clear hg
  go_enter Try.func19, Try.ntmps19
  go_wp2_with fail
  refine HG.out.mono ?_
  rintro e w2 ⟨rfl, hb⟩
  have HB1 := hide (HB0.out.trans (hb.mono HB0.out.size))
  obtain ⟨hc0, hc1⟩ := cells2 (keep PAR.out hb)
  clear hb HG PAR HB0
  go_wp2_with fail
  refine (resS_any _ _ _ _ L _ (HL.out.below HB1.out) hn).mono ?_
  rintro e w3 ⟨rfl, hb⟩
  have HB2 := hide (HB1.out.trans (hb.mono HB1.out.size))
  obtain ⟨r, hr⟩ : ∃ r, Hid (resB n L = r) := ⟨_, rfl⟩
  rw [hr.out] at HF ⊢
  clear hb HB1 hc0 hc1
  go_wp2_with fail
  go_ret
  exact ⟨ret_bool (by rw [HF.out]), HB2.out⟩



/-- The numbers f 0, f 1 and so on, by what stands at each place. -/
theorem list_byD {xs ys : List Int} (hl : xs.length = ys.length) (h : ∀ i, i < ys.length → xs.getD i 0 = ys.getD i 0) : xs = ys := by
  apply List.ext_getElem hl
  intro i h1 h2
  have := h i h2
  rw [List.getD_eq_getElem?_getD, List.getD_eq_getElem?_getD, List.getElem?_eq_getElem h1, List.getElem?_eq_getElem h2] at this
  exact this

theorem net_rises {p : Int} {n k : Nat} {L : List (List Int)} (h : netOk p n L = true) (hk : k < n) : riseB (L.getD (3 * k) []) 0 (p - 1) = true ∧ riseB (L.getD (3 * k + 1) []) 0 (p - 1) = true ∧ riseB (L.getD (3 * k + 2) []) 0 (p - 1) = true := by
  unfold netOk at h
  rw [Bool.and_eq_true] at h
  have ht := List.all_eq_true.mp h.2 k (by simpa using hk)
  unfold triOk at ht
  simp only [Bool.and_eq_true] at ht
  exact ⟨ht.1.1.2, ht.1.2, ht.2⟩

theorem net_masks {p : Int} {n : Nat} {L : List (List Int)} (h : netOk p n L = true) (hl : L.length = 3 * n) : ∀ i, maskL (L.getD i []) < 2 ^ 16 := by
  have hp : p ≤ 16 := by unfold netOk at h; simp [inB] at h; exact h.1.1.2
  intro i
  by_cases hi : i < 3 * n
  · have hr := net_rises h (show i / 3 < n by omega)
    have key : riseB (L.getD i []) 0 (p - 1) = true := by
      have : i = 3 * (i / 3) ∨ i = 3 * (i / 3) + 1 ∨ i = 3 * (i / 3) + 2 := by omega
      rcases this with e | e | e
      · rw [e]; exact hr.1
      · rw [e]; exact hr.2.1
      · rw [e]; exact hr.2.2
    exact maskL_lt _ fun x hx => by have := (riseB_mem key x hx).2; omega
  · rw [List.getD_eq_getElem?_getD, List.getElem?_eq_none (by omega)]
    show maskL [] < 2 ^ 16
    decide

theorem chL_eq {p : Int} {n k j : Nat} {L : List (List Int)} (h : netOk p n L = true) (hk : k < n) : chL L j k = (if (j : Int) ∈ L.getD (3 * k + 1) [] then 1 else 0) - (if (j : Int) ∈ L.getD (3 * k) [] then 1 else 0) := by
  have hr := net_rises h hk
  unfold chL chI
  rw [maskL_bit _ _ (fun x hx => (riseB_mem hr.1 x hx).1), maskL_bit _ _ (fun x hx => (riseB_mem hr.2.1 x hx).1)]
  simp

/-- What the counted firings of the first k transitions change. -/
def chP (L : List (List Int)) (cs : List Int) (P k : Nat) : List Int := listF (fun j => sumF (fun i => chL L j i * cs.getD i 0) k) P

theorem chP_step {P n k : Nat} {L : List (List Int)} {cs : List Int} (h : netOk (P : Int) n L = true) (hk : k < n) :
    updL (fun y => y - cs.getD k 0) (L.getD (3 * k) []) (updL (fun y => y + cs.getD k 0) (L.getD (3 * k + 1) []) (chP L cs P k)) = chP L cs P (k + 1) := by
  have hr := net_rises h hk
  have hP : 1 ≤ P := by unfold netOk at h; simp [inB] at h; omega
  apply list_byD
  · rw [updL_len, updL_len]; unfold chP; rw [listF_len, listF_len]
  · intro i hi
    have hi' : i < P := by unfold chP at hi; rwa [listF_len] at hi
    have hl : (chP L cs P k).length = P := listF_len _ _
    rw [updL_at _ _ _ hr.1 (by rw [updL_len, hl]; omega), updL_at _ _ _ hr.2.1 (by rw [hl]; omega)]
    unfold chP
    rw [listF_at _ _ _ hi', listF_at _ _ _ hi', sumF, chL_eq h hk]
    generalize cs.getD k 0 = c
    by_cases e1 : (i : Int) ∈ L.getD (3 * k + 1) [] <;> by_cases e0 : (i : Int) ∈ L.getD (3 * k) [] <;> simp only [e0, e1, if_true, if_false] <;> omega

theorem chP_bound {P n k : Nat} {L : List (List Int)} {cs : List Int} (hn : n ≤ 24) (hk : k ≤ n) (hcs : ∀ i, i < n → -1000 ≤ cs.getD i 0 ∧ cs.getD i 0 ≤ 1000) (j : Nat) : -24000000 ≤ (chP L cs P k).getD j 0 ∧ (chP L cs P k).getD j 0 ≤ 24000000 := by
  by_cases hj : j < P
  · unfold chP
    rw [listF_at _ _ _ hj]
    have := sumF_bound (f := fun i => chL L j i * cs.getD i 0) (n := n) (M := 1000000) (by omega) (fun i hi => chI_mul (hcs i hi)) k hk
    omega
  · rw [List.getD_eq_getElem?_getD, List.getElem?_eq_none (by unfold chP; rw [listF_len]; omega)]
    simp

theorem upd_bound (g : Int → Int) (xs ys : List Int) (hi : Int) (h : riseB xs 0 hi = true) (hl : hi < ys.length) (i : Nat) (M : Int) (hb : -M ≤ ys.getD i 0 ∧ ys.getD i 0 ≤ M) (hg : -M ≤ g (ys.getD i 0) ∧ g (ys.getD i 0) ≤ M) : -M ≤ (updL g xs ys).getD i 0 ∧ (updL g xs ys).getD i 0 ≤ M := by
  rw [updL_at g ys hi h hl i]; split
  · exact hg
  · exact hb

end Go.Proofs.Ytmhgdhkpceggkab


/- ChangeBy and IsCycle of both sides. -/
namespace Go.Proofs.Ytmhgdhkpceggkab
open Go.RowKit
set_option maxRecDepth 10000

def OEndC (g : Bool) (r : List Int) (w : World) (e : Ending) (w' : World) : Prop :=
  ∃ a b n c, e = .returned (.tuple #[.slice a n c, .bool g]) ∧ Ob w' a b n r ∧ w.heap.size ≤ b ∧ Below w.heap.size w w'
def WEndC (g : Bool) (r : List Int) (w : World) (e : Ending) (w' : World) : Prop :=
  ∃ a n c, e = .returned (.tuple #[.slice a n c, .bool g]) ∧ Row w' a n r ∧ Below w.heap.size w w'

theorem oendC_no {r : List Int} {w w' : World} (h : r = []) (hb : Below w.heap.size w w') : OEndC false r w (.returned (.tuple #[.slice none 0 0, .bool false])) w' :=
  ⟨none, w.heap.size, 0, 0, rfl, ⟨by rw [h]; rfl, .inl rfl⟩, Nat.le_refl _, hb⟩
theorem wendC_no {r : List Int} {w w' : World} (h : r = []) (hb : Below w.heap.size w w') : WEndC false r w (.returned (.tuple #[.slice none 0 0, .bool false])) w' :=
  ⟨none, 0, 0, rfl, ⟨by rw [h]; rfl, .inl rfl⟩, hb⟩

theorem MadeEnd.ob {f : Nat → Int} {n g : Nat} {w' : World} (h : OutR w' g n (listF f n)) : Ob w' (some ⟨g, 0, none⟩) g n (listF f n) :=
  ⟨h.1, .inr ⟨rfl, h.2⟩⟩

def chR (p : Int) (n : Nat) (L : List (List Int)) (cs : List Int) : List Int := if cntOk p n L cs then listF (chBy L n cs) p.toNat else []

theorem chR_len (p : Int) (n : Nat) (L : List (List Int)) (cs : List Int) : (chR p n L cs).length ≤ 16 := by
  unfold chR; split
  · rename_i h
    unfold cntOk plainB netOk at h
    simp [inB] at h
    rw [listF_len]; omega
  · exact Nat.zero_le _

theorem cnt_parts {p : Int} {n : Nat} {L : List (List Int)} {cs : List Int} (h : cntOk p n L cs = true) : netOk p n L = true ∧ cs.length = n ∧ (∀ i, i < n → -1000 ≤ cs.getD i 0 ∧ cs.getD i 0 ≤ 1000) ∧ 1 ≤ p ∧ p ≤ 16 := by
  unfold cntOk plainB at h
  simp only [Bool.and_eq_true] at h
  obtain ⟨⟨h1, _⟩, h2, h3⟩ := h
  have hl : cs.length = n := by have := of_decide_eq_true h2; omega
  refine ⟨h1, hl, fun i hi => ?_, ?_⟩
  · unfold allB at h3
    have hi' : i < cs.length := by omega
    have := List.all_eq_true.mp h3 (cs[i]) (List.getElem_mem hi')
    rw [List.getD_eq_getElem?_getD, List.getElem?_eq_getElem hi']
    simp [inB] at this ⊢; omega
  · unfold netOk at h1; simp [inB] at h1; omega

def cyR (p : Int) (n : Nat) (L : List (List Int)) (cs : List Int) : Bool := cntOk p n L cs && allB (chR p n L cs) 0 0

def CyEnd (p : Int) (n : Nat) (L : List (List Int)) (cs : List Int) (w : World) (e : Ending) (w' : World) : Prop :=
  e = .returned (.tuple #[.bool (cyR p n L cs), .bool (cntOk p n L cs)]) ∧ Below w.heap.size w w'





end Go.Proofs.Ytmhgdhkpceggkab


/- IsInvariant of both sides. -/
namespace Go.Proofs.Ytmhgdhkpceggkab
open Go.RowKit
set_option maxRecDepth 10000

def wgM (ws : List Int) (P n : Nat) (L : List (List Int)) : Bool := (List.range n).any fun i => !decide (chW (maskL (L.getD (3 * i) [])) (maskL (L.getD (3 * i + 1) [])) ws P = 0)

theorem wgM_yes {ws : List Int} {P n k : Nat} {L : List (List Int)} (hk : k < n) (h : (!decide (chW (maskL (L.getD (3 * k) [])) (maskL (L.getD (3 * k + 1) [])) ws P = 0)) = true) : wgM ws P n L = true := by
  unfold wgM
  rw [List.any_eq_true]
  exact ⟨k, by simpa using hk, h⟩

theorem wgM_step {ws : List Int} {P k : Nat} {L : List (List Int)} (h : wgM ws P k L = false) (he : (!decide (chW (maskL (L.getD (3 * k) [])) (maskL (L.getD (3 * k + 1) [])) ws P = 0)) = false) : wgM ws P (k + 1) L = false := by
  unfold wgM at *
  rw [List.range_succ, List.any_append, h]
  simp only [List.any_cons, List.any_nil, Bool.or_false, he]


/-- The weights of the places of a list, added. -/
def sumW (ws xs : List Int) : Int := sumF (fun i => ws.getD (xs.getD i 0).toNat 0) xs.length

theorem sumF_add {f : Nat → Int} {n j : Nat} {c : Int} (hj : j < n) : sumF (fun i => f i + if i = j then c else 0) n = sumF f n + c := by
  have key : ∀ m, sumF (fun i => f i + if i = j then c else 0) m = sumF f m + if j < m then c else 0 := by
    intro m
    induction m with
    | zero => simp [sumF]
    | succ k ih =>
      rw [sumF, sumF, ih]
      by_cases e : k = j
      · subst e; simp; omega
      · by_cases h : j < k
        · rw [if_pos h, if_neg e, if_pos (by omega)]; omega
        · rw [if_neg h, if_neg e, if_neg (by omega)]; omega
  rw [key, if_pos hj]

theorem sumF_sub {f g : Nat → Int} {n : Nat} : sumF (fun i => f i - g i) n = sumF f n - sumF g n := by
  induction n with
  | zero => rfl
  | succ k ih => simp only [sumF]; rw [ih]; omega

/-- The weights of a rising list's places are the weights of the places that lie in it. -/
theorem sumW_in {xs ws : List Int} {P : Nat} (h : riseB xs 0 ((P : Int) - 1) = true) : sumF (fun j => (if (j : Int) ∈ xs then 1 else 0) * ws.getD j 0) P = sumW ws xs := by
  induction xs using snoc_ind with
  | h0 =>
    show _ = 0
    have : ∀ m, sumF (fun j => (if (j : Int) ∈ ([] : List Int) then 1 else 0) * ws.getD j 0) m = 0 := by
      intro m
      induction m with
      | zero => rfl
      | succ k ih => rw [sumF, ih]; simp
    exact this P
  | h1 xs x ih =>
    have hs := riseB_snoc h
    have hx := riseB_mem h x (by simp)
    have e1 : sumW ws (xs ++ [x]) = sumW ws xs + ws.getD x.toNat 0 := by
      unfold sumW
      rw [List.length_append]
      show sumF _ (xs.length + 1) = _
      rw [sumF]
      congr 1
      · refine sumF_congr fun i hi => ?_
        have e : (xs ++ [x]).getD i 0 = xs.getD i 0 := by rw [List.getD_eq_getElem?_getD, List.getElem?_append_left hi, ← List.getD_eq_getElem?_getD]
        rw [e]
      · simp
    rw [e1, ← ih hs.1, ← sumF_add (n := P) (j := x.toNat) (c := ws.getD x.toNat 0) (by omega)]
    refine sumF_congr fun i hi => ?_
    by_cases e : i = x.toNat
    · subst e
      have hxe : ((x.toNat : Nat) : Int) = x := by omega
      rw [hxe, if_pos (by simp), if_pos rfl, if_neg hs.2]; omega
    · have hne : (i : Int) ≠ x := by omega
      rw [if_neg e]
      by_cases hm : (i : Int) ∈ xs
      · rw [if_pos hm, if_pos (by simp [hm])]; omega
      · rw [if_neg hm, if_neg (by simp [hm, hne])]; omega

theorem chW_eq {p : Int} {P n k : Nat} {L : List (List Int)} (ws : List Int) (hp : p = P) (h : netOk p n L = true) (hk : k < n) : chW (maskL (L.getD (3 * k) [])) (maskL (L.getD (3 * k + 1) [])) ws P = sumW ws (L.getD (3 * k + 1) []) - sumW ws (L.getD (3 * k) []) := by
  have hr := net_rises h hk
  subst hp
  rw [← sumW_in (P := P) hr.1, ← sumW_in (P := P) hr.2.1, ← sumF_sub]
  unfold chW
  refine sumF_congr fun j _ => ?_
  have := chL_eq (j := j) h hk
  unfold chL at this
  rw [this, Int.sub_mul]

def invB (ws : List Int) (n : Nat) (L : List (List Int)) : Bool := (List.range n).all fun k => decide (sumW ws (L.getD (3 * k) []) = sumW ws (L.getD (3 * k + 1) []))

theorem wgM_eq {p : Int} {P n : Nat} {L : List (List Int)} (ws : List Int) (hp : p = P) (h : netOk p n L = true) : (!wgM ws P n L) = invB ws n L := by
  unfold wgM invB
  rw [Bool.eq_iff_iff, Bool.not_eq_true', List.all_eq_true, List.any_eq_false]
  constructor
  · intro hh k hk
    have := hh k hk
    rw [chW_eq ws hp h (by simpa using hk)] at this
    simp at this ⊢; omega
  · intro hh k hk
    have := hh k hk
    rw [chW_eq ws hp h (by simpa using hk)]
    simp at this ⊢; omega

theorem invB_take {ws : List Int} {k : Nat} {L : List (List Int)} (h : invB ws k L = true) (hk : sumW ws (L.getD (3 * k) []) = sumW ws (L.getD (3 * k + 1) [])) : invB ws (k + 1) L = true := by
  unfold invB at *
  rw [List.range_succ, List.all_append, h]; simp at hk ⊢; exact hk

theorem invB_no {ws : List Int} {n k : Nat} {L : List (List Int)} (hk : k < n) (h : ¬ sumW ws (L.getD (3 * k) []) = sumW ws (L.getD (3 * k + 1) [])) : invB ws n L = false := by
  unfold invB
  rw [List.all_eq_false]
  exact ⟨k, by simpa using hk, by simpa using h⟩


theorem wgt_parts {p : Int} {n : Nat} {L : List (List Int)} {ws : List Int} (h : wgtOk p n L ws = true) : netOk p n L = true ∧ (ws.length : Int) = p ∧ (∀ i, -9 ≤ ws.getD i 0 ∧ ws.getD i 0 ≤ 9) ∧ 1 ≤ p ∧ p ≤ 16 := by
  unfold wgtOk plainB at h
  simp only [Bool.and_eq_true] at h
  obtain ⟨⟨h1, _⟩, h2, h3⟩ := h
  refine ⟨h1, of_decide_eq_true h2, fun i => ?_, ?_⟩
  · by_cases hi' : i < ws.length
    · unfold allB at h3
      have := List.all_eq_true.mp h3 (ws[i]) (List.getElem_mem hi')
      rw [List.getD_eq_getElem?_getD, List.getElem?_eq_getElem hi']
      simp [inB] at this ⊢; omega
    · rw [List.getD_eq_getElem?_getD, List.getElem?_eq_none (by omega)]; simp
  · unfold netOk at h1; simp [inB] at h1; omega

theorem rise_len {xs : List Int} {lo hi : Int} (h : riseB xs lo hi = true) : (xs.length : Int) ≤ hi + 1 - lo ∨ xs = [] := by
  induction xs generalizing lo with
  | nil => exact .inr rfl
  | cons x r ih =>
    simp only [riseB, Bool.and_eq_true, decide_eq_true_eq] at h
    have hx := h.1
    rcases ih h.2 with e | e
    · left; simp only [List.length_cons]; omega
    · left; subst e; simp; omega


def inR (p : Int) (n : Nat) (L : List (List Int)) (ws : List Int) : Bool := wgtOk p n L ws && invB ws n L

def InEnd (p : Int) (n : Nat) (L : List (List Int)) (ws : List Int) (w : World) (e : Ending) (w' : World) : Prop :=
  e = .returned (.tuple #[.bool (inR p n L ws), .bool (wgtOk p n L ws)]) ∧ Below w.heap.size w w'


end Go.Proofs.Ytmhgdhkpceggkab


/- How many places a set has; keeps of the program: whether each step takes as many tokens from a set of places as it gives to it. -/
namespace Go.Proofs.Ytmhgdhkpceggkab
open Go.RowKit
set_option maxRecDepth 10000

/-- How many bits a number has. -/
def popc (s : Nat) : Int := sumF (fun j => if s.testBit j then 1 else 0) 10

theorem fold8 : ({ data := (([0, 1, 1, 2, 1, 2, 2, 3, 1, 2, 2, 3, 2, 3, 3, 4, 1, 2, 2, 3, 2, 3, 3, 4, 2, 3, 3, 4, 3, 4, 4, 5, 1, 2, 2, 3, 2, 3, 3, 4, 2, 3, 3, 4, 3, 4, 4, 5, 2, 3, 3, 4, 3, 4, 4, 5, 3, 4, 4, 5, 4, 5, 5, 6].append [1, 2, 2, 3, 2, 3, 3, 4, 2, 3, 3, 4, 3, 4, 4, 5, 2, 3, 3, 4, 3, 4, 4, 5, 3, 4, 4, 5, 4, 5, 5, 6, 2, 3, 3, 4, 3, 4, 4, 5, 3, 4, 4, 5, 4, 5, 5, 6, 3, 4, 4, 5, 4, 5, 5, 6, 4, 5, 5, 6, 5, 6, 6, 7]).append ([1, 2, 2, 3, 2, 3, 3, 4, 2, 3, 3, 4, 3, 4, 4, 5, 2, 3, 3, 4, 3, 4, 4, 5, 3, 4, 4, 5, 4, 5, 5, 6, 2, 3, 3, 4, 3, 4, 4, 5, 3, 4, 4, 5, 4, 5, 5, 6, 3, 4, 4, 5, 4, 5, 5, 6, 4, 5, 5, 6, 5, 6, 6, 7].append [2, 3, 3, 4, 3, 4, 4, 5, 3, 4, 4, 5, 4, 5, 5, 6, 3, 4, 4, 5, 4, 5, 5, 6, 4, 5, 5, 6, 5, 6, 6, 7, 3, 4, 4, 5, 4, 5, 5, 6, 4, 5, 5, 6, 5, 6, 6, 7, 4, 5, 5, 6, 5, 6, 6, 7, 5, 6, 6, 7, 6, 7, 7, 8])).toArray } : ByteArray) = Go.Lib.pop8tab := by kernel_rfl

theorem pop_all : ∀ n : Fin 1024, (Go.Lib.pop8 ((n.val : Int) / 256) + Go.Lib.pop8 (((n.val &&& 255 : Nat)) : Int)) = popc n.val := by decide +kernel
theorem pop_le : ∀ n : Fin 1024, 0 ≤ popc n.val ∧ popc n.val ≤ 10 := by decide +kernel

def kpM (st n : Nat) (L : List (List Int)) : Bool := (List.range n).any fun i => !decide (popc (maskL (L.getD (3 * i) []) &&& st) = popc (maskL (L.getD (3 * i + 1) []) &&& st))

theorem kpM_yes {st n k : Nat} {L : List (List Int)} (hk : k < n) (h : (!decide (popc (maskL (L.getD (3 * k) []) &&& st) = popc (maskL (L.getD (3 * k + 1) []) &&& st))) = true) : kpM st n L = true := by
  unfold kpM
  rw [List.any_eq_true]
  exact ⟨k, by simpa using hk, h⟩

theorem kpM_step {st k : Nat} {L : List (List Int)} (h : kpM st k L = false) (he : (!decide (popc (maskL (L.getD (3 * k) []) &&& st) = popc (maskL (L.getD (3 * k + 1) []) &&& st))) = false) : kpM st (k + 1) L = false := by
  unfold kpM at *
  rw [List.range_succ, List.any_append, h]
  simp only [List.any_cons, List.any_nil, Bool.or_false, he]


/-- 1 at the places of a set, 0 elsewhere. -/
def rowB (st P : Nat) : List Int := listF (fun j => if st.testBit j then 1 else 0) P

theorem rise_up {xs : List Int} {lo hi hi' : Int} (hh : hi ≤ hi') (h : riseB xs lo hi = true) : riseB xs lo hi' = true := by
  induction xs generalizing lo with
  | nil => rfl
  | cons y r ih =>
    simp only [riseB, Bool.and_eq_true, decide_eq_true_eq] at h ⊢
    exact ⟨⟨h.1.1, by omega⟩, ih h.2⟩

theorem sumW_congr {u v xs : List Int} (h : ∀ x ∈ xs, u.getD x.toNat 0 = v.getD x.toNat 0) : sumW u xs = sumW v xs := by
  unfold sumW
  refine sumF_congr fun i hi => h _ ?_
  rw [List.getD_eq_getElem?_getD, List.getElem?_eq_getElem hi]
  exact List.getElem_mem hi

theorem popc_sum {xs : List Int} {P st : Nat} (hP : P ≤ 10) (h : riseB xs 0 ((P : Int) - 1) = true) : popc (maskL xs &&& st) = sumW (rowB st P) xs := by
  have hr10 : riseB xs 0 (((10 : Nat) : Int) - 1) = true := rise_up (by omega) h
  have e1 : sumW (rowB st P) xs = sumW (rowB st 10) xs := sumW_congr fun x hx => by
    have := riseB_mem h x hx
    unfold rowB
    rw [listF_at _ _ _ (by omega), listF_at _ _ _ (by omega)]
  rw [e1, ← sumW_in (P := 10) hr10]
  unfold popc
  refine sumF_congr fun j hj => ?_
  rw [Nat.testBit_and, maskL_bit _ _ (fun x hx => (riseB_mem h x hx).1)]
  unfold rowB
  rw [listF_at _ _ _ hj]
  by_cases a : (j : Int) ∈ xs <;> by_cases b : st.testBit j = true <;> simp [a, b]

theorem kpM_eq {P n st : Nat} {L : List (List Int)} (hP : P ≤ 10) (h : netOk (P : Int) n L = true) : (!kpM st n L) = invB (rowB st P) n L := by
  unfold kpM invB
  rw [Bool.eq_iff_iff, Bool.not_eq_true', List.all_eq_true, List.any_eq_false]
  constructor
  · intro hh k hk
    have := hh k hk
    have hr := net_rises h (show k < n by simpa using hk)
    rw [popc_sum hP hr.1, popc_sum hP hr.2.1] at this
    simpa using this
  · intro hh k hk
    have := hh k hk
    have hr := net_rises h (show k < n by simpa using hk)
    rw [popc_sum hP hr.1, popc_sum hP hr.2.1]
    simpa using this
end Go.Proofs.Ytmhgdhkpceggkab
