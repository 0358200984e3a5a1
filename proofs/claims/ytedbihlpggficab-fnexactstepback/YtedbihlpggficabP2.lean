/- Contracts that the proof stands on, one behind the other. -/
import Derived.Test.YtedbihlpggficabP1
import Derived.Deep.RegionWith
import Derived.WalkKit
import Derived.ProofKit
import Derived.OpenShut
import Derived.ChangeOld
import Derived.Below
/- What toNet makes, and that eqTrans, eqTransS and eqNet answer true for nets that read the same. -/
namespace Go.Proofs.Ytedbihlpggficab
open Go.RowKit

theorem PartL.lists {w : World} {B n : Nat} {T : TypeId} {L : List (List Int)} (h : PartL w B (3 * n) (3 * n) T L) (hl : L.length = 3 * n) (hs : sizeN n L ≤ 1048576) : Lists w (some ⟨B, 0, none⟩) (3 * n) L := by
  obtain ⟨C, f, h1, h2, h3, h4⟩ := h
  refine ⟨hl, .inr ⟨B, 0, rfl, (Array.getElem?_eq_some_iff.mp h1).1, fun j hj => ?_⟩⟩
  obtain ⟨e1, e2, e3⟩ := h3 j hj
  refine ⟨_, _, _, by rw [cell_of_row w B (0 + j) C T _ h1, Nat.zero_add]; exact e1, ?_, Own.row (B := 0) ⟨rfl, _, rfl, Nat.zero_le _, e3⟩⟩
  have := len_le L j
  unfold sizeN at hs; unfold maxLen; omega

theorem PartL.set_low {w : World} {B n k g : Nat} {T : TypeId} {L : List (List Int)} (h : PartL w B n k T L) (hg : g < B) (o : Nat) (v : Value) : PartL (w.setCell ⟨g, o, none⟩ v) B n k T L := by
  obtain ⟨C, f, h1, h2, h3, h4⟩ := h
  refine ⟨C, f, (Below.heap_setCell _ _ _ _ (show B ≠ g by omega)).trans h1, h2, fun j hj => ?_, h4⟩
  obtain ⟨e1, e2, e3⟩ := h3 j hj
  exact ⟨e1, e2, (Below.heap_setCell _ _ _ _ (show f j ≠ g by omega)).trans e3⟩

set_option maxHeartbeats 400000 in
theorem toNet_any (p : Int) (a : Option Addr) (n c : Nat) (L : List (List Int)) (w : World) (h : Lists w a (3 * n) L) (hs : sizeN n L ≤ 1048576) :
    Calls Try.prog 11 #[.agg #[.int .i64 p, .slice a n c]] w fun e w' => ∃ B, e = .returned (.agg #[.int .i64 p, .slice (some ⟨B, 0, none⟩) n n]) ∧ w.heap.size ≤ B ∧ PartL w' B (3 * n) (3 * n) 89 L ∧ Below w.heap.size w w' := by
  have HL := hide h
  clear h
  go_enter Try.func11, Try.ntmps11
  go_wp2_with fail
  have hb0 := ((below_al w (.cells #[.int .i64 p, .slice a n c] 24)).alloc (by simp) (.cells #[.int .i64 0, .slice none 0 0] 31)).alloc (by simp; omega) (.cells #[.int .i64 p, .slice none 0 0] 31)
  have HB0 := hide hb0
  clear hb0
  refine (toTris_any _ _ _ L _ (HL.out.below HB0.out) hs).mono ?_
  rintro e w' ⟨rfl, hp, hb⟩
  have hsz : (((w.alloc (.cells #[.int .i64 p, .slice a n c] 24)).alloc (.cells #[.int .i64 0, .slice none 0 0] 31)).alloc (.cells #[.int .i64 p, .slice none 0 0] 31)).heap.size = w.heap.size + 1 + 1 + 1 := by simp
  rw [hsz] at hp hb ⊢
  have g2 : w'.heap[w.heap.size + 1 + 1]? = some (.cells #[.int .i64 p, .slice none 0 0] 31 (0, 0)) := by
    rw [hb.block _ (by omega)]
    have := heap_alloc_new ((w.alloc (.cells #[.int .i64 p, .slice a n c] 24)).alloc (.cells #[.int .i64 0, .slice none 0 0] 31)) (.cells #[.int .i64 p, .slice none 0 0] 31)
    simpa using this
  have g1 : w'.heap[w.heap.size + 1]? = some (.cells #[.int .i64 0, .slice none 0 0] 31 (0, 0)) := by
    rw [hb.block _ (by omega), heap_al_old _ _ _ (by simp)]
    have := heap_alloc_new (w.alloc (.cells #[.int .i64 p, .slice a n c] 24)) (.cells #[.int .i64 0, .slice none 0 0] 31)
    simpa using this
  have c20 := cell_of_row w' (w.heap.size + 1 + 1) 0 _ _ _ g2
  have c21 := cell_of_row w' (w.heap.size + 1 + 1) 1 _ _ _ g2
  have c10 := cell_of_row w' (w.heap.size + 1) 0 _ _ _ g1
  have c11 := cell_of_row w' (w.heap.size + 1) 1 _ _ _ g1
  simp at c20 c21 c10 c11
  have f21 := frozen_of_row w' (w.heap.size + 1 + 1) 1 _ _ g2
  have f10 := frozen_of_row w' (w.heap.size + 1) 0 _ _ g1
  have f11 := frozen_of_row w' (w.heap.size + 1) 1 _ _ g1
  have HP := hide hp
  have HB := hide (HB0.out.trans (hb.mono (by omega)))
  clear hb hp g1 g2 hsz HB0
  go_wp2_with fail
  refine bodyPost_ret (v := .agg #[.int .i64 p, .slice (some ⟨w.heap.size + 1 + 1 + 1, 0, none⟩) n n]) (by simp [results, Try.results11, go_sem, c10, c11]) rfl ?_
  exact ⟨_, rfl, by omega, ((HP.out.set_low (by omega) _ _).set_low (by omega) _ _).set_low (by omega) _ _, ((HB.out.setCell (by simp; omega) _).setCell (by simp) _).setCell (by simp) _⟩

set_option maxHeartbeats 400000 in
theorem eqTri_any (a0 a1 a2 d0 d1 d2 : Option Addr) (n0 n1 n2 c0 c1 c2 m0 m1 m2 k0 k1 k2 : Nat) (x0 x1 x2 : List Int) (w : World) (r0 : Row w a0 n0 x0) (r1 : Row w a1 n1 x1) (r2 : Row w a2 n2 x2) (s0 : Row w d0 m0 x0) (s1 : Row w d1 m1 x1) (s2 : Row w d2 m2 x2)
    (h0 : n0 ≤ 1048576) (h1 : n1 ≤ 1048576) (h2 : n2 ≤ 1048576) :
    Calls Try.prog 67 #[.agg #[.slice a0 n0 c0, .slice a1 n1 c1, .slice a2 n2 c2], .agg #[.slice d0 m0 k0, .slice d1 m1 k1, .slice d2 m2 k2]] w fun e w' => e = .returned (.bool true) ∧ Below w.heap.size w w' := by
  have R0 := hide r0
  have R1 := hide r1
  have R2 := hide r2
  have S0 := hide s0
  have S1 := hide s1
  have S2 := hide s2
  have hs0 := sameB_self x0
  have hs1 := sameB_self x1
  have hs2 := sameB_self x2
  clear r0 r1 r2 s0 s1 s2
  go_enter Try.func67, Try.ntmps67
  go_wp2_with fail
  refine (eq_any _ _ _ _ _ _ x0 x0 _ ((R0.out.alloc _).alloc _) ((S0.out.alloc _).alloc _) h0).mono ?_
  rintro e w' ⟨rfl, q, rfl⟩
  go_wp2_with fail
  refine (eq_any _ _ _ _ _ _ x1 x1 _ (((R1.out.alloc _).alloc _).drewN _) (((S1.out.alloc _).alloc _).drewN _) h1).mono ?_
  rintro e w' ⟨rfl, q1, rfl⟩
  go_wp2_with fail
  refine (eq_any _ _ _ _ _ _ x2 x2 _ (((R2.out.alloc _).alloc _).drewN _) (((S2.out.alloc _).alloc _).drewN _) h2).mono ?_
  rintro e w' ⟨rfl, q2, rfl⟩
  go_wp2_with fail
  go_ret
  exact ⟨rfl, (below_two w _ _).trans ((below_drewN' _ _).mono (by simp; omega))⟩

theorem below_drew2 (w : World) (o1 o2 : Obj) (q : Nat) : Below w.heap.size w (((w.alloc o1).alloc o2).drewN q) := (below_two w _ _).trans ((below_drewN' _ _).mono (by simp; omega))

set_option maxHeartbeats 1000000 in
theorem eqTris_any (a d : Option Addr) (n c e : Nat) (L : List (List Int)) (w : World) (h : Lists w a (3 * n) L) (g : Lists w d (3 * n) L) (hs : sizeN n L ≤ 1048576) :
    Calls Try.prog 36 #[.slice a n c, .slice d n e] w fun e w' => e = .returned (.bool true) ∧ Below w.heap.size w w' := by
  have hn : n ≤ 1048576 := by unfold sizeN at hs; omega
  have hne : ((n : Int) != (n : Int)) = false := by simp
  have HL := hide h
  have HG := hide g
  clear h g
  go_enter Try.func36, Try.ntmps36
  go_wp2_with fail
  go_loopw [5] (fun i wr => ∃ k : Nat, k ≤ n ∧ i = .int .i64 k ∧ Hid (Below w.heap.size w wr)) (fun i _ => n - (intOf i).toNat)
  case atStart => exact ⟨0, Nat.zero_le _, rfl, Below.refl _ _⟩
  case round =>
    obtain ⟨k, hk, rfl, hbw⟩ := hrel
    clear hne
    by_cases hlt : k < n
    · obtain ⟨b, off, a0, n0, c0, a1, n1, c1, a2, n2, c2, rfl, hb, hr, m0, m1, m2, r0, r1, r2⟩ := (HL.out.below hbw.out).tri hlt
      obtain ⟨b', off', a0', n0', c0', a1', n1', c1', a2', n2', c2', rfl, hb', hr', m0', m1', m2', r0', r1', r2'⟩ := (HG.out.below hbw.out).tri hlt
      obtain ⟨hc0, hc1, hc2⟩ := rangeAt_cells3 hr
      obtain ⟨hc0', hc1', hc2'⟩ := rangeAt_cells3 hr'
      have hl0 := len_le L (3 * k)
      have hl1 := len_le L (3 * k + 1)
      have hl2 := len_le L (3 * k + 2)
      have hs' : n + sizeL L ≤ 1048576 := hs
      have q0 : n0 ≤ 1048576 := by have := r0.1; omega
      have q1 : n1 ≤ 1048576 := by have := r1.1; omega
      have q2 : n2 ≤ 1048576 := by have := r2.1; omega
      have HT := hide (fun q => eqTri_any a0 a1 a2 a0' a1' a2' n0 n1 n2 c0 c1 c2 n0' n1' n2' c0' c1' c2' _ _ _ (wr.drewN q) (r0.drewN q) (r1.drewN q) (r2.drewN q) (r0'.drewN q) (r1'.drewN q) (r2'.drewN q) q0 q1 q2)
      clear hr r0 r1 r2 hl0 hl1 hl2 q0 q1 q2 hs' hr' r0' r1' r2' m0 m1 m2 m0' m1' m2'
      go_wp2_with fail
      go_region_with (go_at_call 67; refine (HT.out 1).mono ?_; rintro e w1 ⟨rfl, hb1⟩; have HB := hide (hbw.out.trans (((below_drewN' wr 1).trans hb1).mono hbw.out.size)); clear hb1)
      all_goals
        clear HT
        go_wp2_with fail
        go_roundw
        case rel => exact ⟨k + 1, by omega, by go_num, HB⟩
        case measure => simp [intOf]; omega
    · have hk' : k = n := by omega
      subst hk'
      go_wp2_with fail
      go_ret
      exact ⟨rfl, hbw.out⟩

set_option maxHeartbeats 400000 in
theorem eqNet_any (p : Int) (a d : Option Addr) (n c e : Nat) (L : List (List Int)) (w : World) (h : Lists w a (3 * n) L) (g : Lists w d (3 * n) L) (hs : sizeN n L ≤ 1048576) :
    Calls Try.prog 14 #[.agg #[.int .i64 p, .slice a n c], .agg #[.int .i64 p, .slice d n e]] w fun e w' => e = .returned (.bool true) ∧ Below w.heap.size w w' := by
  have hne : (p != p) = false := by simp
  have HL := hide h
  have HG := hide g
  clear h g
  go_enter Try.func14, Try.ntmps14
  go_wp2_with fail
  have HB0 := hide (below_two w (.cells #[.int .i64 p, .slice a n c] 31) (.cells #[.int .i64 p, .slice d n e] 31))
  refine (eqTris_any _ _ _ _ _ L _ (HL.out.below HB0.out) (HG.out.below HB0.out) hs).mono ?_
  rintro e w1 ⟨rfl, hb1⟩
  have HB := hide (HB0.out.trans (hb1.mono HB0.out.size))
  clear hb1 HB0
  go_wp2_with fail
  go_ret
  exact ⟨rfl, HB.out⟩
end Go.Proofs.Ytedbihlpggficab


/- What markTransS and markNet write: the lists of a net that lies in blocks of its own, one behind the other; nothing else. -/
namespace Go.Proofs.Ytedbihlpggficab
open Go.RowKit

/-- Lists by their number, each in a block of its own between B and hi. -/
def PartF (w : World) (B hi n : Nat) (T : TypeId) (M : Nat → List Int) : Prop :=
  ∃ (C : Array Value) (f : Nat → Nat), w.heap[B]? = some (.cells C T (0, 0)) ∧ C.size = n ∧
    (∀ j, j < n → C[j]? = some (.slice (some ⟨f j, 0, none⟩) (M j).length (M j).length) ∧ B < f j ∧ f j < hi ∧ Blk w (some ⟨f j, 0, none⟩) (f j) (M j).length (M j)) ∧
    (∀ i j, i < j → j < n → f i < f j)

theorem PartL.bound {w : World} {B n : Nat} {T : TypeId} {L : List (List Int)} (h : PartL w B n n T L) : PartF w B w.heap.size n T (fun j => L.getD j []) := by
  obtain ⟨C, f, h1, h2, h3, h4⟩ := h
  refine ⟨C, f, h1, h2, fun j hj => ?_, h4⟩
  obtain ⟨e1, e2, e3⟩ := h3 j hj
  exact ⟨e1, e2, (Array.getElem?_eq_some_iff.mp e3).1, rfl, .inr ⟨rfl, e3⟩⟩

/-- Below lo all stands, and from hi on what was there. -/
structure Keeps (lo hi : Nat) (w w' : World) : Prop where
  bel : Below lo w w'
  top : ∀ k, hi ≤ k → k < w.heap.size → w'.heap[k]? = w.heap[k]?

theorem Keeps.refl (lo hi : Nat) (w : World) : Keeps lo hi w w := ⟨Below.refl _ _, fun _ _ _ => rfl⟩
theorem Keeps.trans {lo hi : Nat} {u v w : World} (h : Keeps lo hi u v) (g : Keeps lo hi v w) : Keeps lo hi u w :=
  ⟨h.bel.trans g.bel, fun k h1 h2 => (g.top k h1 (Nat.lt_of_lt_of_le h2 h.bel.size)).trans (h.top k h1 h2)⟩
theorem Keeps.of_only {lo hi b : Nat} {w w' : World} (h : Only b w w') (h1 : lo ≤ b) (h2 : b < hi) : Keeps lo hi w w' :=
  ⟨h.below h1, fun k hk _ => h.block k (by omega)⟩
theorem Keeps.of_below {lo hi : Nat} {w w' : World} (h : Below w.heap.size w w') (hl : lo ≤ w.heap.size) : Keeps lo hi w w' :=
  ⟨h.mono hl, fun k _ hk => h.block k hk⟩

theorem Blk.keeps {w w' : World} {a : Option Addr} {b n lo hi : Nat} {xs : List Int} (h : Blk w a b n xs) (hk : Keeps lo hi w w') (hb : hi ≤ b) : Blk w' a b n xs := by
  refine ⟨h.1, ?_⟩
  rcases h.2 with h0 | ⟨e, hh⟩
  · exact .inl h0
  · exact .inr ⟨e, (hk.top b hb (Array.getElem?_eq_some_iff.mp hh).1).trans hh⟩

theorem Blk.grow' {w w' : World} {a : Option Addr} {b n : Nat} {xs : List Int} (h : Blk w a b n xs) (hb : Below w.heap.size w w') : Blk w' a b n xs := by
  refine ⟨h.1, ?_⟩
  rcases h.2 with h0 | ⟨e, hh⟩
  · exact .inl h0
  · exact .inr ⟨e, (hb.block b (Array.getElem?_eq_some_iff.mp hh).1).trans hh⟩

theorem PartF.grow {w w' : World} {B hi n : Nat} {T : TypeId} {M : Nat → List Int} (h : PartF w B hi n T M) (hb : Below w.heap.size w w') : PartF w' B hi n T M := by
  obtain ⟨C, f, h1, h2, h3, h4⟩ := h
  refine ⟨C, f, (hb.block B (Array.getElem?_eq_some_iff.mp h1).1).trans h1, h2, fun j hj => ?_, h4⟩
  obtain ⟨e1, e2, e3, e4⟩ := h3 j hj
  exact ⟨e1, e2, e3, e4.grow' hb⟩

def updF (M : Nat → List Int) (j : Nat) (l : List Int) : Nat → List Int := fun i => if i = j then l else M i

theorem PartF.one {w : World} {B hi n : Nat} {T : TypeId} {M : Nat → List Int} (h : PartF w B hi n T M) {j : Nat} (hj : j < n) :
    ∃ b, w.cell? ⟨B, j, none⟩ = some (.slice (some ⟨b, 0, none⟩) (M j).length (M j).length) ∧ B < b ∧ b < hi ∧ Blk w (some ⟨b, 0, none⟩) b (M j).length (M j) ∧
      ∀ w' l, Blk w' (some ⟨b, 0, none⟩) b (M j).length l → Only b w w' → PartF w' B hi n T (updF M j l) := by
  obtain ⟨C, f, h1, h2, h3, h4⟩ := h
  obtain ⟨e1, e2, e3, e4⟩ := h3 j hj
  refine ⟨f j, by rw [cell_of_row w B j C T _ h1]; exact e1, e2, e3, e4, fun w' l hb ho => ?_⟩
  refine ⟨C, f, (ho.block B (by omega)).trans h1, h2, fun i hi' => ?_, h4⟩
  unfold updF
  by_cases hij : i = j
  · subst hij
    rw [if_pos rfl, hb.1]
    exact ⟨e1, e2, e3, hb⟩
  · rw [if_neg hij]
    obtain ⟨q1, q2, q3, q4⟩ := h3 i hi'
    have hne : f i ≠ f j := by
      rcases Nat.lt_or_gt_of_ne hij with h | h
      · have := h4 i j h hj; omega
      · have := h4 j i h hi'; omega
    exact ⟨q1, q2, q3, q4.only ho hne⟩

/-- How much the first k lists hold. -/
def cntF (M : Nat → List Int) : Nat → Nat
  | 0 => 0
  | k + 1 => cntF M k + (M k).length

theorem cntF_congr {M N : Nat → List Int} {k : Nat} (h : ∀ j, j < k → (M j).length = (N j).length) : cntF M k = cntF N k := by
  induction k with
  | zero => rfl
  | succ k ih => simp only [cntF]; rw [ih fun j hj => h j (by omega), h k (by omega)]

theorem cntF_mono {M : Nat → List Int} {j k : Nat} (h : j ≤ k) : cntF M j ≤ cntF M k := by
  induction k with
  | zero => have : j = 0 := by omega
            subst this; exact Nat.le_refl _
  | succ k ih =>
    by_cases e : j = k + 1
    · subst e; exact Nat.le_refl _
    · have := ih (by omega); simp only [cntF]; omega

/-- The first q lists are marked, from k0 on. -/
def markedF (k0 : Nat) (M : Nat → List Int) (q : Nat) : Nat → List Int := fun j => if j < q then seqL (k0 + cntF M j) (M j).length else M j

theorem markedF_len (k0 : Nat) (M : Nat → List Int) (q j : Nat) : (markedF k0 M q j).length = (M j).length := by
  unfold markedF; split
  · exact seqL_len _ _
  · rfl

theorem markedF_step (k0 : Nat) (M : Nat → List Int) (q : Nat) : updF (markedF k0 M q) q (seqL (k0 + cntF M q) (M q).length) = markedF k0 M (q + 1) := by
  funext j
  unfold updF markedF
  by_cases e : j = q
  · subst e; rw [if_pos rfl, if_pos (by omega)]
  · rw [if_neg e]
    by_cases h : j < q
    · rw [if_pos h, if_pos (by omega)]
    · rw [if_neg h, if_neg (by omega)]

theorem mark_step {w : World} {B hi n k0 q : Nat} {T : TypeId} {M : Nat → List Int} (h : PartF w B hi n T (markedF k0 M q)) (hq : q < n) (o : Nat) (ho : o = q) :
    ∃ b ln, Hid ((M q).length = ln) ∧ w.cell? ⟨B, o, none⟩ = some (.slice (some ⟨b, 0, none⟩) ln ln) ∧ Hid (Blk w (some ⟨b, 0, none⟩) b ln (M q)) ∧
      Hid (∀ w', Blk w' (some ⟨b, 0, none⟩) b ln (seqL (k0 + cntF M q) ln) → Only b w w' → PartF w' B hi n T (markedF k0 M (q + 1)) ∧ Keeps (B + 1) hi w w') := by
  obtain ⟨b, h1, h2, h3, h4, h5⟩ := h.one hq
  have e : markedF k0 M q q = M q := by unfold markedF; rw [if_neg (by omega)]
  rw [e] at h1 h4 h5
  subst ho
  refine ⟨b, _, rfl, h1, h4, fun w' hb ho => ⟨?_, Keeps.of_only ho (by omega) h3⟩⟩
  have := h5 w' _ hb ho
  rwa [markedF_step] at this

set_option maxHeartbeats 1000000 in
theorem markTris_any (B hi n c k0 : Nat) (T : TypeId) (M : Nat → List Int) (w : World) (h : PartF w B hi (3 * n) T M) (hs : cntF M (3 * n) ≤ 1048576) (hn : n ≤ 1048576) (hk0 : k0 ≤ 2097152) :
    Calls Try.prog 40 #[.slice (some ⟨B, 0, none⟩) n c, .int .i64 (k0 : Int)] w fun e w' => e = .returned (.int .i64 ((k0 + cntF M (3 * n) : Nat) : Int)) ∧ PartF w' B hi (3 * n) T (markedF k0 M (3 * n)) ∧ Keeps (B + 1) hi w w' := by
  have HP := hide h
  clear h
  go_enter Try.func40, Try.ntmps40
  go_wp2_with fail
  go_loopw [1, 5] (fun t i wr => ∃ k t' : Nat, k ≤ n ∧ i = .int .i64 k ∧ t = .int .i64 (t' : Int) ∧ Hid (t' = k0 + cntF M (3 * k)) ∧ Hid (PartF wr B hi (3 * n) T (markedF k0 M (3 * k))) ∧ Hid (Keeps (B + 1) hi w wr)) (fun _ i _ => n - (intOf i).toNat)
  case atStart => exact ⟨0, k0, Nat.zero_le _, rfl, rfl, rfl, by have := HP.out; exact (show markedF k0 M (3 * 0) = M from by funext j; unfold markedF; rw [if_neg (by omega)]) ▸ this, Keeps.refl _ _ _⟩
  case round =>
    obtain ⟨k, t0, hk, rfl, rfl, ht0, hp, hkp⟩ := hrel
    clear HP
    by_cases hlt : k < n
    rotate_left
    · have hk' : k = n := by omega
      subst hk'
      have HT := hide ht0.out.symm
      go_wp2_with fail
      go_ret
      exact ⟨by rw [HT.out]; rfl, hp.out, hkp.out⟩
    have HQ := hide (And.intro (cntF_mono (M := M) (show 3 * k + 1 + 1 + 1 ≤ 3 * n by omega)) (And.intro (show cntF M (3 * k + 1) = cntF M (3 * k) + (M (3 * k)).length from rfl) (And.intro (show cntF M (3 * k + 1 + 1) = cntF M (3 * k + 1) + (M (3 * k + 1)).length from rfl) (show cntF M (3 * k + 1 + 1 + 1) = cntF M (3 * k + 1 + 1) + (M (3 * k + 1 + 1)).length from rfl))))
    obtain ⟨b0, l0, hl0, hc0, hb0, st0⟩ := mark_step hp.out (show 3 * k < 3 * n by omega) (k * 3) (by omega)
    have HM0 := hide (mark_any _ b0 _ l0 t0 _ wr hb0.out (by have := HQ.out; have := hl0.out; omega) (by have := HQ.out; have := ht0.out; omega))
    go_wp2_with fail
    refine HM0.out.mono ?_
    rintro e w1 ⟨rfl, hbk, ho⟩
    rw [ht0.out] at hbk
    obtain ⟨p1, kp1⟩ := st0.out w1 hbk ho
    have HK1 := hide (hkp.out.trans kp1)
    obtain ⟨t1, ht1⟩ : ∃ t, Hid (t0 + l0 = t) := ⟨_, rfl⟩
    rw [ht1.out]
    have HT1 : Hid (t1 = k0 + cntF M (3 * k + 1)) := by show _ = _; have := HQ.out; have := hl0.out; have := ht0.out; have := ht1.out; omega
    obtain ⟨b1, l1, hl1, hc1, hb1, st1⟩ := mark_step p1 (show 3 * k + 1 < 3 * n by omega) (k * 3 + 1) (by omega)
    have HM1 := hide (mark_any _ b1 _ l1 t1 _ w1 hb1.out (by have := HQ.out; have := hl1.out; omega) (by have := HQ.out; have := HT1.out; omega))
    clear st0 HM0 hc0 hbk ho p1 kp1 hp hkp hb0
    go_wp2_with fail
    refine HM1.out.mono ?_
    rintro e w2 ⟨rfl, hbk, ho⟩
    rw [HT1.out] at hbk
    obtain ⟨p2, kp2⟩ := st1.out w2 hbk ho
    have HK2 := hide (HK1.out.trans kp2)
    obtain ⟨t2, ht2⟩ : ∃ t, Hid (t1 + l1 = t) := ⟨_, rfl⟩
    rw [ht2.out]
    have HT2 : Hid (t2 = k0 + cntF M (3 * k + 1 + 1)) := by show _ = _; have := HQ.out; have := hl1.out; have := HT1.out; have := ht2.out; omega
    obtain ⟨b2, l2, hl2, hc2, hb2, st2⟩ := mark_step p2 (show 3 * k + 1 + 1 < 3 * n by omega) (k * 3 + 2) (by omega)
    have HM2 := hide (mark_any _ b2 _ l2 t2 _ w2 hb2.out (by have := HQ.out; have := hl2.out; omega) (by have := HQ.out; have := HT2.out; omega))
    clear st1 HM1 hc1 hbk ho p2 kp2 HK1 hb1
    go_wp2_with fail
    refine HM2.out.mono ?_
    rintro e w3 ⟨rfl, hbk, ho⟩
    rw [HT2.out] at hbk
    obtain ⟨p3, kp3⟩ := st2.out w3 hbk ho
    have HK3 := hide (HK2.out.trans kp3)
    have e3 : 3 * (k + 1) = 3 * k + 1 + 1 + 1 := by omega
    have HP3 : Hid (PartF w3 B hi (3 * n) T (markedF k0 M (3 * (k + 1)))) := by
      show PartF w3 B hi (3 * n) T (markedF k0 M (3 * (k + 1)))
      rw [e3]; exact p3
    obtain ⟨t3, ht3⟩ : ∃ t, Hid (t2 + l2 = t) := ⟨_, rfl⟩
    rw [ht3.out]
    have HT3 : Hid (t3 = k0 + cntF M (3 * (k + 1))) := by
      show _ = _
      rw [e3]
      have := HQ.out; have := hl2.out; have := HT2.out; have := ht3.out; omega
    clear st2 HM2 hc2 hbk ho p3 kp3 HK2 e3 hb2
    go_wp2_with fail
    go_roundw
    case rel => exact ⟨k + 1, t3, by omega, by go_num, rfl, HT3, HP3, HK3⟩
    case measure => simp [intOf]; omega

set_option maxHeartbeats 400000 in
theorem markNet_any (p : Int) (B hi n c k0 : Nat) (T : TypeId) (M : Nat → List Int) (w : World) (h : PartF w B hi (3 * n) T M) (hs : cntF M (3 * n) ≤ 1048576) (hn : n ≤ 1048576) (hk0 : k0 ≤ 2097152) :
    Calls Try.prog 18 #[.agg #[.int .i64 p, .slice (some ⟨B, 0, none⟩) n c], .int .i64 (k0 : Int)] w fun e w' => e = .returned (.int .i64 ((k0 + cntF M (3 * n) : Nat) : Int)) ∧ PartF w' B hi (3 * n) T (markedF k0 M (3 * n)) ∧ Keeps (B + 1) hi w w' := by
  have hA := below_al w (.cells #[.int .i64 p, .slice (some ⟨B, 0, none⟩) n c] 31)
  have hlt : B < w.heap.size := by obtain ⟨C, f, h1, _⟩ := h; exact (Array.getElem?_eq_some_iff.mp h1).1
  have HT := hide (markTris_any B hi n c k0 T M _ (h.grow hA) hs hn hk0)
  have HK := hide (Keeps.of_below (lo := B + 1) (hi := hi) hA (by omega))
  obtain ⟨t0, ht0⟩ : ∃ t, Hid (k0 + cntF M (3 * n) = t) := ⟨_, rfl⟩
  rw [ht0.out] at HT ⊢
  clear h hA
  go_enter Try.func18, Try.ntmps18
  go_wp2_with fail
  refine HT.out.mono ?_
  rintro e w3 ⟨rfl, p3, kp3⟩
  have HP3 := hide p3
  have HK3 := hide (HK.out.trans kp3)
  clear p3 kp3 HT HK
  go_wp2_with fail
  go_ret
  exact ⟨rfl, HP3.out, HK3.out⟩
end Go.Proofs.Ytedbihlpggficab


/- How a net that comes in is opened: a number and a slice whose lists can be read. -/
namespace Go.Proofs.Ytedbihlpggficab
open Go.ChangeShapes Go.WideShapes Go.ChangeAt Go.RowKit Go.Deep Go.Joins

theorem row_of_ints {H : Type} {enc : TypeId × Value → H} {W : World} {base fuel : Nat} {v : Value} {x : DataW H × List MemPlace} (h : DataW.trod enc Try.prog W base (fun _ => true) true fuel 25 [v] = some x) :
    ∃ a n c xs, v = .slice a n c ∧ n ≤ maxLen ∧ Row W a n xs := by
  rcases open_ints Try.underlying25 Try.underlying3 (by kernel_rfl) h with ⟨hcs, _⟩ | ⟨y, l, c, zs, hcs, _, hl, hm, hz, _, hcell, _⟩
  · simp at hcs
    exact ⟨none, 0, 0, [], hcs, Nat.zero_le _, rfl, .inl rfl⟩
  · simp at hcs
    refine ⟨some y, l, c, zs.take l, hcs, by omega, ?_, ?_⟩
    · rw [List.length_take]; simp at hz; omega
    · by_cases h0 : l = 0
      · exact .inl h0
      · simp at hz
        obtain ⟨b, off, spot⟩ := y
        have hc := hcell 0 (by omega)
        have hspot : spot = none := by simpa [Addr.add] using World.cell?_spot hc
        subst hspot
        refine .inr ⟨b, off, rfl, ?_, fun i hi => ?_⟩
        · have := block_lt_of_cell hc; simpa [Addr.add] using this
        · have := hcell i (by omega)
          rw [List.getD_eq_getElem?_getD, List.getElem?_take_of_lt hi, ← List.getD_eq_getElem?_getD]
          rw [Addr.add_mid] at this
          exact this

set_option maxRecDepth 10000 in
theorem open_net {H : Type} {enc : TypeId × Value → H} {W : World} {base b0 : Nat} {r : Reach} {v : Value} {d : DataW H} {ps : List MemPlace} (hv : Value.okWide Try.prog W r b0 24 v) (h : DataW.Trod enc Try.prog W base (fun _ => true) true 24 v d ps) :
    ∃ p a n c L, v = .agg #[.int .i64 p, .slice a n c] ∧ n ≤ maxLen ∧ Lists W a (3 * n) L := by
  obtain ⟨v0, v1, y0, y1, m, rfl, _, _, h0, h1⟩ := open_agg2 Try.underlying24 (by kernel_rfl) (by kernel_rfl) hv h
  obtain ⟨p, hp, _, _⟩ := DataW.trod_int Try.underlying3 h0
  simp at hp
  subst hp
  have hC : Try.prog.cellsOf 107 = 3 := by kernel_rfl
  rcases open_slice Try.underlying22 h1 with ⟨hcs, _⟩ | ⟨a, len, cap, q, n', D, Pl, hcs, hb, hl, hm, hq, _, hel⟩
  · simp at hcs
    subst hcs
    exact ⟨p, none, 0, 0, [], rfl, Nat.zero_le _, rfl, .inl rfl⟩
  · simp at hcs
    subst hcs
    simp at hq
    subst hq
    rw [hC] at hel
    have key : ∀ i, i < len → ∃ (t : (Option Addr × Nat × Nat × List Int) × (Option Addr × Nat × Nat × List Int) × (Option Addr × Nat × Nat × List Int)),
        (W.cell? (a.add (i * 3)) = some (.slice t.1.1 t.1.2.1 t.1.2.2.1) ∧ t.1.2.1 ≤ maxLen ∧ Row W t.1.1 t.1.2.1 t.1.2.2.2) ∧
        (W.cell? ((a.add (i * 3)).add 1) = some (.slice t.2.1.1 t.2.1.2.1 t.2.1.2.2.1) ∧ t.2.1.2.1 ≤ maxLen ∧ Row W t.2.1.1 t.2.1.2.1 t.2.1.2.2.2) ∧
        (W.cell? ((a.add (i * 3)).add 2) = some (.slice t.2.2.1 t.2.2.2.1 t.2.2.2.2.1) ∧ t.2.2.2.1 ≤ maxLen ∧ Row W t.2.2.1 t.2.2.2.1 t.2.2.2.2.2) := by
      intro i hi
      obtain ⟨cs', hc1, hc2⟩ := hel i (by omega)
      obtain ⟨_, hlen, hcell⟩ := World.cells?_some hc1
      obtain ⟨y0, y1, y2, m', _, _, g0, g1, g2⟩ := trod_struct3 Try.underlying107 hc2
      match cs', hlen with
      | [u0, u1, u2], _ =>
        have k0 : Try.prog.cellsOf 25 = 1 := by kernel_rfl
        simp [k0] at g0 g1 g2
        obtain ⟨a0, n0, c0, x0, rfl, l0, r0⟩ := row_of_ints g0
        obtain ⟨a1, n1, c1, x1, rfl, l1, r1⟩ := row_of_ints g1
        obtain ⟨a2, n2, c2, x2, rfl, l2, r2⟩ := row_of_ints g2
        have w0 := hcell 0 (by omega)
        have w1 := hcell 1 (by omega)
        have w2 := hcell 2 (by omega)
        simp at w0 w1 w2
        refine ⟨((a0, n0, c0, x0), (a1, n1, c1, x1), (a2, n2, c2, x2)), ⟨by simpa [Addr.add] using w0, l0, r0⟩, ⟨w1, l1, r1⟩, ⟨w2, l2, r2⟩⟩
    obtain ⟨f, hf⟩ := choose_lt key
    refine ⟨p, some a, len, _, (List.range (3 * len)).map fun j => if j % 3 = 0 then (f (j / 3)).1.2.2.2 else if j % 3 = 1 then (f (j / 3)).2.1.2.2.2 else (f (j / 3)).2.2.2.2.2, rfl, by omega, by simp, ?_⟩
    by_cases h0 : len = 0
    · exact .inl (by omega)
    · obtain ⟨b, off, spot⟩ := a
      have hc := (hf 0 (by omega)).1.1
      have hspot : spot = none := by simpa [Addr.add] using World.cell?_spot hc
      subst hspot
      refine .inr ⟨b, off, rfl, ?_, fun j hj => ?_⟩
      · have := block_lt_of_cell hc; simpa [Addr.add] using this
      · have hj3 : j / 3 < len := by omega
        obtain ⟨q0, q1, q2⟩ := hf (j / 3) hj3
        simp only [Addr.add_mid] at q0 q1 q2
        simp only [List.getD_eq_getElem?_getD, List.getElem?_map, List.getElem?_range hj, Option.map_some, Option.getD_some]
        by_cases e0 : j % 3 = 0
        · rw [if_pos e0]
          have : off + j = off + j / 3 * 3 := by omega
          rw [this]; exact ⟨_, _, _, q0⟩
        · rw [if_neg e0]
          by_cases e1 : j % 3 = 1
          · rw [if_pos e1]
            have : off + j = off + j / 3 * 3 + 1 := by omega
            rw [this]; exact ⟨_, _, _, q1⟩
          · rw [if_neg e1]
            have : off + j = off + j / 3 * 3 + 2 := by omega
            rw [this]; exact ⟨_, _, _, q2⟩

theorem keep {v v' : World} {b : Nat} {C : Array Value} {t : TypeId} (h : v.heap[b]? = some (.cells C t (0, 0))) (hb : Below v.heap.size v v') : v'.heap[b]? = some (.cells C t (0, 0)) :=
  (hb.block b (Array.getElem?_eq_some_iff.mp h).1).trans h

theorem cells2 {v : World} {b : Nat} {x y : Value} {t : TypeId} (h : v.heap[b]? = some (.cells #[x, y] t (0, 0))) : v.cell? ⟨b, 0, none⟩ = some x ∧ v.cell? ⟨b, 1, none⟩ = some y :=
  ⟨cell_of_row v b 0 _ _ _ h, cell_of_row v b 1 _ _ _ h⟩

theorem row_lt {v : World} {b : Nat} {C : Array Value} {t : TypeId} (h : v.heap[b]? = some (.cells C t (0, 0))) : b < v.heap.size := (Array.getElem?_eq_some_iff.mp h).1
end Go.Proofs.Ytedbihlpggficab


/- What the second half of a law over a net and a list keeps in mind: the net and the list handed in, the list answered, each in blocks of their own, and the specification's answer, while memory grows and blocks are marked. -/
namespace Go.Proofs.Ytedbihlpggficab
open Go.RowKit

theorem PartF.lists {w : World} {B hi n : Nat} {T : TypeId} {L : List (List Int)} (h : PartF w B hi (3 * n) T (fun j => L.getD j [])) (hl : L.length = 3 * n) (hs : sizeN n L ≤ 1048576) : Lists w (some ⟨B, 0, none⟩) (3 * n) L := by
  obtain ⟨C, f, h1, h2, h3, h4⟩ := h
  refine ⟨hl, .inr ⟨B, 0, rfl, (Array.getElem?_eq_some_iff.mp h1).1, fun j hj => ?_⟩⟩
  obtain ⟨e1, e2, e3, e4⟩ := h3 j hj
  refine ⟨_, _, _, by rw [cell_of_row w B (0 + j) C T _ h1, Nat.zero_add]; exact e1, ?_, e4.row⟩
  have := len_le L j
  show (L.getD j []).length ≤ maxLen
  unfold sizeN at hs; unfold maxLen; omega

theorem cntF_size (L : List (List Int)) (k : Nat) (hk : k ≤ L.length) : cntF (fun j => L.getD j []) k = sizeL (L.take k) := by
  induction k with
  | zero => simp [cntF, sizeL]
  | succ k ih => simp only [cntF]; rw [ih (by omega), sizeL_take_succ L k (by omega)]

theorem cntF_all {L : List (List Int)} {n : Nat} (hl : L.length = 3 * n) : cntF (fun j => L.getD j []) (3 * n) = sizeL L := by
  rw [cntF_size L (3 * n) (by omega), List.take_of_length_le (by omega)]

/-- w: the world ahead of the law; u: behind the specification's answer; v: now. -/
structure Sn (w u v : World) (p : Int) (a : Option Addr) (n c B hi bx : Nat) (M : Nat → List Int) (ax : Option Addr) (b1 nm : Nat) (ly : List Int) (ag : Option Addr) (bg ng : Nat) (lg : List Int) : Prop where
  old : Below w.heap.size w v
  mid : Below u.heap.size u v
  par : v.heap[w.heap.size]? = some (.cells #[.int .i64 p, .slice a n c] 24 (0, 0))
  x0 : v.heap[bx]? = some (.cells #[.int .i64 p, .slice (some ⟨B, 0, none⟩) n n] 31 (0, 0))
  net : PartF v B hi (3 * n) 89 M
  x1 : Blk v ax b1 nm ly
  g : Blk v ag bg ng lg

variable {w u v v' : World} {p : Int} {a : Option Addr} {n c B hi bx : Nat} {M : Nat → List Int} {ax : Option Addr} {b1 nm : Nat} {ly : List Int} {ag : Option Addr} {bg ng : Nat} {lg l : List Int}

theorem Sn.grow (h : Sn w u v p a n c B hi bx M ax b1 nm ly ag bg ng lg) (hb : Below v.heap.size v v') : Sn w u v' p a n c B hi bx M ax b1 nm ly ag bg ng lg :=
  ⟨h.old.trans (hb.mono h.old.size), h.mid.trans (hb.mono h.mid.size), keep h.par hb, keep h.x0 hb, h.net.grow hb, h.x1.grow' hb, h.g.grow' hb⟩

theorem Sn.markN {M' : Nat → List Int} (h : Sn w u v p a n c B hi bx M ax b1 nm ly ag bg ng lg) (hm : PartF v' B hi (3 * n) 89 M') (hk : Keeps (B + 1) hi v v') (h1 : w.heap.size ≤ B) (h2 : u.heap.size ≤ B) (hx : hi ≤ bx) (hy : hi ≤ b1) (hg : hi ≤ bg) :
    Sn w u v' p a n c B hi bx M' ax b1 nm ly ag bg ng lg :=
  ⟨h.old.trans (hk.bel.mono (by omega)), h.mid.trans (hk.bel.mono (by omega)), (hk.bel.block _ (by omega)).trans h.par, (hk.top bx hx (row_lt h.x0)).trans h.x0, hm, h.x1.keeps hk hy, h.g.keeps hk hg⟩

theorem PartF.only {w w' : World} {B hi n b : Nat} {T : TypeId} {M : Nat → List Int} (h : PartF w B hi n T M) (ho : Only b w w') (hb : hi ≤ b) (hB : B ≠ b) : PartF w' B hi n T M := by
  obtain ⟨C, f, h1, h2, h3, h4⟩ := h
  refine ⟨C, f, (ho.block B hB).trans h1, h2, fun j hj => ?_, h4⟩
  obtain ⟨e1, e2, e3, e4⟩ := h3 j hj
  exact ⟨e1, e2, e3, e4.only ho (by omega)⟩

theorem Sn.markX (h : Sn w u v p a n c B hi bx M ax b1 nm ly ag bg ng lg) (hm : Blk v' ax b1 nm l) (ho : Only b1 v v') (h1 : w.heap.size < b1) (h2 : u.heap.size ≤ b1) (hb : hi ≤ b1) (hB : B ≠ b1) (hx : bx ≠ b1) (hg : bg ≠ b1) :
    Sn w u v' p a n c B hi bx M ax b1 nm l ag bg ng lg :=
  ⟨h.old.trans (ho.below (by omega)), h.mid.trans (ho.below h2), (ho.block _ (by omega)).trans h.par, (ho.block _ hx).trans h.x0, h.net.only ho hb hB, hm, h.g.only ho hg⟩

theorem Sn.markG (h : Sn w u v p a n c B hi bx M ax b1 nm ly ag bg ng lg) (hm : Blk v' ag bg ng l) (ho : Only bg v v') (h1 : w.heap.size < bg) (h2 : u.heap.size ≤ bg) (hb : hi ≤ bg) (hB : B ≠ bg) (hx : bx ≠ bg) (hy : b1 ≠ bg) :
    Sn w u v' p a n c B hi bx M ax b1 nm ly ag bg ng l :=
  ⟨h.old.trans (ho.below (by omega)), h.mid.trans (ho.below h2), (ho.block _ (by omega)).trans h.par, (ho.block _ hx).trans h.x0, h.net.only ho hb hB, h.x1.only ho hy, hm⟩

theorem blk_new' (w : World) (xs : List Int) (n : Nat) (hl : xs.length = n) : Blk (w.alloc (.cells (cellsOf xs) 3)) (some ⟨w.heap.size, 0, none⟩) w.heap.size n xs :=
  ⟨hl, .inr ⟨rfl, heap_alloc_new _ _⟩⟩
end Go.Proofs.Ytedbihlpggficab


/- When a net is good, as the specification reckons it: l1Rising and the specification's GoodNet, for every net in memory. -/
namespace Go.Proofs.Ytedbihlpggficab
open Go.RowKit

/-- Numbers that rise, from lo to hi. -/
def riseB : List Int → Int → Int → Bool
  | [], _, _ => true
  | x :: xs, lo, hi => decide (lo ≤ x) && decide (x ≤ hi) && riseB xs (x + 1) hi

/-- As many as the first k rise; then the least that may follow. -/
theorem riseB_append (xs ys : List Int) (lo hi : Int) : riseB (xs ++ ys) lo hi = (riseB xs lo hi && riseB ys (xs.getLast?.elim lo (· + 1)) hi) := by
  induction xs generalizing lo with
  | nil => simp [riseB]
  | cons x r ih =>
    simp only [List.cons_append, riseB, ih]
    have : (x :: r).getLast?.elim lo (· + 1) = r.getLast?.elim (x + 1) (· + 1) := by
      cases r with
      | nil => rfl
      | cons y r' =>
        obtain ⟨z, hz⟩ : ∃ z, (y :: r').getLast? = some z := ⟨_, List.getLast?_eq_some_getLast (by simp)⟩
        rw [List.getLast?_cons_cons, hz]; rfl
    rw [this]
    simp [Bool.and_assoc]

/-- What the first k numbers ask of the next. -/
def nextLo (xs : List Int) (k : Nat) (lo : Int) : Int := if k = 0 then lo else xs.getD (k - 1) 0 + 1

theorem nextLo_take (xs : List Int) (k : Nat) (lo : Int) (hk : k ≤ xs.length) : (xs.take k).getLast?.elim lo (· + 1) = nextLo xs k lo := by
  unfold nextLo
  by_cases h : k = 0
  · subst h; simp
  · rw [if_neg h, List.getLast?_take]
    simp [h, List.getElem?_eq_getElem (show k - 1 < xs.length by omega)]

theorem riseB_step {xs : List Int} {k : Nat} {x lo hi : Int} (h : riseB (xs.take k) lo hi = true) (hx : xs[k]? = some x) : riseB (xs.take (k + 1)) lo hi = (decide (nextLo xs k lo ≤ x) && decide (x ≤ hi)) := by
  have hk : k < xs.length := (List.getElem?_eq_some_iff.mp hx).1
  rw [List.take_add_one, hx, riseB_append, h, nextLo_take xs k lo (by omega)]
  simp [riseB]

theorem riseB_no {xs : List Int} {k : Nat} {lo hi : Int} (h : riseB (xs.take k) lo hi = false) : riseB xs lo hi = false := by
  conv => lhs; rw [← List.take_append_drop k xs]
  rw [riseB_append, h]; rfl

theorem riseB_take {xs : List Int} {k : Nat} {lo hi : Int} (h : riseB xs lo hi = true) : riseB (xs.take k) lo hi = true := by
  cases hq : riseB (xs.take k) lo hi with
  | true => rfl
  | false => rw [riseB_no hq] at h; exact h

/-- What is next is no less than lo, where the first ones rise. -/
theorem nextLo_ge {xs : List Int} {k : Nat} {lo hi : Int} (h : riseB (xs.take k) lo hi = true) (hk : k ≤ xs.length) : lo ≤ nextLo xs k lo := by
  induction k with
  | zero => simp [nextLo]
  | succ k ih =>
    have hk' : k < xs.length := by omega
    have h0 : riseB (xs.take k) lo hi = true := by
      have := riseB_take (k := k) h
      rwa [List.take_take, Nat.min_eq_left (by omega)] at this
    rw [riseB_step h0 (List.getElem?_eq_getElem hk')] at h
    simp at h
    have := ih h0 (by omega)
    simp only [nextLo, Nat.add_one_ne_zero, if_false, Nat.add_sub_cancel]
    rw [List.getD_eq_getElem?_getD, List.getElem?_eq_getElem hk']
    simp; omega

theorem riseB_done {xs : List Int} {n : Nat} {lo hi : Int} (h : riseB (xs.take n) lo hi = true) (hl : xs.length = n) : riseB xs lo hi = true := by
  rwa [List.take_of_length_le (by omega)] at h

set_option maxHeartbeats 1000000 in
theorem rising_any (a : Option Addr) (n ca : Nat) (xs : List Int) (lo hi : Int) (w : World) (ha : Row w a n xs) (hn : n ≤ 1048576) :
    Calls Try.prog 97 #[.slice a n ca, .int .i64 lo, .int .i64 hi] w fun e w' => e = .returned (.bool (riseB xs lo hi)) ∧ w' = w := by
  go_enter Try.func97, Try.ntmps97
  go_wp2_with fail
  go_loop [11] (fun i => ∃ k : Nat, k ≤ n ∧ i = .int .i64 k ∧ Hid (riseB (xs.take k) lo hi = true)) (fun i => n - (intOf i).toNat)
  case atStart => exact ⟨0, Nat.zero_le _, rfl, rfl⟩
  case round =>
    obtain ⟨k, hk, rfl, hu⟩ := hrel
    by_cases hlt : k < n
    · obtain ⟨b1, o1, x, rfl, hl1, hc1, H1⟩ := ha.at hlt
      have HS := hide (riseB_step hu.out H1.out)
      have HGE := hide (nextLo_ge hu.out (show k ≤ xs.length by have := ha.1; omega))
      by_cases hi' : inB x lo hi = true
      · have HI : Hid (lo ≤ x ∧ x ≤ hi) := by simpa [inB, Hid] using hi'
        by_cases h0 : k = 0
        · subst h0
          have HU : Hid (riseB (xs.take (0 + 1)) lo hi = true) := by
            show riseB (xs.take (0 + 1)) lo hi = true
            rw [HS.out]; simp [nextLo, HI.out.1, HI.out.2]
          rw [Nat.add_zero] at hc1
          clear ha hu HS HGE H1
          go_wp2_with (go_at_call 48; refine (in_any _ _ _ _).mono ?_; rintro e w' ⟨rfl, rfl⟩)
          go_round
          case rel => exact ⟨0 + 1, by omega, by go_num, HU⟩
          case measure => simp [intOf]; omega
        · obtain ⟨j, rfl⟩ : ∃ j, k = j + 1 := ⟨k - 1, by omega⟩
          obtain ⟨b2, o2, y, he, hl2, hc2, H2⟩ := ha.at (show j < n by omega)
          simp only [Option.some.injEq, Addr.mk.injEq] at he
          obtain ⟨rfl, rfl, _⟩ := he
          have hnx : nextLo xs (j + 1) lo = y + 1 := by
            simp only [nextLo, Nat.add_one_ne_zero, if_false, Nat.add_sub_cancel]
            rw [List.getD_eq_getElem?_getD, H2.out]; rfl
          have hz : (0 : Int) < ((j + 1 : Nat) : Int) := by omega
          have hj : ((j + 1 : Nat) : Int) - 1 = ((j : Nat) : Int) := by omega
          have hjn : ((j : Nat) : Int) < (n : Int) := by omega
          by_cases hyx : y < x
          · have HU : Hid (riseB (xs.take (j + 1 + 1)) lo hi = true) := by
              show riseB (xs.take (j + 1 + 1)) lo hi = true
              rw [HS.out, hnx]; have := HI.out; simp; omega
            clear ha hu HS HGE H1 H2 hnx
            go_wp2_with (go_at_call 48; refine (in_any _ _ _ _).mono ?_; rintro e w' ⟨rfl, rfl⟩)
            go_round
            case rel => exact ⟨j + 1 + 1, by omega, by go_num, HU⟩
            case measure => simp [intOf]; omega
          · have HN : Hid (riseB xs lo hi = false) := by
              refine riseB_no (k := j + 1 + 1) ?_
              rw [HS.out, hnx]; simp; omega
            clear ha hu HS HGE H1 H2 hnx
            go_wp2_with (go_at_call 48; refine (in_any _ _ _ _).mono ?_; rintro e w' ⟨rfl, rfl⟩)
            go_ret
            exact ⟨ret_bool HN.out.symm, rfl⟩
      · have hi'' : inB x lo hi = false := by simpa using hi'
        have HN : Hid (riseB xs lo hi = false) := by
          refine riseB_no (k := k + 1) ?_
          rw [HS.out]
          have h1 := HGE.out
          simp [inB] at hi'
          simp; intro h2; omega
        clear ha hu HS HGE H1 hi'
        go_wp2_with (go_at_call 48; refine (in_any _ _ _ _).mono ?_; rintro e w' ⟨rfl, rfl⟩)
        go_ret
        exact ⟨ret_bool HN.out.symm, rfl⟩
    · have hk' : k = n := by omega
      subst hk'
      have HA := hide (riseB_done hu.out ha.1)
      go_wp2_with fail
      go_ret
      exact ⟨ret_bool HA.out.symm, rfl⟩
end Go.Proofs.Ytedbihlpggficab


/- When a net is good, by the specification: GoodNet for every net in memory. -/
namespace Go.Proofs.Ytedbihlpggficab
open Go.RowKit

def triOk (p : Int) (L : List (List Int)) (i : Nat) : Bool :=
  !(L.getD (3 * i) []).isEmpty && riseB (L.getD (3 * i) []) 0 (p - 1) && riseB (L.getD (3 * i + 1) []) 0 (p - 1) && riseB (L.getD (3 * i + 2) []) 0 (p - 1)

def netOk (p : Int) (n : Nat) (L : List (List Int)) : Bool := inB p 1 16 && decide (n ≤ 24) && (List.range n).all (triOk p L)

theorem triOk_no0 {p : Int} {L : List (List Int)} {i : Nat} (h : L.getD (3 * i) [] = []) : triOk p L i = false := by unfold triOk; rw [h]; rfl
theorem triOk_no1 {p : Int} {L : List (List Int)} {i : Nat} {x : List Int} (h : L.getD (3 * i) [] = x) (hr : riseB x 0 (p - 1) = false) : triOk p L i = false := by unfold triOk; rw [h, hr]; simp
theorem triOk_no2 {p : Int} {L : List (List Int)} {i : Nat} {x : List Int} (h : L.getD (3 * i + 1) [] = x) (hr : riseB x 0 (p - 1) = false) : triOk p L i = false := by unfold triOk; rw [h, hr]; simp
theorem triOk_no3 {p : Int} {L : List (List Int)} {i : Nat} {x : List Int} (h : L.getD (3 * i + 2) [] = x) (hr : riseB x 0 (p - 1) = false) : triOk p L i = false := by unfold triOk; rw [h, hr]; simp
theorem triOk_yes {p : Int} {L : List (List Int)} {i : Nat} {x y z : List Int} (h : L.getD (3 * i) [] = x) (h1 : L.getD (3 * i + 1) [] = y) (h2 : L.getD (3 * i + 2) [] = z) (hx : x ≠ []) (hr : riseB x 0 (p - 1) = true) (hr1 : riseB y 0 (p - 1) = true) (hr2 : riseB z 0 (p - 1) = true) : triOk p L i = true := by
  unfold triOk; rw [h, h1, h2, hr, hr1, hr2]; cases x <;> simp_all

theorem netOk_no {p : Int} {n i : Nat} {L : List (List Int)} (hi : i < n) (h : triOk p L i = false) : netOk p n L = false := by
  unfold netOk
  have : (List.range n).all (triOk p L) = false := by rw [List.all_eq_false]; exact ⟨i, by simpa using hi, by simp [h]⟩
  rw [this]; simp

theorem netOk_yes {p : Int} {n : Nat} {L : List (List Int)} (hp : inB p 1 16 = true) (hn : n ≤ 24) (h : (List.range n).all (triOk p L) = true) : netOk p n L = true := by
  unfold netOk; rw [hp, h]; simpa using hn

theorem all_range_succ {f : Nat → Bool} {k : Nat} (h : (List.range k).all f = true) (hk : f k = true) : (List.range (k + 1)).all f = true := by
  rw [List.range_succ, List.all_append, h]; simp [hk]

set_option maxHeartbeats 2000000 in
theorem goodNetS_any (p : Int) (a : Option Addr) (n c : Nat) (L : List (List Int)) (w : World) (h : Lists w a (3 * n) L) (hs : sizeN n L ≤ 1048576) :
    Calls Try.prog 80 #[.agg #[.int .i64 p, .slice a n c]] w fun e w' => e = .returned (.bool (netOk p n L)) ∧ Below w.heap.size w w' := by
  have HL := hide (h.below (below_al w (.cells #[.int .i64 p, .slice a n c] 31)))
  clear h
  by_cases hp : inB p 1 16 = true
  · by_cases hn : n ≤ 24
    · have hp1 : 1 ≤ p ∧ p ≤ 16 := by simpa [inB] using hp
      obtain ⟨hp2, hp3⟩ := hp1
      go_enter Try.func80, Try.ntmps80
      go_wp2_with (go_at_call 76; refine (places_any _ _).mono ?_; rintro e w' ⟨rfl, rfl⟩)
      have HW := hide (below_al w (.cells #[.int .i64 p, .slice a n c] 31))
      have HC0 := hide (cell_of_row (w.alloc (.cells #[.int .i64 p, .slice a n c] 31)) w.heap.size 0 _ _ _ (heap_alloc_new _ _))
      have hsz : w.heap.size < (w.alloc (.cells #[.int .i64 p, .slice a n c] 31)).heap.size := by simp
      generalize w.alloc (.cells #[.int .i64 p, .slice a n c] 31) = w1 at *
      go_loopw [18] (fun i wr => ∃ k : Nat, k ≤ n ∧ i = .int .i64 k ∧ Hid ((List.range k).all (triOk p L) = true) ∧ Hid (Below w1.heap.size w1 wr)) (fun i _ => n - (intOf i).toNat)
      case atStart => exact ⟨0, Nat.zero_le _, rfl, rfl, Below.refl _ _⟩
      case round =>
        obtain ⟨k, hk, rfl, hu, hbw⟩ := hrel
        by_cases hlt : k < n
        · obtain ⟨b, off, a0, n0, c0, a1, n1, c1, a2, n2, c2, rfl, hb, hr, m0, m1, m2, r0, r1, r2⟩ := (HL.out.below hbw.out).tri hlt
          obtain ⟨hc0, hc1, hc2⟩ := rangeAt_cells3 hr
          have hl0 := len_le L (3 * k)
          have hl1 := len_le L (3 * k + 1)
          have hl2 := len_le L (3 * k + 2)
          have hs' : n + sizeL L ≤ 1048576 := hs
          obtain ⟨x0, hx0⟩ : ∃ x, Hid (L.getD (3 * k) [] = x) := ⟨_, rfl⟩
          obtain ⟨x1, hx1⟩ : ∃ x, Hid (L.getD (3 * k + 1) [] = x) := ⟨_, rfl⟩
          obtain ⟨x2, hx2⟩ : ∃ x, Hid (L.getD (3 * k + 2) [] = x) := ⟨_, rfl⟩
          rw [hx0.out] at r0 hl0
          rw [hx1.out] at r1 hl1
          rw [hx2.out] at r2 hl2
          have q0 : n0 ≤ 1048576 := by have := r0.1; omega
          have q1 : n1 ≤ 1048576 := by have := r1.1; omega
          have q2 : n2 ≤ 1048576 := by have := r2.1; omega
          have hcp : wr.cell? ⟨w.heap.size, 0, none⟩ = some (.int .i64 p) := (hbw.out.cell (p := ⟨w.heap.size, 0, none⟩) hsz).trans HC0.out
          have hpw : w.heap.size < wr.heap.size := by have := hbw.out.size; omega
          have HB := hide (HW.out.trans ((hbw.out.trans ((below_al wr (.cells #[.slice a0 n0 c0, .slice a1 n1 c1, .slice a2 n2 c2] 89)).mono hbw.out.size)).mono (by omega)))
          have HB' := hide (hbw.out.trans ((below_al wr (.cells #[.slice a0 n0 c0, .slice a1 n1 c1, .slice a2 n2 c2] 89)).mono hbw.out.size))
          have R0 := hide (r0.alloc (.cells #[.slice a0 n0 c0, .slice a1 n1 c1, .slice a2 n2 c2] 89))
          have R1 := hide (r1.alloc (.cells #[.slice a0 n0 c0, .slice a1 n1 c1, .slice a2 n2 c2] 89))
          have R2 := hide (r2.alloc (.cells #[.slice a0 n0 c0, .slice a1 n1 c1, .slice a2 n2 c2] 89))
          clear hr r0 r1 r2 hl0 hl1 hl2 hs' m0 m1 m2 hs hn
          by_cases hz : n0 = 0
          · subst hz
            have HN : Hid (netOk p n L = false) := netOk_no hlt (triOk_no0 (hx0.out.trans (List.length_eq_zero_iff.mp R0.out.1)))
            clear R0 R1 R2 hx0 hx1 hx2 hu HB'
            go_wp2_with fail
            go_ret
            exact ⟨ret_bool HN.out.symm, HB.out⟩
          have hz' : (n0 : Int) ≠ 0 := by omega
          by_cases g0 : riseB x0 0 (p - 1) = true
          rotate_left
          · have g0' : riseB x0 0 (p - 1) = false := by simpa using g0
            have HN : Hid (netOk p n L = false) := netOk_no hlt (triOk_no1 hx0.out g0')
            clear R1 R2 hx0 hx1 hx2 hu HB' g0
            go_wp2_with fail
            refine (rising_any _ _ _ x0 _ _ _ R0.out q0).mono ?_
            rintro e w' ⟨rfl, rfl⟩
            go_wp2_with fail
            go_ret
            exact ⟨ret_bool HN.out.symm, HB.out⟩
          by_cases g1 : riseB x1 0 (p - 1) = true
          rotate_left
          · have g1' : riseB x1 0 (p - 1) = false := by simpa using g1
            have HN : Hid (netOk p n L = false) := netOk_no hlt (triOk_no2 hx1.out g1')
            clear R2 hx0 hx1 hx2 hu HB' g1
            go_wp2_with fail
            refine (rising_any _ _ _ x0 _ _ _ R0.out q0).mono ?_
            rintro e w' ⟨rfl, rfl⟩
            go_wp2_with fail
            refine (rising_any _ _ _ x1 _ _ _ R1.out q1).mono ?_
            rintro e w' ⟨rfl, rfl⟩
            go_wp2_with fail
            go_ret
            exact ⟨ret_bool HN.out.symm, HB.out⟩
          by_cases g2 : riseB x2 0 (p - 1) = true
          rotate_left
          · have g2' : riseB x2 0 (p - 1) = false := by simpa using g2
            have HN : Hid (netOk p n L = false) := netOk_no hlt (triOk_no3 hx2.out g2')
            clear hx0 hx1 hx2 hu HB' g2
            go_wp2_with fail
            refine (rising_any _ _ _ x0 _ _ _ R0.out q0).mono ?_
            rintro e w' ⟨rfl, rfl⟩
            go_wp2_with fail
            refine (rising_any _ _ _ x1 _ _ _ R1.out q1).mono ?_
            rintro e w' ⟨rfl, rfl⟩
            go_wp2_with fail
            refine (rising_any _ _ _ x2 _ _ _ R2.out q2).mono ?_
            rintro e w' ⟨rfl, rfl⟩
            go_wp2_with fail
            go_ret
            exact ⟨ret_bool HN.out.symm, HB.out⟩
          have HU : Hid ((List.range (k + 1)).all (triOk p L) = true) := all_range_succ hu.out (triOk_yes hx0.out hx1.out hx2.out (fun e => hz (by rw [← R0.out.1, e]; rfl)) g0 g1 g2)
          clear hx0 hx1 hx2 hu HB
          go_wp2_with fail
          refine (rising_any _ _ _ x0 _ _ _ R0.out q0).mono ?_
          rintro e w' ⟨rfl, rfl⟩
          go_wp2_with fail
          refine (rising_any _ _ _ x1 _ _ _ R1.out q1).mono ?_
          rintro e w' ⟨rfl, rfl⟩
          go_wp2_with fail
          refine (rising_any _ _ _ x2 _ _ _ R2.out q2).mono ?_
          rintro e w' ⟨rfl, rfl⟩
          go_wp2_with fail
          go_roundw
          case rel => exact ⟨k + 1, by omega, by go_num, HU, HB'⟩
          case measure => simp [intOf]; omega
        · have hk' : k = n := by omega
          subst hk'
          have HN : Hid (netOk p k L = true) := netOk_yes hp hn hu.out
          have HB := hide (HW.out.trans (hbw.out.mono (by omega)))
          go_wp2_with fail
          go_ret
          exact ⟨ret_bool HN.out.symm, HB.out⟩
    · have HN : Hid (netOk p n L = false) := by show netOk p n L = false; unfold netOk; simp [hn]
      have hn' : (24 : Int) < (n : Int) := by omega
      go_enter Try.func80, Try.ntmps80
      go_wp2_with (go_at_call 76; refine (places_any _ _).mono ?_; rintro e w' ⟨rfl, rfl⟩)
      go_ret
      exact ⟨ret_bool HN.out.symm, below_al _ _⟩
  · have hp' : inB p 1 16 = false := by simpa using hp
    have HN : Hid (netOk p n L = false) := by show netOk p n L = false; unfold netOk; simp [hp']
    clear hp
    go_enter Try.func80, Try.ntmps80
    go_wp2_with (go_at_call 76; refine (places_any _ _).mono ?_; rintro e w' ⟨rfl, rfl⟩)
    go_ret
    exact ⟨ret_bool HN.out.symm, below_al _ _⟩
end Go.Proofs.Ytedbihlpggficab
