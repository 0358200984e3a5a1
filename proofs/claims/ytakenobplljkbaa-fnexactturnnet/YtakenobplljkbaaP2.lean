/- Contracts that the proof stands on, one behind the other. -/
import Derived.Test.YtakenobplljkbaaP1
import Derived.Deep.RegionWith
import Derived.WalkKit
import Derived.ProofKit
import Derived.OpenShut
import Derived.ChangeOld
import Derived.Below
/- What toNet makes, and that eqTrans, eqTransS and eqNet answer true for nets that read the same. -/
namespace Go.Proofs.Ytakenobplljkbaa
open Go.RowKit

theorem PartL.lists {w : World} {B n : Nat} {T : TypeId} {L : List (List Int)} (h : PartL w B (3 * n) (3 * n) T L) (hl : L.length = 3 * n) (hs : sizeN n L ≤ 1048576) : Lists w (some ⟨B, 0, none⟩) (3 * n) L := by
  obtain ⟨C, f, h1, h2, h3, h4⟩ := h
  refine ⟨hl, .inr ⟨B, 0, rfl, (Array.getElem?_eq_some_iff.mp h1).1, fun j hj => ?_⟩⟩
  obtain ⟨e1, e2, e3⟩ := h3 j hj
  refine ⟨_, _, _, by rw [cell_of_row w B (0 + j) C T _ h1, Nat.zero_add]; exact e1, ?_, Own.row (B := 0) ⟨rfl, _, rfl, Nat.zero_le _, e3⟩⟩
  have := len_le L j
  unfold sizeN at hs; unfold maxLen; omega

theorem PartL.set_low {w : World} {B n k g : Nat} {T : TypeId} {L : List (List Int)} (h : PartL w B n k T L) (hg : g < B) (o : Nat) (v : Value) : PartL (w.setCell ⟨g, o, none⟩ v) B n k T L := by
  obtain ⟨C, f, h1, h2, h3, h4⟩ := h
  refine ⟨C, f, (Below.heap_setCell _ _ _ _ (show B ≠ g by omega)).trans h1, h2, fun j hj => ?_, h4⟩
  obtain ⟨e1, e2, e3⟩ := h3 j hj
  exact ⟨e1, e2, (Below.heap_setCell _ _ _ _ (show f j ≠ g by omega)).trans e3⟩

set_option maxHeartbeats 400000 in
theorem toNet_any (p : Int) (a : Option Addr) (n c : Nat) (L : List (List Int)) (w : World) (h : Lists w a (3 * n) L) (hs : sizeN n L ≤ 1048576) :
    Calls Try.prog 11 #[.agg #[.int .i64 p, .slice a n c]] w fun e w' => ∃ B, e = .returned (.agg #[.int .i64 p, .slice (some ⟨B, 0, none⟩) n n]) ∧ w.heap.size ≤ B ∧ PartL w' B (3 * n) (3 * n) 50 L ∧ Below w.heap.size w w' := by
  have HL := hide h
  clear h
  go_enter Try.func11, Try.ntmps11
  go_wp2_with fail
  have hb0 := ((below_al w (.cells #[.int .i64 p, .slice a n c] 24)).alloc (by simp) (.cells #[.int .i64 0, .slice none 0 0] 28)).alloc (by simp; omega) (.cells #[.int .i64 p, .slice none 0 0] 28)
  have HB0 := hide hb0
  clear hb0
  refine (toTris_any _ _ _ L _ (HL.out.below HB0.out) hs).mono ?_
  rintro e w' ⟨rfl, hp, hb⟩
  have hsz : (((w.alloc (.cells #[.int .i64 p, .slice a n c] 24)).alloc (.cells #[.int .i64 0, .slice none 0 0] 28)).alloc (.cells #[.int .i64 p, .slice none 0 0] 28)).heap.size = w.heap.size + 1 + 1 + 1 := by simp
  rw [hsz] at hp hb ⊢
  have g2 : w'.heap[w.heap.size + 1 + 1]? = some (.cells #[.int .i64 p, .slice none 0 0] 28 (0, 0)) := by
    rw [hb.block _ (by omega)]
    have := heap_alloc_new ((w.alloc (.cells #[.int .i64 p, .slice a n c] 24)).alloc (.cells #[.int .i64 0, .slice none 0 0] 28)) (.cells #[.int .i64 p, .slice none 0 0] 28)
    simpa using this
  have g1 : w'.heap[w.heap.size + 1]? = some (.cells #[.int .i64 0, .slice none 0 0] 28 (0, 0)) := by
    rw [hb.block _ (by omega), heap_al_old _ _ _ (by simp)]
    have := heap_alloc_new (w.alloc (.cells #[.int .i64 p, .slice a n c] 24)) (.cells #[.int .i64 0, .slice none 0 0] 28)
    simpa using this
  have c20 := cell_of_row w' (w.heap.size + 1 + 1) 0 _ _ _ g2
  have c21 := cell_of_row w' (w.heap.size + 1 + 1) 1 _ _ _ g2
  have c10 := cell_of_row w' (w.heap.size + 1) 0 _ _ _ g1
  have c11 := cell_of_row w' (w.heap.size + 1) 1 _ _ _ g1
  simp at c20 c21 c10 c11
  have f21 := frozen_of_row w' (w.heap.size + 1 + 1) 1 _ _ g2
  have f10 := frozen_of_row w' (w.heap.size + 1) 0 _ _ g1
  have f11 := frozen_of_row w' (w.heap.size + 1) 1 _ _ g1
  have HP := hide hp
  have HB := hide (HB0.out.trans (hb.mono (by omega)))
  clear hb hp g1 g2 hsz HB0
  go_wp2_with fail
  refine bodyPost_ret (v := .agg #[.int .i64 p, .slice (some ⟨w.heap.size + 1 + 1 + 1, 0, none⟩) n n]) (by simp [results, Try.results11, go_sem, c10, c11]) rfl ?_
  exact ⟨_, rfl, by omega, ((HP.out.set_low (by omega) _ _).set_low (by omega) _ _).set_low (by omega) _ _, ((HB.out.setCell (by simp; omega) _).setCell (by simp) _).setCell (by simp) _⟩

set_option maxHeartbeats 400000 in
theorem eqTri_any (a0 a1 a2 d0 d1 d2 : Option Addr) (n0 n1 n2 c0 c1 c2 m0 m1 m2 k0 k1 k2 : Nat) (x0 x1 x2 : List Int) (w : World) (r0 : Row w a0 n0 x0) (r1 : Row w a1 n1 x1) (r2 : Row w a2 n2 x2) (s0 : Row w d0 m0 x0) (s1 : Row w d1 m1 x1) (s2 : Row w d2 m2 x2)
    (h0 : n0 ≤ 1048576) (h1 : n1 ≤ 1048576) (h2 : n2 ≤ 1048576) :
    Calls Try.prog 67 #[.agg #[.slice a0 n0 c0, .slice a1 n1 c1, .slice a2 n2 c2], .agg #[.slice d0 m0 k0, .slice d1 m1 k1, .slice d2 m2 k2]] w fun e w' => e = .returned (.bool true) ∧ Below w.heap.size w w' := by
  have R0 := hide r0
  have R1 := hide r1
  have R2 := hide r2
  have S0 := hide s0
  have S1 := hide s1
  have S2 := hide s2
  have hs0 := sameB_self x0
  have hs1 := sameB_self x1
  have hs2 := sameB_self x2
  clear r0 r1 r2 s0 s1 s2
  go_enter Try.func67, Try.ntmps67
  go_wp2_with fail
  refine (eq_any _ _ _ _ _ _ x0 x0 _ ((R0.out.alloc _).alloc _) ((S0.out.alloc _).alloc _) h0).mono ?_
  rintro e w' ⟨rfl, q, rfl⟩
  go_wp2_with fail
  refine (eq_any _ _ _ _ _ _ x1 x1 _ (((R1.out.alloc _).alloc _).drewN _) (((S1.out.alloc _).alloc _).drewN _) h1).mono ?_
  rintro e w' ⟨rfl, q1, rfl⟩
  go_wp2_with fail
  refine (eq_any _ _ _ _ _ _ x2 x2 _ (((R2.out.alloc _).alloc _).drewN _) (((S2.out.alloc _).alloc _).drewN _) h2).mono ?_
  rintro e w' ⟨rfl, q2, rfl⟩
  go_wp2_with fail
  go_ret
  exact ⟨rfl, (below_two w _ _).trans ((below_drewN' _ _).mono (by simp; omega))⟩

theorem below_drew2 (w : World) (o1 o2 : Obj) (q : Nat) : Below w.heap.size w (((w.alloc o1).alloc o2).drewN q) := (below_two w _ _).trans ((below_drewN' _ _).mono (by simp; omega))

set_option maxHeartbeats 1000000 in
theorem eqTris_any (a d : Option Addr) (n c e : Nat) (L : List (List Int)) (w : World) (h : Lists w a (3 * n) L) (g : Lists w d (3 * n) L) (hs : sizeN n L ≤ 1048576) :
    Calls Try.prog 38 #[.slice a n c, .slice d n e] w fun e w' => e = .returned (.bool true) ∧ Below w.heap.size w w' := by
  have hn : n ≤ 1048576 := by unfold sizeN at hs; omega
  have hne : ((n : Int) != (n : Int)) = false := by simp
  have HL := hide h
  have HG := hide g
  clear h g
  go_enter Try.func38, Try.ntmps38
  go_wp2_with fail
  go_loopw [5] (fun i wr => ∃ k : Nat, k ≤ n ∧ i = .int .i64 k ∧ Hid (Below w.heap.size w wr)) (fun i _ => n - (intOf i).toNat)
  case atStart => exact ⟨0, Nat.zero_le _, rfl, Below.refl _ _⟩
  case round =>
    obtain ⟨k, hk, rfl, hbw⟩ := hrel
    clear hne
    by_cases hlt : k < n
    · obtain ⟨b, off, a0, n0, c0, a1, n1, c1, a2, n2, c2, rfl, hb, hr, m0, m1, m2, r0, r1, r2⟩ := (HL.out.below hbw.out).tri hlt
      obtain ⟨b', off', a0', n0', c0', a1', n1', c1', a2', n2', c2', rfl, hb', hr', m0', m1', m2', r0', r1', r2'⟩ := (HG.out.below hbw.out).tri hlt
      obtain ⟨hc0, hc1, hc2⟩ := rangeAt_cells3 hr
      obtain ⟨hc0', hc1', hc2'⟩ := rangeAt_cells3 hr'
      have hl0 := len_le L (3 * k)
      have hl1 := len_le L (3 * k + 1)
      have hl2 := len_le L (3 * k + 2)
      have hs' : n + sizeL L ≤ 1048576 := hs
      have q0 : n0 ≤ 1048576 := by have := r0.1; omega
      have q1 : n1 ≤ 1048576 := by have := r1.1; omega
      have q2 : n2 ≤ 1048576 := by have := r2.1; omega
      have HT := hide (fun q => eqTri_any a0 a1 a2 a0' a1' a2' n0 n1 n2 c0 c1 c2 n0' n1' n2' c0' c1' c2' _ _ _ (wr.drewN q) (r0.drewN q) (r1.drewN q) (r2.drewN q) (r0'.drewN q) (r1'.drewN q) (r2'.drewN q) q0 q1 q2)
      clear hr r0 r1 r2 hl0 hl1 hl2 q0 q1 q2 hs' hr' r0' r1' r2' m0 m1 m2 m0' m1' m2'
      go_wp2_with fail
      go_region_with (go_at_call 67; refine (HT.out 1).mono ?_; rintro e w1 ⟨rfl, hb1⟩; have HB := hide (hbw.out.trans (((below_drewN' wr 1).trans hb1).mono hbw.out.size)); clear hb1)
      all_goals
        clear HT
        go_wp2_with fail
        go_roundw
        case rel => exact ⟨k + 1, by omega, by go_num, HB⟩
        case measure => simp [intOf]; omega
    · have hk' : k = n := by omega
      subst hk'
      go_wp2_with fail
      go_ret
      exact ⟨rfl, hbw.out⟩

set_option maxHeartbeats 400000 in
theorem eqNet_any (p : Int) (a d : Option Addr) (n c e : Nat) (L : List (List Int)) (w : World) (h : Lists w a (3 * n) L) (g : Lists w d (3 * n) L) (hs : sizeN n L ≤ 1048576) :
    Calls Try.prog 13 #[.agg #[.int .i64 p, .slice a n c], .agg #[.int .i64 p, .slice d n e]] w fun e w' => e = .returned (.bool true) ∧ Below w.heap.size w w' := by
  have hne : (p != p) = false := by simp
  have HL := hide h
  have HG := hide g
  clear h g
  go_enter Try.func13, Try.ntmps13
  go_wp2_with fail
  have HB0 := hide (below_two w (.cells #[.int .i64 p, .slice a n c] 28) (.cells #[.int .i64 p, .slice d n e] 28))
  refine (eqTris_any _ _ _ _ _ L _ (HL.out.below HB0.out) (HG.out.below HB0.out) hs).mono ?_
  rintro e w1 ⟨rfl, hb1⟩
  have HB := hide (HB0.out.trans (hb1.mono HB0.out.size))
  clear hb1 HB0
  go_wp2_with fail
  go_ret
  exact ⟨rfl, HB.out⟩
end Go.Proofs.Ytakenobplljkbaa


/- What markTransS and markNet write: the lists of a net that lies in blocks of its own, one behind the other; nothing else. -/
namespace Go.Proofs.Ytakenobplljkbaa
open Go.RowKit

/-- Lists by their number, each in a block of its own between B and hi. -/
def PartF (w : World) (B hi n : Nat) (T : TypeId) (M : Nat → List Int) : Prop :=
  ∃ (C : Array Value) (f : Nat → Nat), w.heap[B]? = some (.cells C T (0, 0)) ∧ C.size = n ∧
    (∀ j, j < n → C[j]? = some (.slice (some ⟨f j, 0, none⟩) (M j).length (M j).length) ∧ B < f j ∧ f j < hi ∧ Blk w (some ⟨f j, 0, none⟩) (f j) (M j).length (M j)) ∧
    (∀ i j, i < j → j < n → f i < f j)

theorem PartL.bound {w : World} {B n : Nat} {T : TypeId} {L : List (List Int)} (h : PartL w B n n T L) : PartF w B w.heap.size n T (fun j => L.getD j []) := by
  obtain ⟨C, f, h1, h2, h3, h4⟩ := h
  refine ⟨C, f, h1, h2, fun j hj => ?_, h4⟩
  obtain ⟨e1, e2, e3⟩ := h3 j hj
  exact ⟨e1, e2, (Array.getElem?_eq_some_iff.mp e3).1, rfl, .inr ⟨rfl, e3⟩⟩

/-- Below lo all stands, and from hi on what was there. -/
structure Keeps (lo hi : Nat) (w w' : World) : Prop where
  bel : Below lo w w'
  top : ∀ k, hi ≤ k → k < w.heap.size → w'.heap[k]? = w.heap[k]?

theorem Keeps.refl (lo hi : Nat) (w : World) : Keeps lo hi w w := ⟨Below.refl _ _, fun _ _ _ => rfl⟩
theorem Keeps.trans {lo hi : Nat} {u v w : World} (h : Keeps lo hi u v) (g : Keeps lo hi v w) : Keeps lo hi u w :=
  ⟨h.bel.trans g.bel, fun k h1 h2 => (g.top k h1 (Nat.lt_of_lt_of_le h2 h.bel.size)).trans (h.top k h1 h2)⟩
theorem Keeps.of_only {lo hi b : Nat} {w w' : World} (h : Only b w w') (h1 : lo ≤ b) (h2 : b < hi) : Keeps lo hi w w' :=
  ⟨h.below h1, fun k hk _ => h.block k (by omega)⟩
theorem Keeps.of_below {lo hi : Nat} {w w' : World} (h : Below w.heap.size w w') (hl : lo ≤ w.heap.size) : Keeps lo hi w w' :=
  ⟨h.mono hl, fun k _ hk => h.block k hk⟩

theorem Blk.keeps {w w' : World} {a : Option Addr} {b n lo hi : Nat} {xs : List Int} (h : Blk w a b n xs) (hk : Keeps lo hi w w') (hb : hi ≤ b) : Blk w' a b n xs := by
  refine ⟨h.1, ?_⟩
  rcases h.2 with h0 | ⟨e, hh⟩
  · exact .inl h0
  · exact .inr ⟨e, (hk.top b hb (Array.getElem?_eq_some_iff.mp hh).1).trans hh⟩

theorem Blk.grow' {w w' : World} {a : Option Addr} {b n : Nat} {xs : List Int} (h : Blk w a b n xs) (hb : Below w.heap.size w w') : Blk w' a b n xs := by
  refine ⟨h.1, ?_⟩
  rcases h.2 with h0 | ⟨e, hh⟩
  · exact .inl h0
  · exact .inr ⟨e, (hb.block b (Array.getElem?_eq_some_iff.mp hh).1).trans hh⟩

theorem PartF.grow {w w' : World} {B hi n : Nat} {T : TypeId} {M : Nat → List Int} (h : PartF w B hi n T M) (hb : Below w.heap.size w w') : PartF w' B hi n T M := by
  obtain ⟨C, f, h1, h2, h3, h4⟩ := h
  refine ⟨C, f, (hb.block B (Array.getElem?_eq_some_iff.mp h1).1).trans h1, h2, fun j hj => ?_, h4⟩
  obtain ⟨e1, e2, e3, e4⟩ := h3 j hj
  exact ⟨e1, e2, e3, e4.grow' hb⟩

def updF (M : Nat → List Int) (j : Nat) (l : List Int) : Nat → List Int := fun i => if i = j then l else M i

theorem PartF.one {w : World} {B hi n : Nat} {T : TypeId} {M : Nat → List Int} (h : PartF w B hi n T M) {j : Nat} (hj : j < n) :
    ∃ b, w.cell? ⟨B, j, none⟩ = some (.slice (some ⟨b, 0, none⟩) (M j).length (M j).length) ∧ B < b ∧ b < hi ∧ Blk w (some ⟨b, 0, none⟩) b (M j).length (M j) ∧
      ∀ w' l, Blk w' (some ⟨b, 0, none⟩) b (M j).length l → Only b w w' → PartF w' B hi n T (updF M j l) := by
  obtain ⟨C, f, h1, h2, h3, h4⟩ := h
  obtain ⟨e1, e2, e3, e4⟩ := h3 j hj
  refine ⟨f j, by rw [cell_of_row w B j C T _ h1]; exact e1, e2, e3, e4, fun w' l hb ho => ?_⟩
  refine ⟨C, f, (ho.block B (by omega)).trans h1, h2, fun i hi' => ?_, h4⟩
  unfold updF
  by_cases hij : i = j
  · subst hij
    rw [if_pos rfl, hb.1]
    exact ⟨e1, e2, e3, hb⟩
  · rw [if_neg hij]
    obtain ⟨q1, q2, q3, q4⟩ := h3 i hi'
    have hne : f i ≠ f j := by
      rcases Nat.lt_or_gt_of_ne hij with h | h
      · have := h4 i j h hj; omega
      · have := h4 j i h hi'; omega
    exact ⟨q1, q2, q3, q4.only ho hne⟩

/-- How much the first k lists hold. -/
def cntF (M : Nat → List Int) : Nat → Nat
  | 0 => 0
  | k + 1 => cntF M k + (M k).length

theorem cntF_congr {M N : Nat → List Int} {k : Nat} (h : ∀ j, j < k → (M j).length = (N j).length) : cntF M k = cntF N k := by
  induction k with
  | zero => rfl
  | succ k ih => simp only [cntF]; rw [ih fun j hj => h j (by omega), h k (by omega)]

theorem cntF_mono {M : Nat → List Int} {j k : Nat} (h : j ≤ k) : cntF M j ≤ cntF M k := by
  induction k with
  | zero => have : j = 0 := by omega
            subst this; exact Nat.le_refl _
  | succ k ih =>
    by_cases e : j = k + 1
    · subst e; exact Nat.le_refl _
    · have := ih (by omega); simp only [cntF]; omega

/-- The first q lists are marked, from k0 on. -/
def markedF (k0 : Nat) (M : Nat → List Int) (q : Nat) : Nat → List Int := fun j => if j < q then seqL (k0 + cntF M j) (M j).length else M j

theorem markedF_len (k0 : Nat) (M : Nat → List Int) (q j : Nat) : (markedF k0 M q j).length = (M j).length := by
  unfold markedF; split
  · exact seqL_len _ _
  · rfl

theorem markedF_step (k0 : Nat) (M : Nat → List Int) (q : Nat) : updF (markedF k0 M q) q (seqL (k0 + cntF M q) (M q).length) = markedF k0 M (q + 1) := by
  funext j
  unfold updF markedF
  by_cases e : j = q
  · subst e; rw [if_pos rfl, if_pos (by omega)]
  · rw [if_neg e]
    by_cases h : j < q
    · rw [if_pos h, if_pos (by omega)]
    · rw [if_neg h, if_neg (by omega)]

theorem mark_step {w : World} {B hi n k0 q : Nat} {T : TypeId} {M : Nat → List Int} (h : PartF w B hi n T (markedF k0 M q)) (hq : q < n) (o : Nat) (ho : o = q) :
    ∃ b ln, Hid ((M q).length = ln) ∧ w.cell? ⟨B, o, none⟩ = some (.slice (some ⟨b, 0, none⟩) ln ln) ∧ Hid (Blk w (some ⟨b, 0, none⟩) b ln (M q)) ∧
      Hid (∀ w', Blk w' (some ⟨b, 0, none⟩) b ln (seqL (k0 + cntF M q) ln) → Only b w w' → PartF w' B hi n T (markedF k0 M (q + 1)) ∧ Keeps (B + 1) hi w w') := by
  obtain ⟨b, h1, h2, h3, h4, h5⟩ := h.one hq
  have e : markedF k0 M q q = M q := by unfold markedF; rw [if_neg (by omega)]
  rw [e] at h1 h4 h5
  subst ho
  refine ⟨b, _, rfl, h1, h4, fun w' hb ho => ⟨?_, Keeps.of_only ho (by omega) h3⟩⟩
  have := h5 w' _ hb ho
  rwa [markedF_step] at this

set_option maxHeartbeats 1000000 in
theorem markTris_any (B hi n c k0 : Nat) (T : TypeId) (M : Nat → List Int) (w : World) (h : PartF w B hi (3 * n) T M) (hs : cntF M (3 * n) ≤ 1048576) (hn : n ≤ 1048576) (hk0 : k0 ≤ 2097152) :
    Calls Try.prog 39 #[.slice (some ⟨B, 0, none⟩) n c, .int .i64 (k0 : Int)] w fun e w' => e = .returned (.int .i64 ((k0 + cntF M (3 * n) : Nat) : Int)) ∧ PartF w' B hi (3 * n) T (markedF k0 M (3 * n)) ∧ Keeps (B + 1) hi w w' := by
  have HP := hide h
  clear h
  go_enter Try.func39, Try.ntmps39
  go_wp2_with fail
  go_loopw [1, 5] (fun t i wr => ∃ k t' : Nat, k ≤ n ∧ i = .int .i64 k ∧ t = .int .i64 (t' : Int) ∧ Hid (t' = k0 + cntF M (3 * k)) ∧ Hid (PartF wr B hi (3 * n) T (markedF k0 M (3 * k))) ∧ Hid (Keeps (B + 1) hi w wr)) (fun _ i _ => n - (intOf i).toNat)
  case atStart => exact ⟨0, k0, Nat.zero_le _, rfl, rfl, rfl, by have := HP.out; exact (show markedF k0 M (3 * 0) = M from by funext j; unfold markedF; rw [if_neg (by omega)]) ▸ this, Keeps.refl _ _ _⟩
  case round =>
    obtain ⟨k, t0, hk, rfl, rfl, ht0, hp, hkp⟩ := hrel
    clear HP
    by_cases hlt : k < n
    rotate_left
    · have hk' : k = n := by omega
      subst hk'
      have HT := hide ht0.out.symm
      go_wp2_with fail
      go_ret
      exact ⟨by rw [HT.out]; rfl, hp.out, hkp.out⟩
    have HQ := hide (And.intro (cntF_mono (M := M) (show 3 * k + 1 + 1 + 1 ≤ 3 * n by omega)) (And.intro (show cntF M (3 * k + 1) = cntF M (3 * k) + (M (3 * k)).length from rfl) (And.intro (show cntF M (3 * k + 1 + 1) = cntF M (3 * k + 1) + (M (3 * k + 1)).length from rfl) (show cntF M (3 * k + 1 + 1 + 1) = cntF M (3 * k + 1 + 1) + (M (3 * k + 1 + 1)).length from rfl))))
    obtain ⟨b0, l0, hl0, hc0, hb0, st0⟩ := mark_step hp.out (show 3 * k < 3 * n by omega) (k * 3) (by omega)
    have HM0 := hide (mark_any _ b0 _ l0 t0 _ wr hb0.out (by have := HQ.out; have := hl0.out; omega) (by have := HQ.out; have := ht0.out; omega))
    go_wp2_with fail
    refine HM0.out.mono ?_
    rintro e w1 ⟨rfl, hbk, ho⟩
    rw [ht0.out] at hbk
    obtain ⟨p1, kp1⟩ := st0.out w1 hbk ho
    have HK1 := hide (hkp.out.trans kp1)
    obtain ⟨t1, ht1⟩ : ∃ t, Hid (t0 + l0 = t) := ⟨_, rfl⟩
    rw [ht1.out]
    have HT1 : Hid (t1 = k0 + cntF M (3 * k + 1)) := by show _ = _; have := HQ.out; have := hl0.out; have := ht0.out; have := ht1.out; omega
    obtain ⟨b1, l1, hl1, hc1, hb1, st1⟩ := mark_step p1 (show 3 * k + 1 < 3 * n by omega) (k * 3 + 1) (by omega)
    have HM1 := hide (mark_any _ b1 _ l1 t1 _ w1 hb1.out (by have := HQ.out; have := hl1.out; omega) (by have := HQ.out; have := HT1.out; omega))
    clear st0 HM0 hc0 hbk ho p1 kp1 hp hkp hb0
    go_wp2_with fail
    refine HM1.out.mono ?_
    rintro e w2 ⟨rfl, hbk, ho⟩
    rw [HT1.out] at hbk
    obtain ⟨p2, kp2⟩ := st1.out w2 hbk ho
    have HK2 := hide (HK1.out.trans kp2)
    obtain ⟨t2, ht2⟩ : ∃ t, Hid (t1 + l1 = t) := ⟨_, rfl⟩
    rw [ht2.out]
    have HT2 : Hid (t2 = k0 + cntF M (3 * k + 1 + 1)) := by show _ = _; have := HQ.out; have := hl1.out; have := HT1.out; have := ht2.out; omega
    obtain ⟨b2, l2, hl2, hc2, hb2, st2⟩ := mark_step p2 (show 3 * k + 1 + 1 < 3 * n by omega) (k * 3 + 2) (by omega)
    have HM2 := hide (mark_any _ b2 _ l2 t2 _ w2 hb2.out (by have := HQ.out; have := hl2.out; omega) (by have := HQ.out; have := HT2.out; omega))
    clear st1 HM1 hc1 hbk ho p2 kp2 HK1 hb1
    go_wp2_with fail
    refine HM2.out.mono ?_
    rintro e w3 ⟨rfl, hbk, ho⟩
    rw [HT2.out] at hbk
    obtain ⟨p3, kp3⟩ := st2.out w3 hbk ho
    have HK3 := hide (HK2.out.trans kp3)
    have e3 : 3 * (k + 1) = 3 * k + 1 + 1 + 1 := by omega
    have HP3 : Hid (PartF w3 B hi (3 * n) T (markedF k0 M (3 * (k + 1)))) := by
      show PartF w3 B hi (3 * n) T (markedF k0 M (3 * (k + 1)))
      rw [e3]; exact p3
    obtain ⟨t3, ht3⟩ : ∃ t, Hid (t2 + l2 = t) := ⟨_, rfl⟩
    rw [ht3.out]
    have HT3 : Hid (t3 = k0 + cntF M (3 * (k + 1))) := by
      show _ = _
      rw [e3]
      have := HQ.out; have := hl2.out; have := HT2.out; have := ht3.out; omega
    clear st2 HM2 hc2 hbk ho p3 kp3 HK2 e3 hb2
    go_wp2_with fail
    go_roundw
    case rel => exact ⟨k + 1, t3, by omega, by go_num, rfl, HT3, HP3, HK3⟩
    case measure => simp [intOf]; omega

set_option maxHeartbeats 400000 in
theorem markNet_any (p : Int) (B hi n c k0 : Nat) (T : TypeId) (M : Nat → List Int) (w : World) (h : PartF w B hi (3 * n) T M) (hs : cntF M (3 * n) ≤ 1048576) (hn : n ≤ 1048576) (hk0 : k0 ≤ 2097152) :
    Calls Try.prog 14 #[.agg #[.int .i64 p, .slice (some ⟨B, 0, none⟩) n c], .int .i64 (k0 : Int)] w fun e w' => e = .returned (.int .i64 ((k0 + cntF M (3 * n) : Nat) : Int)) ∧ PartF w' B hi (3 * n) T (markedF k0 M (3 * n)) ∧ Keeps (B + 1) hi w w' := by
  have hA := below_al w (.cells #[.int .i64 p, .slice (some ⟨B, 0, none⟩) n c] 28)
  have hlt : B < w.heap.size := by obtain ⟨C, f, h1, _⟩ := h; exact (Array.getElem?_eq_some_iff.mp h1).1
  have HT := hide (markTris_any B hi n c k0 T M _ (h.grow hA) hs hn hk0)
  have HK := hide (Keeps.of_below (lo := B + 1) (hi := hi) hA (by omega))
  obtain ⟨t0, ht0⟩ : ∃ t, Hid (k0 + cntF M (3 * n) = t) := ⟨_, rfl⟩
  rw [ht0.out] at HT ⊢
  clear h hA
  go_enter Try.func14, Try.ntmps14
  go_wp2_with fail
  refine HT.out.mono ?_
  rintro e w3 ⟨rfl, p3, kp3⟩
  have HP3 := hide p3
  have HK3 := hide (HK.out.trans kp3)
  clear p3 kp3 HT HK
  go_wp2_with fail
  go_ret
  exact ⟨rfl, HP3.out, HK3.out⟩
end Go.Proofs.Ytakenobplljkbaa


/- How a net that comes in is opened: a number and a slice whose lists can be read. -/
namespace Go.Proofs.Ytakenobplljkbaa
open Go.ChangeShapes Go.WideShapes Go.ChangeAt Go.RowKit Go.Deep Go.Joins

theorem row_of_ints {H : Type} {enc : TypeId × Value → H} {W : World} {base fuel : Nat} {v : Value} {x : DataW H × List MemPlace} (h : DataW.trod enc Try.prog W base (fun _ => true) true fuel 35 [v] = some x) :
    ∃ a n c xs, v = .slice a n c ∧ n ≤ maxLen ∧ Row W a n xs := by
  rcases open_ints Try.underlying35 Try.underlying3 (by kernel_rfl) h with ⟨hcs, _⟩ | ⟨y, l, c, zs, hcs, _, hl, hm, hz, _, hcell, _⟩
  · simp at hcs
    exact ⟨none, 0, 0, [], hcs, Nat.zero_le _, rfl, .inl rfl⟩
  · simp at hcs
    refine ⟨some y, l, c, zs.take l, hcs, by omega, ?_, ?_⟩
    · rw [List.length_take]; simp at hz; omega
    · by_cases h0 : l = 0
      · exact .inl h0
      · simp at hz
        obtain ⟨b, off, spot⟩ := y
        have hc := hcell 0 (by omega)
        have hspot : spot = none := by simpa [Addr.add] using World.cell?_spot hc
        subst hspot
        refine .inr ⟨b, off, rfl, ?_, fun i hi => ?_⟩
        · have := block_lt_of_cell hc; simpa [Addr.add] using this
        · have := hcell i (by omega)
          rw [List.getD_eq_getElem?_getD, List.getElem?_take_of_lt hi, ← List.getD_eq_getElem?_getD]
          rw [Addr.add_mid] at this
          exact this

set_option maxRecDepth 10000 in
theorem open_net {H : Type} {enc : TypeId × Value → H} {W : World} {base b0 : Nat} {r : Reach} {v : Value} {d : DataW H} {ps : List MemPlace} (hv : Value.okWide Try.prog W r b0 24 v) (h : DataW.Trod enc Try.prog W base (fun _ => true) true 24 v d ps) :
    ∃ p a n c L, v = .agg #[.int .i64 p, .slice a n c] ∧ n ≤ maxLen ∧ Lists W a (3 * n) L := by
  obtain ⟨v0, v1, y0, y1, m, rfl, _, _, h0, h1⟩ := open_agg2 Try.underlying24 (by kernel_rfl) (by kernel_rfl) hv h
  obtain ⟨p, hp, _, _⟩ := DataW.trod_int Try.underlying3 h0
  simp at hp
  subst hp
  have hC : Try.prog.cellsOf 77 = 3 := by kernel_rfl
  rcases open_slice Try.underlying22 h1 with ⟨hcs, _⟩ | ⟨a, len, cap, q, n', D, Pl, hcs, hb, hl, hm, hq, _, hel⟩
  · simp at hcs
    subst hcs
    exact ⟨p, none, 0, 0, [], rfl, Nat.zero_le _, rfl, .inl rfl⟩
  · simp at hcs
    subst hcs
    simp at hq
    subst hq
    rw [hC] at hel
    have key : ∀ i, i < len → ∃ (t : (Option Addr × Nat × Nat × List Int) × (Option Addr × Nat × Nat × List Int) × (Option Addr × Nat × Nat × List Int)),
        (W.cell? (a.add (i * 3)) = some (.slice t.1.1 t.1.2.1 t.1.2.2.1) ∧ t.1.2.1 ≤ maxLen ∧ Row W t.1.1 t.1.2.1 t.1.2.2.2) ∧
        (W.cell? ((a.add (i * 3)).add 1) = some (.slice t.2.1.1 t.2.1.2.1 t.2.1.2.2.1) ∧ t.2.1.2.1 ≤ maxLen ∧ Row W t.2.1.1 t.2.1.2.1 t.2.1.2.2.2) ∧
        (W.cell? ((a.add (i * 3)).add 2) = some (.slice t.2.2.1 t.2.2.2.1 t.2.2.2.2.1) ∧ t.2.2.2.1 ≤ maxLen ∧ Row W t.2.2.1 t.2.2.2.1 t.2.2.2.2.2) := by
      intro i hi
      obtain ⟨cs', hc1, hc2⟩ := hel i (by omega)
      obtain ⟨_, hlen, hcell⟩ := World.cells?_some hc1
      obtain ⟨y0, y1, y2, m', _, _, g0, g1, g2⟩ := trod_struct3 Try.underlying77 hc2
      match cs', hlen with
      | [u0, u1, u2], _ =>
        have k0 : Try.prog.cellsOf 35 = 1 := by kernel_rfl
        simp [k0] at g0 g1 g2
        obtain ⟨a0, n0, c0, x0, rfl, l0, r0⟩ := row_of_ints g0
        obtain ⟨a1, n1, c1, x1, rfl, l1, r1⟩ := row_of_ints g1
        obtain ⟨a2, n2, c2, x2, rfl, l2, r2⟩ := row_of_ints g2
        have w0 := hcell 0 (by omega)
        have w1 := hcell 1 (by omega)
        have w2 := hcell 2 (by omega)
        simp at w0 w1 w2
        refine ⟨((a0, n0, c0, x0), (a1, n1, c1, x1), (a2, n2, c2, x2)), ⟨by simpa [Addr.add] using w0, l0, r0⟩, ⟨w1, l1, r1⟩, ⟨w2, l2, r2⟩⟩
    obtain ⟨f, hf⟩ := choose_lt key
    refine ⟨p, some a, len, _, (List.range (3 * len)).map fun j => if j % 3 = 0 then (f (j / 3)).1.2.2.2 else if j % 3 = 1 then (f (j / 3)).2.1.2.2.2 else (f (j / 3)).2.2.2.2.2, rfl, by omega, by simp, ?_⟩
    by_cases h0 : len = 0
    · exact .inl (by omega)
    · obtain ⟨b, off, spot⟩ := a
      have hc := (hf 0 (by omega)).1.1
      have hspot : spot = none := by simpa [Addr.add] using World.cell?_spot hc
      subst hspot
      refine .inr ⟨b, off, rfl, ?_, fun j hj => ?_⟩
      · have := block_lt_of_cell hc; simpa [Addr.add] using this
      · have hj3 : j / 3 < len := by omega
        obtain ⟨q0, q1, q2⟩ := hf (j / 3) hj3
        simp only [Addr.add_mid] at q0 q1 q2
        simp only [List.getD_eq_getElem?_getD, List.getElem?_map, List.getElem?_range hj, Option.map_some, Option.getD_some]
        by_cases e0 : j % 3 = 0
        · rw [if_pos e0]
          have : off + j = off + j / 3 * 3 := by omega
          rw [this]; exact ⟨_, _, _, q0⟩
        · rw [if_neg e0]
          by_cases e1 : j % 3 = 1
          · rw [if_pos e1]
            have : off + j = off + j / 3 * 3 + 1 := by omega
            rw [this]; exact ⟨_, _, _, q1⟩
          · rw [if_neg e1]
            have : off + j = off + j / 3 * 3 + 2 := by omega
            rw [this]; exact ⟨_, _, _, q2⟩

theorem keep {v v' : World} {b : Nat} {C : Array Value} {t : TypeId} (h : v.heap[b]? = some (.cells C t (0, 0))) (hb : Below v.heap.size v v') : v'.heap[b]? = some (.cells C t (0, 0)) :=
  (hb.block b (Array.getElem?_eq_some_iff.mp h).1).trans h

theorem cells2 {v : World} {b : Nat} {x y : Value} {t : TypeId} (h : v.heap[b]? = some (.cells #[x, y] t (0, 0))) : v.cell? ⟨b, 0, none⟩ = some x ∧ v.cell? ⟨b, 1, none⟩ = some y :=
  ⟨cell_of_row v b 0 _ _ _ h, cell_of_row v b 1 _ _ _ h⟩

theorem row_lt {v : World} {b : Nat} {C : Array Value} {t : TypeId} (h : v.heap[b]? = some (.cells C t (0, 0))) : b < v.heap.size := (Array.getElem?_eq_some_iff.mp h).1
end Go.Proofs.Ytakenobplljkbaa


/- What the second half of a law over a net and a list keeps in mind: the net and the list handed in, the list answered, each in blocks of their own, and the specification's answer, while memory grows and blocks are marked. -/
namespace Go.Proofs.Ytakenobplljkbaa
open Go.RowKit

theorem PartF.lists {w : World} {B hi n : Nat} {T : TypeId} {L : List (List Int)} (h : PartF w B hi (3 * n) T (fun j => L.getD j [])) (hl : L.length = 3 * n) (hs : sizeN n L ≤ 1048576) : Lists w (some ⟨B, 0, none⟩) (3 * n) L := by
  obtain ⟨C, f, h1, h2, h3, h4⟩ := h
  refine ⟨hl, .inr ⟨B, 0, rfl, (Array.getElem?_eq_some_iff.mp h1).1, fun j hj => ?_⟩⟩
  obtain ⟨e1, e2, e3, e4⟩ := h3 j hj
  refine ⟨_, _, _, by rw [cell_of_row w B (0 + j) C T _ h1, Nat.zero_add]; exact e1, ?_, e4.row⟩
  have := len_le L j
  show (L.getD j []).length ≤ maxLen
  unfold sizeN at hs; unfold maxLen; omega

theorem cntF_size (L : List (List Int)) (k : Nat) (hk : k ≤ L.length) : cntF (fun j => L.getD j []) k = sizeL (L.take k) := by
  induction k with
  | zero => simp [cntF, sizeL]
  | succ k ih => simp only [cntF]; rw [ih (by omega), sizeL_take_succ L k (by omega)]

theorem cntF_all {L : List (List Int)} {n : Nat} (hl : L.length = 3 * n) : cntF (fun j => L.getD j []) (3 * n) = sizeL L := by
  rw [cntF_size L (3 * n) (by omega), List.take_of_length_le (by omega)]

/-- w: the world ahead of the law; u: behind the specification's answer; v: now. -/
structure Sn (w u v : World) (p : Int) (a : Option Addr) (n c B hi bx : Nat) (M : Nat → List Int) (ax : Option Addr) (b1 nm : Nat) (ly : List Int) (ag : Option Addr) (bg ng : Nat) (lg : List Int) : Prop where
  old : Below w.heap.size w v
  mid : Below u.heap.size u v
  par : v.heap[w.heap.size]? = some (.cells #[.int .i64 p, .slice a n c] 24 (0, 0))
  x0 : v.heap[bx]? = some (.cells #[.int .i64 p, .slice (some ⟨B, 0, none⟩) n n] 28 (0, 0))
  net : PartF v B hi (3 * n) 50 M
  x1 : Blk v ax b1 nm ly
  g : Blk v ag bg ng lg

variable {w u v v' : World} {p : Int} {a : Option Addr} {n c B hi bx : Nat} {M : Nat → List Int} {ax : Option Addr} {b1 nm : Nat} {ly : List Int} {ag : Option Addr} {bg ng : Nat} {lg l : List Int}

theorem Sn.grow (h : Sn w u v p a n c B hi bx M ax b1 nm ly ag bg ng lg) (hb : Below v.heap.size v v') : Sn w u v' p a n c B hi bx M ax b1 nm ly ag bg ng lg :=
  ⟨h.old.trans (hb.mono h.old.size), h.mid.trans (hb.mono h.mid.size), keep h.par hb, keep h.x0 hb, h.net.grow hb, h.x1.grow' hb, h.g.grow' hb⟩

theorem Sn.markN {M' : Nat → List Int} (h : Sn w u v p a n c B hi bx M ax b1 nm ly ag bg ng lg) (hm : PartF v' B hi (3 * n) 50 M') (hk : Keeps (B + 1) hi v v') (h1 : w.heap.size ≤ B) (h2 : u.heap.size ≤ B) (hx : hi ≤ bx) (hy : hi ≤ b1) (hg : hi ≤ bg) :
    Sn w u v' p a n c B hi bx M' ax b1 nm ly ag bg ng lg :=
  ⟨h.old.trans (hk.bel.mono (by omega)), h.mid.trans (hk.bel.mono (by omega)), (hk.bel.block _ (by omega)).trans h.par, (hk.top bx hx (row_lt h.x0)).trans h.x0, hm, h.x1.keeps hk hy, h.g.keeps hk hg⟩

theorem PartF.only {w w' : World} {B hi n b : Nat} {T : TypeId} {M : Nat → List Int} (h : PartF w B hi n T M) (ho : Only b w w') (hb : hi ≤ b) (hB : B ≠ b) : PartF w' B hi n T M := by
  obtain ⟨C, f, h1, h2, h3, h4⟩ := h
  refine ⟨C, f, (ho.block B hB).trans h1, h2, fun j hj => ?_, h4⟩
  obtain ⟨e1, e2, e3, e4⟩ := h3 j hj
  exact ⟨e1, e2, e3, e4.only ho (by omega)⟩

theorem Sn.markX (h : Sn w u v p a n c B hi bx M ax b1 nm ly ag bg ng lg) (hm : Blk v' ax b1 nm l) (ho : Only b1 v v') (h1 : w.heap.size < b1) (h2 : u.heap.size ≤ b1) (hb : hi ≤ b1) (hB : B ≠ b1) (hx : bx ≠ b1) (hg : bg ≠ b1) :
    Sn w u v' p a n c B hi bx M ax b1 nm l ag bg ng lg :=
  ⟨h.old.trans (ho.below (by omega)), h.mid.trans (ho.below h2), (ho.block _ (by omega)).trans h.par, (ho.block _ hx).trans h.x0, h.net.only ho hb hB, hm, h.g.only ho hg⟩

theorem Sn.markG (h : Sn w u v p a n c B hi bx M ax b1 nm ly ag bg ng lg) (hm : Blk v' ag bg ng l) (ho : Only bg v v') (h1 : w.heap.size < bg) (h2 : u.heap.size ≤ bg) (hb : hi ≤ bg) (hB : B ≠ bg) (hx : bx ≠ bg) (hy : b1 ≠ bg) :
    Sn w u v' p a n c B hi bx M ax b1 nm ly ag bg ng l :=
  ⟨h.old.trans (ho.below (by omega)), h.mid.trans (ho.below h2), (ho.block _ (by omega)).trans h.par, (ho.block _ hx).trans h.x0, h.net.only ho hb hB, h.x1.only ho hy, hm⟩

theorem blk_new' (w : World) (xs : List Int) (n : Nat) (hl : xs.length = n) : Blk (w.alloc (.cells (cellsOf xs) 3)) (some ⟨w.heap.size, 0, none⟩) w.heap.size n xs :=
  ⟨hl, .inr ⟨rfl, heap_alloc_new _ _⟩⟩
end Go.Proofs.Ytakenobplljkbaa


/- Lists that an append has made: a block of its own, in which there may be more room; what markIntS writes into one; and the state of a law over a net whose answer is such a list. -/
namespace Go.Proofs.Ytakenobplljkbaa
open Go.RowKit

/-- A slice of n numbers from the head of the block b, in which there may be more room; or an empty one. -/
def Ob (w : World) (a : Option Addr) (b n : Nat) (xs : List Int) : Prop :=
  xs.length = n ∧ (n = 0 ∨ (a = some ⟨b, 0, none⟩ ∧ ∃ cur, w.heap[b]? = some (.cells cur 3 (0, 0)) ∧ n ≤ cur.size ∧ ∀ i, i < n → cur[i]? = some (.int .i64 (xs.getD i 0))))

theorem Ob.row {w : World} {a : Option Addr} {b n : Nat} {xs : List Int} (h : Ob w a b n xs) : Row w a n xs := by
  rcases h.2 with h0 | ⟨e, cur, h1, h2, h3⟩
  · exact ⟨h.1, .inl h0⟩
  · refine ⟨h.1, .inr ⟨b, 0, e, (Array.getElem?_eq_some_iff.mp h1).1, fun i hi => ?_⟩⟩
    rw [cell_of_row w b (0 + i) _ _ _ h1, Nat.zero_add]
    exact h3 i hi

theorem Ob.grow {w w' : World} {a : Option Addr} {b n : Nat} {xs : List Int} (h : Ob w a b n xs) (hb : Below w.heap.size w w') : Ob w' a b n xs := by
  refine ⟨h.1, ?_⟩
  rcases h.2 with h0 | ⟨e, cur, h1, h2⟩
  · exact .inl h0
  · exact .inr ⟨e, cur, (hb.block b (Array.getElem?_eq_some_iff.mp h1).1).trans h1, h2⟩

theorem Ob.only {w w' : World} {a : Option Addr} {b c n : Nat} {xs : List Int} (h : Ob w a b n xs) (ho : Only c w w') (hB : b ≠ c) : Ob w' a b n xs := by
  refine ⟨h.1, ?_⟩
  rcases h.2 with h0 | ⟨e, cur, h1, h2⟩
  · exact .inl h0
  · exact .inr ⟨e, cur, (ho.block b hB).trans h1, h2⟩

theorem Ob.keeps {w w' : World} {a : Option Addr} {b n lo hi : Nat} {xs : List Int} (h : Ob w a b n xs) (hk : Keeps lo hi w w') (hb : hi ≤ b) : Ob w' a b n xs := by
  refine ⟨h.1, ?_⟩
  rcases h.2 with h0 | ⟨e, cur, h1, h2⟩
  · exact .inl h0
  · exact .inr ⟨e, cur, (hk.top b hb (Array.getElem?_eq_some_iff.mp h1).1).trans h1, h2⟩

/-- The first k of n numbers are there. -/
def FillR (xs : List Int) (n k : Nat) (cs : Array Value) : Prop := n ≤ cs.size ∧ ∀ i, i < k → cs[i]? = some (.int .i64 (xs.getD i 0))

theorem set_fillR {xs : List Int} {n k : Nat} {cs : Array Value} {x : Int} (h : FillR xs n k cs) (hk : k < n) (hx : xs.getD k 0 = x) : FillR xs n (k + 1) (cs.setIfInBounds k (.int .i64 x)) := by
  obtain ⟨h1, h2⟩ := h
  refine ⟨by simp; exact h1, fun i hi => ?_⟩
  rw [Array.getElem?_setIfInBounds]
  by_cases e : k = i
  · subst e; rw [if_pos rfl, if_pos (by omega), hx]
  · rw [if_neg e]; exact h2 i (by omega)

set_option maxHeartbeats 400000 in
theorem markO_any (a : Option Addr) (b n c k0 : Nat) (xs : List Int) (w : World) (h : Ob w a b n xs) (hn : n ≤ 1048576) (hk0 : k0 ≤ 4194304) :
    Calls Try.prog 20 #[.slice a n c, .int .i64 (k0 : Int)] w fun e w' => e = .returned (.int .i64 ((k0 + n : Nat) : Int)) ∧ Ob w' a b n (seqL k0 n) ∧ Only b w w' := by
  have HB := hide h
  clear h
  go_enter Try.func20, Try.ntmps20
  go_wp2
  go_loopw [1, 5] (fun t i wr => ∃ k : Nat, k ≤ n ∧ i = .int .i64 k ∧ t = .int .i64 ((k0 + k : Nat) : Int) ∧ Only b w wr ∧ (n = 0 ∨ (a = some ⟨b, 0, none⟩ ∧ ∃ cs, FillR (seqL k0 n) n k cs ∧ wr.heap[b]? = some (.cells cs 3 (0, 0))))) (fun _ i _ => n - (intOf i).toNat)
  case atStart =>
    refine ⟨0, Nat.zero_le _, rfl, rfl, Only.refl _ _, ?_⟩
    rcases HB.out.2 with h0 | ⟨e, hh⟩
    · exact .inl h0
    · obtain ⟨cur, q1, q2, _⟩ := hh
      exact .inr ⟨e, cur, ⟨q2, fun i hi => absurd hi (by omega)⟩, q1⟩
  case round =>
    obtain ⟨k, hk, rfl, rfl, ho, hd⟩ := hrel
    by_cases hlt : k < n
    · obtain ⟨rfl, cs, hf, hh⟩ : a = some ⟨b, 0, none⟩ ∧ ∃ cs, FillR (seqL k0 n) n k cs ∧ wr.heap[b]? = some (.cells cs 3 (0, 0)) := by
        rcases hd with h0 | h
        · omega
        · exact h
      have HF := hide (set_fillR hf hlt (seqL_at k0 n k hlt))
      have hsz := hf.1
      obtain ⟨v0, hv0⟩ : ∃ v0, wr.cell? ⟨b, k, none⟩ = some v0 := ⟨_, by rw [cell_of_row wr b k cs _ _ hh]; exact Array.getElem?_eq_getElem (by omega)⟩
      have hfr := frozen_of_row wr b k cs _ hh
      have HH := hide (heap_setCell_same wr b k cs _ (.int .i64 ((k0 + k : Nat) : Int)) hh)
      have HO := hide (ho.setCell k (.int .i64 ((k0 + k : Nat) : Int)))
      have hb1 : ((k0 + k : Nat) : Int) ≤ 5242880 := by omega
      have hb0 : (0 : Int) ≤ ((k0 + k : Nat) : Int) := by omega
      obtain ⟨t, ht⟩ : ∃ t : Nat, Hid (k0 + k = t) := ⟨_, rfl⟩
      rw [ht.out] at hb1 hb0 HF HH HO ⊢
      clear hd ho hf hh HB
      go_wp2
      go_roundw
      case rel => exact ⟨k + 1, by omega, by go_num, by rw [show k0 + (k + 1) = t + 1 by have := ht.out; omega]; go_num, HO.out, by first | exact .inr ⟨rfl, _, HF.out, HH.out⟩ | exact .inr ⟨trivial, _, HF.out, HH.out⟩⟩
      case measure => simp [intOf]; omega
    · have hk' : k = n := by omega
      subst hk'
      have HD := hide hd
      have HO := hide ho
      clear hd ho
      go_wp2
      go_ret
      refine ⟨rfl, ⟨seqL_len _ _, ?_⟩, HO.out⟩
      rcases HD.out with h0 | ⟨e, cs, hf, hh⟩
      · exact .inl h0
      · exact .inr ⟨e, cs, hh, hf.1, hf.2⟩


/-- w: the world ahead of the law; u: behind the specification's answer; v: now. -/
structure So (w u v : World) (p : Int) (a : Option Addr) (n c B hi bx : Nat) (M : Nat → List Int) (ax : Option Addr) (b1 nm : Nat) (ly : List Int) (ag : Option Addr) (bg ng : Nat) (lg : List Int) : Prop where
  old : Below w.heap.size w v
  mid : Below u.heap.size u v
  par : v.heap[w.heap.size]? = some (.cells #[.int .i64 p, .slice a n c] 24 (0, 0))
  x0 : v.heap[bx]? = some (.cells #[.int .i64 p, .slice (some ⟨B, 0, none⟩) n n] 28 (0, 0))
  net : PartF v B hi (3 * n) 50 M
  x1 : Blk v ax b1 nm ly
  g : Ob v ag bg ng lg

variable {w u v v' : World} {p : Int} {a : Option Addr} {n c B hi bx : Nat} {M : Nat → List Int} {ax : Option Addr} {b1 nm : Nat} {ly : List Int} {ag : Option Addr} {bg ng : Nat} {lg l : List Int}

theorem So.grow (h : So w u v p a n c B hi bx M ax b1 nm ly ag bg ng lg) (hb : Below v.heap.size v v') : So w u v' p a n c B hi bx M ax b1 nm ly ag bg ng lg :=
  ⟨h.old.trans (hb.mono h.old.size), h.mid.trans (hb.mono h.mid.size), keep h.par hb, keep h.x0 hb, h.net.grow hb, h.x1.grow' hb, h.g.grow hb⟩

theorem So.markN {M' : Nat → List Int} (h : So w u v p a n c B hi bx M ax b1 nm ly ag bg ng lg) (hm : PartF v' B hi (3 * n) 50 M') (hk : Keeps (B + 1) hi v v') (h1 : w.heap.size ≤ B) (h2 : u.heap.size ≤ B) (hx : hi ≤ bx) (hy : hi ≤ b1) (hg : hi ≤ bg) :
    So w u v' p a n c B hi bx M' ax b1 nm ly ag bg ng lg :=
  ⟨h.old.trans (hk.bel.mono (by omega)), h.mid.trans (hk.bel.mono (by omega)), (hk.bel.block _ (by omega)).trans h.par, (hk.top bx hx (row_lt h.x0)).trans h.x0, hm, h.x1.keeps hk hy, h.g.keeps hk hg⟩

theorem So.markX (h : So w u v p a n c B hi bx M ax b1 nm ly ag bg ng lg) (hm : Blk v' ax b1 nm l) (ho : Only b1 v v') (h1 : w.heap.size < b1) (h2 : u.heap.size ≤ b1) (hb : hi ≤ b1) (hB : B ≠ b1) (hx : bx ≠ b1) (hg : bg ≠ b1) :
    So w u v' p a n c B hi bx M ax b1 nm l ag bg ng lg :=
  ⟨h.old.trans (ho.below (by omega)), h.mid.trans (ho.below h2), (ho.block _ (by omega)).trans h.par, (ho.block _ hx).trans h.x0, h.net.only ho hb hB, hm, h.g.only ho hg⟩

theorem So.markG (h : So w u v p a n c B hi bx M ax b1 nm ly ag bg ng lg) (hm : Ob v' ag bg ng l) (ho : Only bg v v') (h1 : w.heap.size < bg) (h2 : u.heap.size ≤ bg) (hb : hi ≤ bg) (hB : B ≠ bg) (hx : bx ≠ bg) (hy : b1 ≠ bg) :
    So w u v' p a n c B hi bx M ax b1 nm ly ag bg ng l :=
  ⟨h.old.trans (ho.below (by omega)), h.mid.trans (ho.below h2), (ho.block _ (by omega)).trans h.par, (ho.block _ hx).trans h.x0, h.net.only ho hb hB, h.x1.only ho hy, hm⟩
end Go.Proofs.Ytakenobplljkbaa


/- Nets whose lists append has made: each list in a block of its own in which there may be more room, or empty; what markTransS and markNet write into one, and what heldTransS and heldNet answer. -/
namespace Go.Proofs.Ytakenobplljkbaa
open Go.RowKit

/-- Lists by their number, each that is not empty in a block of its own between lo and hi. -/
def PartG (w : World) (B lo hi n : Nat) (T : TypeId) (M : Nat → List Int) : Prop :=
  ∃ (C : Array Value) (A : Nat → Option Addr) (f cap : Nat → Nat), w.heap[B]? = some (.cells C T (0, 0)) ∧ n ≤ C.size ∧
    (∀ j, j < n → C[j]? = some (.slice (A j) (M j).length (cap j)) ∧ Ob w (A j) (f j) (M j).length (M j) ∧ (M j ≠ [] → lo ≤ f j ∧ f j < hi ∧ f j ≠ B)) ∧
    (∀ i j, i < j → j < n → M i ≠ [] → M j ≠ [] → f i ≠ f j)

theorem PartG.grow {w w' : World} {B lo hi n : Nat} {T : TypeId} {M : Nat → List Int} (h : PartG w B lo hi n T M) (hb : Below w.heap.size w w') : PartG w' B lo hi n T M := by
  obtain ⟨C, A, f, cap, h1, h2, h3, h4⟩ := h
  refine ⟨C, A, f, cap, (hb.block B (Array.getElem?_eq_some_iff.mp h1).1).trans h1, h2, fun j hj => ?_, h4⟩
  obtain ⟨e1, e2, e3⟩ := h3 j hj
  exact ⟨e1, e2.grow hb, e3⟩

theorem PartG.keeps {w w' : World} {B lo hi n lo' hi' : Nat} {T : TypeId} {M : Nat → List Int} (h : PartG w B lo hi n T M) (hk : Keeps lo' hi' w w') (h1 : hi' ≤ lo) (h2 : hi' ≤ B) : PartG w' B lo hi n T M := by
  obtain ⟨C, A, f, cap, q1, q2, q3, q4⟩ := h
  refine ⟨C, A, f, cap, (hk.top B h2 (Array.getElem?_eq_some_iff.mp q1).1).trans q1, q2, fun j hj => ?_, q4⟩
  obtain ⟨e1, e2, e3⟩ := q3 j hj
  refine ⟨e1, ?_, e3⟩
  by_cases he : M j = []
  · rw [he]; exact ⟨rfl, .inl rfl⟩
  · exact e2.keeps hk (by have := (e3 he).1; omega)

/-- The list j is marked. -/
theorem PartG.one {w : World} {B lo hi n : Nat} {T : TypeId} {M : Nat → List Int} (h : PartG w B lo hi n T M) {j : Nat} (hj : j < n) (k0 : Nat) (hl : (M j).length ≤ 1048576) (hk0 : k0 ≤ 4194304) (o : Nat) (ho : o = j) :
    ∃ a ln cp, Hid ((M j).length = ln) ∧ w.cell? ⟨B, o, none⟩ = some (.slice a ln cp) ∧ Hid (Calls Try.prog 20 #[.slice a ln cp, .int .i64 (k0 : Int)] w fun e w' => e = .returned (.int .i64 ((k0 + ln : Nat) : Int)) ∧ PartG w' B lo hi n T (updF M j (seqL k0 ln)) ∧ Keeps lo hi w w' ∧ w'.heap[B]? = w.heap[B]?) := by
  subst ho
  obtain ⟨C, A, f, cap, h1, h2, h3, h4⟩ := h
  obtain ⟨e1, e2, e3⟩ := h3 o hj
  refine ⟨A o, _, cap o, rfl, by rw [cell_of_row w B o C T _ h1]; exact e1, ?_⟩
  by_cases he : M o = []
  · -- nothing is written
    have hob : Ob w (A o) w.heap.size (M o).length (M o) := ⟨rfl, .inl (by rw [he]; rfl)⟩
    refine (markO_any (A o) w.heap.size _ (cap o) k0 (M o) w hob hl hk0).mono fun e w' ⟨q1, q2, q3⟩ => ⟨q1, ?_, ?_, ?_⟩
    · have hB := (Array.getElem?_eq_some_iff.mp h1).1
      refine ⟨C, A, f, cap, (q3.block B (by omega)).trans h1, h2, fun i hi => ?_, fun i i' hii hi' hm hm' => ?_⟩
      · obtain ⟨p1, p2, p3⟩ := h3 i hi
        unfold updF
        by_cases hio : i = o
        · subst hio
          rw [if_pos rfl, he]
          refine ⟨by rw [he] at p1; exact p1, ⟨rfl, .inl rfl⟩, fun hc => absurd rfl hc⟩
        · rw [if_neg hio]
          refine ⟨p1, ?_, p3⟩
          by_cases hmi : M i = []
          · rw [hmi]; exact ⟨rfl, .inl rfl⟩
          · rcases p2.2 with h0 | ⟨_, cur, hh, _⟩
            · exact absurd (List.length_eq_zero_iff.mp h0) hmi
            · have := (Array.getElem?_eq_some_iff.mp hh).1
              exact p2.only q3 (by omega)
      · unfold updF at hm hm'
        have hne : i ≠ o := by intro e; subst e; rw [if_pos rfl, he] at hm; exact hm rfl
        have hne' : i' ≠ o := by intro e; subst e; rw [if_pos rfl, he] at hm'; exact hm' rfl
        rw [if_neg hne] at hm
        rw [if_neg hne'] at hm'
        exact h4 i i' hii hi' hm hm'
    · exact ⟨⟨q3.os, q3.tape, q3.output, Nat.le_of_eq q3.size.symm, fun k _ => by
        by_cases hk : k = w.heap.size
        · subst hk
          rw [Array.getElem?_eq_none (xs := w'.heap) (by have := q3.size; omega), Array.getElem?_eq_none (xs := w.heap) (Nat.le_refl _)]
        · exact q3.block k hk⟩, fun k _ hk => q3.block k (by omega)⟩
    · exact q3.block B (by have := (Array.getElem?_eq_some_iff.mp h1).1; omega)
  · obtain ⟨g1, g2, g3⟩ := e3 he
    refine (markO_any (A o) (f o) _ (cap o) k0 (M o) w e2 hl hk0).mono fun e w' ⟨q1, q2, q3⟩ => ⟨q1, ?_, Keeps.of_only q3 g1 g2, q3.block B (fun e => g3 e.symm)⟩
    refine ⟨C, A, f, cap, (q3.block B (fun e => g3 e.symm)).trans h1, h2, fun i hi => ?_, fun i i' hii hi' hm hm' => ?_⟩
    · obtain ⟨p1, p2, p3⟩ := h3 i hi
      unfold updF
      by_cases hio : i = o
      · subst hio
        rw [if_pos rfl, seqL_len]
        exact ⟨p1, q2, fun _ => p3 he⟩
      · rw [if_neg hio]
        refine ⟨p1, ?_, p3⟩
        by_cases hmi : M i = []
        · rw [hmi]; exact ⟨rfl, .inl rfl⟩
        · refine p2.only q3 ?_
          rcases Nat.lt_or_gt_of_ne hio with hlt | hlt
          · exact h4 i o hlt hj hmi he
          · exact fun e => h4 o i hlt hi he hmi e.symm
    · unfold updF at hm hm'
      have hMi : M i ≠ [] := by
        by_cases hio : i = o
        · subst hio; exact he
        · rwa [if_neg hio] at hm
      have hMi' : M i' ≠ [] := by
        by_cases hio : i' = o
        · subst hio; exact he
        · rwa [if_neg hio] at hm'
      exact h4 i i' hii hi' hMi hMi'

theorem markedF_at (k0 : Nat) (M : Nat → List Int) (q : Nat) : markedF k0 M q q = M q := by unfold markedF; rw [if_neg (by omega)]

set_option maxHeartbeats 1000000 in
theorem markTrisG_any (B lo hi n c k0 : Nat) (T : TypeId) (M : Nat → List Int) (w : World) (h : PartG w B lo hi (3 * n) T M) (hs : cntF M (3 * n) ≤ 1048576) (hn : n ≤ 1048576) (hk0 : k0 ≤ 2097152) :
    Calls Try.prog 39 #[.slice (some ⟨B, 0, none⟩) n c, .int .i64 (k0 : Int)] w fun e w' => e = .returned (.int .i64 ((k0 + cntF M (3 * n) : Nat) : Int)) ∧ PartG w' B lo hi (3 * n) T (markedF k0 M (3 * n)) ∧ Keeps lo hi w w' ∧ w'.heap[B]? = w.heap[B]? := by
  have HP := hide h
  clear h
  go_enter Try.func39, Try.ntmps39
  go_wp2_with fail
  go_loopw [1, 5] (fun t i wr => ∃ k t' : Nat, k ≤ n ∧ i = .int .i64 k ∧ t = .int .i64 (t' : Int) ∧ Hid (t' = k0 + cntF M (3 * k)) ∧ Hid (PartG wr B lo hi (3 * n) T (markedF k0 M (3 * k))) ∧ Hid (Keeps lo hi w wr ∧ wr.heap[B]? = w.heap[B]?)) (fun _ i _ => n - (intOf i).toNat)
  case atStart => exact ⟨0, k0, Nat.zero_le _, rfl, rfl, rfl, by have := HP.out; exact (show markedF k0 M (3 * 0) = M from by funext j; unfold markedF; rw [if_neg (by omega)]) ▸ this, Keeps.refl _ _ _, rfl⟩
  case round =>
    obtain ⟨k, t0, hk, rfl, rfl, ht0, hp, hkp⟩ := hrel
    clear HP
    by_cases hlt : k < n
    rotate_left
    · have hk' : k = n := by omega
      subst hk'
      have HT := hide ht0.out.symm
      go_wp2_with fail
      go_ret
      exact ⟨by rw [HT.out]; rfl, hp.out, hkp.out⟩
    have HQ := hide (And.intro (cntF_mono (M := M) (show 3 * k + 1 + 1 + 1 ≤ 3 * n by omega)) (And.intro (show cntF M (3 * k + 1) = cntF M (3 * k) + (M (3 * k)).length from rfl) (And.intro (show cntF M (3 * k + 1 + 1) = cntF M (3 * k + 1) + (M (3 * k + 1)).length from rfl) (show cntF M (3 * k + 1 + 1 + 1) = cntF M (3 * k + 1 + 1) + (M (3 * k + 1 + 1)).length from rfl))))
    obtain ⟨a0, l0, cp0, hl0, hc0, HM0⟩ := hp.out.one (show 3 * k < 3 * n by omega) t0 (by rw [markedF_at]; have := HQ.out; omega) (by have := HQ.out; have := ht0.out; omega) (k * 3) (by omega)
    rw [markedF_at] at hl0
    go_wp2_with fail
    refine HM0.out.mono ?_
    rintro e w1 ⟨rfl, p1, kp1, hB1⟩
    rw [ht0.out, ← hl0.out, markedF_step] at p1
    have HK1 := hide (And.intro (hkp.out.1.trans kp1) (hB1.trans hkp.out.2))
    obtain ⟨t1, ht1⟩ : ∃ t, Hid (t0 + l0 = t) := ⟨_, rfl⟩
    rw [ht1.out]
    have HT1 : Hid (t1 = k0 + cntF M (3 * k + 1)) := by show _ = _; have := HQ.out; have := hl0.out; have := ht0.out; have := ht1.out; omega
    obtain ⟨a1, l1, cp1, hl1, hc1, HM1⟩ := p1.one (show 3 * k + 1 < 3 * n by omega) t1 (by rw [markedF_at]; have := HQ.out; omega) (by have := HQ.out; have := HT1.out; omega) (k * 3 + 1) (by omega)
    rw [markedF_at] at hl1
    clear HM0 hc0 p1 kp1 hp hkp hB1
    go_wp2_with fail
    refine HM1.out.mono ?_
    rintro e w2 ⟨rfl, p2, kp2, hB2⟩
    rw [HT1.out, ← hl1.out, markedF_step] at p2
    have HK2 := hide (And.intro (HK1.out.1.trans kp2) (hB2.trans HK1.out.2))
    obtain ⟨t2, ht2⟩ : ∃ t, Hid (t1 + l1 = t) := ⟨_, rfl⟩
    rw [ht2.out]
    have HT2 : Hid (t2 = k0 + cntF M (3 * k + 1 + 1)) := by show _ = _; have := HQ.out; have := hl1.out; have := HT1.out; have := ht2.out; omega
    obtain ⟨a2, l2, cp2, hl2, hc2, HM2⟩ := p2.one (show 3 * k + 1 + 1 < 3 * n by omega) t2 (by rw [markedF_at]; have := HQ.out; omega) (by have := HQ.out; have := HT2.out; omega) (k * 3 + 2) (by omega)
    rw [markedF_at] at hl2
    clear HM1 hc1 p2 kp2 HK1 hB2
    go_wp2_with fail
    refine HM2.out.mono ?_
    rintro e w3 ⟨rfl, p3, kp3, hB3⟩
    rw [HT2.out, ← hl2.out, markedF_step] at p3
    have HK3 := hide (And.intro (HK2.out.1.trans kp3) (hB3.trans HK2.out.2))
    have e3 : 3 * (k + 1) = 3 * k + 1 + 1 + 1 := by omega
    have HP3 : Hid (PartG w3 B lo hi (3 * n) T (markedF k0 M (3 * (k + 1)))) := by
      show PartG w3 B lo hi (3 * n) T (markedF k0 M (3 * (k + 1)))
      rw [e3]; exact p3
    obtain ⟨t3, ht3⟩ : ∃ t, Hid (t2 + l2 = t) := ⟨_, rfl⟩
    rw [ht3.out]
    have HT3 : Hid (t3 = k0 + cntF M (3 * (k + 1))) := by
      show _ = _
      rw [e3]
      have := HQ.out; have := hl2.out; have := HT2.out; have := ht3.out; omega
    clear HM2 hc2 p3 kp3 HK2 e3 hB3
    go_wp2_with fail
    go_roundw
    case rel => exact ⟨k + 1, t3, by omega, by go_num, rfl, HT3, HP3, HK3⟩
    case measure => simp [intOf]; omega

/-- A net's slice: nil where there is no transition, or a block that leads to the lists. -/
def NetG (w : World) (a : Option Addr) (B lo hi n : Nat) (M : Nat → List Int) : Prop := n = 0 ∨ (a = some ⟨B, 0, none⟩ ∧ PartG w B lo hi (3 * n) 50 M)

set_option maxHeartbeats 400000 in
theorem markTrisN_any (a : Option Addr) (B lo hi n c k0 : Nat) (M : Nat → List Int) (w : World) (h : NetG w a B lo hi n M) (hs : cntF M (3 * n) ≤ 1048576) (hn : n ≤ 1048576) (hk0 : k0 ≤ 2097152) :
    Calls Try.prog 39 #[.slice a n c, .int .i64 (k0 : Int)] w fun e w' => e = .returned (.int .i64 ((k0 + cntF M (3 * n) : Nat) : Int)) ∧ NetG w' a B lo hi n (markedF k0 M (3 * n)) ∧ Keeps lo hi w w' ∧ w'.heap[B]? = w.heap[B]? := by
  rcases h with h0 | ⟨rfl, hp⟩
  · subst h0
    go_enter Try.func39, Try.ntmps39
    go_wp2_with fail
    go_loop [1, 5] (fun t i => i = .int .i64 0 ∧ t = .int .i64 (k0 : Int)) (fun _ _ => 0)
    case atStart => exact ⟨rfl, rfl⟩
    case round =>
      obtain ⟨rfl, rfl⟩ := hrel
      go_wp2_with fail
      go_ret
      exact ⟨rfl, .inl rfl, Keeps.refl _ _ _, rfl⟩
  · refine (markTrisG_any B lo hi n c k0 _ M w hp hs hn hk0).mono fun e w' ⟨q1, q2, q3, q4⟩ => ⟨q1, .inr ⟨rfl, q2⟩, q3, q4⟩

set_option maxHeartbeats 400000 in
theorem markNetG_any (p : Int) (a : Option Addr) (B lo hi n c k0 : Nat) (M : Nat → List Int) (w : World) (h : NetG w a B lo hi n M) (hlo : lo ≤ w.heap.size) (hs : cntF M (3 * n) ≤ 1048576) (hn : n ≤ 1048576) (hk0 : k0 ≤ 2097152) :
    Calls Try.prog 14 #[.agg #[.int .i64 p, .slice a n c], .int .i64 (k0 : Int)] w fun e w' => e = .returned (.int .i64 ((k0 + cntF M (3 * n) : Nat) : Int)) ∧ NetG w' a B lo hi n (markedF k0 M (3 * n)) ∧ Keeps lo hi w w' := by
  have hA := below_al w (.cells #[.int .i64 p, .slice a n c] 28)
  have hg : NetG (w.alloc (.cells #[.int .i64 p, .slice a n c] 28)) a B lo hi n M := by
    rcases h with h0 | ⟨e, hp⟩
    · exact .inl h0
    · exact .inr ⟨e, hp.grow hA⟩
  have HT := hide (markTrisN_any a B lo hi n c k0 M _ hg hs hn hk0)
  have HK := hide (Keeps.of_below (lo := lo) (hi := hi) hA hlo)
  obtain ⟨t0, ht0⟩ : ∃ t, Hid (k0 + cntF M (3 * n) = t) := ⟨_, rfl⟩
  rw [ht0.out] at HT ⊢
  clear h hg hA
  go_enter Try.func14, Try.ntmps14
  go_wp2_with fail
  refine HT.out.mono ?_
  rintro e w3 ⟨rfl, p3, kp3, _⟩
  have HP3 := hide p3
  have HK3 := hide (HK.out.trans kp3)
  clear p3 kp3 HT HK
  go_wp2_with fail
  go_ret
  exact ⟨rfl, HP3.out, HK3.out⟩

theorem NetG.lists {w : World} {a : Option Addr} {B lo hi n : Nat} {L : List (List Int)} (h : NetG w a B lo hi n (fun j => L.getD j [])) (hl : L.length = 3 * n) (hs : sizeN n L ≤ 1048576) : Lists w a (3 * n) L := by
  rcases h with h0 | ⟨rfl, C, A, f, cap, h1, h2, h3, h4⟩
  · exact ⟨hl, .inl (by omega)⟩
  · refine ⟨hl, .inr ⟨B, 0, rfl, (Array.getElem?_eq_some_iff.mp h1).1, fun j hj => ?_⟩⟩
    obtain ⟨e1, e2, e3⟩ := h3 j hj
    refine ⟨_, _, _, by rw [cell_of_row w B (0 + j) C _ _ h1, Nat.zero_add]; exact e1, ?_, e2.row⟩
    have := len_le L j
    show (L.getD j []).length ≤ maxLen
    unfold sizeN at hs; unfold maxLen; omega

/-- Lists by their number, to be read. -/
def ListsF (w : World) (a : Option Addr) (n : Nat) (M : Nat → List Int) : Prop :=
  n = 0 ∨ ∃ b off, a = some ⟨b, off, none⟩ ∧ ∀ j, j < n → ∃ a' c', w.cell? ⟨b, off + j, none⟩ = some (.slice a' (M j).length c') ∧ Row w a' (M j).length (M j)

theorem NetG.listsF {w : World} {a : Option Addr} {B lo hi n : Nat} {M : Nat → List Int} (h : NetG w a B lo hi n M) : ListsF w a (3 * n) M := by
  rcases h with h0 | ⟨rfl, C, A, f, cap, h1, h2, h3, h4⟩
  · exact .inl (by omega)
  · refine .inr ⟨B, 0, rfl, fun j hj => ?_⟩
    obtain ⟨e1, e2, e3⟩ := h3 j hj
    exact ⟨_, _, by rw [cell_of_row w B (0 + j) C _ _ h1, Nat.zero_add]; exact e1, e2.row⟩

theorem ListsF.seq3 {w : World} {a : Option Addr} {n k0 : Nat} {M : Nat → List Int} (h : ListsF w a (3 * n) (markedF k0 M (3 * n))) {k : Nat} (hk : k < n) :
    ∃ b off a0 c0 a1 c1 a2 c2 l0 l1 l2, a = some ⟨b, off, none⟩ ∧ w.cell? ⟨b, off + k * 3, none⟩ = some (.slice a0 l0 c0) ∧ w.cell? ⟨b, off + k * 3 + 1, none⟩ = some (.slice a1 l1 c1) ∧ w.cell? ⟨b, off + k * 3 + 2, none⟩ = some (.slice a2 l2 c2) ∧
      Hid ((M (3 * k)).length = l0 ∧ (M (3 * k + 1)).length = l1 ∧ (M (3 * k + 1 + 1)).length = l2) ∧ Hid (Row w a0 l0 (seqL (k0 + cntF M (3 * k)) l0)) ∧ Hid (Row w a1 l1 (seqL (k0 + cntF M (3 * k + 1)) l1)) ∧ Hid (Row w a2 l2 (seqL (k0 + cntF M (3 * k + 1 + 1)) l2)) := by
  rcases h with h0 | ⟨b, off, e, h⟩
  · omega
  · have key : ∀ j, j < 3 * n → ∃ a' c', w.cell? ⟨b, off + j, none⟩ = some (.slice a' (M j).length c') ∧ Row w a' (M j).length (seqL (k0 + cntF M j) (M j).length) := by
      intro j hj
      obtain ⟨a', c', h1, h2⟩ := h j hj
      have hm : markedF k0 M (3 * n) j = seqL (k0 + cntF M j) (M j).length := by unfold markedF; rw [if_pos hj]
      rw [hm, seqL_len] at h1 h2
      exact ⟨a', c', h1, h2⟩
    obtain ⟨a0, c0, x0, y0⟩ := key (3 * k) (by omega)
    obtain ⟨a1, c1, x1, y1⟩ := key (3 * k + 1) (by omega)
    obtain ⟨a2, c2, x2, y2⟩ := key (3 * k + 1 + 1) (by omega)
    refine ⟨b, off, a0, c0, a1, c1, a2, c2, _, _, _, e, ?_, ?_, ?_, ⟨rfl, rfl, rfl⟩, y0, y1, y2⟩
    · rw [Nat.mul_comm k 3]; exact x0
    · rw [Nat.mul_comm k 3]; exact x1
    · rw [Nat.mul_comm k 3]; exact x2

set_option maxHeartbeats 1000000 in
theorem heldTris_any (a : Option Addr) (n c k0 : Nat) (M : Nat → List Int) (w : World) (h : ListsF w a (3 * n) (markedF k0 M (3 * n))) (hs : cntF M (3 * n) ≤ 1048576) (hn : n ≤ 1048576) (hk0 : k0 ≤ 2097152) :
    Calls Try.prog 40 #[.slice a n c, .int .i64 (k0 : Int)] w fun e w' => e = .returned (.int .i64 ((k0 + cntF M (3 * n) : Nat) : Int)) ∧ w' = w := by
  have HL := hide h
  clear h
  go_enter Try.func40, Try.ntmps40
  go_wp2_with fail
  go_loop [1, 5] (fun t i => ∃ k t' : Nat, k ≤ n ∧ i = .int .i64 k ∧ t = .int .i64 (t' : Int) ∧ Hid (t' = k0 + cntF M (3 * k))) (fun _ i => n - (intOf i).toNat)
  case atStart => exact ⟨0, k0, Nat.zero_le _, rfl, rfl, rfl⟩
  case round =>
    obtain ⟨k, t0, hk, rfl, rfl, ht0⟩ := hrel
    by_cases hlt : k < n
    rotate_left
    · have hk' : k = n := by omega
      subst hk'
      have HT := hide ht0.out.symm
      go_wp2_with fail
      go_ret
      exact ⟨ret_int (by have := HT.out; omega), rfl⟩
    have HQ := hide (And.intro (cntF_mono (M := M) (show 3 * k + 1 + 1 + 1 ≤ 3 * n by omega)) (And.intro (show cntF M (3 * k + 1) = cntF M (3 * k) + (M (3 * k)).length from rfl) (And.intro (show cntF M (3 * k + 1 + 1) = cntF M (3 * k + 1) + (M (3 * k + 1)).length from rfl) (show cntF M (3 * k + 1 + 1 + 1) = cntF M (3 * k + 1 + 1) + (M (3 * k + 1 + 1)).length from rfl))))
    obtain ⟨b, off, a0, c0, a1, c1, a2, c2, l0, l1, l2, rfl, hc0, hc1, hc2, hl, r0, r1, r2⟩ := HL.out.seq3 hlt
    have HM0 := hide (held_any a0 l0 c0 t0 w (by have := ht0.out; rw [this]; exact r0.out) (by have := HQ.out; have := hl.out; omega) (by have := HQ.out; have := ht0.out; omega))
    obtain ⟨t1, ht1⟩ : ∃ t, Hid (t0 + l0 = t) := ⟨_, rfl⟩
    have HT1 : Hid (t1 = k0 + cntF M (3 * k + 1)) := by show _ = _; have := HQ.out; have := hl.out; have := ht0.out; have := ht1.out; omega
    have HM1 := hide (held_any a1 l1 c1 t1 w (by have := HT1.out; rw [this]; exact r1.out) (by have := HQ.out; have := hl.out; omega) (by have := HQ.out; have := HT1.out; omega))
    obtain ⟨t2, ht2⟩ : ∃ t, Hid (t1 + l1 = t) := ⟨_, rfl⟩
    have HT2 : Hid (t2 = k0 + cntF M (3 * k + 1 + 1)) := by show _ = _; have := HQ.out; have := hl.out; have := HT1.out; have := ht2.out; omega
    have HM2 := hide (held_any a2 l2 c2 t2 w (by have := HT2.out; rw [this]; exact r2.out) (by have := HQ.out; have := hl.out; omega) (by have := HQ.out; have := HT2.out; omega))
    obtain ⟨t3, ht3⟩ : ∃ t, Hid (t2 + l2 = t) := ⟨_, rfl⟩
    have HT3 : Hid (t3 = k0 + cntF M (3 * (k + 1))) := by
      show _ = _
      rw [show 3 * (k + 1) = 3 * k + 1 + 1 + 1 by omega]
      have := HQ.out; have := hl.out; have := HT2.out; have := ht3.out; omega
    rw [ht1.out] at HM0
    rw [ht2.out] at HM1
    rw [ht3.out] at HM2
    have hp1 : (0 : Int) ≤ (t1 : Int) := by omega
    have hp2 : (0 : Int) ≤ (t2 : Int) := by omega
    have hp3 : (0 : Int) ≤ (t3 : Int) := by omega
    clear hl r0 r1 r2 HQ
    go_wp2_with fail
    refine HM0.out.mono ?_
    rintro e w' ⟨rfl, rfl⟩
    go_wp2_with fail
    refine HM1.out.mono ?_
    rintro e w' ⟨rfl, rfl⟩
    go_wp2_with fail
    refine HM2.out.mono ?_
    rintro e w' ⟨rfl, rfl⟩
    go_wp2_with fail
    go_round
    case rel => exact ⟨k + 1, t3, by omega, by go_num, rfl, HT3⟩
    case measure => simp [intOf]; omega

set_option maxHeartbeats 400000 in
theorem heldNet_any (p : Int) (a : Option Addr) (B lo hi n c k0 : Nat) (M : Nat → List Int) (w : World) (h : NetG w a B lo hi n (markedF k0 M (3 * n))) (hs : cntF M (3 * n) ≤ 1048576) (hn : n ≤ 1048576) (hk0 : k0 ≤ 2097152) :
    Calls Try.prog 15 #[.agg #[.int .i64 p, .slice a n c], .int .i64 (k0 : Int)] w fun e w' => e = .returned (.int .i64 ((k0 + cntF M (3 * n) : Nat) : Int)) ∧ Below w.heap.size w w' := by
  have hA := below_al w (.cells #[.int .i64 p, .slice a n c] 28)
  have hg : NetG (w.alloc (.cells #[.int .i64 p, .slice a n c] 28)) a B lo hi n (markedF k0 M (3 * n)) := by
    rcases h with h0 | ⟨e, hp⟩
    · exact .inl h0
    · exact .inr ⟨e, hp.grow hA⟩
  have HT := hide (heldTris_any a n c k0 M _ hg.listsF hs hn hk0)
  obtain ⟨t0, ht0⟩ : ∃ t, Hid (k0 + cntF M (3 * n) = t) := ⟨_, rfl⟩
  rw [ht0.out] at HT ⊢
  have hp0 : (0 : Int) ≤ (t0 : Int) := by omega
  clear h hg hA
  go_enter Try.func15, Try.ntmps15
  go_wp2_with fail
  refine HT.out.mono ?_
  rintro e w3 ⟨rfl, rfl⟩
  go_wp2_with fail
  go_ret
  exact ⟨rfl, below_al _ _⟩
end Go.Proofs.Ytakenobplljkbaa
