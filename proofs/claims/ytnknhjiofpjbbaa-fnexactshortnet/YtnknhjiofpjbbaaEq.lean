/- What toNet makes, and that eqTrans, eqTransS and eqNet answer true for nets that read the same. -/
import Derived.Test.YtnknhjiofpjbbaaTo
import Derived.Test.YtnknhjiofpjbbaaTok
import Derived.Deep.RegionWith
namespace Go.Proofs.Ytnknhjiofpjbbaa
open Go.RowKit

theorem PartL.lists {w : World} {B n : Nat} {T : TypeId} {L : List (List Int)} (h : PartL w B (3 * n) (3 * n) T L) (hl : L.length = 3 * n) (hs : sizeN n L ≤ 1048576) : Lists w (some ⟨B, 0, none⟩) (3 * n) L := by
  obtain ⟨C, f, h1, h2, h3, h4⟩ := h
  refine ⟨hl, .inr ⟨B, 0, rfl, (Array.getElem?_eq_some_iff.mp h1).1, fun j hj => ?_⟩⟩
  obtain ⟨e1, e2, e3⟩ := h3 j hj
  refine ⟨_, _, _, by rw [cell_of_row w B (0 + j) C T _ h1, Nat.zero_add]; exact e1, ?_, Own.row (B := 0) ⟨rfl, _, rfl, Nat.zero_le _, e3⟩⟩
  have := len_le L j
  unfold sizeN at hs; unfold maxLen; omega

theorem PartL.set_low {w : World} {B n k g : Nat} {T : TypeId} {L : List (List Int)} (h : PartL w B n k T L) (hg : g < B) (o : Nat) (v : Value) : PartL (w.setCell ⟨g, o, none⟩ v) B n k T L := by
  obtain ⟨C, f, h1, h2, h3, h4⟩ := h
  refine ⟨C, f, (Below.heap_setCell _ _ _ _ (show B ≠ g by omega)).trans h1, h2, fun j hj => ?_, h4⟩
  obtain ⟨e1, e2, e3⟩ := h3 j hj
  exact ⟨e1, e2, (Below.heap_setCell _ _ _ _ (show f j ≠ g by omega)).trans e3⟩

set_option maxHeartbeats 400000 in
theorem toNet_any (p : Int) (a : Option Addr) (n c : Nat) (L : List (List Int)) (w : World) (h : Lists w a (3 * n) L) (hs : sizeN n L ≤ 1048576) :
    Calls Try.prog 16 #[.agg #[.int .i64 p, .slice a n c]] w fun e w' => ∃ B, e = .returned (.agg #[.int .i64 p, .slice (some ⟨B, 0, none⟩) n n]) ∧ w.heap.size ≤ B ∧ PartL w' B (3 * n) (3 * n) 56 L ∧ Below w.heap.size w w' := by
  have HL := hide h
  clear h
  go_enter Try.func16, Try.ntmps16
  go_wp2_with fail
  have hb0 := ((below_al w (.cells #[.int .i64 p, .slice a n c] 24)).alloc (by simp) (.cells #[.int .i64 0, .slice none 0 0] 31)).alloc (by simp; omega) (.cells #[.int .i64 p, .slice none 0 0] 31)
  have HB0 := hide hb0
  clear hb0
  refine (toTris_any _ _ _ L _ (HL.out.below HB0.out) hs).mono ?_
  rintro e w' ⟨rfl, hp, hb⟩
  have hsz : (((w.alloc (.cells #[.int .i64 p, .slice a n c] 24)).alloc (.cells #[.int .i64 0, .slice none 0 0] 31)).alloc (.cells #[.int .i64 p, .slice none 0 0] 31)).heap.size = w.heap.size + 1 + 1 + 1 := by simp
  rw [hsz] at hp hb ⊢
  have g2 : w'.heap[w.heap.size + 1 + 1]? = some (.cells #[.int .i64 p, .slice none 0 0] 31 (0, 0)) := by
    rw [hb.block _ (by omega)]
    have := heap_alloc_new ((w.alloc (.cells #[.int .i64 p, .slice a n c] 24)).alloc (.cells #[.int .i64 0, .slice none 0 0] 31)) (.cells #[.int .i64 p, .slice none 0 0] 31)
    simpa using this
  have g1 : w'.heap[w.heap.size + 1]? = some (.cells #[.int .i64 0, .slice none 0 0] 31 (0, 0)) := by
    rw [hb.block _ (by omega), heap_al_old _ _ _ (by simp)]
    have := heap_alloc_new (w.alloc (.cells #[.int .i64 p, .slice a n c] 24)) (.cells #[.int .i64 0, .slice none 0 0] 31)
    simpa using this
  have c20 := cell_of_row w' (w.heap.size + 1 + 1) 0 _ _ _ g2
  have c21 := cell_of_row w' (w.heap.size + 1 + 1) 1 _ _ _ g2
  have c10 := cell_of_row w' (w.heap.size + 1) 0 _ _ _ g1
  have c11 := cell_of_row w' (w.heap.size + 1) 1 _ _ _ g1
  simp at c20 c21 c10 c11
  have f21 := frozen_of_row w' (w.heap.size + 1 + 1) 1 _ _ g2
  have f10 := frozen_of_row w' (w.heap.size + 1) 0 _ _ g1
  have f11 := frozen_of_row w' (w.heap.size + 1) 1 _ _ g1
  have HP := hide hp
  have HB := hide (HB0.out.trans (hb.mono (by omega)))
  clear hb hp g1 g2 hsz HB0
  go_wp2_with fail
  refine bodyPost_ret (v := .agg #[.int .i64 p, .slice (some ⟨w.heap.size + 1 + 1 + 1, 0, none⟩) n n]) (by simp [results, Try.results16, go_sem, c10, c11]) rfl ?_
  exact ⟨_, rfl, by omega, ((HP.out.set_low (by omega) _ _).set_low (by omega) _ _).set_low (by omega) _ _, ((HB.out.setCell (by simp; omega) _).setCell (by simp) _).setCell (by simp) _⟩

set_option maxHeartbeats 400000 in
theorem eqTri_any (a0 a1 a2 d0 d1 d2 : Option Addr) (n0 n1 n2 c0 c1 c2 m0 m1 m2 k0 k1 k2 : Nat) (x0 x1 x2 : List Int) (w : World) (r0 : Row w a0 n0 x0) (r1 : Row w a1 n1 x1) (r2 : Row w a2 n2 x2) (s0 : Row w d0 m0 x0) (s1 : Row w d1 m1 x1) (s2 : Row w d2 m2 x2)
    (h0 : n0 ≤ 1048576) (h1 : n1 ≤ 1048576) (h2 : n2 ≤ 1048576) :
    Calls Try.prog 74 #[.agg #[.slice a0 n0 c0, .slice a1 n1 c1, .slice a2 n2 c2], .agg #[.slice d0 m0 k0, .slice d1 m1 k1, .slice d2 m2 k2]] w fun e w' => e = .returned (.bool true) ∧ Below w.heap.size w w' := by
  have R0 := hide r0
  have R1 := hide r1
  have R2 := hide r2
  have S0 := hide s0
  have S1 := hide s1
  have S2 := hide s2
  have hs0 := sameB_self x0
  have hs1 := sameB_self x1
  have hs2 := sameB_self x2
  clear r0 r1 r2 s0 s1 s2
  go_enter Try.func74, Try.ntmps74
  go_wp2_with fail
  refine (eq_any _ _ _ _ _ _ x0 x0 _ ((R0.out.alloc _).alloc _) ((S0.out.alloc _).alloc _) h0).mono ?_
  rintro e w' ⟨rfl, q, rfl⟩
  go_wp2_with fail
  refine (eq_any _ _ _ _ _ _ x1 x1 _ (((R1.out.alloc _).alloc _).drewN _) (((S1.out.alloc _).alloc _).drewN _) h1).mono ?_
  rintro e w' ⟨rfl, q1, rfl⟩
  go_wp2_with fail
  refine (eq_any _ _ _ _ _ _ x2 x2 _ (((R2.out.alloc _).alloc _).drewN _) (((S2.out.alloc _).alloc _).drewN _) h2).mono ?_
  rintro e w' ⟨rfl, q2, rfl⟩
  go_wp2_with fail
  go_ret
  exact ⟨rfl, (below_two w _ _).trans ((below_drewN' _ _).mono (by simp; omega))⟩

theorem below_drew2 (w : World) (o1 o2 : Obj) (q : Nat) : Below w.heap.size w (((w.alloc o1).alloc o2).drewN q) := (below_two w _ _).trans ((below_drewN' _ _).mono (by simp; omega))

set_option maxHeartbeats 1000000 in
theorem eqTris_any (a d : Option Addr) (n c e : Nat) (L : List (List Int)) (w : World) (h : Lists w a (3 * n) L) (g : Lists w d (3 * n) L) (hs : sizeN n L ≤ 1048576) :
    Calls Try.prog 48 #[.slice a n c, .slice d n e] w fun e w' => e = .returned (.bool true) ∧ Below w.heap.size w w' := by
  have hn : n ≤ 1048576 := by unfold sizeN at hs; omega
  have hne : ((n : Int) != (n : Int)) = false := by simp
  have HL := hide h
  have HG := hide g
  clear h g
  go_enter Try.func48, Try.ntmps48
  go_wp2_with fail
  go_loopw [5] (fun i wr => ∃ k : Nat, k ≤ n ∧ i = .int .i64 k ∧ Hid (Below w.heap.size w wr)) (fun i _ => n - (intOf i).toNat)
  case atStart => exact ⟨0, Nat.zero_le _, rfl, Below.refl _ _⟩
  case round =>
    obtain ⟨k, hk, rfl, hbw⟩ := hrel
    clear hne
    by_cases hlt : k < n
    · obtain ⟨b, off, a0, n0, c0, a1, n1, c1, a2, n2, c2, rfl, hb, hr, m0, m1, m2, r0, r1, r2⟩ := (HL.out.below hbw.out).tri hlt
      obtain ⟨b', off', a0', n0', c0', a1', n1', c1', a2', n2', c2', rfl, hb', hr', m0', m1', m2', r0', r1', r2'⟩ := (HG.out.below hbw.out).tri hlt
      obtain ⟨hc0, hc1, hc2⟩ := rangeAt_cells3 hr
      obtain ⟨hc0', hc1', hc2'⟩ := rangeAt_cells3 hr'
      have hl0 := len_le L (3 * k)
      have hl1 := len_le L (3 * k + 1)
      have hl2 := len_le L (3 * k + 2)
      have hs' : n + sizeL L ≤ 1048576 := hs
      have q0 : n0 ≤ 1048576 := by have := r0.1; omega
      have q1 : n1 ≤ 1048576 := by have := r1.1; omega
      have q2 : n2 ≤ 1048576 := by have := r2.1; omega
      have HT := hide (fun q => eqTri_any a0 a1 a2 a0' a1' a2' n0 n1 n2 c0 c1 c2 n0' n1' n2' c0' c1' c2' _ _ _ (wr.drewN q) (r0.drewN q) (r1.drewN q) (r2.drewN q) (r0'.drewN q) (r1'.drewN q) (r2'.drewN q) q0 q1 q2)
      clear hr r0 r1 r2 hl0 hl1 hl2 q0 q1 q2 hs' hr' r0' r1' r2' m0 m1 m2 m0' m1' m2'
      go_wp2_with fail
      go_region_with (go_at_call 74; refine (HT.out 1).mono ?_; rintro e w1 ⟨rfl, hb1⟩; have HB := hide (hbw.out.trans (((below_drewN' wr 1).trans hb1).mono hbw.out.size)); clear hb1)
      all_goals
        clear HT
        go_wp2_with fail
        go_roundw
        case rel => exact ⟨k + 1, by omega, by go_num, HB⟩
        case measure => simp [intOf]; omega
    · have hk' : k = n := by omega
      subst hk'
      go_wp2_with fail
      go_ret
      exact ⟨rfl, hbw.out⟩

set_option maxHeartbeats 400000 in
theorem eqNet_any (p : Int) (a d : Option Addr) (n c e : Nat) (L : List (List Int)) (w : World) (h : Lists w a (3 * n) L) (g : Lists w d (3 * n) L) (hs : sizeN n L ≤ 1048576) :
    Calls Try.prog 19 #[.agg #[.int .i64 p, .slice a n c], .agg #[.int .i64 p, .slice d n e]] w fun e w' => e = .returned (.bool true) ∧ Below w.heap.size w w' := by
  have hne : (p != p) = false := by simp
  have HL := hide h
  have HG := hide g
  clear h g
  go_enter Try.func19, Try.ntmps19
  go_wp2_with fail
  have HB0 := hide (below_two w (.cells #[.int .i64 p, .slice a n c] 31) (.cells #[.int .i64 p, .slice d n e] 31))
  refine (eqTris_any _ _ _ _ _ L _ (HL.out.below HB0.out) (HG.out.below HB0.out) hs).mono ?_
  rintro e w1 ⟨rfl, hb1⟩
  have HB := hide (HB0.out.trans (hb1.mono HB0.out.size))
  clear hb1 HB0
  go_wp2_with fail
  go_ret
  exact ⟨rfl, HB.out⟩
end Go.Proofs.Ytnknhjiofpjbbaa
