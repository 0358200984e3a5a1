/- What netSteps and the program's GoodNet answer, for every net in memory. -/
import Derived.Test.YtnknhjiofpjbbaaPs
namespace Go.Proofs.Ytnknhjiofpjbbaa
open Go.RowKit

/-- The first k of n cells of the block B are the bits of the first k lists. -/
def PartS (w : World) (B n k : Nat) (L : List (List Int)) : Prop :=
  ∃ C : Array Value, w.heap[B]? = some (.cells C 92 (0, 0)) ∧ C.size = n ∧ ∀ j, j < k → C[j]? = some (.int .u16 (maskL (L.getD j []) : Int))

theorem PartS.grow {w w' : World} {B n k : Nat} {L : List (List Int)} (h : PartS w B n k L) (hb : Below w.heap.size w w') : PartS w' B n k L := by
  obtain ⟨C, h1, h2, h3⟩ := h
  exact ⟨C, (hb.block B (Array.getElem?_eq_some_iff.mp h1).1).trans h1, h2, h3⟩

theorem PartS.set_other {w : World} {B n k g : Nat} {L : List (List Int)} (h : PartS w B n k L) (hg : B ≠ g) (o : Nat) (v : Value) : PartS (w.setCell ⟨g, o, none⟩ v) B n k L := by
  obtain ⟨C, h1, h2, h3⟩ := h
  exact ⟨C, (Below.heap_setCell _ _ _ _ hg).trans h1, h2, h3⟩

theorem PartS.step {w : World} {B n k : Nat} {L : List (List Int)} (h : PartS w B (3 * n) (3 * k) L) (hk : k < n) {s0 s1 s2 : Int}
    (e0 : (maskL (L.getD (3 * k) []) : Int) = s0) (e1 : (maskL (L.getD (3 * k + 1) []) : Int) = s1) (e2 : (maskL (L.getD (3 * k + 2) []) : Int) = s2) :
    PartS (w.setCells B (k * 3) [.int .u16 s0, .int .u16 s1, .int .u16 s2]) B (3 * n) (3 * (k + 1)) L := by
  obtain ⟨C, h1, h2, h3⟩ := h
  refine ⟨_, heap_set3_same h1 _ _ _, by simp [h2], fun j hj => ?_⟩
  by_cases hj3 : j < 3 * k
  · rw [Array.getElem?_setIfInBounds_ne (by omega), Array.getElem?_setIfInBounds_ne (by omega), Array.getElem?_setIfInBounds_ne (by omega)]; exact h3 j hj3
  · obtain rfl | rfl | rfl : j = 3 * k ∨ j = 3 * k + 1 ∨ j = 3 * k + 2 := by omega
    · rw [Array.getElem?_setIfInBounds_ne (by omega), Array.getElem?_setIfInBounds_ne (by omega), Array.getElem?_setIfInBounds, if_pos (by omega), if_pos (by omega), e0]
    · rw [Array.getElem?_setIfInBounds_ne (by omega), Array.getElem?_setIfInBounds, if_pos (by omega), if_pos (by simp; omega), e1]
    · rw [Array.getElem?_setIfInBounds, if_pos (by omega), if_pos (by simp; omega), e2]

theorem Try.info92 : (Try.prog.info? 92).map (fun i => (i.zero, i.size, i.bytes)) = some (some (.agg #[.int .u16 0, .int .u16 0, .int .u16 0]), 3, 6) := by kernel_rfl
theorem Try.size92 : (Try.prog.info? 92).map (·.size) = some 3 := by kernel_rfl

/-- How netSteps ends. -/
def NetEnd (g : Bool) (p : Int) (n : Nat) (L : List (List Int)) (w : World) (e : Ending) (w' : World) : Prop :=
  ∃ p' a m c, e = .returned (.tuple #[.agg #[.int .i64 p', .slice a m c], .bool g]) ∧ Hid (g = true → p' = p ∧ m = n ∧ c = n ∧ ∃ B, a = some ⟨B, 0, none⟩ ∧ w.heap.size ≤ B ∧ PartS w' B (3 * n) (3 * n) L) ∧ Below w.heap.size w w'

/-- What the loop of netSteps keeps in mind. -/
structure NsInv (w wr : World) (p : Int) (a : Option Addr) (n c k : Nat) (L : List (List Int)) : Prop where
  par : wr.heap[w.heap.size]? = some (.cells #[.int .i64 p, .slice a n c] 31 (0, 0))
  res : wr.heap[w.heap.size + 1]? = some (.cells #[.int .i64 0, .slice none 0 0] 60 (0, 0))
  part : PartS wr (w.heap.size + 1 + 1) (3 * n) (3 * k) L
  bel : Below w.heap.size w wr

theorem NsInv.grow {w wr v : World} {p : Int} {a : Option Addr} {n c k : Nat} {L : List (List Int)} (h : NsInv w wr p a n c k L) (hb : Below wr.heap.size wr v) : NsInv w v p a n c k L :=
  ⟨(hb.block _ (Array.getElem?_eq_some_iff.mp h.par).1).trans h.par, (hb.block _ (Array.getElem?_eq_some_iff.mp h.res).1).trans h.res, h.part.grow hb, h.bel.trans (hb.mono h.bel.size)⟩

theorem NsInv.step {w wr : World} {p : Int} {a : Option Addr} {n c k : Nat} {L : List (List Int)} (h : NsInv w wr p a n c k L) (hk : k < n) {s0 s1 s2 : Int}
    (e0 : (maskL (L.getD (3 * k) []) : Int) = s0) (e1 : (maskL (L.getD (3 * k + 1) []) : Int) = s1) (e2 : (maskL (L.getD (3 * k + 2) []) : Int) = s2) :
    NsInv w (wr.setCells (w.heap.size + 1 + 1) (k * 3) [.int .u16 s0, .int .u16 s1, .int .u16 s2]) p a n c (k + 1) L :=
  ⟨(heap_set3_other _ _ _ _ _ _ _ (by omega)).trans h.par, (heap_set3_other _ _ _ _ _ _ _ (by omega)).trans h.res, h.part.step hk e0 e1 e2, below_set3 h.bel (by omega) _ _ _ _⟩

theorem NsInv.size {w wr : World} {p : Int} {a : Option Addr} {n c k : Nat} {L : List (List Int)} (h : NsInv w wr p a n c k L) : w.heap.size + 1 + 1 < wr.heap.size := by
  obtain ⟨C, h1, _⟩ := h.part
  exact (Array.getElem?_eq_some_iff.mp h1).1

theorem netEnd_no {p : Int} {n : Nat} {L : List (List Int)} {w w' : World} (h : netOk p n L = false) (hb : Below w.heap.size w w') : NetEnd (netOk p n L) p n L w (.returned (.tuple #[.agg #[.int .i64 0, .slice none 0 0], .bool false])) w' :=
  ⟨_, _, _, _, by rw [h], by rw [h]; intro e; simp at e, hb⟩

theorem triOk_eq (p : Int) (L : List (List Int)) (i : Nat) : triOk p L i = tri3Ok p (L.getD (3 * i) []) (L.getD (3 * i + 1) []) (L.getD (3 * i + 2) []) := rfl

set_option maxHeartbeats 4000000 in
theorem netSteps_any (p : Int) (a : Option Addr) (n c : Nat) (L : List (List Int)) (w : World) (h : Lists w a (3 * n) L) (hs : sizeN n L ≤ 1048576) :
    Calls Try.prog 68 #[.agg #[.int .i64 p, .slice a n c]] w fun e w' => NetEnd (netOk p n L) p n L w e w' := by
  by_cases hp : inB p 1 16 = true
  · by_cases hn : n ≤ 24
    · have hmk := run_make_many (P := Try.prog) 58 92 _ 3 6 Try.underlying58 Try.info92 .i64 .i64 n (by omega) (by omega)
      simp only [Value.cells] at hmk
      have HL := hide h
      clear h
      go_enter Try.func68, Try.ntmps68
      go_wp2_with (go_at_call 57; refine (goodPlaces_any _ _).mono ?_; rintro e w' ⟨rfl, rfl⟩)
      clear hmk
      go_loopw [27] (fun i wr => ∃ k : Nat, k ≤ n ∧ i = .int .i64 k ∧ Hid ((List.range k).all (triOk p L) = true) ∧ Hid (NsInv w wr p a n c k L)) (fun i _ => n - (intOf i).toNat)
      case atStart =>
        refine ⟨0, Nat.zero_le _, rfl, rfl, ?_, ?_, ⟨madeCells #[.int .u16 0, .int .u16 0, .int .u16 0] (n * 3), ?_, ?_, fun j hj => absurd hj (by omega)⟩, ?_⟩
        · rw [heap_al_old _ _ _ (by simp; omega), heap_al_old _ _ _ (by simp)]; exact heap_alloc_new _ _
        · rw [heap_al_old _ _ _ (by simp)]
          have := heap_alloc_new (w.alloc (.cells #[.int .i64 p, .slice a n c] 31)) (.cells #[.int .i64 0, .slice none 0 0] 60)
          simpa using this
        · have := heap_alloc_new ((w.alloc (.cells #[.int .i64 p, .slice a n c] 31)).alloc (.cells #[.int .i64 0, .slice none 0 0] 60)) (.cells (madeCells #[.int .u16 0, .int .u16 0, .int .u16 0] (n * 3)) 92)
          simpa using this
        · rw [size_madeCells]; omega
        · exact ((below_al w _).alloc (by simp) _).alloc (by simp; omega) _
      case round =>
        obtain ⟨k, hk, rfl, hu, hin⟩ := hrel
        have hsz := hin.out.size
        have hpw : w.heap.size < wr.heap.size := by omega
        have hcp := cell_of_row wr w.heap.size 0 _ _ _ hin.out.par
        simp at hcp
        have r10 := cell_of_row wr (w.heap.size + 1) 0 _ _ _ hin.out.res
        have r11 := cell_of_row wr (w.heap.size + 1) 1 _ _ _ hin.out.res
        simp at r10 r11
        have f10 := frozen_of_row wr (w.heap.size + 1) 0 _ _ hin.out.res
        have f11 := frozen_of_row wr (w.heap.size + 1) 1 _ _ hin.out.res
        by_cases hlt : k < n
        · obtain ⟨b, off, a0, n0, c0, a1, n1, c1, a2, n2, c2, rfl, hb, hr, m0, m1, m2, r0, r1, r2⟩ := (HL.out.below hin.out.bel).tri hlt
          obtain ⟨hc0, hc1, hc2⟩ := rangeAt_cells3 hr
          have hl0 := len_le L (3 * k)
          have hl1 := len_le L (3 * k + 1)
          have hl2 := len_le L (3 * k + 2)
          have hs' : n + sizeL L ≤ 1048576 := hs
          obtain ⟨x0, hx0⟩ : ∃ x, Hid (L.getD (3 * k) [] = x) := ⟨_, rfl⟩
          obtain ⟨x1, hx1⟩ : ∃ x, Hid (L.getD (3 * k + 1) [] = x) := ⟨_, rfl⟩
          obtain ⟨x2, hx2⟩ : ∃ x, Hid (L.getD (3 * k + 2) [] = x) := ⟨_, rfl⟩
          rw [hx0.out] at r0 hl0
          rw [hx1.out] at r1 hl1
          rw [hx2.out] at r2 hl2
          have q0 : n0 ≤ 1048576 := by have := r0.1; omega
          have q1 : n1 ≤ 1048576 := by have := r1.1; omega
          have q2 : n2 ≤ 1048576 := by have := r2.1; omega
          have HT := hide (stepOf_any p a0 a1 a2 n0 n1 n2 c0 c1 c2 x0 x1 x2 _ (r0.alloc (.cells #[.slice a0 n0 c0, .slice a1 n1 c1, .slice a2 n2 c2] 56)) (r1.alloc _) (r2.alloc _) q0 q1 q2 hp)
          clear hr r0 r1 r2 hl0 hl1 hl2 hs' m0 m1 m2 q0 q1 q2
          go_wp2_with fail
          refine HT.out.mono ?_
          rintro e w2 ⟨rfl, hb2⟩
          have HI2 := hide ((hin.out.grow (below_al wr (.cells #[.slice a0 n0 c0, .slice a1 n1 c1, .slice a2 n2 c2] 56))).grow hb2)
          have hTO : Hid (triOk p L k = tri3Ok p x0 x1 x2) := by show _ = _; rw [triOk_eq, hx0.out, hx1.out, hx2.out]
          have h2s := HI2.out.size
          have r10' := cell_of_row w2 (w.heap.size + 1) 0 _ _ _ HI2.out.res
          have r11' := cell_of_row w2 (w.heap.size + 1) 1 _ _ _ HI2.out.res
          simp at r10' r11'
          have f10' := frozen_of_row w2 (w.heap.size + 1) 0 _ _ HI2.out.res
          have f11' := frozen_of_row w2 (w.heap.size + 1) 1 _ _ HI2.out.res
          have hp1' : w.heap.size + 1 < w2.heap.size := by omega
          clear HT hb2 hin r10 r11 f10 f11 hcp hc0 hc1 hc2 hpw hsz
          by_cases g : tri3Ok p x0 x1 x2 = true
          rotate_left
          · have g' : tri3Ok p x0 x1 x2 = false := by simpa using g
            have HN : Hid (netOk p n L = false) := netOk_no hlt (hTO.out.trans g')
            rw [g', show bit3 false x0 = 0 from rfl, show bit3 false x1 = 0 from rfl, show bit3 false x2 = 0 from rfl]
            have HB := hide (HI2.out.bel)
            clear g g' HI2 hx0 hx1 hx2 hTO hu HL
            go_wp2_with fail
            refine bodyPost_ret (v := .tuple #[.agg #[.int .i64 0, .slice none 0 0], .bool false]) (by simp [results, Try.results68, go_sem, r10', r11', hp1']) rfl ?_
            exact netEnd_no HN.out (((HB.out.setCell (by simp) _).setCell (by simp) _).alloc (by have := HB.out.size; simp [World.setCell]; omega) _)
          have HU : Hid ((List.range (k + 1)).all (triOk p L) = true) := all_range_succ hu.out (hTO.out.trans g)
          obtain ⟨s0, hs0⟩ : ∃ s, Hid ((maskL x0 : Int) = s) := ⟨_, rfl⟩
          obtain ⟨s1, hs1⟩ : ∃ s, Hid ((maskL x1 : Int) = s) := ⟨_, rfl⟩
          obtain ⟨s2, hs2⟩ : ∃ s, Hid ((maskL x2 : Int) = s) := ⟨_, rfl⟩
          rw [g, show bit3 true x0 = s0 from hs0.out, show bit3 true x1 = s1 from hs1.out, show bit3 true x2 = s2 from hs2.out]
          have HI3 := hide (HI2.out.grow (below_al w2 (.cells #[.int .u16 s0, .int .u16 s1, .int .u16 s2] 92)))
          have HI4 := hide (HI3.out.step (s0 := s0) (s1 := s1) (s2 := s2) hlt (by rw [hx0.out]; exact hs0.out) (by rw [hx1.out]; exact hs1.out) (by rw [hx2.out]; exact hs2.out))
          have HTH : Hid ((w2.alloc (.cells #[.int .u16 s0, .int .u16 s1, .int .u16 s2] 92)).there (w.heap.size + 1 + 1) (k * 3) 3) := by
            obtain ⟨C, h1, h2, _⟩ := HI3.out.part
            exact there_of_row h1 (by omega)
          clear g hTO hu HI2 HI3 hx0 hx1 hx2 hs0 hs1 hs2 HL
          go_wp2_with (refine wpList_store3 rfl 92 (.tmp 45) (.tmp 44) rfl _ _ _ _ _ rfl rfl HTH.out Try.size92 rfl rfl rfl ?_)
          go_roundw
          case rel => exact ⟨k + 1, by omega, by go_num, HU, HI4⟩
          case measure => simp [intOf]; omega
        · have hk' : k = n := by omega
          subst hk'
          have HN : Hid (netOk p k L = true) := netOk_yes hp hn hu.out
          go_wp2_with fail
          refine bodyPost_ret (v := .tuple #[.agg #[.int .i64 p, .slice (some ⟨w.heap.size + 1 + 1, 0, none⟩) k k], .bool true]) (by simp [results, Try.results68, go_sem, r10, r11]) rfl ?_
          exact ⟨_, _, _, _, by rw [HN.out], fun _ => ⟨rfl, rfl, rfl, _, rfl, by omega, (hin.out.part.set_other (by omega) _ _).set_other (by omega) _ _⟩, (hin.out.bel.setCell (by simp) _).setCell (by simp) _⟩
    · have HN : Hid (netOk p n L = false) := by show netOk p n L = false; unfold netOk; simp [hn]
      have hn' : (24 : Int) < (n : Int) := by omega
      clear h
      go_enter Try.func68, Try.ntmps68
      go_wp2_with (go_at_call 57; refine (goodPlaces_any _ _).mono ?_; rintro e w' ⟨rfl, rfl⟩)
      refine bodyPost_ret (v := .tuple #[.agg #[.int .i64 0, .slice none 0 0], .bool false]) (by simp [results, Try.results68, go_sem]) rfl ?_
      exact netEnd_no HN.out (below_two _ _ _)
  · have hp' : inB p 1 16 = false := by simpa using hp
    have HN : Hid (netOk p n L = false) := by show netOk p n L = false; unfold netOk; simp [hp']
    clear hp h
    go_enter Try.func68, Try.ntmps68
    go_wp2_with (go_at_call 57; refine (goodPlaces_any _ _).mono ?_; rintro e w' ⟨rfl, rfl⟩)
    refine bodyPost_ret (v := .tuple #[.agg #[.int .i64 0, .slice none 0 0], .bool false]) (by simp [results, Try.results68, go_sem]) rfl ?_
    exact netEnd_no HN.out (below_two _ _ _)

set_option maxHeartbeats 400000 in
theorem goodNetI_any (p : Int) (a : Option Addr) (n c : Nat) (L : List (List Int)) (w : World) (h : Lists w a (3 * n) L) (hs : sizeN n L ≤ 1048576) :
    Calls Try.prog 54 #[.agg #[.int .i64 p, .slice a n c]] w fun e w' => e = .returned (.bool (netOk p n L)) ∧ Below w.heap.size w w' := by
  obtain ⟨g, hg⟩ : ∃ g, Hid (netOk p n L = g) := ⟨_, rfl⟩
  have HT := hide (netSteps_any p a n c L (w.alloc (.cells #[.int .i64 p, .slice a n c] 31)) (h.below (below_al _ _)) hs)
  rw [hg.out] at HT ⊢
  clear h
  go_enter Try.func54, Try.ntmps54
  go_wp2_with fail
  refine HT.out.mono ?_
  rintro e w2 ⟨p', a', m, c', rfl, hx, hb⟩
  have HB := hide ((below_al w (.cells #[.int .i64 p, .slice a n c] 31)).trans (hb.mono (by simp)))
  clear hb HT hx
  go_wp2_with fail
  go_ret
  exact ⟨rfl, HB.out.alloc HB.out.size _⟩
end Go.Proofs.Ytnknhjiofpjbbaa
