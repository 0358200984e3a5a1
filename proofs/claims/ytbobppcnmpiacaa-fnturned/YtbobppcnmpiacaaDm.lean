/- l1Most and the cursor's markOf: a list in new memory, of as many numbers as the net has places, whatever the bytes; nothing that was there is written but the cursor. -/
import Derived.Test.YtbobppcnmpiacaaDrw
import Derived.Test.YtbobppcnmpiacaaDt
namespace Go.Proofs.Ytbobppcnmpiacaa
open Go.RowKit
set_option maxRecDepth 10000

def mostI (a b : Int) : Int := if b < a then a else b

theorem most_any (a b : Int) (w : World) : Calls Try.prog 39 #[.int .i64 a, .int .i64 b] w fun e w' => e = .returned (.int .i64 (mostI a b)) ∧ w' = w := by
  unfold mostI
  by_cases h : b < a
  · rw [if_pos h]
    go_enter Try.func39, Try.ntmps39
    go_wp2_with fail
    go_ret
    exact ⟨rfl, rfl⟩
  · rw [if_neg h]
    go_enter Try.func39, Try.ntmps39
    go_wp2_with fail
    go_ret
    exact ⟨rfl, rfl⟩

theorem MarkSt.form {w v : World} {bc : Nat} {ca : Option Addr} {cn cc p : Nat} {bs : List Int} {o : Value} {k : Nat} (h : MarkSt w v bc ca cn cc p bs o k) (hk : 0 < k) : ∃ g cap, o = .slice (some ⟨g, 0, none⟩) k cap ∧ w.heap.size ≤ g ∧ g < v.heap.size ∧ (∃ z, v.cell? ⟨g, 0, none⟩ = some z) ∧ v.frozen? ⟨g, 0, none⟩ = false := by
  obtain ⟨xs, hx⟩ := h.own
  rcases hx.2 with ⟨_, h0⟩ | ⟨g, cap, cur, e, hg, hh, _, _, hsz, _⟩
  · omega
  · refine ⟨g, cap, e, hg, (Array.getElem?_eq_some_iff.mp hh).1, ⟨cur[0]'(by omega), ?_⟩, frozen_of_row v g 0 _ _ hh⟩
    rw [cell_of_row v g 0 _ _ _ hh]
    exact Array.getElem?_eq_getElem (by omega)

theorem MarkSt.set0 {w v : World} {bc : Nat} {ca : Option Addr} {cn cc p : Nat} {bs : List Int} {g cap k : Nat} (h : MarkSt w v bc ca cn cc p bs (.slice (some ⟨g, 0, none⟩) k cap) k) (hg : w.heap.size ≤ g) (x : Int) (hb : bc < w.heap.size) (hfar : 0 < cn → ∀ y, ca = some y → y.block < w.heap.size) :
    MarkSt w (v.setCell ⟨g, 0, none⟩ (.int .i64 x)) bc ca cn cc p bs (.slice (some ⟨g, 0, none⟩) k cap) k := by
  have hset : ∀ q, q ≠ g → (v.setCell ⟨g, 0, none⟩ (.int .i64 x)).heap[q]? = v.heap[q]? := fun q hq => Below.heap_setCell _ _ _ _ hq
  have hbl : Below w.heap.size v (v.setCell ⟨g, 0, none⟩ (.int .i64 x)) := Below.setCell (p := ⟨g, 0, none⟩) (Below.refl _ _) (show _ ≤ g by omega) _
  obtain ⟨xs, hx⟩ := h.own
  refine ⟨⟨xs.set 0 x, ?_⟩, h.cur.below hbl hb, ?_, h.kept.trans (Kept.of_below hbl)⟩
  · refine ⟨by simpa using hx.1, ?_⟩
    rcases hx.2 with ⟨e, _⟩ | ⟨g', cp', cur, e, hg, hh, r1, r2, r3, r4⟩
    · simp at e
    · obtain ⟨rfl, rfl⟩ : g = g' ∧ cap = cp' := by simpa using e
      refine .inr ⟨g, cap, _, rfl, hg, heap_setCell_same v g 0 cur _ _ hh, r1, r2, by simpa using r3, ?_⟩
      rw [List.map_set, ← r4]
      simp [List.take_set]
  · refine ⟨h.bytes.1, h.bytes.2.1, ?_⟩
    rcases h.bytes.2.2 with h0 | ⟨b, off, e, hl, hc⟩
    · exact .inl h0
    · exact .inr ⟨b, off, e, Nat.lt_of_lt_of_le hl hbl.size, fun i hi => (World.cell?_of_block (hbl.block b (hfar (by omega) _ e))).trans (hc i hi)⟩

/-- How markOf ends. -/
def MarkEndN (bc : Nat) (ca : Option Addr) (cn cc p : Nat) (bs : List Int) (w : World) (e : Ending) (w' : World) : Prop :=
  ∃ a n c xs p', e = .returned (.slice a n c) ∧ n ≤ 18 ∧ p' ≤ p + 60 ∧ Row w' a n xs ∧ (0 < n → ∀ x, a = some x → w.heap.size ≤ x.block) ∧ Cur w' bc ca cn cc p' ∧ RowB w' ca cn bs ∧ Kept bc w.heap.size w w'

theorem MarkSt.doneN {w v : World} {bc : Nat} {ca : Option Addr} {cn cc p q : Nat} {bs : List Int} {o : Value} {k : Nat} (h : MarkSt w v bc ca cn cc q bs o k) (hk : k ≤ 18) (hq : q ≤ p + 60) : MarkEndN bc ca cn cc p bs w (.returned o) v := by
  obtain ⟨xs, hx⟩ := h.own
  have hlt := hx.lt
  obtain ⟨a, c, rfl, hr⟩ := ownsRow_row' hx
  refine ⟨a, k, c, xs, q, rfl, hk, hq, hr, fun _ x hx => ?_, h.cur, h.bytes, h.kept⟩
  subst hx
  exact (hlt x.block rfl).1

set_option maxHeartbeats 1000000 in
theorem markOf_draw (pl : Int) (ua : Option Addr) (un uc : Nat) (bc : Nat) (ca : Option Addr) (cn cc p : Nat) (bs : List Int) (w : World) (h : Cur w bc ca cn cc p) (hr : RowB w ca cn bs) (hap : Apart ca cn bc) (hp : p ≤ 900000) (hn : cn ≤ 1048576) (hpl : 0 ≤ pl ∧ pl ≤ 17) :
    Calls Try.prog 35 #[.pointer (some ⟨bc, 0, none⟩), .agg #[.int .i64 pl, .slice ua un uc]] w fun e w' => MarkEndN bc ca cn cc p bs w e w' := by
  obtain ⟨m, rfl⟩ : ∃ m : Nat, pl = (m : Int) := ⟨pl.toNat, by omega⟩
  have hm : m ≤ 17 := by omega
  have hA := below_al w (.cells #[.int .i64 (m : Int), .slice ua un uc] 26)
  have hbc0 := h.lt
  have hbc : bc < (w.alloc (.cells #[.int .i64 (m : Int), .slice ua un uc] 26)).heap.size := by simp; omega
  have ST := hide (MarkSt.mk (w := w.alloc (.cells #[.int .i64 (m : Int), .slice ua un uc] 26)) (o := .slice none 0 0) ⟨[], World.ownsRow_nil _ _ _ _⟩ (h.below hA hbc0) (hr.kept (Kept.of_below hA) hap) (Kept.refl bc _ _))
  have HF := hide (hr.kept (Kept.of_below hA) hap).far
  have HBX := hide (heap_alloc_new w (.cells #[.int .i64 (m : Int), .slice ua un uc] 26))
  have HEND : Hid (∀ e v, MarkEndN bc ca cn cc p bs (w.alloc (.cells #[.int .i64 (m : Int), .slice ua un uc] 26)) e v → MarkEndN bc ca cn cc p bs w e v) := by
    rintro e v ⟨a, n, c, xs, p', h1, h2, h3, h4, h5, h6, h7, h8⟩
    exact ⟨a, n, c, xs, p', h1, h2, h3, h4, fun h0 x hx => Nat.le_trans (by simp) (h5 h0 x hx), h6, h7, (Kept.of_below hA).trans (h8.mono (by simp))⟩
  have HAP := hide hap
  have hBb : Hid (w.heap.size ≠ bc ∧ w.heap.size < (w.alloc (.cells #[.int .i64 (m : Int), .slice ua un uc] 26)).heap.size) := ⟨by omega, by simp⟩
  clear h hr hA hpl hap
  obtain ⟨i0, hi, hz0, hz1, hz2⟩ := info_split Try.info3
  go_enter Try.func35, Try.ntmps35
  go_wp2_with fail
  generalize w.alloc (.cells #[.int .i64 (m : Int), .slice ua un uc] 26) = w1 at ST HF HBX HEND hbc hBb ⊢
  generalize w.heap.size = Bx at HBX hBb ⊢
  go_loopw [5, 6] (fun o i wr => ∃ k q : Nat, k ≤ m ∧ i = .int .i64 k ∧ q ≤ p + 3 * k ∧ Hid (MarkSt w1 wr bc ca cn cc q bs o k)) (fun _ i _ => m - (intOf i).toNat)
  case atStart => exact ⟨0, p, Nat.zero_le _, rfl, by omega, ST⟩
  case round =>
    obtain ⟨k, q, hk, rfl, hq, S0⟩ := hrel
    clear ST
    have hBx := (S0.out.kept.block Bx hBb.out.2 hBb.out.1).trans HBX.out
    have hB0 : wr.cell? ⟨Bx, 0, none⟩ = some (.int .i64 (m : Int)) := cell_of_row wr Bx 0 _ _ _ hBx
    clear hBx
    by_cases hlt : k < m
    · have hi1 : (k : Int) < (m : Int) := by omega
      go_wp2_with fail
      refine (pick_any 4 bc ca cn cc q bs _ S0.out.cur S0.out.bytes (by omega) hn (by omega) (by omega)).mono ?_
      rintro e v1 ⟨r, rfl, hr, hcur, ho⟩
      have S1 := hide (S0.out.only ho hcur HAP.out hbc)
      clear hcur ho S0 hB0
      go_wp2_with fail
      refine (most_any _ _ _).mono ?_
      rintro e v2 ⟨rfl, rfl⟩
      generalize mostI 0 ((r : Int) - 1) = x
      obtain ⟨xs, hown⟩ := S1.out.own
      have hsz := S1.out.kept.size
      have S3 := hide (fun v' W' (h1 : W'.ownsRow w1.heap.size 3 1 v' (k + 1) (xs.map (Value.int .i64) ++ [.int .i64 x])) (h2 : (v2.alloc (.cells #[.int .i64 x] 3)).grownBy W' u5.ownBlock) => (S1.out.alloc (.cells #[.int .i64 x] 3) HAP.out).append (hown.alloc _) h1 h2 hbc HF.out)
      have HO := hide (hown.alloc (.cells #[.int .i64 x] 3))
      clear hown S1
      go_wp2_with (at_builtin; refine wpList_append_own _ rfl (.tmp 13) (.tmp 18) 27 rfl w1.heap.size 3 i0 (.int .i64 0) 1 8 Try.underlying27 hi hz0 hz1 hz2 rfl (by decide) u5 k _ rfl HO.out ⟨v2.heap.size, 0, none⟩ 1 1 [.int .i64 x] rfl rfl (cell_one_new _ _ _) (by intro u hu; simp at hu; subst hu; rfl) (by unfold maxLen; omega) (by omega) (by simp; omega) ?_; intro v' W' r1 r2 _; have R := hide (S3.out v' W' r1 r2); clear r1 r2)
      go_roundw
      case rel => exact ⟨k + 1, q + 1, by omega, by go_num, by omega, R⟩
      case measure => simp [intOf]; omega
    · have hk' : k = m := by omega
      subst hk'
      go_wp2_with fail
      refine (one_any 30 bc ca cn cc q bs _ S0.out.cur S0.out.bytes (by omega) hn (by omega) (by omega)).mono ?_
      rintro e v2 ⟨b, rfl, hcur, ho⟩
      have S2 := hide (S0.out.only ho hcur HAP.out hbc)
      clear hcur ho S0 hB0
      by_cases hk0 : 0 < k
      rotate_left
      · have hkz : k = 0 := by omega
        subst hkz
        obtain ⟨xs, hown⟩ := S2.out.own
        have hu5 : Hid (u5 = .slice none 0 0 ∨ ∃ g c, u5 = .slice (some ⟨g, 0, none⟩) 0 c) := by
          rcases hown.2 with ⟨e, _⟩ | ⟨g, cap, cur, e, _⟩
          · exact .inl e
          · exact .inr ⟨g, cap, e⟩
        clear hown
        rcases hu5.out with rfl | ⟨g, c, rfl⟩
        all_goals cases b
        all_goals go_wp2_with fail
        all_goals go_ret
        all_goals exact HEND.out _ _ (S2.out.doneN (by omega) (by omega))
      · have hk1 : (0 : Int) < (k : Int) := by omega
        obtain ⟨g, cap, rfl, hg, hgl, ⟨z, hz⟩, hf⟩ := S2.out.form hk0
        cases b
        · go_wp2_with fail
          go_ret
          exact HEND.out _ _ (S2.out.doneN (by omega) (by omega))
        · go_wp2_with fail
          have S3 := hide (S2.out.alloc (.cells (cellsOf [50, 51, -1]) 3) HAP.out)
          refine (among_any 3 3 (some ⟨v2.heap.size, 0, none⟩) [50, 51, -1] bc ca cn cc (q + 1) bs (v2.alloc (.cells (cellsOf [50, 51, -1]) 3)) S3.out.cur S3.out.bytes (by omega) hn (by omega) (by omega) (row_new v2 _ 3 _ rfl rfl) (by intro _ x hx; obtain rfl := Option.some.inj hx; have := S2.out.cur.lt; simp; omega)).mono ?_
          rintro e v3 ⟨x, rfl, hx, hcur, ho⟩
          have S4 := hide (S3.out.only ho hcur HAP.out hbc)
          clear hz hf
          obtain ⟨g', cap', e', _, _, ⟨z, hz⟩, hf⟩ := S4.out.form hk0
          obtain ⟨rfl, rfl⟩ : g = g' ∧ cap = cap' := by simpa using e'
          have S5 := hide (S4.out.set0 hg x hbc HF.out)
          clear hcur ho S3 S2 hx e'
          go_wp2_with fail
          go_ret
          exact HEND.out _ _ (S5.out.doneN (by omega) (by omega))
end Go.Proofs.Ytbobppcnmpiacaa
