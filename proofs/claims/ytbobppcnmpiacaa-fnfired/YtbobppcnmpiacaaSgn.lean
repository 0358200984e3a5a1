/- The specification's Fire once more, with where its answer lies. -/
import Derived.Test.YtbobppcnmpiacaaSg
namespace Go.Proofs.Ytbobppcnmpiacaa
open Go.RowKit
set_option maxRecDepth 10000

/-- A list in new memory and a bool; nothing that was there is written. -/
def RNew (g : Bool) (r : List Int) (w : World) (e : Ending) (w' : World) : Prop := ∃ a n c, e = .returned (.tuple #[.slice a n c, .bool g]) ∧ Row w' a n r ∧ (0 < n → ∀ x, a = some x → w.heap.size ≤ x.block) ∧ Below w.heap.size w w'

theorem rnew_no {p : Int} {n : Nat} {L : List (List Int)} {ys : List Int} {t : Int} {w w' : World} (h : fireOk p n L ys t = false) (hb : Below w.heap.size w w') : RNew (fireOk p n L ys t) (fireR p n L ys t) w (.returned (.tuple #[.slice none 0 0, .bool false])) w' := by
  refine ⟨none, 0, 0, by rw [h], ⟨?_, .inl rfl⟩, fun h0 => absurd h0 (by omega), hb⟩
  unfold fireR; rw [h]; rfl

theorem rnew_yes {p : Int} {n : Nat} {L : List (List Int)} {ys : List Int} {t : Int} {w w' : World} {g m c : Nat} (h : fireOk p n L ys t = true) (hr : Row w' (some ⟨g, 0, none⟩) m (firedL L ys t)) (hg : w.heap.size ≤ g) (hb : Below w.heap.size w w') : RNew (fireOk p n L ys t) (fireR p n L ys t) w (.returned (.tuple #[.slice (some ⟨g, 0, none⟩) m c, .bool true])) w' := by
  refine ⟨_, m, c, by rw [h], ?_, fun _ x hx => by obtain rfl := Option.some.inj hx; exact hg, hb⟩
  unfold fireR; rw [h]; exact hr

set_option maxHeartbeats 2000000 in
theorem specFireN_any (p : Int) (a am : Option Addr) (n c nm cm : Nat) (L : List (List Int)) (ys : List Int) (t : Int) (w : World) (h : Lists w a (3 * n) L) (rm : Row w am nm ys) (hs : sizeN n L ≤ 1048576) (hnm : nm ≤ 1048576) :
    Calls Try.prog 17 #[.agg #[.int .i64 p, .slice a n c], .slice am nm cm, .int .i64 t] w fun e w' => RNew (fireOk p n L ys t) (fireR p n L ys t) w e w' := by
  have hAl := below_al w (.cells #[.int .i64 p, .slice a n c] 26)
  have PAR := hide (heap_alloc_new w (.cells #[.int .i64 p, .slice a n c] 26))
  have HG := hide (marked_any p a am n c nm cm L ys _ (h.below hAl) (rm.below hAl) hs hnm)
  have HL := hide (h.below hAl)
  have RM := hide (rm.below hAl)
  have HB0 := hide hAl
  clear h rm hAl
  have hs' : n + sizeL L ≤ 1048576 := hs
  go_enter Try.func17, Try.ntmps17
  go_wp2_with fail
  generalize w.alloc (.cells #[.int .i64 p, .slice a n c] 26) = v at *
  refine HG.out.mono ?_
  rintro e w1 ⟨rfl, hb⟩
  have PAR1 := hide (keep PAR.out hb)
  have HL1 := hide (HL.out.below hb)
  have RM1 := hide (RM.out.below hb)
  have HB1 := hide (HB0.out.trans (hb.mono HB0.out.size))
  obtain ⟨hc0, hc1⟩ := cells2 PAR1.out
  clear HG PAR HL RM HB0 hb v
  by_cases g1 : (netOk p n L && goodB p ys) = true
  rotate_left
  · have g1' : (netOk p n L && goodB p ys) = false := by simpa using g1
    have HN := hide (rnew_no (w := w) (fireOk_no1 (t := t) g1') HB1.out)
    rw [g1']
    clear g1 g1'
    go_wp2_with fail
    go_ret2
    exact HN.out
  rw [g1]
  have HG1 := hide g1
  have hgg := g1
  rw [Bool.and_eq_true] at hgg
  have hn24 := netOkN hgg.1
  obtain ⟨⟨hp1, hp2⟩, hyl, hyb⟩ := goodB_parts hgg.2
  have hlm := RM1.out.1
  have HNET := hide hgg.1
  clear g1 hgg
  by_cases g2 : inB t 0 ((n : Int) - 1) = true
  rotate_left
  · have g2' : inB t 0 ((n : Int) - 1) = false := by simpa using g2
    have HN := hide (rnew_no (w := w) (fireOk_no2 (p := p) (L := L) (ys := ys) g2') HB1.out)
    clear g2
    go_wp2_with (go_at_call 53; refine (in_any _ _ _ _).mono ?_; rintro e w' ⟨rfl, rfl⟩)
    go_ret2
    exact HN.out
  have ht : 0 ≤ t ∧ t ≤ (n : Int) - 1 := by simpa [inB] using g2
  have HG2 := hide g2
  obtain ⟨k, rfl⟩ : ∃ k : Nat, t = (k : Int) := ⟨t.toNat, by omega⟩
  have hkn : k < n := by omega
  have hkn' : (k : Int) < (n : Int) := by omega
  have hk0 : (0 : Int) ≤ (k : Int) := by omega
  obtain ⟨b, off, a0, n0, e0, a1, n1, e1, a2, n2, e2, rfl, hb, hr, m0, m1, m2, r0, r1, r2⟩ := HL1.out.tri hkn
  obtain ⟨hd0, hd1, hd2⟩ := rangeAt_cells3 hr
  have htri := tri_rise (triOkOf HNET.out hkn)
  obtain ⟨x0, hx0⟩ : ∃ x, Hid (L.getD (3 * k) [] = x) := ⟨_, rfl⟩
  obtain ⟨x1, hx1⟩ : ∃ x, Hid (L.getD (3 * k + 1) [] = x) := ⟨_, rfl⟩
  obtain ⟨x2, hx2⟩ : ∃ x, Hid (L.getD (3 * k + 2) [] = x) := ⟨_, rfl⟩
  have hl0 := len_le L (3 * k)
  have hl1 := len_le L (3 * k + 1)
  have hl2 := len_le L (3 * k + 2)
  rw [hx0.out] at r0 hl0 htri
  rw [hx1.out] at r1 hl1 htri
  rw [hx2.out] at r2 hl2 htri
  have q0 : n0 ≤ 1048576 := by have := r0.1; omega
  have q1 : n1 ≤ 1048576 := by have := r1.1; omega
  have q2 : n2 ≤ 1048576 := by have := r2.1; omega
  have hnmp : (nm : Int) = p := by omega
  have RR := hide (And.intro r0 (And.intro r1 r2))
  have HTR := hide htri
  have HIN : Hid (∀ x ∈ x0, 0 ≤ x ∧ x < (nm : Int)) := fun x hx => by have := riseB_mem htri.1 x hx; omega
  have HI0 : Hid (inOf L (k : Int) = x0) := hx0.out
  have HF0 : Hid (firedL L ys (k : Int) = fireL x0 x1 x2 ys) := by show fireL _ _ _ _ = _; unfold inOf outOf resOf; rw [Int.toNat_natCast, hx0.out, hx1.out, hx2.out]
  have HC := hide (can_any a0 a1 a2 am n0 n1 n2 e0 e1 e2 nm cm x0 ys w1 r0 RM1.out q0 HIN.out)
  clear hr r0 r1 r2 hl0 hl1 hl2 htri m0 m1 m2 hx0 hx1 hx2
  obtain ⟨bm, om, rfl⟩ : ∃ bm om, am = some ⟨bm, om, none⟩ := by
    obtain ⟨bm, om, y, he, _⟩ := RM1.out.at (show 0 < nm by omega)
    exact ⟨bm, om, he⟩
  go_wp2_with (go_at_call 53; refine (in_any _ _ _ _).mono ?_; rintro e w' ⟨rfl, rfl⟩)
  refine HC.out.mono ?_
  rintro e w2 ⟨rfl, hb2⟩
  have PAR2 := hide (keep PAR1.out hb2)
  have HB2 := hide (HB1.out.trans (hb2.mono HB1.out.size))
  obtain ⟨hc0, hc1⟩ := cells2 PAR2.out
  by_cases g3 : canB x0 ys = true
  rotate_left
  · have g3' : canB x0 ys = false := by simpa using g3
    have HN := hide (rnew_no (w := w) (fireOk_no3 (p := p) (n := n) (L := L) (ys := ys) (t := (k : Int)) (by rw [HI0.out]; exact g3')) HB2.out)
    rw [g3']
    clear g3 g3' hb2
    go_wp2_with fail
    go_ret2
    exact HN.out
  rw [g3]
  have HG3 : Hid (canB (inOf L (k : Int)) ys = true) := by show _ = _; rw [HI0.out]; exact g3
  obtain ⟨_, _, f0, u0, i0, f1, u1, i1, f2, u2, i2, he, _, hr2, _, _, _, _, _, _⟩ := (HL1.out.below hb2).tri hkn
  have hq0 := hb2.cell (p := ⟨b, off + k * 3, none⟩) hb
  have hq1 := hb2.cell (p := ⟨b, off + k * 3 + 1, none⟩) hb
  have hq2 := hb2.cell (p := ⟨b, off + k * 3 + 2, none⟩) hb
  rw [hd0] at hq0
  rw [hd1] at hq1
  rw [hd2] at hq2
  have HFI := hide (fireS_any a0 a1 a2 n0 n1 n2 e0 e1 e2 nm bm om cm x0 x1 x2 ys w2 (RR.out.1.below hb2) (RR.out.2.1.below hb2) (RR.out.2.2.below hb2) (RM1.out.below hb2) q0 q1 q2 (by omega) (by rw [hnmp]; exact HTR.out.1) (by rw [hnmp]; exact HTR.out.2.1) (by rw [hnmp]; exact HTR.out.2.2) hyb)
  clear g3 hr2 he hb2 hd0 hd1 hd2 HC
  go_wp2_with fail
  refine HFI.out.mono ?_
  rintro e w3 ⟨g, cg, rfl, hg, hout, hb3⟩
  have PAR3 := hide (keep PAR2.out hb3)
  have HB3 := hide (HB2.out.trans (hb3.mono HB2.out.size))
  obtain ⟨hc0, hc1⟩ := cells2 PAR3.out
  have HM := hide (goodS_any p (some ⟨g, 0, none⟩) nm cg (fireL x0 x1 x2 ys) w3 hout.row hnm)
  have HOUT := hide hout.row
  clear hb3 hq0 hq1 hq2 HFI hout
  go_wp2_with fail
  refine HM.out.mono ?_
  rintro e w4 ⟨rfl, rfl⟩
  by_cases g4 : goodB p (fireL x0 x1 x2 ys) = true
  rotate_left
  · have g4' : goodB p (fireL x0 x1 x2 ys) = false := by simpa using g4
    have HN := hide (rnew_no (w := w) (fireOk_no4 (p := p) (n := n) (L := L) (ys := ys) (t := (k : Int)) (by rw [HF0.out]; exact g4')) HB3.out)
    rw [g4']
    clear g4 g4'
    go_wp2_with fail
    go_ret2
    exact HN.out
  have HY : Hid (RNew (fireOk p n L ys (k : Int)) (fireR p n L ys (k : Int)) w (.returned (.tuple #[.slice (some ⟨g, 0, none⟩) nm cg, .bool true])) w4) :=
    rnew_yes (fireOk_yes HG1.out HG2.out HG3.out (by rw [HF0.out]; exact g4)) (by rw [HF0.out]; exact HOUT.out) (Nat.le_trans HB2.out.size hg) HB3.out
  rw [g4]
  clear g4
  go_wp2_with fail
  go_ret2
  exact HY.out
end Go.Proofs.Ytbobppcnmpiacaa
