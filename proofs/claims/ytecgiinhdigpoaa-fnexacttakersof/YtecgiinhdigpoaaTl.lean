/- The specification's TakersOf and GiversOf, for every net and place. -/
import Derived.Test.YtecgiinhdigpoaaTk
namespace Go.Proofs.Ytecgiinhdigpoaa
open Go.RowKit

theorem netOkN' {p : Int} {n : Nat} {L : List (List Int)} (h : netOk p n L = true) : n ≤ 24 := by
  unfold netOk at h; simp at h; exact h.1.2
theorem netOkP' {p : Int} {n : Nat} {L : List (List Int)} (h : netOk p n L = true) : 1 ≤ p ∧ p ≤ 16 := by
  unfold netOk at h; simp [inB] at h; omega

def atOk (p : Int) (n : Nat) (L : List (List Int)) (q : Int) : Bool := netOk p n L && inB q 0 (p - 1)
def atR (f : Nat → Bool) (p : Int) (n : Nat) (L : List (List Int)) (q : Int) : List Int := if atOk p n L q then numsL f n else []

/-- A list and a bool; nothing that was there is written. -/
def WEnd (g : Bool) (r : List Int) (w : World) (e : Ending) (w' : World) : Prop := ∃ a n c, e = .returned (.tuple #[.slice a n c, .bool g]) ∧ Row w' a n r ∧ Below w.heap.size w w'

theorem wend_no {f : Nat → Bool} {p : Int} {n : Nat} {L : List (List Int)} {q : Int} {w w' : World} (h : atOk p n L q = false) (hb : Below w.heap.size w w') : WEnd (atOk p n L q) (atR f p n L q) w (.returned (.tuple #[.slice none 0 0, .bool false])) w' := by
  refine ⟨none, 0, 0, by rw [h], ⟨?_, .inl rfl⟩, hb⟩
  unfold atR; rw [h]; rfl

theorem wend_yes {f : Nat → Bool} {p : Int} {n : Nat} {L : List (List Int)} {q : Int} {w w' : World} {a : Option Addr} {m c : Nat} (h : atOk p n L q = true) (hr : Row w' a m (numsL f n)) (hb : Below w.heap.size w w') : WEnd (atOk p n L q) (atR f p n L q) w (.returned (.tuple #[.slice a m c, .bool true])) w' := by
  refine ⟨a, m, c, by rw [h], ?_, hb⟩
  unfold atR; rw [h]; exact hr

/-- .. in a block of its own. -/
def OEnd (g : Bool) (r : List Int) (w : World) (e : Ending) (w' : World) : Prop :=
  ∃ a b n c, e = .returned (.tuple #[.slice a n c, .bool g]) ∧ Ob w' a b n r ∧ w.heap.size ≤ b ∧ Below w.heap.size w w'

theorem own_ob {B : Nat} {w : World} {v : Value} {n : Nat} {l : List Int} (hown : w.ownsRow B 3 1 v n (l.map (Value.int .i64))) : ∃ a b c, v = .slice a n c ∧ B ≤ b ∧ Ob w a b n l := by
  have hl : l.length = n := by have := hown.1; simpa using this
  rcases hown.2 with ⟨rfl, rfl⟩ | ⟨g, cap, cur, rfl, hb, hh, hnc, _, hsz, ht⟩
  · exact ⟨none, B, 0, rfl, Nat.le_refl _, hl, .inl rfl⟩
  · refine ⟨_, g, cap, rfl, hb, hl, .inr ⟨rfl, cur, hh, by omega, fun i hi => ?_⟩⟩
    have e : (cur.toList.take (n * 1))[i]? = (l.map (Value.int .i64))[i]? := by rw [ht]
    rw [List.getElem?_take_of_lt (by omega), Array.getElem?_toList] at e
    rw [e]
    simp [List.getElem?_eq_getElem (show i < l.length by omega)]

theorem own_row {B : Nat} {w : World} {v : Value} {n : Nat} {l : List Int} (hown : w.ownsRow B 3 1 v n (l.map (Value.int .i64))) : ∃ a c, v = .slice a n c ∧ Row w a n l := by
  obtain ⟨a, b, c, e, _, ho⟩ := own_ob hown
  exact ⟨a, c, e, ho.row⟩

set_option maxHeartbeats 1000000 in
theorem takersSp_any (p q : Int) (a : Option Addr) (n c : Nat) (L : List (List Int)) (w : World) (h : Lists w a (3 * n) L) (hs : sizeN n L ≤ 1048576) :
    Calls Try.prog 6 #[.agg #[.int .i64 p, .slice a n c], .int .i64 q] w fun e w' => WEnd (atOk p n L q) (atR (fun i => hasB (L.getD (3 * i) []) q) p n L q) w e w' := by
  have hAl := below_al w (.cells #[.int .i64 p, .slice a n c] 31)
  have PAR := hide (heap_alloc_new w (.cells #[.int .i64 p, .slice a n c] 31))
  have HG := hide (goodNetS_any p a n c L _ (h.below hAl) hs)
  have HL := hide h
  have HB0 := hide hAl
  clear h hAl
  go_enter Try.func6, Try.ntmps6
  go_wp2_with fail
  refine HG.out.mono ?_
  rintro e w1 ⟨rfl, hb⟩
  have HB1 := hide (HB0.out.trans (hb.mono HB0.out.size))
  have PAR1 := hide (keep PAR.out hb)
  obtain ⟨hc0, hc1⟩ := cells2 PAR1.out
  clear HG HB0 PAR hb
  by_cases g1 : netOk p n L = true
  rotate_left
  · have g1' : netOk p n L = false := by simpa using g1
    have HN := hide (wend_no (f := fun i => hasB (L.getD (3 * i) []) q) (w := w) (show atOk p n L q = false by unfold atOk; rw [g1']; rfl) HB1.out)
    rw [g1']
    clear g1 g1'
    go_wp2_with fail
    go_ret2
    exact HN.out
  rw [g1]
  have HG1 := hide g1
  have hn24 := netOkN' g1
  have hp := netOkP' g1
  obtain ⟨hp1, hp2⟩ := hp
  clear g1
  by_cases g2 : inB q 0 (p - 1) = true
  rotate_left
  · have g2' : inB q 0 (p - 1) = false := by simpa using g2
    have HN := hide (wend_no (f := fun i => hasB (L.getD (3 * i) []) q) (w := w) (show atOk p n L q = false by unfold atOk; rw [g2']; simp) HB1.out)
    clear g2
    go_wp2_with (go_at_call 18; refine (in_any _ _ _ _).mono ?_; rintro e w' ⟨rfl, rfl⟩)
    go_ret2
    exact HN.out
  have HOK := hide (show atOk p n L q = true by unfold atOk; rw [HG1.out, g2]; rfl)
  go_wp2_with (go_at_call 18; refine (in_any _ _ _ _).mono ?_; rintro e w' ⟨rfl, rfl⟩)
  refine (takersS_any _ _ _ _ _ L _ (HL.out.below HB1.out) hs hn24).mono ?_
  rintro e w2 ⟨v, m, rfl, hown, hb⟩
  obtain ⟨av, cv, hv, hrow⟩ := own_row hown
  subst hv
  have HY := hide (wend_yes (f := fun i => hasB (L.getD (3 * i) []) q) (c := cv) (w := w) HOK.out hrow (HB1.out.trans (hb.mono HB1.out.size)))
  clear hown hb hrow
  go_wp2_with fail
  go_ret2
  exact HY.out

set_option maxHeartbeats 1000000 in
theorem giversSp_any (p q : Int) (a : Option Addr) (n c : Nat) (L : List (List Int)) (w : World) (h : Lists w a (3 * n) L) (hs : sizeN n L ≤ 1048576) :
    Calls Try.prog 14 #[.agg #[.int .i64 p, .slice a n c], .int .i64 q] w fun e w' => WEnd (atOk p n L q) (atR (fun i => hasB (L.getD (3 * i + 1) []) q) p n L q) w e w' := by
  have hAl := below_al w (.cells #[.int .i64 p, .slice a n c] 31)
  have PAR := hide (heap_alloc_new w (.cells #[.int .i64 p, .slice a n c] 31))
  have HG := hide (goodNetS_any p a n c L _ (h.below hAl) hs)
  have HL := hide h
  have HB0 := hide hAl
  clear h hAl
  go_enter Try.func14, Try.ntmps14
  go_wp2_with fail
  refine HG.out.mono ?_
  rintro e w1 ⟨rfl, hb⟩
  have HB1 := hide (HB0.out.trans (hb.mono HB0.out.size))
  have PAR1 := hide (keep PAR.out hb)
  obtain ⟨hc0, hc1⟩ := cells2 PAR1.out
  clear HG HB0 PAR hb
  by_cases g1 : netOk p n L = true
  rotate_left
  · have g1' : netOk p n L = false := by simpa using g1
    have HN := hide (wend_no (f := fun i => hasB (L.getD (3 * i + 1) []) q) (w := w) (show atOk p n L q = false by unfold atOk; rw [g1']; rfl) HB1.out)
    rw [g1']
    clear g1 g1'
    go_wp2_with fail
    go_ret2
    exact HN.out
  rw [g1]
  have HG1 := hide g1
  have hn24 := netOkN' g1
  have hp := netOkP' g1
  obtain ⟨hp1, hp2⟩ := hp
  clear g1
  by_cases g2 : inB q 0 (p - 1) = true
  rotate_left
  · have g2' : inB q 0 (p - 1) = false := by simpa using g2
    have HN := hide (wend_no (f := fun i => hasB (L.getD (3 * i + 1) []) q) (w := w) (show atOk p n L q = false by unfold atOk; rw [g2']; simp) HB1.out)
    clear g2
    go_wp2_with (go_at_call 18; refine (in_any _ _ _ _).mono ?_; rintro e w' ⟨rfl, rfl⟩)
    go_ret2
    exact HN.out
  have HOK := hide (show atOk p n L q = true by unfold atOk; rw [HG1.out, g2]; rfl)
  go_wp2_with (go_at_call 18; refine (in_any _ _ _ _).mono ?_; rintro e w' ⟨rfl, rfl⟩)
  refine (giversS_any _ _ _ _ _ L _ (HL.out.below HB1.out) hs hn24).mono ?_
  rintro e w2 ⟨v, m, rfl, hown, hb⟩
  obtain ⟨av, cv, hv, hrow⟩ := own_row hown
  subst hv
  have HY := hide (wend_yes (f := fun i => hasB (L.getD (3 * i + 1) []) q) (c := cv) (w := w) HOK.out hrow (HB1.out.trans (hb.mono HB1.out.size)))
  clear hown hb hrow
  go_wp2_with fail
  go_ret2
  exact HY.out

end Go.Proofs.Ytecgiinhdigpoaa
