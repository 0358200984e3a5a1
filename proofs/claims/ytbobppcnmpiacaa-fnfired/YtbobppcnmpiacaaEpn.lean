/- The specification's Enabled once more, with where its answer lies. -/
import Derived.Test.YtbobppcnmpiacaaEp
import Derived.Test.YtbobppcnmpiacaaSgn
namespace Go.Proofs.Ytbobppcnmpiacaa
open Go.RowKit
set_option maxRecDepth 10000

set_option maxHeartbeats 1000000 in
theorem enabledN_any (p : Int) (a am : Option Addr) (n c nm cm : Nat) (L : List (List Int)) (ys : List Int) (w : World) (h : Lists w a (3 * n) L) (rm : Row w am nm ys) (hs : sizeN n L ≤ 1048576) (hnm : nm ≤ 1048576) :
    Calls Try.prog 18 #[.agg #[.int .i64 p, .slice a n c], .slice am nm cm] w fun e w' => RNew (enOk p n L ys) (enR p n L ys) w e w' := by
  have hAl := below_al w (.cells #[.int .i64 p, .slice a n c] 26)
  have PAR := hide (heap_alloc_new w (.cells #[.int .i64 p, .slice a n c] 26))
  have HG := hide (marked_any p a am n c nm cm L ys _ (h.below hAl) (rm.below hAl) hs hnm)
  have HL := hide h
  have RM := hide rm
  have HB0 := hide hAl
  clear h rm hAl
  go_enter Try.func18, Try.ntmps18
  go_wp2_with fail
  refine HG.out.mono ?_
  rintro e w1 ⟨rfl, hb⟩
  have HB1 := hide (HB0.out.trans (hb.mono HB0.out.size))
  have PAR1 := hide (keep PAR.out hb)
  obtain ⟨hc0, hc1⟩ := cells2 PAR1.out
  clear HG HB0 PAR hb
  by_cases g1 : (netOk p n L && goodB p ys) = true
  rotate_left
  · have g1' : (netOk p n L && goodB p ys) = false := by simpa using g1
    have g1'' : enOk p n L ys = false := g1'
    have HN : Hid (RNew (enOk p n L ys) (enR p n L ys) w (.returned (.tuple #[.slice none 0 0, .bool false])) w1) :=
      ⟨none, 0, 0, by rw [g1''], ⟨by unfold enR; rw [g1'']; rfl, .inl rfl⟩, fun h0 => absurd h0 (by omega), HB1.out⟩
    rw [g1']
    clear g1 g1' g1''
    go_wp2_with fail
    go_ret2
    exact HN.out
  have hgg := g1
  rw [Bool.and_eq_true] at hgg
  have HOK : Hid (enOk p n L ys = true) := g1
  rw [g1]
  have hn24 := netOkN' hgg.1
  obtain ⟨hp, hyl, _⟩ := goodB_parts hgg.2
  have HIN : Hid (∀ k, k < n → ∀ x ∈ L.getD (3 * k) [], 0 ≤ x ∧ x < (nm : Int)) := fun k hk x hx => by
    have htri := tri_riseT (triOkT hgg.1 hk)
    have := riseB_mem htri.1 x hx
    have := RM.out.1
    omega
  clear g1 hgg
  go_wp2_with fail
  refine (enabledS_any _ _ _ _ _ _ _ L ys _ (HL.out.below HB1.out) (RM.out.below HB1.out) hs hn24 HIN.out).mono ?_
  rintro e w2 ⟨v, m, rfl, hown, hb⟩
  have hlt := hown.lt
  obtain ⟨av, cv, hv, hrow⟩ := own_row hown
  subst hv
  have HY : Hid (RNew (enOk p n L ys) (enR p n L ys) w (.returned (.tuple #[.slice av m cv, .bool true])) w2) :=
    ⟨av, m, cv, by rw [HOK.out], by unfold enR; rw [HOK.out]; exact hrow, fun _ x hx => by (subst hx; exact Nat.le_trans HB1.out.size (hlt x.block rfl).1), HB1.out.trans (hb.mono HB1.out.size)⟩
  clear hown hb hrow hlt
  go_wp2_with fail
  go_ret2
  exact HY.out
end Go.Proofs.Ytbobppcnmpiacaa
