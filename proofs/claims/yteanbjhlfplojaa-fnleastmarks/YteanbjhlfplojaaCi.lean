/- slices.ContainsFunc over a row of packed marks, with a mark's own method covers: whether the mark covers one of them. -/
import Derived.Test.YteanbjhlfplojaaCt
namespace Go.Proofs.Yteanbjhlfplojaa
open Go.RowKit
set_option maxRecDepth 10000

theorem TokRow.at {n k : Nat} {w : World} {a : Option Addr} {ds : List (List Int)} (h : TokRow n w a ds) (hk : k < ds.length) :
    ∃ b off, a = some ⟨b, off, none⟩ ∧ b < w.heap.size ∧ Hid (w.rangeAt b (off + k * 16) (encT n (ds.getD k []))) := by
  rcases h with rfl | ⟨b, off, e, hb, hr⟩
  · simp at hk
  · exact ⟨b, off, e, hb, hr k hk⟩

theorem rangeAt_below {w w' : World} {b o : Nat} {cs : List Value} (h : w.rangeAt b o cs) {B : Nat} (hB : b < B) (hb : Below B w w') : w'.rangeAt b o cs := fun j v hv => by
  rw [← h j v hv]
  simp only [World.cell?]
  rw [hb.block b hB]

theorem TokRow.grow {n : Nat} {w w' : World} {a : Option Addr} {ds : List (List Int)} (h : TokRow n w a ds) (hb : Below w.heap.size w w') : TokRow n w' a ds := by
  rcases h with rfl | ⟨b, off, e, hB, hr⟩
  · exact .inl rfl
  · exact .inr ⟨b, off, e, Nat.lt_of_lt_of_le hB hb.size, fun i hi => rangeAt_below (hr i hi) hB hb⟩

theorem covT_any (n : Nat) (hn : n ≤ 16) (t u : List Int) (w : World) :
    Calls Try.prog 32 #[.agg (packOf t n), .agg (encT n u).toArray] w fun e w' => BoolEnd (covL n t u) w e w' := by
  have h := cov_any (fOf t n) (fOf u n) w
  rw [covF_pad t u n hn] at h
  simpa [encT, packOf, covL] using h

/-- Where the first one is that is covered, or -1. -/
def IdxT (b : Bool) (w : World) (e : Ending) (w' : World) : Prop := ∃ z : Int, e = .returned (.int .i64 z) ∧ Hid (decide (0 ≤ z) = b) ∧ Below w.heap.size w w'

theorem any_take {ds : List (List Int)} {f : List Int → Bool} {k : Nat} (hk : k < ds.length) (h : (ds.take k).any f = false) (hf : f (ds.getD k []) = false) : (ds.take (k + 1)).any f = false := by
  rw [take_getD hk, List.any_append, h]
  simp only [List.any_cons, List.any_nil, Bool.or_false, hf]

set_option maxHeartbeats 1000000 in
theorem indexT_any (n : Nat) (hn : n ≤ 16) (a : Option Addr) (m c : Nat) (ds : List (List Int)) (t : List Int) (w : World) (h : TokRow n w a ds) (hm : ds.length = m) (hl : m ≤ 400) :
    Calls Try.prog 54 #[.slice a m c, .func (.func 32) #[.agg (packOf t n)] #[]] w fun e w' => IdxT (ds.any fun u => covL n t u) w e w' := by
  have HP := hide h
  have HM := hide hm
  clear h hm
  go_enter Try.func54, Try.ntmps54
  go_wp2_with fail
  go_loopw [8] (fun i wr => ∃ k : Nat, k ≤ m ∧ i = .int .i64 k ∧ Hid ((ds.take k).any (fun u => covL n t u) = false) ∧ Hid (Below w.heap.size w wr)) (fun i _ => m - (intOf i).toNat)
  case atStart => exact ⟨0, Nat.zero_le _, rfl, rfl, Below.refl _ _⟩
  case round =>
    obtain ⟨k, hk, rfl, hu, hbw⟩ := hrel
    by_cases hlt : k < m
    rotate_left
    · have hk' : k = m := by omega
      subst hk'
      have HE : Hid (IdxT (ds.any fun u => covL n t u) w (.returned (.int .i64 (-1))) wr) := by
        have h1 := hu.out
        rw [List.take_of_length_le (by have := HM.out; omega)] at h1
        exact ⟨-1, rfl, by rw [h1]; rfl, hbw.out⟩
      go_wp2_with fail
      go_ret
      exact HE.out
    have hlt' : k < ds.length := by have := HM.out; omega
    obtain ⟨b, off, rfl, hbs, hr⟩ := (HP.out.grow hbw.out).at hlt'
    have HH := hide (covT_any n hn t (ds.getD k []) wr)
    cases hh : covL n t (ds.getD k [])
    · have HU := hide (any_take hlt' hu.out hh)
      rw [hh] at HH
      clear hh hu hlt'
      generalize ds.getD k [] = x at *
      go_wp2_with (refine wpList_load_mid rfl 50 (.tmp 14) rfl _ _ rfl _ _ hr.out Try.underlying50 rfl (by rw [encT_len]; exact Try.size50) ?_)
      refine HH.out.mono ?_
      rintro e w1 ⟨rfl, hb⟩
      have HB := hide (hbw.out.trans (hb.mono hbw.out.size))
      clear hb HH hr
      go_wp2_with fail
      go_roundw
      case rel => exact ⟨k + 1, by omega, by go_num, HU, HB⟩
      case measure => simp [intOf]; omega
    · have HY : Hid ((ds.any fun u => covL n t u) = true) := List.any_eq_true.mpr ⟨_, getD_mem hlt', hh⟩
      rw [hh] at HH
      clear hh hu hlt'
      generalize ds.getD k [] = x at *
      go_wp2_with (refine wpList_load_mid rfl 50 (.tmp 14) rfl _ _ rfl _ _ hr.out Try.underlying50 rfl (by rw [encT_len]; exact Try.size50) ?_)
      refine HH.out.mono ?_
      rintro e w1 ⟨rfl, hb⟩
      have HE : Hid (IdxT (ds.any fun u => covL n t u) w (.returned (.int .i64 (k : Int))) w1) := ⟨k, rfl, by rw [HY.out]; simp [Hid], hbw.out.trans (hb.mono hbw.out.size)⟩
      clear hb HH hr
      go_wp2_with fail
      go_ret
      exact HE.out

set_option maxHeartbeats 400000 in
theorem containsT_any (n : Nat) (hn : n ≤ 16) (a : Option Addr) (m c : Nat) (ds : List (List Int)) (t : List Int) (w : World) (h : TokRow n w a ds) (hm : ds.length = m) (hl : m ≤ 400) :
    Calls Try.prog 44 #[.slice a m c, .func (.func 32) #[.agg (packOf t n)] #[]] w fun e w' => BoolEnd (ds.any fun u => covL n t u) w e w' := by
  have HI := hide (indexT_any n hn a m c ds t w h hm hl)
  clear h hm
  go_enter Try.func44, Try.ntmps44
  go_wp2_with fail
  refine HI.out.mono ?_
  rintro e w1 ⟨z, rfl, hz, hb⟩
  have HB := hide hb
  clear hb HI
  go_wp2_with fail
  go_ret
  exact ⟨ret_bool hz.out, HB.out⟩
end Go.Proofs.Yteanbjhlfplojaa
