/- l2Fire and the specification's Fire, for every net and mark in memory. -/
import Derived.Test.YtbobppcnmpiacaaOw
namespace Go.Proofs.Ytbobppcnmpiacaa
open Go.RowKit

/-- The numbers at the places xs are changed by g, one behind the other. -/
def updL (g : Int → Int) (xs ys : List Int) : List Int := xs.foldl (fun l p => l.set p.toNat (g (l.getD p.toNat 0))) ys

theorem updL_snoc (g : Int → Int) (xs ys : List Int) (x : Int) : updL g (xs ++ [x]) ys = (updL g xs ys).set x.toNat (g ((updL g xs ys).getD x.toNat 0)) := by simp [updL, List.foldl_append]

theorem updL_take (g : Int → Int) (xs ys : List Int) (k : Nat) (x : Int) (h : xs[k]? = some x) : updL g (xs.take (k + 1)) ys = (updL g (xs.take k) ys).set x.toNat (g ((updL g (xs.take k) ys).getD x.toNat 0)) := by
  rw [List.take_add_one, h]; exact updL_snoc _ _ _ _

theorem updL_len (g : Int → Int) (xs ys : List Int) : (updL g xs ys).length = ys.length := by
  induction xs using snoc_ind with
  | h0 => rfl
  | h1 xs x ih => rw [updL_snoc, List.length_set, ih]

theorem riseB_snoc {xs : List Int} {x lo hi : Int} (h : riseB (xs ++ [x]) lo hi = true) : riseB xs lo hi = true ∧ x ∉ xs := by
  induction xs generalizing lo with
  | nil => exact ⟨rfl, by simp⟩
  | cons y r ih =>
    simp only [List.cons_append, riseB, Bool.and_eq_true, decide_eq_true_eq] at h ⊢
    obtain ⟨h1, h2⟩ := h
    have := ih h2
    refine ⟨⟨h1, this.1⟩, ?_⟩
    intro hm
    rcases List.mem_cons.mp hm with e | hm
    · have := riseB_mem h2 x (by simp); omega
    · exact this.2 hm

theorem updL_at (g : Int → Int) {xs : List Int} (ys : List Int) (hi : Int) (h : riseB xs 0 hi = true) (hl : hi < ys.length) (i : Nat) : (updL g xs ys).getD i 0 = if (i : Int) ∈ xs then g (ys.getD i 0) else ys.getD i 0 := by
  induction xs using snoc_ind with
  | h0 => simp [updL]
  | h1 xs x ih =>
    have hs := riseB_snoc h
    have hx := riseB_mem h x (by simp)
    have ih' := ih hs.1
    rw [updL_snoc, List.getD_eq_getElem?_getD, List.getElem?_set, updL_len]
    by_cases e : x.toNat = i
    · subst e
      rw [if_pos rfl, if_pos (by omega), ih', Int.toNat_of_nonneg hx.1, if_neg hs.2, if_pos (by simp)]
      rfl
    · rw [if_neg e, ← List.getD_eq_getElem?_getD, ih']
      have hne : (i : Int) ≠ x := by omega
      by_cases hm : (i : Int) ∈ xs
      · rw [if_pos hm, if_pos (by simp [hm])]
      · rw [if_neg hm, if_neg (by simp [hm, hne])]

theorem bound3 (g : Int → Int) {xs : List Int} (ys : List Int) (hi : Int) (h : riseB xs 0 hi = true) (hl : hi < ys.length) (i : Nat) (hb : -60 ≤ ys.getD i 0 ∧ ys.getD i 0 ≤ 60) (hg : -60 ≤ g (ys.getD i 0) ∧ g (ys.getD i 0) ≤ 60) : -60 ≤ (updL g xs ys).getD i 0 ∧ (updL g xs ys).getD i 0 ≤ 60 := by
  rw [updL_at g ys hi h hl i]; split
  · exact hg
  · exact hb

def fireL (x0 x1 x2 ys : List Int) : List Int := updL (· + 1) x1 (updL (fun _ => 0) x2 (updL (· - 1) x0 ys))

set_option maxHeartbeats 1000000 in
theorem fireS_any (a0 a1 a2 : Option Addr) (n0 n1 n2 c0 c1 c2 nm bm om cm : Nat) (x0 x1 x2 ys : List Int) (w : World) (r0 : Row w a0 n0 x0) (r1 : Row w a1 n1 x1) (r2 : Row w a2 n2 x2) (rm : Row w (some ⟨bm, om, none⟩) nm ys)
    (h0 : n0 ≤ 1048576) (h1 : n1 ≤ 1048576) (h2 : n2 ≤ 1048576) (hm : nm ≤ 16) (hr0 : riseB x0 0 ((nm : Int) - 1) = true) (hr1 : riseB x1 0 ((nm : Int) - 1) = true) (hr2 : riseB x2 0 ((nm : Int) - 1) = true) (hys : ∀ i, 0 ≤ ys.getD i 0 ∧ ys.getD i 0 ≤ 50) :
    Calls Try.prog 55 #[.agg #[.slice a0 n0 c0, .slice a1 n1 c1, .slice a2 n2 c2], .slice (some ⟨bm, om, none⟩) nm cm] w fun e w' => ∃ g c, e = .returned (.slice (some ⟨g, 0, none⟩) nm c) ∧ w.heap.size ≤ g ∧ OutR w' g nm (fireL x0 x1 x2 ys) ∧ Below w.heap.size w w' := by
  have hAl := below_al w (.cells #[.slice a0 n0 c0, .slice a1 n1 c1, .slice a2 n2 c2] 39)
  have R0 := hide (r0.below hAl)
  have R1 := hide (r1.below hAl)
  have R2 := hide (r2.below hAl)
  have RM := hide (rm.below hAl)
  have HB := hide hAl
  have HV := hide (heap_alloc_new w (.cells #[.slice a0 n0 c0, .slice a1 n1 c1, .slice a2 n2 c2] 39))
  clear r0 r1 r2 rm hAl
  go_enter Try.func55, Try.ntmps55
  go_wp2_with fail
  have HR := hide (And.intro hr0 (And.intro hr1 hr2))
  generalize w.alloc (.cells #[.slice a0 n0 c0, .slice a1 n1 c1, .slice a2 n2 c2] 39) = v at *
  refine (own_any _ _ _ _ ys _ RM.out (by omega)).mono ?_
  rintro e w1 ⟨g, c, rfl, hg, hc, hout, hb⟩
  have hly := hide hout.1
  have HBV := hide hb
  have HO := hide hout
  clear RM hout hb
  have hv0 := cell_of_row w1 w.heap.size 0 _ _ _ (keep HV.out HBV.out)
  simp at hv0
  go_wp2_with fail
  clear hv0
  go_loopw [17] (fun i wr => ∃ k : Nat, k ≤ n0 ∧ i = .int .i64 k ∧ Hid (OutR wr g nm (updL (· - 1) (x0.take k) ys)) ∧ Hid (Below v.heap.size v wr)) (fun i _ => n0 - (intOf i).toNat)
  case atStart => exact ⟨0, Nat.zero_le _, rfl, HO, HBV⟩
  case round =>
    obtain ⟨k, hk, rfl, ho, hbw⟩ := hrel
    by_cases hlt : k < n0
    · obtain ⟨b1, o1, x, rfl, hl1, hc1, H1⟩ := (R0.out.below hbw.out).at hlt
      have hxm := riseB_mem HR.out.1 x (List.mem_of_getElem? H1.out)
      obtain ⟨j, rfl⟩ : ∃ j : Nat, x = (j : Int) := ⟨x.toNat, by omega⟩
      have hjn : (j : Int) < (nm : Int) := by omega
      have HU := hide (updL_take (· - 1) x0 ys k _ H1.out)
      rw [Int.toNat_natCast] at HU
      obtain ⟨hle, cur, hh, hcs, hcell⟩ := ho.out
      have hy := hcell j (by omega)
      have hfr := frozen_of_row wr g j cur _ hh
      have hcy := cell_of_row wr g j cur _ _ hh
      rw [hy] at hcy
      have hyb : -60 ≤ (updL (· - 1) (x0.take k) ys).getD j 0 ∧ (updL (· - 1) (x0.take k) ys).getD j 0 ≤ 60 := bound3 (fun y => y - 1) ys ((nm : Int) - 1) (riseB_take (k := k) HR.out.1) (by have := hly.out; omega) j (by have := hys j; omega) (by have := hys j; omega)
      obtain ⟨y, hyy⟩ : ∃ y, Hid ((updL (· - 1) (x0.take k) ys).getD j 0 = y) := ⟨_, rfl⟩
      rw [hyy.out] at hcy hyb HU
      have HN : Hid (OutR (wr.setCell ⟨g, j, none⟩ (.int .i64 (y - 1))) g nm (updL (· - 1) (x0.take (k + 1)) ys)) := by
        show OutR _ _ _ _
        rw [HU.out]; exact ho.out.set j (by omega) _
      have HBN := hide (hbw.out.setCell (p := ⟨g, j, none⟩) hg (.int .i64 (y - 1)))
      clear ho hbw hh hcell hy hxm HU H1 hcs hle hyy
      go_wp2_with fail
      go_roundw
      case rel => exact ⟨k + 1, by omega, by go_num, HN, HBN⟩
      case measure => simp [intOf]; omega
    · have hk' : k = n0 := by omega
      subst hk'
      have HO2 : Hid (OutR wr g nm (updL (· - 1) x0 ys)) := by have := ho.out; rwa [List.take_of_length_le (by have := R0.out.1; omega)] at this
      have HBV2 := hbw
      clear ho hbw HO HBV
      have HO := HO2
      have HBV := HBV2
      clear HO2 HBV2
      have hv1 := cell_of_row wr w.heap.size 1 _ _ _ (keep HV.out HBV.out)
      have hv2 := cell_of_row wr w.heap.size 2 _ _ _ (keep HV.out HBV.out)
      simp at hv1 hv2
      go_wp2_with fail
      go_loopw [31] (fun i wr => ∃ k : Nat, k ≤ n2 ∧ i = .int .i64 k ∧ Hid (OutR wr g nm (updL (fun _ => 0) (x2.take k) (updL (· - 1) x0 ys))) ∧ Hid (Below v.heap.size v wr)) (fun i _ => n2 - (intOf i).toNat)
      case atStart => exact ⟨0, Nat.zero_le _, rfl, HO, HBV⟩
      case round =>
        obtain ⟨k, hk, rfl, ho, hbw⟩ := hrel
        by_cases hlt : k < n2
        · obtain ⟨b1, o1, x, rfl, hl1, hc1, H1⟩ := (R2.out.below hbw.out).at hlt
          have hxm := riseB_mem HR.out.2.2 x (List.mem_of_getElem? H1.out)
          obtain ⟨j, rfl⟩ : ∃ j : Nat, x = (j : Int) := ⟨x.toNat, by omega⟩
          have hjn : (j : Int) < (nm : Int) := by omega
          have HU := hide (updL_take (fun _ => 0) x2 (updL (· - 1) x0 ys) k _ H1.out)
          rw [Int.toNat_natCast] at HU
          obtain ⟨hle, cur, hh, hcs, hcell⟩ := ho.out
          have hy := hcell j (by omega)
          have hfr := frozen_of_row wr g j cur _ hh
          have hcy := cell_of_row wr g j cur _ _ hh
          rw [hy] at hcy
          have hyb : -60 ≤ (updL (fun _ => 0) (x2.take k) (updL (· - 1) x0 ys)).getD j 0 ∧ (updL (fun _ => 0) (x2.take k) (updL (· - 1) x0 ys)).getD j 0 ≤ 60 := by
            have hb1 := bound3 (fun y => y - 1) (xs := x0) ys ((nm : Int) - 1) HR.out.1 (by have := hly.out; omega) j (by have := hys j; omega) (by have := hys j; omega)
            exact bound3 (fun _ => 0) _ ((nm : Int) - 1) (riseB_take (k := k) HR.out.2.2) (by rw [updL_len]; have := hly.out; omega) j hb1 (by omega)
          obtain ⟨y, hyy⟩ : ∃ y, Hid ((updL (fun _ => 0) (x2.take k) (updL (· - 1) x0 ys)).getD j 0 = y) := ⟨_, rfl⟩
          rw [hyy.out] at hcy hyb
          have HN : Hid (OutR (wr.setCell ⟨g, j, none⟩ (.int .i64 (0))) g nm (updL (fun _ => 0) (x2.take (k + 1)) (updL (· - 1) x0 ys))) := by
            show OutR _ _ _ _
            rw [HU.out]; exact ho.out.set j (by omega) _
          have HBN := hide (hbw.out.setCell (p := ⟨g, j, none⟩) hg (.int .i64 (0)))
          clear ho hbw hh hcell hy hxm HU H1 hcs hle hyy
          go_wp2_with fail
          go_roundw
          case rel => exact ⟨k + 1, by omega, by go_num, HN, HBN⟩
          case measure => simp [intOf]; omega
        · have hk' : k = n2 := by omega
          subst hk'
          have HO2 : Hid (OutR wr g nm (updL (fun _ => 0) x2 (updL (· - 1) x0 ys))) := by have := ho.out; rwa [List.take_of_length_le (by have := R2.out.1; omega)] at this
          have HBV2 := hbw
          clear ho hbw HO HBV
          have HO := HO2
          have HBV := HBV2
          clear HO2 HBV2
          have hv1 := cell_of_row wr w.heap.size 1 _ _ _ (keep HV.out HBV.out)
          have hv2 := cell_of_row wr w.heap.size 2 _ _ _ (keep HV.out HBV.out)
          simp at hv1 hv2
          go_wp2_with fail
          go_loopw [42] (fun i wr => ∃ k : Nat, k ≤ n1 ∧ i = .int .i64 k ∧ Hid (OutR wr g nm (updL (· + 1) (x1.take k) (updL (fun _ => 0) x2 (updL (· - 1) x0 ys)))) ∧ Hid (Below v.heap.size v wr)) (fun i _ => n1 - (intOf i).toNat)
          case atStart => exact ⟨0, Nat.zero_le _, rfl, HO, HBV⟩
          case round =>
            obtain ⟨k, hk, rfl, ho, hbw⟩ := hrel
            by_cases hlt : k < n1
            · obtain ⟨b1, o1, x, rfl, hl1, hc1, H1⟩ := (R1.out.below hbw.out).at hlt
              have hxm := riseB_mem HR.out.2.1 x (List.mem_of_getElem? H1.out)
              obtain ⟨j, rfl⟩ : ∃ j : Nat, x = (j : Int) := ⟨x.toNat, by omega⟩
              have hjn : (j : Int) < (nm : Int) := by omega
              have HU := hide (updL_take (· + 1) x1 (updL (fun _ => 0) x2 (updL (· - 1) x0 ys)) k _ H1.out)
              rw [Int.toNat_natCast] at HU
              obtain ⟨hle, cur, hh, hcs, hcell⟩ := ho.out
              have hy := hcell j (by omega)
              have hfr := frozen_of_row wr g j cur _ hh
              have hcy := cell_of_row wr g j cur _ _ hh
              rw [hy] at hcy
              have hyb : -60 ≤ (updL (· + 1) (x1.take k) (updL (fun _ => 0) x2 (updL (· - 1) x0 ys))).getD j 0 ∧ (updL (· + 1) (x1.take k) (updL (fun _ => 0) x2 (updL (· - 1) x0 ys))).getD j 0 ≤ 60 := by
                have hb1 := updL_at (fun y => y - 1) (xs := x0) ys ((nm : Int) - 1) HR.out.1 (by have := hly.out; omega) j
                have hb2 := updL_at (fun _ => 0) (xs := x2) (updL (· - 1) x0 ys) ((nm : Int) - 1) HR.out.2.2 (by rw [updL_len]; have := hly.out; omega) j
                have hb3 := updL_at (fun y => y + 1) (xs := x1.take k) (updL (fun _ => 0) x2 (updL (· - 1) x0 ys)) ((nm : Int) - 1) (riseB_take (k := k) HR.out.2.1) (by rw [updL_len, updL_len]; have := hly.out; omega) j
                have := hys j
                rw [hb3, hb2, hb1]
                (repeat' split) <;> omega
              obtain ⟨y, hyy⟩ : ∃ y, Hid ((updL (· + 1) (x1.take k) (updL (fun _ => 0) x2 (updL (· - 1) x0 ys))).getD j 0 = y) := ⟨_, rfl⟩
              rw [hyy.out] at hcy hyb HU
              have HN : Hid (OutR (wr.setCell ⟨g, j, none⟩ (.int .i64 (y + 1))) g nm (updL (· + 1) (x1.take (k + 1)) (updL (fun _ => 0) x2 (updL (· - 1) x0 ys)))) := by
                show OutR _ _ _ _
                rw [HU.out]; exact ho.out.set j (by omega) _
              have HBN := hide (hbw.out.setCell (p := ⟨g, j, none⟩) hg (.int .i64 (y + 1)))
              clear ho hbw hh hcell hy hxm HU H1 hcs hle hyy
              go_wp2_with fail
              go_roundw
              case rel => exact ⟨k + 1, by omega, by go_num, HN, HBN⟩
              case measure => simp [intOf]; omega
            · have hk' : k = n1 := by omega
              subst hk'
              have HO2 : Hid (OutR wr g nm (updL (· + 1) x1 (updL (fun _ => 0) x2 (updL (· - 1) x0 ys)))) := by have := ho.out; rwa [List.take_of_length_le (by have := R1.out.1; omega)] at this
              have HBV2 := hbw
              clear ho hbw HO HBV
              have HO := HO2
              have HBV := HBV2
              clear HO2 HBV2
              have hv1 := cell_of_row wr w.heap.size 1 _ _ _ (keep HV.out HBV.out)
              have hv2 := cell_of_row wr w.heap.size 2 _ _ _ (keep HV.out HBV.out)
              simp at hv1 hv2
              go_wp2_with fail
              go_ret
              exact ⟨g, c, rfl, by have := HB.out.size; omega, HO.out, HB.out.trans (HBV.out.mono HB.out.size)⟩
end Go.Proofs.Ytbobppcnmpiacaa
