/- Contracts that the proof stands on, one behind the other. -/
import Derived.Test.YtdhnhpjcoeglmaaP2
import Derived.Deep.RegionHeld3
import Derived.Deep.MidRow
/- l2Fire and the specification's Fire, for every net and mark in memory. -/
namespace Go.Proofs.Ytdhnhpjcoeglmaa
open Go.RowKit

/-- The numbers at the places xs are changed by g, one behind the other. -/
def updL (g : Int → Int) (xs ys : List Int) : List Int := xs.foldl (fun l p => l.set p.toNat (g (l.getD p.toNat 0))) ys

theorem updL_snoc (g : Int → Int) (xs ys : List Int) (x : Int) : updL g (xs ++ [x]) ys = (updL g xs ys).set x.toNat (g ((updL g xs ys).getD x.toNat 0)) := by simp [updL, List.foldl_append]

theorem updL_take (g : Int → Int) (xs ys : List Int) (k : Nat) (x : Int) (h : xs[k]? = some x) : updL g (xs.take (k + 1)) ys = (updL g (xs.take k) ys).set x.toNat (g ((updL g (xs.take k) ys).getD x.toNat 0)) := by
  rw [List.take_add_one, h]; exact updL_snoc _ _ _ _

theorem updL_len (g : Int → Int) (xs ys : List Int) : (updL g xs ys).length = ys.length := by
  induction xs using snoc_ind with
  | h0 => rfl
  | h1 xs x ih => rw [updL_snoc, List.length_set, ih]

theorem riseB_snoc {xs : List Int} {x lo hi : Int} (h : riseB (xs ++ [x]) lo hi = true) : riseB xs lo hi = true ∧ x ∉ xs := by
  induction xs generalizing lo with
  | nil => exact ⟨rfl, by simp⟩
  | cons y r ih =>
    simp only [List.cons_append, riseB, Bool.and_eq_true, decide_eq_true_eq] at h ⊢
    obtain ⟨h1, h2⟩ := h
    have := ih h2
    refine ⟨⟨h1, this.1⟩, ?_⟩
    intro hm
    rcases List.mem_cons.mp hm with e | hm
    · have := riseB_mem h2 x (by simp); omega
    · exact this.2 hm

theorem updL_at (g : Int → Int) {xs : List Int} (ys : List Int) (hi : Int) (h : riseB xs 0 hi = true) (hl : hi < ys.length) (i : Nat) : (updL g xs ys).getD i 0 = if (i : Int) ∈ xs then g (ys.getD i 0) else ys.getD i 0 := by
  induction xs using snoc_ind with
  | h0 => simp [updL]
  | h1 xs x ih =>
    have hs := riseB_snoc h
    have hx := riseB_mem h x (by simp)
    have ih' := ih hs.1
    rw [updL_snoc, List.getD_eq_getElem?_getD, List.getElem?_set, updL_len]
    by_cases e : x.toNat = i
    · subst e
      rw [if_pos rfl, if_pos (by omega), ih', Int.toNat_of_nonneg hx.1, if_neg hs.2, if_pos (by simp)]
      rfl
    · rw [if_neg e, ← List.getD_eq_getElem?_getD, ih']
      have hne : (i : Int) ≠ x := by omega
      by_cases hm : (i : Int) ∈ xs
      · rw [if_pos hm, if_pos (by simp [hm])]
      · rw [if_neg hm, if_neg (by simp [hm, hne])]

theorem bound3 (g : Int → Int) {xs : List Int} (ys : List Int) (hi : Int) (h : riseB xs 0 hi = true) (hl : hi < ys.length) (i : Nat) (hb : -60 ≤ ys.getD i 0 ∧ ys.getD i 0 ≤ 60) (hg : -60 ≤ g (ys.getD i 0) ∧ g (ys.getD i 0) ≤ 60) : -60 ≤ (updL g xs ys).getD i 0 ∧ (updL g xs ys).getD i 0 ≤ 60 := by
  rw [updL_at g ys hi h hl i]; split
  · exact hg
  · exact hb

def fireL (x0 x1 x2 ys : List Int) : List Int := updL (· + 1) x1 (updL (fun _ => 0) x2 (updL (· - 1) x0 ys))

set_option maxHeartbeats 1000000 in
theorem fireS_any (a0 a1 a2 : Option Addr) (n0 n1 n2 c0 c1 c2 nm bm om cm : Nat) (x0 x1 x2 ys : List Int) (w : World) (r0 : Row w a0 n0 x0) (r1 : Row w a1 n1 x1) (r2 : Row w a2 n2 x2) (rm : Row w (some ⟨bm, om, none⟩) nm ys)
    (h0 : n0 ≤ 1048576) (h1 : n1 ≤ 1048576) (h2 : n2 ≤ 1048576) (hm : nm ≤ 16) (hr0 : riseB x0 0 ((nm : Int) - 1) = true) (hr1 : riseB x1 0 ((nm : Int) - 1) = true) (hr2 : riseB x2 0 ((nm : Int) - 1) = true) (hys : ∀ i, 0 ≤ ys.getD i 0 ∧ ys.getD i 0 ≤ 50) :
    Calls Try.prog 160 #[.agg #[.slice a0 n0 c0, .slice a1 n1 c1, .slice a2 n2 c2], .slice (some ⟨bm, om, none⟩) nm cm] w fun e w' => ∃ g c, e = .returned (.slice (some ⟨g, 0, none⟩) nm c) ∧ w.heap.size ≤ g ∧ OutR w' g nm (fireL x0 x1 x2 ys) ∧ Below w.heap.size w w' := by
  have hAl := below_al w (.cells #[.slice a0 n0 c0, .slice a1 n1 c1, .slice a2 n2 c2] 78)
  have R0 := hide (r0.below hAl)
  have R1 := hide (r1.below hAl)
  have R2 := hide (r2.below hAl)
  have RM := hide (rm.below hAl)
  have HB := hide hAl
  have HV := hide (heap_alloc_new w (.cells #[.slice a0 n0 c0, .slice a1 n1 c1, .slice a2 n2 c2] 78))
  clear r0 r1 r2 rm hAl
  go_enter Try.func160, Try.ntmps160
  go_wp2_with fail
  have HR := hide (And.intro hr0 (And.intro hr1 hr2))
  generalize w.alloc (.cells #[.slice a0 n0 c0, .slice a1 n1 c1, .slice a2 n2 c2] 78) = v at *
  refine (own_any _ _ _ _ ys _ RM.out (by omega)).mono ?_
  rintro e w1 ⟨g, c, rfl, hg, hc, hout, hb⟩
  have hly := hide hout.1
  have HBV := hide hb
  have HO := hide hout
  clear RM hout hb
  have hv0 := cell_of_row w1 w.heap.size 0 _ _ _ (keep HV.out HBV.out)
  simp at hv0
  go_wp2_with fail
  clear hv0
  go_loopw [17] (fun i wr => ∃ k : Nat, k ≤ n0 ∧ i = .int .i64 k ∧ Hid (OutR wr g nm (updL (· - 1) (x0.take k) ys)) ∧ Hid (Below v.heap.size v wr)) (fun i _ => n0 - (intOf i).toNat)
  case atStart => exact ⟨0, Nat.zero_le _, rfl, HO, HBV⟩
  case round =>
    obtain ⟨k, hk, rfl, ho, hbw⟩ := hrel
    by_cases hlt : k < n0
    · obtain ⟨b1, o1, x, rfl, hl1, hc1, H1⟩ := (R0.out.below hbw.out).at hlt
      have hxm := riseB_mem HR.out.1 x (List.mem_of_getElem? H1.out)
      obtain ⟨j, rfl⟩ : ∃ j : Nat, x = (j : Int) := ⟨x.toNat, by omega⟩
      have hjn : (j : Int) < (nm : Int) := by omega
      have HU := hide (updL_take (· - 1) x0 ys k _ H1.out)
      rw [Int.toNat_natCast] at HU
      obtain ⟨hle, cur, hh, hcs, hcell⟩ := ho.out
      have hy := hcell j (by omega)
      have hfr := frozen_of_row wr g j cur _ hh
      have hcy := cell_of_row wr g j cur _ _ hh
      rw [hy] at hcy
      have hyb : -60 ≤ (updL (· - 1) (x0.take k) ys).getD j 0 ∧ (updL (· - 1) (x0.take k) ys).getD j 0 ≤ 60 := bound3 (fun y => y - 1) ys ((nm : Int) - 1) (riseB_take (k := k) HR.out.1) (by have := hly.out; omega) j (by have := hys j; omega) (by have := hys j; omega)
      obtain ⟨y, hyy⟩ : ∃ y, Hid ((updL (· - 1) (x0.take k) ys).getD j 0 = y) := ⟨_, rfl⟩
      rw [hyy.out] at hcy hyb HU
      have HN : Hid (OutR (wr.setCell ⟨g, j, none⟩ (.int .i64 (y - 1))) g nm (updL (· - 1) (x0.take (k + 1)) ys)) := by
        show OutR _ _ _ _
        rw [HU.out]; exact ho.out.set j (by omega) _
      have HBN := hide (hbw.out.setCell (p := ⟨g, j, none⟩) hg (.int .i64 (y - 1)))
      clear ho hbw hh hcell hy hxm HU H1 hcs hle hyy
      go_wp2_with fail
      go_roundw
      case rel => exact ⟨k + 1, by omega, by go_num, HN, HBN⟩
      case measure => simp [intOf]; omega
    · have hk' : k = n0 := by omega
      subst hk'
      have HO2 : Hid (OutR wr g nm (updL (· - 1) x0 ys)) := by have := ho.out; rwa [List.take_of_length_le (by have := R0.out.1; omega)] at this
      have HBV2 := hbw
      clear ho hbw HO HBV
      have HO := HO2
      have HBV := HBV2
      clear HO2 HBV2
      have hv1 := cell_of_row wr w.heap.size 1 _ _ _ (keep HV.out HBV.out)
      have hv2 := cell_of_row wr w.heap.size 2 _ _ _ (keep HV.out HBV.out)
      simp at hv1 hv2
      go_wp2_with fail
      go_loopw [31] (fun i wr => ∃ k : Nat, k ≤ n2 ∧ i = .int .i64 k ∧ Hid (OutR wr g nm (updL (fun _ => 0) (x2.take k) (updL (· - 1) x0 ys))) ∧ Hid (Below v.heap.size v wr)) (fun i _ => n2 - (intOf i).toNat)
      case atStart => exact ⟨0, Nat.zero_le _, rfl, HO, HBV⟩
      case round =>
        obtain ⟨k, hk, rfl, ho, hbw⟩ := hrel
        by_cases hlt : k < n2
        · obtain ⟨b1, o1, x, rfl, hl1, hc1, H1⟩ := (R2.out.below hbw.out).at hlt
          have hxm := riseB_mem HR.out.2.2 x (List.mem_of_getElem? H1.out)
          obtain ⟨j, rfl⟩ : ∃ j : Nat, x = (j : Int) := ⟨x.toNat, by omega⟩
          have hjn : (j : Int) < (nm : Int) := by omega
          have HU := hide (updL_take (fun _ => 0) x2 (updL (· - 1) x0 ys) k _ H1.out)
          rw [Int.toNat_natCast] at HU
          obtain ⟨hle, cur, hh, hcs, hcell⟩ := ho.out
          have hy := hcell j (by omega)
          have hfr := frozen_of_row wr g j cur _ hh
          have hcy := cell_of_row wr g j cur _ _ hh
          rw [hy] at hcy
          have hyb : -60 ≤ (updL (fun _ => 0) (x2.take k) (updL (· - 1) x0 ys)).getD j 0 ∧ (updL (fun _ => 0) (x2.take k) (updL (· - 1) x0 ys)).getD j 0 ≤ 60 := by
            have hb1 := bound3 (fun y => y - 1) (xs := x0) ys ((nm : Int) - 1) HR.out.1 (by have := hly.out; omega) j (by have := hys j; omega) (by have := hys j; omega)
            exact bound3 (fun _ => 0) _ ((nm : Int) - 1) (riseB_take (k := k) HR.out.2.2) (by rw [updL_len]; have := hly.out; omega) j hb1 (by omega)
          obtain ⟨y, hyy⟩ : ∃ y, Hid ((updL (fun _ => 0) (x2.take k) (updL (· - 1) x0 ys)).getD j 0 = y) := ⟨_, rfl⟩
          rw [hyy.out] at hcy hyb
          have HN : Hid (OutR (wr.setCell ⟨g, j, none⟩ (.int .i64 (0))) g nm (updL (fun _ => 0) (x2.take (k + 1)) (updL (· - 1) x0 ys))) := by
            show OutR _ _ _ _
            rw [HU.out]; exact ho.out.set j (by omega) _
          have HBN := hide (hbw.out.setCell (p := ⟨g, j, none⟩) hg (.int .i64 (0)))
          clear ho hbw hh hcell hy hxm HU H1 hcs hle hyy
          go_wp2_with fail
          go_roundw
          case rel => exact ⟨k + 1, by omega, by go_num, HN, HBN⟩
          case measure => simp [intOf]; omega
        · have hk' : k = n2 := by omega
          subst hk'
          have HO2 : Hid (OutR wr g nm (updL (fun _ => 0) x2 (updL (· - 1) x0 ys))) := by have := ho.out; rwa [List.take_of_length_le (by have := R2.out.1; omega)] at this
          have HBV2 := hbw
          clear ho hbw HO HBV
          have HO := HO2
          have HBV := HBV2
          clear HO2 HBV2
          have hv1 := cell_of_row wr w.heap.size 1 _ _ _ (keep HV.out HBV.out)
          have hv2 := cell_of_row wr w.heap.size 2 _ _ _ (keep HV.out HBV.out)
          simp at hv1 hv2
          go_wp2_with fail
          go_loopw [42] (fun i wr => ∃ k : Nat, k ≤ n1 ∧ i = .int .i64 k ∧ Hid (OutR wr g nm (updL (· + 1) (x1.take k) (updL (fun _ => 0) x2 (updL (· - 1) x0 ys)))) ∧ Hid (Below v.heap.size v wr)) (fun i _ => n1 - (intOf i).toNat)
          case atStart => exact ⟨0, Nat.zero_le _, rfl, HO, HBV⟩
          case round =>
            obtain ⟨k, hk, rfl, ho, hbw⟩ := hrel
            by_cases hlt : k < n1
            · obtain ⟨b1, o1, x, rfl, hl1, hc1, H1⟩ := (R1.out.below hbw.out).at hlt
              have hxm := riseB_mem HR.out.2.1 x (List.mem_of_getElem? H1.out)
              obtain ⟨j, rfl⟩ : ∃ j : Nat, x = (j : Int) := ⟨x.toNat, by omega⟩
              have hjn : (j : Int) < (nm : Int) := by omega
              have HU := hide (updL_take (· + 1) x1 (updL (fun _ => 0) x2 (updL (· - 1) x0 ys)) k _ H1.out)
              rw [Int.toNat_natCast] at HU
              obtain ⟨hle, cur, hh, hcs, hcell⟩ := ho.out
              have hy := hcell j (by omega)
              have hfr := frozen_of_row wr g j cur _ hh
              have hcy := cell_of_row wr g j cur _ _ hh
              rw [hy] at hcy
              have hyb : -60 ≤ (updL (· + 1) (x1.take k) (updL (fun _ => 0) x2 (updL (· - 1) x0 ys))).getD j 0 ∧ (updL (· + 1) (x1.take k) (updL (fun _ => 0) x2 (updL (· - 1) x0 ys))).getD j 0 ≤ 60 := by
                have hb1 := updL_at (fun y => y - 1) (xs := x0) ys ((nm : Int) - 1) HR.out.1 (by have := hly.out; omega) j
                have hb2 := updL_at (fun _ => 0) (xs := x2) (updL (· - 1) x0 ys) ((nm : Int) - 1) HR.out.2.2 (by rw [updL_len]; have := hly.out; omega) j
                have hb3 := updL_at (fun y => y + 1) (xs := x1.take k) (updL (fun _ => 0) x2 (updL (· - 1) x0 ys)) ((nm : Int) - 1) (riseB_take (k := k) HR.out.2.1) (by rw [updL_len, updL_len]; have := hly.out; omega) j
                have := hys j
                rw [hb3, hb2, hb1]
                (repeat' split) <;> omega
              obtain ⟨y, hyy⟩ : ∃ y, Hid ((updL (· + 1) (x1.take k) (updL (fun _ => 0) x2 (updL (· - 1) x0 ys))).getD j 0 = y) := ⟨_, rfl⟩
              rw [hyy.out] at hcy hyb HU
              have HN : Hid (OutR (wr.setCell ⟨g, j, none⟩ (.int .i64 (y + 1))) g nm (updL (· + 1) (x1.take (k + 1)) (updL (fun _ => 0) x2 (updL (· - 1) x0 ys)))) := by
                show OutR _ _ _ _
                rw [HU.out]; exact ho.out.set j (by omega) _
              have HBN := hide (hbw.out.setCell (p := ⟨g, j, none⟩) hg (.int .i64 (y + 1)))
              clear ho hbw hh hcell hy hxm HU H1 hcs hle hyy
              go_wp2_with fail
              go_roundw
              case rel => exact ⟨k + 1, by omega, by go_num, HN, HBN⟩
              case measure => simp [intOf]; omega
            · have hk' : k = n1 := by omega
              subst hk'
              have HO2 : Hid (OutR wr g nm (updL (· + 1) x1 (updL (fun _ => 0) x2 (updL (· - 1) x0 ys)))) := by have := ho.out; rwa [List.take_of_length_le (by have := R1.out.1; omega)] at this
              have HBV2 := hbw
              clear ho hbw HO HBV
              have HO := HO2
              have HBV := HBV2
              clear HO2 HBV2
              have hv1 := cell_of_row wr w.heap.size 1 _ _ _ (keep HV.out HBV.out)
              have hv2 := cell_of_row wr w.heap.size 2 _ _ _ (keep HV.out HBV.out)
              simp at hv1 hv2
              go_wp2_with fail
              go_ret
              exact ⟨g, c, rfl, by have := HB.out.size; omega, HO.out, HB.out.trans (HBV.out.mono HB.out.size)⟩
end Go.Proofs.Ytdhnhpjcoeglmaa


/- What tokensOf and both GoodMarks answer, for every number of places and every list: true just where the places are in 1..16, the list is as long, and each of its numbers is in 0..50; nothing that was there is written. -/
namespace Go.Proofs.Ytdhnhpjcoeglmaa
open Go.RowKit

theorem goodB_of {p : Int} {n : Nat} {xs : List Int} (hl : xs.length = n) (hp : inB p 1 16 = true) (hn : (n : Int) = p) : goodB p xs = allB xs 0 50 := by
  simp [goodB, hp, hl, hn]

theorem goodB_p {p : Int} {xs : List Int} (hp : inB p 1 16 = false) : goodB p xs = false := by simp [goodB, hp]

theorem goodB_n {p : Int} {n : Nat} {xs : List Int} (hl : xs.length = n) (hn : ¬ (n : Int) = p) : goodB p xs = false := by
  simp [goodB, hl, hn]

theorem inB_le {p : Int} {n : Nat} (hp : inB p 1 16 = true) (hn : (n : Int) = p) : 1 ≤ n ∧ n ≤ 16 := by
  simp [inB] at hp; omega

set_option maxHeartbeats 400000 in
theorem tokens_any (p : Int) (a : Option Addr) (n ca : Nat) (xs : List Int) (w : World) (ha : Row w a n xs) (_hn : n ≤ 1048576) :
    Calls Try.prog 112 #[.int .i64 p, .slice a n ca] w fun e w' => TokEnd (goodB p xs) xs n w e w' := by
  by_cases hp : inB p 1 16 = true
  · by_cases hnp : (n : Int) = p
    · exact tokens_run _ p a n ca xs w ha hp hnp (inB_le hp hnp).2 (goodB_of ha.1 hp hnp)
    · have hd : ((n : Int) != p) = true := by simp [hnp]
      have HG : Hid (goodB p xs = false) := goodB_n ha.1 hnp
      clear hnp ha
      go_enter Try.func112, Try.ntmps112
      go_wp2_with (go_at_call 140; refine (goodPlaces_any _ _).mono ?_; rintro e w' ⟨rfl, rfl⟩)
      exact bodyPost_ret (v := .tuple #[.agg #[.int .u8 0, .int .u8 0, .int .u8 0, .int .u8 0, .int .u8 0, .int .u8 0, .int .u8 0, .int .u8 0, .int .u8 0, .int .u8 0, .int .u8 0, .int .u8 0, .int .u8 0, .int .u8 0, .int .u8 0, .int .u8 0], .bool false]) (by simp [results, Try.results112, go_sem]) rfl (tokEnd_no HG.out (below_two _ _ _))
  · have hp' : inB p 1 16 = false := by simpa using hp
    have HG : Hid (goodB p xs = false) := goodB_p hp'
    clear hp ha
    go_enter Try.func112, Try.ntmps112
    go_wp2_with (go_at_call 140; refine (goodPlaces_any _ _).mono ?_; rintro e w' ⟨rfl, rfl⟩)
    exact bodyPost_ret (v := .tuple #[.agg #[.int .u8 0, .int .u8 0, .int .u8 0, .int .u8 0, .int .u8 0, .int .u8 0, .int .u8 0, .int .u8 0, .int .u8 0, .int .u8 0, .int .u8 0, .int .u8 0, .int .u8 0, .int .u8 0, .int .u8 0, .int .u8 0], .bool false]) (by simp [results, Try.results112, go_sem]) rfl (tokEnd_no HG.out (below_two _ _ _))

/-- A call that answers a bool and writes into nothing that was there. -/
def BoolEnd (b : Bool) (w : World) (e : Ending) (w' : World) : Prop := e = .returned (.bool b) ∧ Below w.heap.size w w'

set_option maxHeartbeats 400000 in
theorem goodI_any (p : Int) (a : Option Addr) (n ca : Nat) (xs : List Int) (w : World) (ha : Row w a n xs) (hn : n ≤ 1048576) :
    Calls Try.prog 92 #[.int .i64 p, .slice a n ca] w fun e w' => BoolEnd (goodB p xs) w e w' := by
  obtain ⟨g, hg⟩ : ∃ g, Hid (goodB p xs = g) := ⟨_, rfl⟩
  have ht := tokens_any p a n ca xs w ha hn
  rw [hg.out] at ht ⊢
  have HT := hide ht
  clear ht ha hg hn
  go_enter Try.func92, Try.ntmps92
  go_wp2_with (first
    | (go_at_call 112; refine HT.out.mono ?_; rintro e w1 ⟨m, rfl, hm, hb1⟩; have hg0 := heap_alloc_new w1 (.cells #[.int .u8 0, .int .u8 0, .int .u8 0, .int .u8 0, .int .u8 0, .int .u8 0, .int .u8 0, .int .u8 0, .int .u8 0, .int .u8 0, .int .u8 0, .int .u8 0, .int .u8 0, .int .u8 0, .int .u8 0, .int .u8 0] 93))
    | refine wpList_store_row rfl 93 _ _ rfl _ _ rfl rfl 93 _ (by assumption) (by rw [packOf_size]; exact Try.size93) (by rw [packOf_size]; rfl) (packOf_one _ _) ?_)
  go_ret
  exact ⟨rfl, below_setRow (hb1.alloc hb1.size _) _ hb1.size _⟩

def AllUpto (xs : List Int) (lo hi : Int) (k : Nat) : Prop := allB (xs.take k) lo hi = true

theorem AllUpto.step {xs : List Int} {lo hi : Int} {k : Nat} {x : Int} (h : AllUpto xs lo hi k) (hx : Hid (xs[k]? = some x)) (hi' : inB x lo hi = true) : AllUpto xs lo hi (k + 1) := by
  unfold AllUpto allB at *
  rw [List.take_add_one, hx.out, List.all_append, h]
  simp [hi']

theorem AllUpto.done {xs : List Int} {lo hi : Int} {n : Nat} (h : AllUpto xs lo hi n) (hl : xs.length = n) : allB xs lo hi = true := by
  unfold AllUpto at h
  rwa [List.take_of_length_le (by omega)] at h

theorem allB_no {xs : List Int} {lo hi : Int} {k : Nat} {x : Int} (hx : Hid (xs[k]? = some x)) (hi' : inB x lo hi = false) : allB xs lo hi = false := by
  unfold allB
  rw [List.all_eq_false]
  exact ⟨x, List.mem_of_getElem? hx.out, by simp [hi']⟩

set_option maxHeartbeats 400000 in
theorem allG_any (a : Option Addr) (n ca : Nat) (xs : List Int) (lo hi : Int) (w : World) (ha : Row w a n xs) (hn : n ≤ 1048576) :
    Calls Try.prog 106 #[.slice a n ca, .int .i64 lo, .int .i64 hi] w fun e w' => e = .returned (.bool (allB xs lo hi)) ∧ w' = w := by
  go_enter Try.func106, Try.ntmps106
  go_wp2
  go_loop [11] (fun i => ∃ k : Nat, k ≤ n ∧ i = .int .i64 k ∧ AllUpto xs lo hi k) (fun i => n - (intOf i).toNat)
  case atStart => exact ⟨0, Nat.zero_le _, rfl, rfl⟩
  case round =>
    obtain ⟨k, hk, rfl, hu⟩ := hrel
    by_cases hlt : k < n
    · obtain ⟨b1, o1, x, rfl, hl1, hc1, H1⟩ := ha.at hlt
      clear ha
      by_cases hi' : inB x lo hi = true
      · have HU := hu.step H1 hi'
        clear hu H1
        go_wp2_with (go_at_call 74; refine (in_any _ _ _ _).mono ?_; rintro e w' ⟨rfl, rfl⟩)
        go_round
        case rel => exact ⟨k + 1, by omega, by go_num, HU⟩
        case measure => simp [intOf]; omega
      · have hi'' : inB x lo hi = false := by simpa using hi'
        have HA := hide (allB_no H1 hi'')
        clear hu H1 hi'
        go_wp2_with (go_at_call 74; refine (in_any _ _ _ _).mono ?_; rintro e w' ⟨rfl, rfl⟩)
        go_ret
        exact ⟨ret_bool HA.out.symm, rfl⟩
    · have hk' : k = n := by omega
      subst hk'
      have HA := hide (hu.done ha.1)
      go_wp2
      go_ret
      exact ⟨ret_bool HA.out.symm, rfl⟩

set_option maxHeartbeats 400000 in
theorem goodS_any (p : Int) (a : Option Addr) (n ca : Nat) (xs : List Int) (w : World) (ha : Row w a n xs) (hn : n ≤ 1048576) :
    Calls Try.prog 95 #[.int .i64 p, .slice a n ca] w fun e w' => e = .returned (.bool (goodB p xs)) ∧ w' = w := by
  by_cases hp : inB p 1 16 = true
  · by_cases hnp : (n : Int) = p
    · have hd : ((n : Int) == p) = true := by simp [hnp]
      have HG := hide (goodB_of ha.1 hp hnp)
      have HA := hide (allG_any a n ca xs 0 50 w ha hn)
      clear hnp ha
      go_enter Try.func95, Try.ntmps95
      go_wp2_with (first
        | (go_at_call 133; refine (places_any _ _).mono ?_; rintro e w' ⟨rfl, rfl⟩)
        | (go_at_call 106; refine HA.out.mono ?_; rintro e w' ⟨rfl, rfl⟩))
      go_ret
      exact ⟨ret_bool HG.out.symm, rfl⟩
    · have hd : ((n : Int) == p) = false := by simp [hnp]
      have HG := hide (goodB_n ha.1 hnp)
      clear hnp ha
      go_enter Try.func95, Try.ntmps95
      go_wp2_with (go_at_call 133; refine (places_any _ _).mono ?_; rintro e w' ⟨rfl, rfl⟩)
      go_ret
      exact ⟨ret_bool HG.out.symm, rfl⟩
  · have hp' : inB p 1 16 = false := by simpa using hp
    have HG := hide (goodB_p (xs := xs) hp')
    clear hp ha
    go_enter Try.func95, Try.ntmps95
    go_wp2_with (go_at_call 133; refine (places_any _ _).mono ?_; rintro e w' ⟨rfl, rfl⟩)
    go_ret
    exact ⟨ret_bool HG.out.symm, rfl⟩
end Go.Proofs.Ytdhnhpjcoeglmaa


/- l2Marked and the specification's Fire, for every net, mark and number in memory. -/
namespace Go.Proofs.Ytdhnhpjcoeglmaa
open Go.RowKit

theorem goodB_parts {p : Int} {ys : List Int} (h : goodB p ys = true) : (1 ≤ p ∧ p ≤ 16) ∧ (ys.length : Int) = p ∧ ∀ i, 0 ≤ ys.getD i 0 ∧ ys.getD i 0 ≤ 50 := by
  unfold goodB at h
  simp only [Bool.and_eq_true, decide_eq_true_eq] at h
  obtain ⟨⟨h1, h2⟩, h3⟩ := h
  refine ⟨by simpa [inB] using h1, h2, fun i => ?_⟩
  by_cases hi : i < ys.length
  · unfold allB at h3
    rw [List.all_eq_true] at h3
    have := h3 (ys.getD i 0) (by rw [List.getD_eq_getElem?_getD, List.getElem?_eq_getElem hi]; simp)
    simpa [inB] using this
  · rw [List.getD_eq_getElem?_getD, List.getElem?_eq_none (by omega)]; simp

set_option maxHeartbeats 400000 in
theorem marked_any (p : Int) (a am : Option Addr) (n c nm cm : Nat) (L : List (List Int)) (ys : List Int) (w : World) (h : Lists w a (3 * n) L) (rm : Row w am nm ys) (hs : sizeN n L ≤ 1048576) (hnm : nm ≤ 1048576) :
    Calls Try.prog 158 #[.agg #[.int .i64 p, .slice a n c], .slice am nm cm] w fun e w' => e = .returned (.bool (netOk p n L && goodB p ys)) ∧ Below w.heap.size w w' := by
  have hAl := below_al w (.cells #[.int .i64 p, .slice a n c] 26)
  have PAR := hide (heap_alloc_new w (.cells #[.int .i64 p, .slice a n c] 26))
  have HG := hide (goodNetS_any p a n c L _ (h.below hAl) hs)
  have RM := hide (rm.below hAl)
  have HB0 := hide hAl
  clear h rm hAl
  by_cases hg : netOk p n L = true
  · rw [hg] at HG
    rw [hg, Bool.true_and]
    clear hg
    go_enter Try.func158, Try.ntmps158
    go_wp2_with fail
    refine HG.out.mono ?_
    rintro e w1 ⟨rfl, hb⟩
    obtain ⟨hc0, hc1⟩ := cells2 (keep PAR.out hb)
    have HM := hide (goodS_any p am nm cm ys w1 (RM.out.below hb) hnm)
    have HB1 := hide (HB0.out.trans (hb.mono HB0.out.size))
    clear hb HG PAR HB0 RM
    go_wp2_with fail
    refine HM.out.mono ?_
    rintro e w2 ⟨rfl, rfl⟩
    obtain ⟨g, hgg⟩ : ∃ g, Hid (goodB p ys = g) := ⟨_, rfl⟩
    rw [hgg.out]
    go_wp2_with fail
    go_ret
    exact ⟨ret_bool hgg.out.symm, HB1.out⟩
  · have hg' : netOk p n L = false := by simpa using hg
    rw [hg'] at HG
    rw [hg', Bool.false_and]
    clear hg hg'
    go_enter Try.func158, Try.ntmps158
    go_wp2_with fail
    refine HG.out.mono ?_
    rintro e w1 ⟨rfl, hb⟩
    have HB1 := hide (HB0.out.trans (hb.mono HB0.out.size))
    clear hb HG
    go_wp2_with fail
    go_ret
    exact ⟨rfl, HB1.out⟩

/-- The lists of a transition, by its number. -/
def inOf (L : List (List Int)) (t : Int) : List Int := L.getD (3 * t.toNat) []
def outOf (L : List (List Int)) (t : Int) : List Int := L.getD (3 * t.toNat + 1) []
def resOf (L : List (List Int)) (t : Int) : List Int := L.getD (3 * t.toNat + 2) []

def firedL (L : List (List Int)) (ys : List Int) (t : Int) : List Int := fireL (inOf L t) (outOf L t) (resOf L t) ys

def fireOk (p : Int) (n : Nat) (L : List (List Int)) (ys : List Int) (t : Int) : Bool :=
  netOk p n L && goodB p ys && inB t 0 ((n : Int) - 1) && canB (inOf L t) ys && goodB p (firedL L ys t)

def fireR (p : Int) (n : Nat) (L : List (List Int)) (ys : List Int) (t : Int) : List Int := if fireOk p n L ys t then firedL L ys t else []

/-- A list and a bool; nothing that was there is written. -/
def REnd (g : Bool) (r : List Int) (w : World) (e : Ending) (w' : World) : Prop := ∃ a n c, e = .returned (.tuple #[.slice a n c, .bool g]) ∧ Row w' a n r ∧ Below w.heap.size w w'

theorem rend_no {p : Int} {n : Nat} {L : List (List Int)} {ys : List Int} {t : Int} {w w' : World} (h : fireOk p n L ys t = false) (hb : Below w.heap.size w w') : REnd (fireOk p n L ys t) (fireR p n L ys t) w (.returned (.tuple #[.slice none 0 0, .bool false])) w' := by
  refine ⟨none, 0, 0, by rw [h], ⟨?_, .inl rfl⟩, hb⟩
  unfold fireR; rw [h]; rfl

theorem rend_yes {p : Int} {n : Nat} {L : List (List Int)} {ys : List Int} {t : Int} {w w' : World} {a : Option Addr} {m c : Nat} (h : fireOk p n L ys t = true) (hr : Row w' a m (firedL L ys t)) (hb : Below w.heap.size w w') : REnd (fireOk p n L ys t) (fireR p n L ys t) w (.returned (.tuple #[.slice a m c, .bool true])) w' := by
  refine ⟨a, m, c, by rw [h], ?_, hb⟩
  unfold fireR; rw [h]; exact hr

theorem fireOk_no1 {p : Int} {n : Nat} {L : List (List Int)} {ys : List Int} {t : Int} (h : (netOk p n L && goodB p ys) = false) : fireOk p n L ys t = false := by unfold fireOk; rw [h]; rfl
theorem fireOk_no2 {p : Int} {n : Nat} {L : List (List Int)} {ys : List Int} {t : Int} (h : inB t 0 ((n : Int) - 1) = false) : fireOk p n L ys t = false := by unfold fireOk; rw [h]; simp
theorem fireOk_no3 {p : Int} {n : Nat} {L : List (List Int)} {ys : List Int} {t : Int} (h : canB (inOf L t) ys = false) : fireOk p n L ys t = false := by unfold fireOk; rw [h]; simp
theorem fireOk_no4 {p : Int} {n : Nat} {L : List (List Int)} {ys : List Int} {t : Int} (h : goodB p (firedL L ys t) = false) : fireOk p n L ys t = false := by unfold fireOk; rw [h]; simp
theorem fireOk_yes {p : Int} {n : Nat} {L : List (List Int)} {ys : List Int} {t : Int} (h : (netOk p n L && goodB p ys) = true) (h2 : inB t 0 ((n : Int) - 1) = true) (h3 : canB (inOf L t) ys = true) (h4 : goodB p (firedL L ys t) = true) : fireOk p n L ys t = true := by
  unfold fireOk; rw [h, h2, h3, h4]; rfl

theorem triOkOf {p : Int} {n i : Nat} {L : List (List Int)} (h : netOk p n L = true) (hi : i < n) : triOk p L i = true := by
  unfold netOk at h
  rw [Bool.and_eq_true] at h
  exact List.all_eq_true.mp h.2 i (by simpa using hi)

theorem tri_rise {p : Int} {L : List (List Int)} {i : Nat} (h : triOk p L i = true) : riseB (L.getD (3 * i) []) 0 (p - 1) = true ∧ riseB (L.getD (3 * i + 1) []) 0 (p - 1) = true ∧ riseB (L.getD (3 * i + 2) []) 0 (p - 1) = true := by
  unfold triOk at h
  simp only [Bool.and_eq_true] at h
  exact ⟨h.1.1.2, h.1.2, h.2⟩

theorem netOkN {p : Int} {n : Nat} {L : List (List Int)} (h : netOk p n L = true) : n ≤ 24 := by
  unfold netOk at h; simp at h; exact h.1.2

set_option maxHeartbeats 2000000 in
theorem specFire_any (p : Int) (a am : Option Addr) (n c nm cm : Nat) (L : List (List Int)) (ys : List Int) (t : Int) (w : World) (h : Lists w a (3 * n) L) (rm : Row w am nm ys) (hs : sizeN n L ≤ 1048576) (hnm : nm ≤ 1048576) :
    Calls Try.prog 166 #[.agg #[.int .i64 p, .slice a n c], .slice am nm cm, .int .i64 t] w fun e w' => REnd (fireOk p n L ys t) (fireR p n L ys t) w e w' := by
  have hAl := below_al w (.cells #[.int .i64 p, .slice a n c] 26)
  have PAR := hide (heap_alloc_new w (.cells #[.int .i64 p, .slice a n c] 26))
  have HG := hide (marked_any p a am n c nm cm L ys _ (h.below hAl) (rm.below hAl) hs hnm)
  have HL := hide (h.below hAl)
  have RM := hide (rm.below hAl)
  have HB0 := hide hAl
  clear h rm hAl
  have hs' : n + sizeL L ≤ 1048576 := hs
  go_enter Try.func166, Try.ntmps166
  go_wp2_with fail
  generalize w.alloc (.cells #[.int .i64 p, .slice a n c] 26) = v at *
  refine HG.out.mono ?_
  rintro e w1 ⟨rfl, hb⟩
  have PAR1 := hide (keep PAR.out hb)
  have HL1 := hide (HL.out.below hb)
  have RM1 := hide (RM.out.below hb)
  have HB1 := hide (HB0.out.trans (hb.mono HB0.out.size))
  obtain ⟨hc0, hc1⟩ := cells2 PAR1.out
  clear HG PAR HL RM HB0 hb v
  by_cases g1 : (netOk p n L && goodB p ys) = true
  rotate_left
  · have g1' : (netOk p n L && goodB p ys) = false := by simpa using g1
    have HN := hide (rend_no (w := w) (fireOk_no1 (t := t) g1') HB1.out)
    rw [g1']
    clear g1 g1'
    go_wp2_with fail
    go_ret2
    exact HN.out
  rw [g1]
  have HG1 := hide g1
  have hgg := g1
  rw [Bool.and_eq_true] at hgg
  have hn24 := netOkN hgg.1
  obtain ⟨⟨hp1, hp2⟩, hyl, hyb⟩ := goodB_parts hgg.2
  have hlm := RM1.out.1
  have HNET := hide hgg.1
  clear g1 hgg
  by_cases g2 : inB t 0 ((n : Int) - 1) = true
  rotate_left
  · have g2' : inB t 0 ((n : Int) - 1) = false := by simpa using g2
    have HN := hide (rend_no (w := w) (fireOk_no2 (p := p) (L := L) (ys := ys) g2') HB1.out)
    clear g2
    go_wp2_with (go_at_call 74; refine (in_any _ _ _ _).mono ?_; rintro e w' ⟨rfl, rfl⟩)
    go_ret2
    exact HN.out
  have ht : 0 ≤ t ∧ t ≤ (n : Int) - 1 := by simpa [inB] using g2
  have HG2 := hide g2
  obtain ⟨k, rfl⟩ : ∃ k : Nat, t = (k : Int) := ⟨t.toNat, by omega⟩
  have hkn : k < n := by omega
  have hkn' : (k : Int) < (n : Int) := by omega
  have hk0 : (0 : Int) ≤ (k : Int) := by omega
  obtain ⟨b, off, a0, n0, e0, a1, n1, e1, a2, n2, e2, rfl, hb, hr, m0, m1, m2, r0, r1, r2⟩ := HL1.out.tri hkn
  obtain ⟨hd0, hd1, hd2⟩ := rangeAt_cells3 hr
  have htri := tri_rise (triOkOf HNET.out hkn)
  obtain ⟨x0, hx0⟩ : ∃ x, Hid (L.getD (3 * k) [] = x) := ⟨_, rfl⟩
  obtain ⟨x1, hx1⟩ : ∃ x, Hid (L.getD (3 * k + 1) [] = x) := ⟨_, rfl⟩
  obtain ⟨x2, hx2⟩ : ∃ x, Hid (L.getD (3 * k + 2) [] = x) := ⟨_, rfl⟩
  have hl0 := len_le L (3 * k)
  have hl1 := len_le L (3 * k + 1)
  have hl2 := len_le L (3 * k + 2)
  rw [hx0.out] at r0 hl0 htri
  rw [hx1.out] at r1 hl1 htri
  rw [hx2.out] at r2 hl2 htri
  have q0 : n0 ≤ 1048576 := by have := r0.1; omega
  have q1 : n1 ≤ 1048576 := by have := r1.1; omega
  have q2 : n2 ≤ 1048576 := by have := r2.1; omega
  have hnmp : (nm : Int) = p := by omega
  have RR := hide (And.intro r0 (And.intro r1 r2))
  have HTR := hide htri
  have HIN : Hid (∀ x ∈ x0, 0 ≤ x ∧ x < (nm : Int)) := fun x hx => by have := riseB_mem htri.1 x hx; omega
  have HI0 : Hid (inOf L (k : Int) = x0) := hx0.out
  have HF0 : Hid (firedL L ys (k : Int) = fireL x0 x1 x2 ys) := by show fireL _ _ _ _ = _; unfold inOf outOf resOf; rw [Int.toNat_natCast, hx0.out, hx1.out, hx2.out]
  have HC := hide (can_any a0 a1 a2 am n0 n1 n2 e0 e1 e2 nm cm x0 ys w1 r0 RM1.out q0 HIN.out)
  clear hr r0 r1 r2 hl0 hl1 hl2 htri m0 m1 m2 hx0 hx1 hx2
  obtain ⟨bm, om, rfl⟩ : ∃ bm om, am = some ⟨bm, om, none⟩ := by
    obtain ⟨bm, om, y, he, _⟩ := RM1.out.at (show 0 < nm by omega)
    exact ⟨bm, om, he⟩
  go_wp2_with (go_at_call 74; refine (in_any _ _ _ _).mono ?_; rintro e w' ⟨rfl, rfl⟩)
  refine HC.out.mono ?_
  rintro e w2 ⟨rfl, hb2⟩
  have PAR2 := hide (keep PAR1.out hb2)
  have HB2 := hide (HB1.out.trans (hb2.mono HB1.out.size))
  obtain ⟨hc0, hc1⟩ := cells2 PAR2.out
  by_cases g3 : canB x0 ys = true
  rotate_left
  · have g3' : canB x0 ys = false := by simpa using g3
    have HN := hide (rend_no (w := w) (fireOk_no3 (p := p) (n := n) (L := L) (ys := ys) (t := (k : Int)) (by rw [HI0.out]; exact g3')) HB2.out)
    rw [g3']
    clear g3 g3' hb2
    go_wp2_with fail
    go_ret2
    exact HN.out
  rw [g3]
  have HG3 : Hid (canB (inOf L (k : Int)) ys = true) := by show _ = _; rw [HI0.out]; exact g3
  obtain ⟨_, _, f0, u0, i0, f1, u1, i1, f2, u2, i2, he, _, hr2, _, _, _, _, _, _⟩ := (HL1.out.below hb2).tri hkn
  have hq0 := hb2.cell (p := ⟨b, off + k * 3, none⟩) hb
  have hq1 := hb2.cell (p := ⟨b, off + k * 3 + 1, none⟩) hb
  have hq2 := hb2.cell (p := ⟨b, off + k * 3 + 2, none⟩) hb
  rw [hd0] at hq0
  rw [hd1] at hq1
  rw [hd2] at hq2
  have HFI := hide (fireS_any a0 a1 a2 n0 n1 n2 e0 e1 e2 nm bm om cm x0 x1 x2 ys w2 (RR.out.1.below hb2) (RR.out.2.1.below hb2) (RR.out.2.2.below hb2) (RM1.out.below hb2) q0 q1 q2 (by omega) (by rw [hnmp]; exact HTR.out.1) (by rw [hnmp]; exact HTR.out.2.1) (by rw [hnmp]; exact HTR.out.2.2) hyb)
  clear g3 hr2 he hb2 hd0 hd1 hd2 HC
  go_wp2_with fail
  refine HFI.out.mono ?_
  rintro e w3 ⟨g, cg, rfl, hg, hout, hb3⟩
  have PAR3 := hide (keep PAR2.out hb3)
  have HB3 := hide (HB2.out.trans (hb3.mono HB2.out.size))
  obtain ⟨hc0, hc1⟩ := cells2 PAR3.out
  have HM := hide (goodS_any p (some ⟨g, 0, none⟩) nm cg (fireL x0 x1 x2 ys) w3 hout.row hnm)
  have HOUT := hide hout.row
  clear hb3 hq0 hq1 hq2 HFI hout
  go_wp2_with fail
  refine HM.out.mono ?_
  rintro e w4 ⟨rfl, rfl⟩
  by_cases g4 : goodB p (fireL x0 x1 x2 ys) = true
  rotate_left
  · have g4' : goodB p (fireL x0 x1 x2 ys) = false := by simpa using g4
    have HN := hide (rend_no (w := w) (fireOk_no4 (p := p) (n := n) (L := L) (ys := ys) (t := (k : Int)) (by rw [HF0.out]; exact g4')) HB3.out)
    rw [g4']
    clear g4 g4'
    go_wp2_with fail
    go_ret2
    exact HN.out
  have HY : Hid (REnd (fireOk p n L ys (k : Int)) (fireR p n L ys (k : Int)) w (.returned (.tuple #[.slice (some ⟨g, 0, none⟩) nm cg, .bool true])) w4) :=
    rend_yes (fireOk_yes HG1.out HG2.out HG3.out (by rw [HF0.out]; exact g4)) (by rw [HF0.out]; exact HOUT.out) HB3.out
  rw [g4]
  clear g4
  go_wp2_with fail
  go_ret2
  exact HY.out
end Go.Proofs.Ytdhnhpjcoeglmaa


/- What bothTokensOf answers, for every number of places and every two lists: both arrays and true where both are good marks, else false; nothing that was there is written. -/
namespace Go.Proofs.Ytdhnhpjcoeglmaa
open Go.RowKit

def tokL (f : Nat → Int) : List Value := (tokF f).toList

theorem tokL_len (f : Nat → Int) : (tokL f).length = 16 := by simp [tokL, tokF_size]
theorem tokL_arr (f : Nat → Int) : (tokL f).toArray = tokF f := by simp [tokL]
theorem tokL_one (f : Nat → Int) : ∀ v ∈ tokL f, v.oneCell' = true := by
  intro v hv
  exact Array.all_eq_true_iff_forall_mem.1 (tokF_one f) v (by simpa [tokL] using hv)

theorem range_of_block {w : World} {b : Nat} {f : Nat → Int} {t : TypeId} {fr : Nat × Nat} (hb : w.heap[b]? = some (.cells (tokF f) t fr)) : w.rangeAt b 0 (tokL f) := by
  intro j v hv
  rw [cell_of_row w b (0 + j) _ t fr hb, Nat.zero_add]
  simpa [tokL] using hv

theorem there_of_block {w : World} {b : Nat} {C : Array Value} {t : TypeId} (hb : w.heap[b]? = some (.cells C t (0, 0))) (hs : C.size = 16) : w.there b 0 16 := by
  intro j hj
  refine ⟨?_, frozen_of_row w b _ C t hb⟩
  rw [cell_of_row w b (0 + j) _ t (0, 0) hb, Nat.zero_add, Array.getElem?_eq_getElem (by omega)]
  rfl

theorem setRow_same {w : World} {b : Nat} {C : Array Value} {t : TypeId} (hb : w.heap[b]? = some (.cells C t (0, 0))) (D : Array Value) : (w.setRow b D).heap[b]? = some (.cells D t (0, 0)) := by
  simp only [World.setRow, Array.getElem?_modify]
  rw [if_pos trivial, hb]
  rfl

theorem setRow_other (w : World) (b k : Nat) (D : Array Value) (h : k ≠ b) : (w.setRow b D).heap[k]? = w.heap[k]? := by
  simp only [World.setRow, Array.getElem?_modify]
  rw [if_neg (by omega)]

theorem below_setCells {B : Nat} {a w : World} (h : Below B a w) (b o : Nat) (hb : B ≤ b) (vs : List Value) : Below B a (w.setCells b o vs) := by
  induction vs generalizing w o with
  | nil => exact h
  | cons v r ih => exact ih (h.setCell hb v) (o + 1)

theorem results_cells_tmp {fn : Func} {p q u : Tmp} {ty tz : TypeId} (h : fn.results = #[.cell p ty, .cell q tz, .tmp u]) (tmps : Array Value) (P : Program) (w : World) :
    (results fn tmps).run P w =
      ((asAddr (tmps.getD p undef)).run P w).andThen fun a w₁ => ((loadVar ty a).run P w₁).andThen fun v w₂ =>
        ((asAddr (tmps.getD q undef)).run P w₂).andThen fun b w₃ => ((loadVar tz b).run P w₃).andThen fun v' w₄ => .ok (.tuple #[v, v', tmps.getD u undef]) w₄ := by
  simp only [results, h]
  simp [Sem.run_bind, Result.andThen]

theorem cons_store {P : Program} {md : Region.Mode} {ops : Array Oper} {Q : Exit → Act → World → Prop} {fuel : Nat} {listed : Array Bool} {a : Act} {w : World} {i : Nat} {o : Oper} {rs : List Nat} (ho : ops[i]? = some o)
    (hgd : o.guard = none) (hd : o.dst = none) (ty : TypeId) (x y : Operand) (hop : o.op = .store ty x y)
    (g : Nat) (cells : Array Value) (hx : a.eval x = .pointer (some ⟨g, 0, none⟩)) (hy : a.eval y = .agg cells)
    (t : TypeId) (old : Array Value) (hg : w.heap[g]? = some (.cells old t (0, 0))) (hi : (P.info? ty).map (·.size) = some cells.size)
    (hold : old.size = cells.size) (h1 : cells.all (·.oneCell') = true)
    (h : wpAny P md ops Q fuel (listed.setIfInBounds i true) a (w.setRow g cells))
    (hs : AllReady P md ops Q fuel listed a w rs) : AllReady P md ops Q fuel listed a w (i :: rs) := by
  refine AllReady.cons ho (fun K hK => ?_) hs
  rw [if_pos (by simp [Region.wanted, hgd])]
  refine wp_store_row ty x y hop g cells hx hy t old hg hi hold h1 (hK _ _ ?_)
  rw [hd]
  exact h

theorem cons_load {P : Program} {md : Region.Mode} {ops : Array Oper} {Q : Exit → Act → World → Prop} {fuel : Nat} {listed : Array Bool} {a : Act} {w : World} {i : Nat} {o : Oper} {rs : List Nat} (ho : ops[i]? = some o)
    (hgd : o.guard = none) (d : Option Tmp) (hd : o.dst = d) (ty : TypeId) (x : Operand) (hop : o.op = .load ty x)
    (g : Nat) (cells : Array Value) (hx : a.eval x = .pointer (some ⟨g, 0, none⟩))
    (t : TypeId) (n : Nat) (e : TypeId) (hu : P.underlying ty = some (.array n e)) (hg : w.heap[g]? = some (.cells cells t (0, 0))) (hi : (P.info? ty).map (·.size) = some cells.size)
    (h : wpAny P md ops Q fuel (listed.setIfInBounds i true) (a.put d (.agg cells)) w)
    (hs : AllReady P md ops Q fuel listed a w rs) : AllReady P md ops Q fuel listed a w (i :: rs) := by
  refine AllReady.cons ho (fun K hK => ?_) hs
  rw [if_pos (by simp [Region.wanted, hgd])]
  refine wp_load_row ty x hop g hx t cells (0, 0) _ hg hu rfl hi (hK _ _ ?_)
  rw [hd]
  exact h

theorem cons_assign {P : Program} {md : Region.Mode} {ops : Array Oper} {Q : Exit → Act → World → Prop} {fuel : Nat} {listed : Array Bool} {a : Act} {w : World} {i : Nat} {o : Oper} {rs : List Nat} (ho : ops[i]? = some o)
    (hgd : o.guard = none) (d : Option Tmp) (hd : o.dst = d) (x : Operand) (hop : o.op = .assign x)
    (h : wpAny P md ops Q fuel (listed.setIfInBounds i true) (a.put d (a.eval x)) w)
    (hs : AllReady P md ops Q fuel listed a w rs) : AllReady P md ops Q fuel listed a w (i :: rs) := by
  refine AllReady.cons ho (fun K hK => ?_) hs
  rw [if_pos (by simp [Region.wanted, hgd])]
  unfold Oper.wp
  simp only [execOp, hop, Sem.run_pure]
  refine hK _ _ ?_
  rw [hd]
  exact h

set_option maxRecDepth 10000 in
theorem both_results {fn : Func} (hr : fn.results = #[.cell 6 93, .cell 7 93, .tmp 8]) (tmps : Array Value) (W : World) (b6 b7 : Nat) (f g : Nat → Int) (v : Value)
    (h6 : tmps.getD 6 undef = .pointer (some ⟨b6, 0, none⟩)) (h7 : tmps.getD 7 undef = .pointer (some ⟨b7, 0, none⟩)) (h8 : tmps.getD 8 undef = v)
    (q6 : W.heap[b6]? = some (.cells (tokF f) 93 (0, 0))) (q7 : W.heap[b7]? = some (.cells (tokF g) 93 (0, 0))) :
    (results fn tmps).run Try.prog W = .ok (.tuple #[.agg (tokF f), .agg (tokF g), v]) W := by
  refine (results_cells_tmp hr _ _ _).trans ?_
  rw [h6, h7, h8]
  show ((loadVar 93 ⟨b6, 0, none⟩).run Try.prog W).andThen _ = _
  rw [run_loadVar_row _ _ 93 93 (tokF f) (0, 0) _ q6 Try.underlying93 rfl (by rw [tokF_size]; exact Try.size93)]
  show ((loadVar 93 ⟨b7, 0, none⟩).run Try.prog W).andThen _ = _
  rw [run_loadVar_row _ _ 93 93 (tokF g) (0, 0) _ q7 Try.underlying93 rfl (by rw [tokF_size]; exact Try.size93)]
  rfl

theorem below_rows {B : Nat} {w V : World} (h : Below B w V) (b c : Nat) (hb : B ≤ b) (hc : B ≤ c) (C D : Array Value) : Below B w ((V.drew.setRow b C).setRow c D) :=
  below_setRow (below_setRow h.drew _ hb _) _ hc _

theorem lit_one : (#[.int .u8 0, .int .u8 0, .int .u8 0, .int .u8 0, .int .u8 0, .int .u8 0, .int .u8 0, .int .u8 0, .int .u8 0, .int .u8 0, .int .u8 0, .int .u8 0, .int .u8 0, .int .u8 0, .int .u8 0, .int .u8 0] : Array Value).all (·.oneCell') = true := by
  rw [← packOf_zero []]; exact packOf_one _ _

end Go.Proofs.Ytdhnhpjcoeglmaa
