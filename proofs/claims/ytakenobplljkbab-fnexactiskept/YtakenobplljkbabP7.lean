/- Contracts that the proof stands on, one behind the other. -/
import Derived.Test.YtakenobplljkbabP6
/- The specification's SmallInvariants and IsKept. -/
namespace Go.Proofs.Ytakenobplljkbab
open Go.RowKit
set_option maxRecDepth 10000

/-- How the specification's SmallInvariants ends. -/
def SsiEnd (p : Int) (n : Nat) (L : List (List Int)) (w : World) (e : Ending) (w' : World) : Prop :=
  ∃ v, e = .returned (.tuple #[v, .bool (siOk p n L)]) ∧ LRow w' w.heap.size v (listsN (siN p n L)) ∧ Below w.heap.size w w'

theorem ssiEnd_no {p : Int} {n : Nat} {L : List (List Int)} {w w' : World} (h : siOk p n L = false) (hb : Below w.heap.size w w') : SsiEnd p n L w (.returned (.tuple #[.slice none 0 0, .bool false])) w' :=
  ⟨_, by rw [h], by rw [siN_no h]; exact LRow.nil _ _, hb⟩

theorem LRow.low {w : World} {B C : Nat} {v : Value} {K : List (List Int)} (h : LRow w B v K) (hC : C ≤ B) : LRow w C v K := by
  obtain ⟨cs, h1, h2⟩ := h
  refine ⟨cs, ⟨h1.1, ?_⟩, fun i hi => ?_⟩
  · rcases h1.2 with h0 | ⟨g, cap, cur, e, a1, a2⟩
    · exact .inl h0
    · exact .inr ⟨g, cap, cur, e, by omega, a2⟩
  · obtain ⟨a, b, n, c, e, ho, hB⟩ := h2 i hi
    exact ⟨a, b, n, c, e, ho, by omega⟩

set_option maxHeartbeats 2000000 in
theorem smallInvS_any (p : Int) (a : Option Addr) (n c : Nat) (L : List (List Int)) (w : World) (h : Lists w a (3 * n) L) (hs : sizeN n L ≤ 1048576) :
    Calls Try.prog 7 #[.agg #[.int .i64 p, .slice a n c]] w fun e w' => SsiEnd p n L w e w' := by
  have hAl := below_al w (.cells #[.int .i64 p, .slice a n c] 31)
  have PAR := hide (heap_alloc_new w (.cells #[.int .i64 p, .slice a n c] 31))
  have HT := hide (plainS_any p a n c L _ (h.below hAl) hs)
  have HB0 := hide hAl
  have HL := hide h
  clear h hAl
  go_enter Try.func7, Try.ntmps7
  go_wp2_with fail
  refine HT.out.mono ?_
  rintro e w1 ⟨rfl, hb⟩
  have HB1 := hide (HB0.out.trans (hb.mono HB0.out.size))
  obtain ⟨hc0, hc1⟩ := cells2 (keep PAR.out hb)
  have hlt := row_lt (keep PAR.out hb)
  clear hb HT HB0 PAR
  by_cases g1 : plainB p n L = true
  rotate_left
  · have g1' : plainB p n L = false := by simpa using g1
    have HN := hide (ssiEnd_no (show siOk p n L = false by unfold siOk; rw [g1']; rfl) HB1.out)
    rw [g1']
    clear g1 g1' hc0 hc1 hlt
    go_wp2_with fail
    go_ret2
    exact HN.out
  have HG1 := hide g1
  have hgn : netOk p n L = true := by unfold plainB at g1; simp only [Bool.and_eq_true] at g1; exact g1.1
  rw [g1]
  clear g1
  by_cases h10 : p ≤ 10
  rotate_left
  · have hd : (10 : Int) < p := by omega
    have HN := hide (ssiEnd_no (show siOk p n L = false by unfold siOk; simp [h10]) HB1.out)
    clear h10 hgn
    go_wp2_with fail
    go_ret2
    exact HN.out
  have hd : ¬ (10 : Int) < p := by omega
  have HOK : Hid (siOk p n L = true) := by show _ = _; unfold siOk; rw [HG1.out]; simp [h10]
  have hp1 : 1 ≤ p := (si_parts HOK.out).2.1
  obtain ⟨P, rfl⟩ : ∃ P : Nat, p = (P : Int) := ⟨p.toNat, by omega⟩
  have HC := hide (smallS_any P a n c L _ (HL.out.below HB1.out) hgn (by omega))
  have HSI : Hid (siN (P : Int) n L = smallN (fun s => invB (rowB s P) n L) (2 ^ P - 1)) := by show _ = _; unfold siN; rw [if_pos HOK.out, Int.toNat_natCast]
  clear hgn h10 hp1
  go_wp2_with fail
  refine HC.out.mono ?_
  rintro e w2 ⟨v, rfl, hlr, hb⟩
  have HE : Hid (SsiEnd (P : Int) n L w (.returned (.tuple #[v, .bool true])) w2) := ⟨v, by rw [HOK.out], by rw [HSI.out]; exact hlr.low HB1.out.size, HB1.out.trans (hb.mono HB1.out.size)⟩
  clear hlr hb HC HSI hc0 hc1 hlt
  go_wp2_with fail
  go_ret2
  exact HE.out

/-- A row of truths. -/
def KRow (w : World) (g n : Nat) (f : Nat → Bool) : Prop := ∃ cur, w.heap[g]? = some (.cells cur 4 (0, 0)) ∧ cur.size = n ∧ ∀ j, j < n → cur[j]? = some (.bool (f j))

theorem KRow.made (w : World) (n : Nat) : KRow (w.alloc (.cells (madeCells #[.bool false] n) 4)) w.heap.size n (fun _ => false) := by
  refine ⟨_, heap_alloc_new _ _, by rw [size_madeCells], fun j hj => ?_⟩
  unfold madeCells
  simp [hj, Nat.mod_one]

theorem KRow.set {w : World} {g n : Nat} {f : Nat → Bool} (h : KRow w g n f) {k : Nat} (hk : k < n) : KRow (w.setCell ⟨g, k, none⟩ (.bool true)) g n (fun j => f j || decide (j = k)) := by
  obtain ⟨cur, h1, h2, h3⟩ := h
  refine ⟨_, heap_setCell_same w g k cur _ _ h1, by simpa using h2, fun j hj => ?_⟩
  rw [Array.getElem?_setIfInBounds]
  by_cases e : k = j
  · subst e; rw [if_pos rfl, if_pos (by omega)]; simp
  · have e' : ¬ j = k := fun h => e h.symm
    rw [if_neg e, h3 j hj]; simp [e']

theorem Try.info4K : (Try.prog.info? 4).map (fun i => (i.zero, i.size, i.bytes)) = some (some (.bool false), 1, 1) := by kernel_rfl
theorem Try.und60K : Try.prog.underlying 60 = some (.slice 4) := by kernel_rfl

/-- Whether a place lies in one of some lists. -/
def inK (K : List (List Int)) (j : Nat) : Bool := K.any fun x => decide ((j : Int) ∈ x)

theorem inK_take {K : List (List Int)} {k : Nat} {x : List Int} (h : K[k]? = some x) (j : Nat) : inK (K.take (k + 1)) j = (inK (K.take k) j || decide ((j : Int) ∈ x)) := by
  unfold inK
  rw [List.take_add_one, h, List.any_append]; simp

theorem in_take {x : List Int} {k z : Nat} (h : x[k]? = some (z : Int)) (j : Nat) : decide ((j : Int) ∈ x.take (k + 1)) = (decide ((j : Int) ∈ x.take k) || decide (j = z)) := by
  rw [List.take_add_one, h]
  by_cases e : j = z
  · subst e; simp
  · have : ¬ (j : Int) = (z : Int) := by omega
    simp [e, this]

theorem kept_eq {P : Nat} {l : List Nat} (hP : P ≤ 16) (hl : ∀ s ∈ l, s < 2 ^ P) : decide (unionN l = 2 ^ P - 1) = (List.range P).all fun j => inK (listsN l) j := by
  have hin : ∀ j, j < 16 → inK (listsN l) j = (unionN l).testBit j := by
    intro j hj
    rw [unionN_bit]
    unfold inK listsN
    rw [List.any_map]
    congr 1
    funext s
    show decide ((j : Int) ∈ nums2 s.testBit 16) = s.testBit j
    cases hb : s.testBit j
    · exact decide_eq_false fun h => by have := (mem_nums2.mp h).2; rw [hb] at this; simp at this
    · exact decide_eq_true (mem_nums2.mpr ⟨hj, hb⟩)
  have hu : unionN l < 2 ^ P := unionN_lt hl
  rw [Bool.eq_iff_iff, decide_eq_true_eq, List.all_eq_true]
  constructor
  · intro e j hj
    rw [hin j (by have := List.mem_range.mp hj; omega), e, Nat.testBit_two_pow_sub_one]
    simpa using hj
  · intro h
    apply Nat.eq_of_testBit_eq
    intro i
    rw [Nat.testBit_two_pow_sub_one]
    by_cases hi : i < P
    · rw [decide_eq_true hi, ← hin i (by omega)]; exact h i (by simpa using hi)
    · rw [decide_eq_false hi, Nat.testBit_lt_two_pow (Nat.lt_of_lt_of_le hu (Nat.pow_le_pow_right (by decide) (by omega)))]

theorem LRow.at {w : World} {B : Nat} {v : Value} {K : List (List Int)} (h : LRow w B v K) {k : Nat} (hk : k < K.length) : ∃ g cap a n c, v = .slice (some ⟨g, 0, none⟩) K.length cap ∧ g < w.heap.size ∧ w.cell? ⟨g, k, none⟩ = some (.slice a n c) ∧ Row w a n (K.getD k []) := by
  obtain ⟨cs, h1, h2⟩ := h
  rcases h1.2 with ⟨rfl, e0⟩ | ⟨g, cap, cur, rfl, hb, hh, hnc, _, hsz, ht⟩
  · omega
  · obtain ⟨a, b, n, c, e, ho, _⟩ := h2 k hk
    refine ⟨g, cap, a, n, c, rfl, (Array.getElem?_eq_some_iff.mp hh).1, ?_, ho.row⟩
    rw [cell_of_row w g k cur _ _ hh]
    have e2 : (cur.toList.take (K.length * 1))[k]? = cs[k]? := by rw [ht]
    rw [List.getElem?_take_of_lt (by omega), Array.getElem?_toList] at e2
    rw [e2]; exact e

set_option maxHeartbeats 8000000 in
theorem isKeptS_any (p : Int) (a : Option Addr) (n c : Nat) (L : List (List Int)) (w : World) (h : Lists w a (3 * n) L) (hs : sizeN n L ≤ 1048576) :
    Calls Try.prog 15 #[.agg #[.int .i64 p, .slice a n c]] w fun e w' => IkpEnd p n L w e w' := by
  have hAl := below_al w (.cells #[.int .i64 p, .slice a n c] 31)
  have PAR := hide (heap_alloc_new w (.cells #[.int .i64 p, .slice a n c] 31))
  have HT := hide (smallInvS_any p a n c L _ (h.below hAl) hs)
  have HB0 := hide hAl
  clear h hAl
  go_enter Try.func15, Try.ntmps15
  go_wp2_with fail
  refine HT.out.mono ?_
  rintro e w1 ⟨v, rfl, hlr, hb⟩
  have HB1 := hide (HB0.out.trans (hb.mono HB0.out.size))
  obtain ⟨hc0, hc1⟩ := cells2 (keep PAR.out hb)
  have hlt := row_lt (keep PAR.out hb)
  have HLR := hide hlr
  clear hb HT HB0 PAR hlr
  by_cases g1 : siOk p n L = true
  rotate_left
  · have g1' : siOk p n L = false := by simpa using g1
    have HN : Hid (IkpEnd p n L w (.returned (.tuple #[.bool false, .bool false])) w1) := ⟨ret_2 (by unfold ikR; rw [g1']; rfl) g1'.symm, HB1.out⟩
    rw [g1']
    clear g1 g1' hc0 hc1 hlt
    go_wp2_with fail
    go_ret2
    exact HN.out
  obtain ⟨hg, hp1, hp2⟩ := si_parts g1
  obtain ⟨P, rfl⟩ : ∃ P : Nat, p = (P : Int) := ⟨p.toNat, by omega⟩
  have HG1 := hide g1
  rw [g1]
  obtain ⟨l, hl⟩ : ∃ l, Hid (siN (P : Int) n L = l) := ⟨_, rfl⟩
  have hP16 : P ≤ 16 := by omega
  have hP1 : 1 ≤ P := by omega
  have HIK : Hid (ikR (P : Int) n L = (List.range P).all fun j => inK (listsN l) j) := by
    show _ = _
    unfold ikR
    rw [g1, hl.out, Int.toNat_natCast, ← kept_eq hP16 (fun s hs => by rw [← hl.out] at hs; have := (siN_mem hs).2.2; rwa [Int.toNat_natCast] at this)]; rfl
  have hll : l.length ≤ 1024 := by rw [← hl.out]; exact siN_len _ _ _
  have HPL : Hid (∀ s ∈ l, s < 2 ^ P) := fun s hs => by rw [← hl.out] at hs; have := (siN_mem hs).2.2; rwa [Int.toNat_natCast] at this
  rw [hl.out] at HLR
  have hmk := run_make_many (P := Try.prog) 60 4 (.bool false) 1 1 Try.und60K Try.info4K .i64 .i64 P (by omega) (by omega)
  simp only [Value.cells, Nat.mul_one] at hmk
  obtain ⟨av, cv, rfl, _⟩ := HLR.out.lists (listsN_at l)
  have hKl : (listsN l).length ≤ 1024 := by rw [listsN_len]; exact hll
  have HKB : Hid (∀ (k : Nat) (x : List Int), (listsN l)[k]? = some x → ∀ z ∈ x, 0 ≤ z ∧ z < (P : Int)) := by
    intro k x hx z hz
    obtain ⟨s, hs, rfl⟩ := List.mem_map.mp (List.mem_of_getElem? hx)
    have h1 := nums2_lo hz
    refine ⟨h1.1, ?_⟩
    rcases Nat.lt_or_ge z.toNat P with h | h
    · omega
    · rw [Nat.testBit_lt_two_pow (Nat.lt_of_lt_of_le (HPL.out s hs) (Nat.pow_le_pow_right (by decide) h))] at h1
      simp at h1
  have HK16 := hide (listsN_at l)
  generalize listsN l = K at *
  clear g1 hg hl HPL hll hp1 hp2
  go_wp2_with fail
  have HKR := hide (KRow.made w1 P)
  have HW := hide (below_al w1 (.cells (madeCells #[.bool false] P) 4))
  obtain ⟨g, hg⟩ : ∃ g, Hid (w1.heap.size = g) := ⟨_, rfl⟩
  generalize w1.alloc (.cells (madeCells #[.bool false] P) 4) = v1 at *
  rw [hg.out] at HKR ⊢
  clear hmk hc0 hc1 hlt
  go_loopw [25] (fun i wr => ∃ k : Nat, k ≤ K.length ∧ i = .int .i64 k ∧ Hid (KRow wr g P (fun j => inK (K.take k) j)) ∧ Hid (Below w1.heap.size w1 wr)) (fun i _ => K.length - (intOf i).toNat)
  case atStart => exact ⟨0, Nat.zero_le _, rfl, HKR, HW⟩
  case round =>
    obtain ⟨k, hk, rfl, hkr, hbw⟩ := hrel
    clear HKR HW
    by_cases hkm : k < K.length
    · obtain ⟨gk, ck, ax, nx, cx, ev, hgl, hcg, hrow⟩ := HLR.out.at hkm
      injection ev with e1 _ e3
      subst e1 e3
      obtain ⟨x, hx⟩ : ∃ x, Hid (K.getD k [] = x) := ⟨_, rfl⟩
      have hxk : Hid (K[k]? = some x) := by
        show _ = _
        rw [List.getElem?_eq_getElem hkm, ← hx.out, List.getD_eq_getElem?_getD, List.getElem?_eq_getElem hkm]; rfl
      have hx16 : nx ≤ 16 := by have h1 := hrow.1; have h2 := HK16.out k; omega
      rw [hx.out] at hrow
      have HROW : Hid (Row w1 ax nx x) := hrow
      have HXB := hide (HKB.out k x hxk.out)
      have hcw := (hbw.out.cell hgl).trans hcg
      have hgl2 : gk < wr.heap.size := by have := hbw.out.size; omega
      have hw1g : w1.heap.size ≤ g := by rw [hg.out]; exact Nat.le_refl _
      have HKR0 : Hid (KRow wr g P (fun j => inK (K.take k) j || decide ((j : Int) ∈ x.take 0))) := by
        have := hkr.out
        show KRow _ _ _ _
        simpa using this
      clear hrow hcg hkr hx
      go_wp2_with fail
      clear hcw hgl2
      go_loopw [31] (fun i wr => ∃ t : Nat, t ≤ nx ∧ i = .int .i64 t ∧ Hid (KRow wr g P (fun j => inK (K.take k) j || decide ((j : Int) ∈ x.take t))) ∧ Hid (Below w1.heap.size w1 wr)) (fun i _ => nx - (intOf i).toNat)
      case atStart => exact ⟨0, Nat.zero_le _, rfl, HKR0, hbw⟩
      case round =>
        obtain ⟨t, ht, rfl, hkr, hbq⟩ := hrel
        clear HKR0 hbw
        by_cases htn : t < nx
        · obtain ⟨b1, o1, z, rfl, hl1, hc1, H1⟩ := (HROW.out.below hbq.out).at htn
          have hzm := HXB.out z (List.mem_of_getElem? H1.out)
          obtain ⟨y, rfl⟩ : ∃ y : Nat, z = (y : Int) := ⟨z.toNat, by omega⟩
          have hyP : (y : Int) < (P : Int) := hzm.2
          obtain ⟨cur, hh, hcs, hcell⟩ := hkr.out
          have hfr := frozen_of_row wr g y cur _ hh
          have hcy := cell_of_row wr g y cur _ _ hh
          rw [hcell y (by omega)] at hcy
          have hgl2 := (Array.getElem?_eq_some_iff.mp hh).1
          obtain ⟨bo, hbo⟩ : ∃ b, Hid ((inK (K.take k) y || decide ((y : Int) ∈ x.take t)) = b) := ⟨_, rfl⟩
          simp only [hbo.out] at hcy
          have HN : Hid (KRow (wr.setCell ⟨g, y, none⟩ (.bool true)) g P (fun j => inK (K.take k) j || decide ((j : Int) ∈ x.take (t + 1)))) := by
            show KRow _ _ _ _
            have e : (fun j => inK (K.take k) j || decide ((j : Int) ∈ x.take (t + 1))) = (fun j => (inK (K.take k) j || decide ((j : Int) ∈ x.take t)) || decide (j = y)) := funext fun j => by rw [in_take H1.out, Bool.or_assoc]
            rw [e]; exact hkr.out.set (by omega)
          have HBN := hide (hbq.out.setCell (p := ⟨g, y, none⟩) hw1g (.bool true))
          clear hkr hbq hh hcs hcell hbo H1 hzm HXB HROW HLR
          go_wp2_with fail
          go_roundw
          case rel => exact ⟨t + 1, by omega, by go_num, HN, HBN⟩
          case measure => simp [intOf]; omega
        · have ht' : nx = t := by omega
          subst ht'
          have HN : Hid (KRow wr g P (fun j => inK (K.take (k + 1)) j)) := by
            show KRow _ _ _ _
            have h1 := hkr.out
            rw [List.take_of_length_le (l := x) (by have := HROW.out.1; omega)] at h1
            have e : (fun j => inK (K.take (k + 1)) j) = (fun j => inK (K.take k) j || decide ((j : Int) ∈ x)) := funext fun j => inK_take hxk.out j
            rw [e]; exact h1
          clear hkr
          go_wp2_with fail
          go_roundw
          case rel => exact ⟨k + 1, by omega, by go_num, HN, hbq⟩
          case measure => simp [intOf]; omega
    · have hk' : k = K.length := by omega
      subst hk'
      rw [List.take_length] at hkr
      have HKR := hkr
      have HBF := hide (HB1.out.trans (hbw.out.mono HB1.out.size))
      clear hkr hbw
      go_wp2_with fail
      go_loop [42] (fun i => ∃ j : Nat, j ≤ P ∧ i = .int .i64 j ∧ Hid (((List.range j).all fun j => inK K j) = true)) (fun i => P - (intOf i).toNat)
      case atStart => exact ⟨0, Nat.zero_le _, rfl, rfl⟩
      case round =>
        obtain ⟨j, hj, rfl, hu⟩ := hrel
        by_cases hjP : j < P
        rotate_left
        · have hj' : j = P := by omega
          subst hj'
          have HI : Hid (ikR (j : Int) n L = true) := by show _ = _; rw [HIK.out]; exact hu.out
          clear hu HKR HIK
          go_wp2_with fail
          go_ret2
          exact ⟨ret_2 HI.out.symm HG1.out.symm, HBF.out⟩
        obtain ⟨cur, hh, hcs, hcell⟩ := HKR.out
        have hcy := cell_of_row wr g j cur _ _ hh
        rw [hcell j hjP] at hcy
        have hgl2 := (Array.getElem?_eq_some_iff.mp hh).1
        cases hb : inK K j
        · have HI : Hid (ikR (P : Int) n L = false) := by
            show _ = _
            rw [HIK.out, List.all_eq_false]
            exact ⟨j, by simpa using hjP, by rw [hb]; simp⟩
          simp only [hb] at hcy
          clear hu hh hcs hcell hb HKR HIK
          go_wp2_with fail
          go_ret2
          exact ⟨ret_2 HI.out.symm HG1.out.symm, HBF.out⟩
        · have HU : Hid (((List.range (j + 1)).all fun j => inK K j) = true) := by
            show _ = _
            rw [List.range_succ, List.all_append, hu.out]
            simp [hb]
          simp only [hb] at hcy
          clear hu hh hcs hcell hb HKR HIK
          go_wp2_with fail
          go_round
          case rel => exact ⟨j + 1, by omega, by go_num, HU⟩
          case measure => simp [intOf]; omega
end Go.Proofs.Ytakenobplljkbab
