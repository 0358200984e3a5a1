/- Contracts that the proof stands on, one behind the other. -/
import Derived.Test.YtajcmamapmeglaaP11
import Derived.Deep.RegionHeld3
import Derived.Deep.MidRow
/- listsOfSets and SmallInvariants of the program; lists that append has made, behind a block that leads to them: marked, held. -/
namespace Go.Proofs.Ytajcmamapmeglaa
open Go.RowKit
set_option maxRecDepth 10000

/-- The lists below k, behind them none. -/
def fillK (K : List (List Int)) (k j : Nat) : List Int := if j < k then K.getD j [] else []

theorem fillK_all (K : List (List Int)) {n : Nat} (h : K.length = n) : fillK K n = fun j => K.getD j [] := by
  funext j
  unfold fillK
  by_cases hj : j < n
  · rw [if_pos hj]
  · rw [if_neg hj, List.getD_eq_getElem?_getD, List.getElem?_eq_none (by omega)]; rfl

theorem partG_madeK (W : World) (lo hi n : Nat) (K : List (List Int)) (T : TypeId) : PartG (W.alloc (.cells (madeCells #[.slice none 0 0] n) T)) W.heap.size lo hi n T (fillK K 0) := by
  refine ⟨_, fun _ => none, fun _ => 0, fun _ => 0, heap_alloc_new _ _, by rw [size_madeCells]; omega, fun j hj => ?_, fun i j _ _ hm => absurd rfl hm⟩
  refine ⟨?_, ⟨rfl, .inl rfl⟩, fun hm => absurd rfl hm⟩
  unfold madeCells fillK
  simp [hj, Nat.mod_one]

theorem PartG.roomK {w : World} {B lo hi hi' n : Nat} {T : TypeId} {M : Nat → List Int} (h : PartG w B lo hi n T M) (hh : hi ≤ hi') : PartG w B lo hi' n T M := by
  obtain ⟨C, A, f, cap, h1, h2, h3, h4⟩ := h
  refine ⟨C, A, f, cap, h1, h2, fun j hj => ?_, h4⟩
  obtain ⟨e1, e2, e3⟩ := h3 j hj
  exact ⟨e1, e2, fun hm => ⟨(e3 hm).1, by have := (e3 hm).2.1; omega, (e3 hm).2.2⟩⟩

theorem Ob.farK {w : World} {a : Option Addr} {b n B o : Nat} {u : Value} {xs : List Int} (h : Ob w a b n xs) (hb : xs ≠ [] → b ≠ B) : Ob (w.setCell ⟨B, o, none⟩ u) a b n xs := by
  by_cases hx : xs = []
  · subst hx; exact ⟨h.1, .inl (by rw [← h.1]; rfl)⟩
  · refine ⟨h.1, ?_⟩
    rcases h.2 with h0 | ⟨e, cur, h1, h2⟩
    · exact .inl h0
    · exact .inr ⟨e, cur, (heap_setCell_other _ _ _ _ (show b ≠ B from hb hx)).trans h1, h2⟩

theorem PartG.put1 {w : World} {B lo hi hi' n k b1 m1 c1 : Nat} {T : TypeId} {K : List (List Int)} {a1 : Option Addr} {X : List Int} (h : PartG w B lo hi n T (fillK K k)) (hk : k < n)
    (o1 : Ob w a1 b1 m1 X) (e1 : X = K.getD k []) (hlo : lo ≤ hi) (hB : B < hi) (g1 : hi ≤ b1) (g1' : X ≠ [] → b1 < hi') (hh : hi ≤ hi') :
    PartG (w.setCell ⟨B, k, none⟩ (.slice a1 m1 c1)) B lo hi' n T (fillK K (k + 1)) := by
  obtain ⟨C, A, f, cap, h1, h2, h3, h4⟩ := h
  have hl1 := o1.1
  have hold : ∀ j, j ≠ k → fillK K (k + 1) j = fillK K k j := fun j hj => by
    unfold fillK
    by_cases h : j < k
    · rw [if_pos h, if_pos (by omega)]
    · rw [if_neg h, if_neg (by omega)]
  have hnew : fillK K (k + 1) k = X := by unfold fillK; rw [if_pos (by omega), e1]
  refine ⟨_, fun j => if j = k then a1 else A j, fun j => if j = k then b1 else f j, fun j => if j = k then c1 else cap j, heap_setCell_same w B k C T _ h1, by simpa using h2, fun j hj => ?_, fun i j hij hj hi0 hj0 => ?_⟩
  · by_cases jk : j = k
    · subst jk
      simp only [if_true]
      rw [hnew, hl1]
      refine ⟨?_, o1.farK (fun _ => by omega), fun hx => ⟨by omega, g1' hx, by omega⟩⟩
      rw [Array.getElem?_setIfInBounds, if_pos rfl, if_pos (by omega)]
    · simp only [if_neg jk]
      obtain ⟨q1, q2, q3⟩ := h3 j hj
      rw [hold j jk]
      refine ⟨?_, q2.farK (fun hx => (q3 hx).2.2), fun hx => ⟨(q3 hx).1, by have := (q3 hx).2.1; omega, (q3 hx).2.2⟩⟩
      rw [Array.getElem?_setIfInBounds_ne (by omega)]
      exact q1
  · by_cases jk : j = k
    · subst jk
      simp only [if_neg (show i ≠ j by omega), if_true]
      rw [hold i (by omega)] at hi0
      have := (h3 i (by omega)).2.2 hi0
      omega
    · have hjk : j < k := by
        rcases Nat.lt_or_ge j k with h | h
        · exact h
        · exfalso; exact hj0 (by unfold fillK; rw [if_neg (by omega)])
      simp only [if_neg jk, if_neg (show i ≠ k by omega)]
      rw [hold i (by omega)] at hi0
      rw [hold j jk] at hj0
      exact h4 i j hij hj hi0 hj0

set_option maxHeartbeats 4000000 in
theorem listsOfSets_any (B0 m c : Nat) (a : Option Addr) (l : List Nat) (w : World) (h : w.ownsRow B0 63 1 (.slice a m c) m (encS l)) (hl : ∀ s ∈ l, s < 2 ^ 16) (hm : m ≤ 1024) :
    Calls Try.prog 81 #[.slice a m c] w fun e w' => ∃ B, e = .returned (.slice (some ⟨B, 0, none⟩) m m) ∧ PartG w' B w.heap.size w'.heap.size m 27 (fun j => (listsN l).getD j []) ∧ w.heap.size ≤ B ∧ Below w.heap.size w w' := by
  have hmk := run_make_many (P := Try.prog) 43 27 (.slice none 0 0) 1 24 Try.und43k Try.info27k .i64 .i64 m (by omega) (by omega)
  simp only [Value.cells, Nat.mul_one] at hmk
  have HO := hide h
  have HL := hide hl
  have hlen : l.length = m := by have := h.1; rw [encS_len] at this; omega
  clear h hl
  go_enter Try.func81, Try.ntmps81
  go_wp2_with fail
  have HP := hide (partG_madeK w w.heap.size (w.heap.size + 1) m (listsN l) 27)
  have HW := hide (below_al w (.cells (madeCells #[.slice none 0 0] m) 27))
  have hvs : Hid ((w.alloc (.cells (madeCells #[.slice none 0 0] m) 27)).heap.size = w.heap.size + 1) := by show _ = _; simp
  generalize w.alloc (.cells (madeCells #[.slice none 0 0] m) 27) = v at *
  rw [← hvs.out] at HP
  obtain ⟨g, hg⟩ : ∃ g, Hid (w.heap.size = g) := ⟨_, rfl⟩
  have HP1 : Hid (PartG v g w.heap.size v.heap.size m 27 (fillK (listsN l) 0)) := by rw [← hg.out]; exact HP.out
  rw [hg.out]
  have hgw : w.heap.size ≤ g := by rw [hg.out]; exact Nat.le_refl _
  clear hmk HP hvs hg
  go_loopw [11] (fun i wr => ∃ k : Nat, k ≤ m ∧ i = .int .i64 k ∧ Hid (PartG wr g w.heap.size wr.heap.size m 27 (fillK (listsN l) k)) ∧ Hid (Below w.heap.size w wr)) (fun i _ => m - (intOf i).toNat)
  case atStart => exact ⟨0, Nat.zero_le _, rfl, HP1, HW⟩
  case round =>
    obtain ⟨k, hk, rfl, hp, hbw⟩ := hrel
    clear HP1 HW
    by_cases hkm : k < m
    rotate_left
    · have hk' : m = k := by omega
      subst hk'
      have HE : Hid (PartG wr g w.heap.size wr.heap.size m 27 (fun j => (listsN l).getD j [])) := by
        have := hp.out
        rw [fillK_all _ (by rw [listsN_len]; exact hlen)] at this
        exact this
      clear hp
      go_wp2_with fail
      go_ret
      exact ⟨g, rfl, HE.out, hgw, hbw.out⟩
    obtain ⟨g5, c5, ev, hgl, hcg, hlk⟩ := setSet_at (own_growK HO.out hbw.out) hkm
    injection ev with e1 _ e3
    subst e1 e3
    have hsl := HL.out _ (List.mem_of_getElem? hlk)
    have HKD : Hid ((listsN l).getD k [] = nums2 (l.getD k 0).testBit 16) := by
      show _ = _
      unfold listsN
      rw [List.getD_eq_getElem?_getD, List.getElem?_map, hlk]; rfl
    obtain ⟨s, hs⟩ : ∃ s, Hid (l.getD k 0 = s) := ⟨_, rfl⟩
    rw [hs.out] at hcg hsl HKD
    clear hlk hs
    go_wp2_with fail
    refine (setList_any s wr hsl).mono ?_
    rintro e w1 ⟨a1, b1, m1, c1, rfl, hb1, ho1, hb⟩
    have HB1 := hide (hbw.out.trans (hb.mono hbw.out.size))
    have HP2 := hp.out.grow hb
    have hgl2 : g < wr.heap.size := by obtain ⟨C, A, f, cap, q1, _⟩ := hp.out; exact (Array.getElem?_eq_some_iff.mp q1).1
    have hgl3 : g < w1.heap.size := by have := hb.size; omega
    have hbl : nums2 s.testBit 16 ≠ [] → b1 < w1.heap.size := fun hne => by
      rcases ho1.2 with h0 | ⟨_, cur, hh, _⟩
      · have := ho1.1; rw [h0] at this; exact absurd (List.length_eq_zero_iff.mp this) hne
      · exact (Array.getElem?_eq_some_iff.mp hh).1
    obtain ⟨y, hcy, hfr⟩ : ∃ y, w1.cell? ⟨g, k, none⟩ = some y ∧ w1.frozen? ⟨g, k, none⟩ = false := by
      obtain ⟨C, A, f, cap, q1, q2, q3, _⟩ := HP2
      exact ⟨_, by rw [cell_of_row w1 g k C _ _ q1]; exact (q3 k hkm).1, frozen_of_row w1 g k C _ q1⟩
    have HN := hide (HP2.put1 (c1 := c1) hkm ho1 HKD.out.symm (by have := hbw.out.size; omega) hgl2 hb1 hbl hb.size)
    have HBN := hide (HB1.out.setCell (p := ⟨g, k, none⟩) hgw (.slice a1 m1 c1))
    have HSZ : Hid ((w1.setCell ⟨g, k, none⟩ (.slice a1 m1 c1)).heap.size = w1.heap.size) := by show _ = _; simp [World.setCell]
    rw [← HSZ.out] at HN
    clear hb HP2 ho1 hb1 hp hbw hbl HB1 hcg hgl HKD
    go_wp2_with fail
    go_roundw
    case rel => exact ⟨k + 1, by omega, by go_num, HN, HBN⟩
    case measure => simp [intOf]; omega


end Go.Proofs.Ytajcmamapmeglaa


/- SmallSiphons of both. -/
namespace Go.Proofs.Ytajcmamapmeglaa
open Go.RowKit
set_option maxRecDepth 10000

/-- The small siphons. -/
def spN (p : Int) (n : Nat) (L : List (List Int)) : List Nat := if siOk p n L then smallN (fun s => !slips true s n L) (2 ^ p.toNat - 1) else []

theorem spN_no {p : Int} {n : Nat} {L : List (List Int)} (h : siOk p n L = false) : spN p n L = [] := by unfold spN; rw [h]; rfl

theorem spN_mem {p : Int} {n : Nat} {L : List (List Int)} {s : Nat} (h : s ∈ spN p n L) : 1 ≤ s ∧ s < 1024 ∧ s < 2 ^ p.toNat := by
  by_cases h1 : siOk p n L = true
  · unfold spN at h
    rw [if_pos h1] at h
    have h2 := smallN_mem h
    have h3 := si_parts h1
    have h4 : 2 ^ p.toNat ≤ 1024 := shl_powP (by omega)
    omega
  · rw [spN_no (by simpa using h1)] at h; simp at h

theorem spN_len (p : Int) (n : Nat) (L : List (List Int)) : (spN p n L).length ≤ 1024 := by
  by_cases h1 : siOk p n L = true
  · unfold spN
    rw [if_pos h1]
    have h2 := smallN_len (fun s => !slips true s n L) (2 ^ p.toNat - 1)
    have h3 := si_parts h1
    have h4 : 2 ^ p.toNat ≤ 1024 := shl_powP (by omega)
    omega
  · rw [spN_no (by simpa using h1)]; simp

theorem nums_rise {r P : Nat} (h : r < 2 ^ P) : riseB (nums2 r.testBit 16) 0 ((P : Int) - 1) = true := by
  have key : ∀ k, riseB (nums2 r.testBit k) 0 ((k : Int) - 1) = true ∧ ∀ (hi : Int), (∀ x ∈ nums2 r.testBit k, x ≤ hi) → riseB (nums2 r.testBit k) 0 hi = true := by
    have app : ∀ (l : List Int) (lo x hi : Int), riseB l lo hi = true → (∀ y ∈ l, y < x) → lo ≤ x → x ≤ hi → riseB (l ++ [x]) lo hi = true := by
      intro l
      induction l with
      | nil => intro lo x hi _ _ h1 h2; simp [riseB, h1, h2]
      | cons y t ih =>
        intro lo x hi hr hy h1 h2
        simp only [List.cons_append, riseB, Bool.and_eq_true, decide_eq_true_eq] at hr ⊢
        exact ⟨hr.1, ih _ _ _ hr.2 (fun z hz => hy z (by simp [hz])) (by have := hy y (by simp); omega) h2⟩
    intro k
    induction k with
    | zero => exact ⟨rfl, fun _ _ => rfl⟩
    | succ k ih =>
      have bound : ∀ y ∈ nums2 r.testBit k, y < (k : Int) := fun y hy => by
        unfold nums2 at hy
        simp only [List.mem_map, List.mem_filter, List.mem_range] at hy
        obtain ⟨i, ⟨hi, _⟩, rfl⟩ := hy
        omega
      have main : ∀ (hi : Int), (∀ x ∈ nums2 r.testBit (k + 1), x ≤ hi) → riseB (nums2 r.testBit (k + 1)) 0 hi = true := by
        intro hi hh
        cases hb : r.testBit k
        · rw [nums2_no hb] at hh ⊢; exact ih.2 hi hh
        · rw [nums2_yes hb] at hh ⊢
          exact app _ _ _ _ (ih.2 hi fun x hx => hh x (by simp [hx])) bound (by omega) (hh _ (by simp))
      refine ⟨main _ fun x hx => ?_, main⟩
      unfold nums2 at hx
      simp only [List.mem_map, List.mem_filter, List.mem_range] at hx
      obtain ⟨i, ⟨hi, _⟩, rfl⟩ := hx
      omega
  refine (key 16).2 _ fun x hx => ?_
  have h1 := nums_in hx
  obtain ⟨y, rfl⟩ : ∃ y : Nat, x = (y : Int) := ⟨x.toNat, by omega⟩
  rcases Nat.lt_or_ge y P with h2 | h2
  · omega
  · have := h1.2.2
    rw [Int.toNat_natCast, Nat.testBit_lt_two_pow (Nat.lt_of_lt_of_le h (Nat.pow_le_pow_right (by decide) h2))] at this
    cases this

set_option maxHeartbeats 8000000 in
theorem smallS8_any (P : Nat) (a : Option Addr) (n c : Nat) (L : List (List Int)) (w : World) (h : Lists w a (3 * n) L) (hg : netOk (P : Int) n L = true) (hP : P ≤ 10) :
    Calls Try.prog 103 #[.agg #[.int .i64 (P : Int), .slice a n c]] w fun e w' => ∃ v, e = .returned v ∧ LRow w' w.heap.size v (listsN (smallN (fun s => !slips true s n L) (2 ^ P - 1))) ∧ Below w.heap.size w w' := by
  have hAl := below_al w (.cells #[.int .i64 (P : Int), .slice a n c] 26)
  have HV := hide (heap_alloc_new w (.cells #[.int .i64 (P : Int), .slice a n c] 26))
  have HL := hide h
  have HG := hide hg
  have HB0 := hide hAl
  obtain ⟨i0, hi, hz0, hz1, hz2⟩ := info_split2 Try.info3
  obtain ⟨i1, hi1, hy0, hy1, hy2⟩ := info_split2 Try.info27k
  obtain ⟨M, hM⟩ : ∃ M : Nat, Hid ((2 : Nat) ^ P = M) := ⟨_, rfl⟩
  have hM1 : M ≤ 1024 := by rw [← hM.out]; exact shl_powP hP
  have hM0 : 1 ≤ M := by rw [← hM.out]; exact Nat.one_le_two_pow
  have hMi : ((2 : Int) ^ P) = (M : Int) := by rw [← hM.out]; simp
  have hP0 : (0 : Int) ≤ (P : Int) := by omega
  have hP10 : P ≤ 10 := hP
  rw [hM.out]
  obtain ⟨f, hf⟩ : ∃ f, Hid ((fun s => !slips true s n L) = f) := ⟨_, rfl⟩
  rw [hf.out]
  have HNR : Hid (∀ r, r < 2 ^ P → riseB (nums2 r.testBit 16) 0 ((P : Int) - 1) = true) := fun r hr => nums_rise hr
  clear h hg hAl
  go_enter Try.func103, Try.ntmps103
  go_wp2_with fail
  generalize w.alloc (.cells #[.int .i64 (P : Int), .slice a n c] 26) = v0 at *
  go_loopw [3, 4] (fun o i wr => ∃ r m : Nat, 1 ≤ r ∧ r ≤ M ∧ i = .int .i64 r ∧ Hid (m = (smallN f (r - 1)).length) ∧ Hid (wr.ownsRow w.heap.size 3 1 o m (encI (smallN f (r - 1)))) ∧ Hid (wr.heap[w.heap.size]? = some (.cells #[.int .i64 (P : Int), .slice a n c] 26 (0, 0))) ∧ Hid (Below w.heap.size w wr)) (fun _ i _ => M + 1 - (intOf i).toNat)
  case atStart => exact ⟨1, 0, Nat.le_refl _, hM0, rfl, rfl, World.ownsRow_nil _ _ _ _, HV, HB0⟩
  case round =>
    obtain ⟨r, m, hr1, hr2, rfl, hmk, hown, hv, hbw⟩ := hrel
    clear HV HB0
    obtain ⟨hc0, hc1⟩ := cells2 hv.out
    have hlt := row_lt hv.out
    have hml : m ≤ r - 1 := by rw [hmk.out]; exact smallN_len _ _
    by_cases hrM : r < M
    rotate_left
    · have hrM' : M = r := by omega
      subst hrM'
      obtain ⟨l, hl⟩ : ∃ l, Hid (smallN f (M - 1) = l) := ⟨_, rfl⟩
      rw [hl.out] at hown hmk
      have hl10 : Hid (∀ s ∈ l, s < 1024) := fun s hs => by rw [← hl.out] at hs; have := smallN_mem hs; omega
      obtain ⟨a3, c3, rfl⟩ := own_slice hown.out
      have hml3 : m ≤ 1024 := by omega
      go_wp2_with fail
      go_loopw [8, 45] (fun o i wr => ∃ k : Nat, k ≤ m ∧ i = .int .i64 k ∧ Hid (LRow wr w.heap.size o (listsN (l.take k))) ∧ Hid (wr.ownsRow w.heap.size 3 1 (.slice a3 m c3) m (encI l)) ∧ Hid (Below w.heap.size w wr)) (fun _ i _ => m - (intOf i).toNat)
      case atStart => exact ⟨0, Nat.zero_le _, rfl, LRow.nil _ _, hown, hbw⟩
      case round =>
        obtain ⟨k, hk, rfl, hlr, how, hbw⟩ := hrel
        by_cases hkm : k < m
        rotate_left
        · have hk' : m = k := by omega
          subst hk'
          have h1 := hlr.out
          rw [List.take_of_length_le (by rw [← hmk.out]; exact Nat.le_refl _)] at h1
          have HE : Hid (∃ v, Ending.returned u8 = .returned v ∧ LRow wr w.heap.size v (listsN (smallN f (M - 1))) ∧ Below w.heap.size w wr) := ⟨u8, rfl, by rw [hl.out]; exact h1, hbw.out⟩
          clear h1 hlr how hbw
          go_wp2_with fail
          go_ret
          exact HE.out
        obtain ⟨g, c2, ev, hgl, hcg, hlk⟩ := numRow_at how.out hkm
        injection ev with e1 _ e3
        subst e1 e3
        have hs := hl10.out _ (List.mem_of_getElem? hlk)
        have HLN := hide (listsN_take hlk)
        obtain ⟨s, hss⟩ : ∃ s, Hid (l.getD k 0 = s) := ⟨_, rfl⟩
        rw [hss.out] at hcg hs HLN
        clear hlk hss
        go_wp2_with fail
        refine (setS_any s wr hs).mono ?_
        rintro e w1 ⟨v2, m2, rfl, ho2, hb⟩
        obtain ⟨a4, b4, c4, rfl, hb4, hob⟩ := own_ob2 ho2
        have HB1 := hide (hbw.out.trans (hb.mono hbw.out.size))
        have HW1 := hide (own_growK how.out hb)
        have hb4w : w.heap.size ≤ b4 := by have := hbw.out.size; omega
        have hA2 := below_al w1 (.cells #[.slice a4 m2 c4] 27)
        have HOB2 := hide (hob.grow hA2)
        have HW2 := hide (own_growK HW1.out hA2)
        have HB2 := hide (HB1.out.trans (hA2.mono HB1.out.size))
        obtain ⟨cs, hl1, hl2⟩ := (hlr.out.grow hb).grow hA2
        have hKl : (listsN (l.take k)).length = k := by rw [listsN_len, List.length_take]; have := hmk.out; omega
        have HL1 := hide hl1
        have HL2 := hide hl2
        have HO3 := hl1
        rw [hKl] at HO3
        have HO3 := hide HO3
        have HCE : Hid (∀ j u, ([.slice a4 m2 c4] : List Value)[j]? = some u → (w1.alloc (.cells #[.slice a4 m2 c4] 27)).cell? ((⟨w1.heap.size, 0, none⟩ : Addr).add j) = some u) := one_cellK w1 _ _
        have H1c : Hid (∀ u ∈ ([.slice a4 m2 c4] : List Value), u.oneCell' = true) := fun u hu => by simp at hu; subst hu; rfl
        have HX := hide (show k + 1 ≤ maxLen by unfold maxLen; omega)
        have HY := hide (show (k + 1) * 24 ≤ 140737488355328 by omega)
        have HZ := hide HB2.out.size
        clear hb ho2 hob hA2 hl1 hl2 HB1 HW1 hlr how hbw hcg hgl hs
        go_wp2_with (refine wpList_append_own _ rfl (.tmp 49) (.tmp 52) 43 rfl w.heap.size 27 i1 (.slice none 0 0) 1 24 Try.und43k hi1 hy0 hy1 hy2 rfl (by decide) _ k _ rfl HO3.out ⟨_, 0, none⟩ 1 1 [.slice a4 m2 c4] rfl rfl HCE.out H1c.out HX.out HY.out HZ.out ?_; intro v' W' r1 r2 r3)
        have HR1 : Hid (LRow W' w.heap.size v' (listsN (l.take (k + 1)))) := by
          show LRow _ _ _ _
          rw [HLN.out]
          exact LRow.push HL1.out HL2.out HOB2.out hb4w (by rw [hKl]; exact r1) r2
        have HW3 := hide (own_kept HW2.out HO3.out (by decide) r2)
        have HB3 := hide (own_belowK HO3.out r2 HB2.out HB2.out.size (Nat.le_refl _))
        clear r1 r2 r3 HO3 HL1 HL2 HOB2 HW2 HB2 HLN
        go_wp2_with fail
        go_roundw
        case rel => exact ⟨k + 1, by omega, by go_num, HR1, HW3, HB3⟩
        case measure => simp [intOf]; omega
    have hr2P : r < 2 ^ P := by rw [hM.out]; exact hrM
    have hr1k : r < 1024 := by omega
    have HBD := hide hbw.out.drew
    have HHD : Hid (wr.drew.heap.size = wr.heap.size) := rfl
    go_wp2_with fail
    have HWC : wr.drew.cell? ⟨w.heap.size, 0, none⟩ = some (.int .i64 (P : Int)) ∧ wr.drew.cell? ⟨w.heap.size, 1, none⟩ = some (.slice a n c) := ⟨hc0, hc1⟩
    go_region_held3 (fun W => W.cell? ⟨w.heap.size, 0, none⟩ = some (.int .i64 (P : Int)) ∧ W.cell? ⟨w.heap.size, 1, none⟩ = some (.slice a n c)) (first | (refine ⟨?_, ?_⟩ <;> simp only [World.cell?_drew] <;> assumption) | (apply keepB2; assumption; assumption))
      (first
        | (go_at_call 131; refine (setS_any r _ hr1k).mono ?_; rintro e w1 ⟨v1, m1, rfl, ho1, hb1⟩; obtain ⟨a1, b1, c1, rfl, hb1', hob1⟩ := own_ob2 ho1)
        | (go_at_call 90; refine (l8Siphon_any P a a1 n c m1 c1 L (nums2 r.testBit 16) _ (HL.out.below (HBD.out.trans (hb1.mono HBD.out.size))) hob1.row (by have h1 := hob1.1; have h2 := nums_len r.testBit 16; omega) HG.out (HNR.out r hr2P)).mono ?_; rintro e w2 ⟨rfl, hb2⟩))
    rw [mask_nums r (by omega)]
    have HB2 := hide ((HBD.out.trans (hb1.mono HBD.out.size)).trans (hb2.mono (by have h1 := HBD.out.size; have h2 := hb1.size; omega)))
    have HO2 := hide (own_growK (own_growK (own_growK hown.out (Below.refl _ wr).drew) hb1) hb2)
    have HV2 := hide (keep (keep (show wr.drew.heap[w.heap.size]? = some (.cells #[.int .i64 (P : Int), .slice a n c] 26 (0, 0)) from hv.out) hb1) hb2)
    obtain ⟨b0, hb0⟩ : ∃ b, Hid ((!slips true r n L) = b) := ⟨_, rfl⟩
    have hfr : Hid (f r = b0) := by show _ = _; rw [← hf.out]; exact hb0.out
    rw [hb0.out]
    obtain ⟨l, hl⟩ : ∃ l, Hid (smallN f (r - 1) = l) := ⟨_, rfl⟩
    rw [hl.out] at HO2 hmk
    have hl10 : Hid (∀ s ∈ l, s < 1024) := fun s hs => by rw [← hl.out] at hs; have := smallN_mem hs; omega
    have hm1k : m ≤ 1024 := by omega
    obtain ⟨a3, c3, rfl⟩ := own_slice HO2.out
    clear ho1 hob1 hb1' hb1 hb2 hown hv hbw HBD HHD HWC hc0 hc1 hlt hb0 hr2P
    go_wp2_with fail
    go_loop [5, 25] (fun o i => ∃ k : Nat, k ≤ m ∧ i = .int .i64 k ∧ o = .bool (b0 && !subA (l.take k) r)) (fun _ i => m - (intOf i).toNat)
    case atStart => exact ⟨0, Nat.zero_le _, rfl, by simp [subA]⟩
    case round =>
      obtain ⟨k, hk, rfl, rfl⟩ := hrel
      by_cases hkm : k < m
      rotate_left
      · have hk' : m = k := by omega
        subst hk'
        rw [List.take_of_length_le (by rw [← hmk.out]; exact Nat.le_refl _)]
        obtain ⟨q, hq⟩ : ∃ q, Hid ((b0 && !subA l r) = q) := ⟨_, rfl⟩
        rw [hq.out]
        have hrr : (r : Int) + 1 ≤ 1025 := by omega
        cases q
        · have HN : Hid (smallN f r = l) := by show _ = _; rw [smallR_no hr1 (by rw [hl.out, hfr.out]; exact hq.out)]; exact hl.out
          have HMK2 : Hid (m = (smallN f (r + 1 - 1)).length) := by show _ = _; rw [Nat.add_sub_cancel, HN.out]; exact hmk.out
          have HO3 : Hid (w2.ownsRow w.heap.size 3 1 (.slice a3 m c3) m (encI (smallN f (r + 1 - 1)))) := by show World.ownsRow _ _ _ _ _ _ _; rw [Nat.add_sub_cancel, HN.out]; exact HO2.out
          clear hq HO2 hmk HN
          go_wp2_with fail
          go_roundw
          case rel => exact ⟨r + 1, m, by omega, by omega, by go_num, HMK2, HO3, HV2, HB2⟩
          case measure => simp [intOf]; omega
        · have hq2 := hq.out
          simp only [Bool.and_eq_true, Bool.not_eq_true'] at hq2
          have HN : Hid (smallN f r = l ++ [r]) := by show _ = _; rw [smallR_yes hr1 (by rw [hfr.out]; exact hq2.1) (by rw [hl.out]; exact hq2.2), hl.out]
          have hA2 := below_al w2 (.cells #[.int .i64 (r : Int)] 3)
          have HO3 := hide (HO2.out.alloc (.cells #[.int .i64 (r : Int)] 3))
          have HB3 := hide (HB2.out.trans (hA2.mono HB2.out.size))
          have HV3 := hide (keep HV2.out hA2)
          have HCE : Hid (∀ j u, ([.int .i64 (r : Int)] : List Value)[j]? = some u → (w2.alloc (.cells #[.int .i64 (r : Int)] 3)).cell? ((⟨w2.heap.size, 0, none⟩ : Addr).add j) = some u) := one_cell2 w2 _
          have H1c : Hid (∀ u ∈ ([.int .i64 (r : Int)] : List Value), u.oneCell' = true) := fun u hu => by simp at hu; subst hu; rfl
          have HX := hide (show m + 1 ≤ maxLen by unfold maxLen; omega)
          have HY := hide (show (m + 1) * 8 ≤ 140737488355328 by omega)
          have HZ := hide HB3.out.size
          clear hA2 hq hq2 HO2 HB2 HV2
          go_wp2_with (refine wpList_append_own _ rfl (.tmp 39) (.tmp 41) 27 rfl w.heap.size 3 i0 (.int .i64 0) 1 8 Try.underlying27 hi hz0 hz1 hz2 rfl (by decide) _ m _ rfl HO3.out ⟨_, 0, none⟩ 1 1 [.int .i64 (r : Int)] rfl rfl HCE.out H1c.out HX.out HY.out HZ.out ?_; intro v' W' r1 r2 r3)
          have HR1 : Hid (W'.ownsRow w.heap.size 3 1 v' (m + 1) (encI (smallN f (r + 1 - 1)))) := by
            show World.ownsRow _ _ _ _ _ _ _
            rw [Nat.add_sub_cancel, HN.out, encI, List.map_append]
            exact r1
          have HMK2 : Hid (m + 1 = (smallN f (r + 1 - 1)).length) := by show _ = _; rw [Nat.add_sub_cancel, HN.out, List.length_append, ← hmk.out]; rfl
          have HB4 := hide (own_belowK HO3.out r2 HB3.out HB3.out.size (Nat.le_refl _))
          have HV4 : Hid (W'.heap[w.heap.size]? = some (.cells #[.int .i64 (P : Int), .slice a n c] 26 (0, 0))) := by
            show _ = _
            have r2' : (w2.alloc (.cells #[.int .i64 (r : Int)] 3)).grownBy W' (Value.slice a3 m c3).ownBlock := r2
            rw [r2'.block _ (row_lt HV3.out) (fun e => by
              rcases HO3.out.2 with ⟨e0, _⟩ | ⟨g, cap, cur, e0, _, b2, _⟩
              · rw [e0] at e; simp [Value.ownBlock] at e
              · rw [e0] at e; simp [Value.ownBlock] at e
                subst e
                rw [HV3.out] at b2; simp at b2)]
            exact HV3.out
          clear r1 r2 r3 HO3 HB3 HV3 HCE H1c HX HY HZ hmk HN
          go_wp2_with fail
          go_roundw
          case rel => exact ⟨r + 1, m + 1, by omega, by omega, by go_num, HMK2, HR1, HV4, HB4⟩
          case measure => simp [intOf]; omega
      obtain ⟨g, c2, ev, hgl, hcg, hlk⟩ := numRow_at HO2.out hkm
      injection ev with e1 _ e3
      subst e1 e3
      have hs := hl10.out _ (List.mem_of_getElem? hlk)
      obtain ⟨s, hss⟩ : ∃ s, Hid (l.getD k 0 = s) := ⟨_, rfl⟩
      rw [hss.out] at hcg hs hlk
      have HST : Hid ((b0 && !subA (l.take (k + 1)) r) = ((b0 && !subA (l.take k) r) && !decide (s &&& r = s))) := by
        show _ = _
        unfold subA
        rw [List.take_add_one, hlk, List.any_append]
        simp only [Option.toList_some, List.any_cons, List.any_nil, Bool.or_false, Bool.not_or, Bool.and_assoc]
      obtain ⟨q, hq⟩ : ∃ q, Hid ((b0 && !subA (l.take k) r) = q) := ⟨_, rfl⟩
      rw [hq.out] at HST ⊢
      have hand := and_i64 s r (by omega) (by omega)
      have hne : (((s &&& r : Nat) : Int) != (s : Int)) = !decide (s &&& r = s) := by by_cases e : s &&& r = s <;> simp [e]; omega
      generalize s &&& r = sr at *
      clear hlk hss hq hfr hmk HO2 hl hl10 HB2 HV2
      cases q
      · go_wp2_with fail
        go_round
        case rel => exact ⟨k + 1, by omega, by go_num, by rw [HST.out]; rfl⟩
        case measure => simp [intOf]; omega
      · obtain ⟨t, ht⟩ : ∃ t, Hid ((!decide (sr = s)) = t) := ⟨_, rfl⟩
        rw [ht.out] at hne HST
        go_wp2_with fail
        go_round
        case rel => exact ⟨k + 1, by omega, by go_num, by rw [HST.out]; rfl⟩
        case measure => simp [intOf]; omega

/-- How the specification's SmallSiphons ends. -/
def SspEnd (p : Int) (n : Nat) (L : List (List Int)) (w : World) (e : Ending) (w' : World) : Prop :=
  ∃ v, e = .returned (.tuple #[v, .bool (siOk p n L)]) ∧ LRow w' w.heap.size v (listsN (spN p n L)) ∧ Below w.heap.size w w'

theorem sspEnd_no {p : Int} {n : Nat} {L : List (List Int)} {w w' : World} (h : siOk p n L = false) (hb : Below w.heap.size w w') : SspEnd p n L w (.returned (.tuple #[.slice none 0 0, .bool false])) w' :=
  ⟨_, by rw [h], by rw [spN_no h]; exact LRow.nil _ _, hb⟩

set_option maxHeartbeats 2000000 in
theorem smallSipS_any (p : Int) (a : Option Addr) (n c : Nat) (L : List (List Int)) (w : World) (h : Lists w a (3 * n) L) (hs : sizeN n L ≤ 1048576) :
    Calls Try.prog 48 #[.agg #[.int .i64 p, .slice a n c]] w fun e w' => SspEnd p n L w e w' := by
  have hAl := below_al w (.cells #[.int .i64 p, .slice a n c] 26)
  have PAR := hide (heap_alloc_new w (.cells #[.int .i64 p, .slice a n c] 26))
  have HT := hide (plainS_any p a n c L _ (h.below hAl) hs)
  have HB0 := hide hAl
  have HL := hide h
  clear h hAl
  go_enter Try.func48, Try.ntmps48
  go_wp2_with fail
  refine HT.out.mono ?_
  rintro e w1 ⟨rfl, hb⟩
  have HB1 := hide (HB0.out.trans (hb.mono HB0.out.size))
  obtain ⟨hc0, hc1⟩ := cells2 (keep PAR.out hb)
  have hlt := row_lt (keep PAR.out hb)
  clear hb HT HB0 PAR
  by_cases g1 : plainB p n L = true
  rotate_left
  · have g1' : plainB p n L = false := by simpa using g1
    have HN := hide (sspEnd_no (show siOk p n L = false by unfold siOk; rw [g1']; rfl) HB1.out)
    rw [g1']
    clear g1 g1' hc0 hc1 hlt
    go_wp2_with fail
    go_ret2
    exact HN.out
  have HG1 := hide g1
  have hgn : netOk p n L = true := by unfold plainB at g1; simp only [Bool.and_eq_true] at g1; exact g1.1
  rw [g1]
  clear g1
  by_cases h10 : p ≤ 10
  rotate_left
  · have hd : (10 : Int) < p := by omega
    have HN := hide (sspEnd_no (show siOk p n L = false by unfold siOk; simp [h10]) HB1.out)
    clear h10 hgn
    go_wp2_with fail
    go_ret2
    exact HN.out
  have hd : ¬ (10 : Int) < p := by omega
  have HOK : Hid (siOk p n L = true) := by show _ = _; unfold siOk; rw [HG1.out]; simp [h10]
  have hp1 : 1 ≤ p := (si_parts HOK.out).2.1
  obtain ⟨P, rfl⟩ : ∃ P : Nat, p = (P : Int) := ⟨p.toNat, by omega⟩
  have HC := hide (smallS8_any P a n c L _ (HL.out.below HB1.out) hgn (by omega))
  have HSI : Hid (spN (P : Int) n L = smallN (fun s => !slips true s n L) (2 ^ P - 1)) := by show _ = _; unfold spN; rw [if_pos HOK.out, Int.toNat_natCast]
  clear hgn h10 hp1
  go_wp2_with fail
  refine HC.out.mono ?_
  rintro e w2 ⟨v, rfl, hlr, hb⟩
  have HE : Hid (SspEnd (P : Int) n L w (.returned (.tuple #[v, .bool true])) w2) := ⟨v, by rw [HOK.out], by rw [HSI.out]; exact hlr.low HB1.out.size, HB1.out.trans (hb.mono HB1.out.size)⟩
  clear hlr hb HC HSI hc0 hc1 hlt
  go_wp2_with fail
  go_ret2
  exact HE.out

theorem spN_so {p : Int} {n : Nat} {L : List (List Int)} : soN (fun s => !slips true s n L) p n L = spN p n L := rfl

/-- smallSetsOf with isSiphon. -/
theorem smallSipB_any (p : Int) (a : Option Addr) (n c : Nat) (L : List (List Int)) (w : World) (h : Lists w a (3 * n) L) (hs : sizeN n L ≤ 1048576) :
    Calls Try.prog 79 #[.agg #[.int .i64 p, .slice a n c], .func (.func 88) #[] #[]] w fun e w' => SiEnd (fun s => !slips true s n L) p n L w e w' := by
  refine smallSetsOf_any _ _ p a n c L w h hs (by show _ = _; kernel_rfl) fun hok B W hW hP W' hW' s hs' => ?_
  obtain ⟨hg, hp1, hp2⟩ := si_parts hok
  have hn := netN hg
  have hm := net_masks hg h.1
  exact isSiphonP_any p B n s L W' (hP.grow hW') hn (by omega) hm

/-- How the program's SmallSiphons ends. -/
def SipEnd (p : Int) (n : Nat) (L : List (List Int)) (w : World) (e : Ending) (w' : World) : Prop :=
  ∃ B m lo, e = .returned (.tuple #[.slice (some ⟨B, 0, none⟩) m m, .bool (siOk p n L)]) ∧ m = (spN p n L).length ∧ PartG w' B lo w'.heap.size m 27 (fun j => (listsN (spN p n L)).getD j []) ∧ w.heap.size ≤ B ∧ w.heap.size ≤ lo ∧ lo ≤ w'.heap.size ∧ Below w.heap.size w w'

set_option maxHeartbeats 400000 in
theorem smallSipI_any (p : Int) (a : Option Addr) (n c : Nat) (L : List (List Int)) (w : World) (h : Lists w a (3 * n) L) (hs : sizeN n L ≤ 1048576) :
    Calls Try.prog 47 #[.agg #[.int .i64 p, .slice a n c]] w fun e w' => SipEnd p n L w e w' := by
  have hAl := below_al w (.cells #[.int .i64 p, .slice a n c] 26)
  have HT := hide (smallSipB_any p a n c L _ (h.below hAl) hs)
  have HB0 := hide hAl
  clear h hAl
  go_enter Try.func47, Try.ntmps47
  go_wp2_with fail
  refine HT.out.mono ?_
  rintro e w1 ⟨v, m, p', a', m', c', rfl, hown, hpe, hb⟩
  rw [spN_so] at hown
  have HB1 := hide (HB0.out.trans (hb.mono HB0.out.size))
  have hA1 := below_al w1 (.cells #[.int .i64 p', .slice a' m' c'] 59)
  have HB2 := hide (HB1.out.trans (hA1.mono HB1.out.size))
  have HO2 := hide (own_growK hown hA1)
  obtain ⟨l, hl⟩ : ∃ l, Hid (spN p n L = l) := ⟨_, rfl⟩
  have hml : m = l.length := by have := hown.1; rw [encS_len, hl.out] at this; omega
  have hm : m ≤ 1024 := by rw [hml, ← hl.out]; exact spN_len _ _ _
  have HLT := hide (show ∀ s ∈ l, s < 2 ^ 16 from fun s hs => by rw [← hl.out] at hs; have := (spN_mem hs).2.1; omega)
  rw [hl.out] at HO2
  obtain ⟨av, cv, rfl⟩ := own_slice HO2.out
  obtain ⟨ok, hok⟩ : ∃ ok, Hid (siOk p n L = ok) := ⟨_, rfl⟩
  rw [hok.out]
  have HML := hide hml
  clear hb hown hA1 HT HB1 HB0 hpe hml
  go_wp2_with fail
  refine (listsOfSets_any _ m cv av l _ HO2.out HLT.out hm).mono ?_
  rintro e w3 ⟨B, rfl, hp, hB, hb⟩
  have HE : Hid (SipEnd p n L w (.returned (.tuple #[.slice (some ⟨B, 0, none⟩) m m, .bool ok])) w3) := by
    refine ⟨B, m, _, by rw [hok.out], by rw [hl.out]; exact HML.out, by rw [hl.out]; exact hp, by have := HB2.out.size; omega, HB2.out.size, hb.size, HB2.out.trans (hb.mono HB2.out.size)⟩
  clear hp hB hb HO2 HLT HB2 hl HML
  go_wp2_with fail
  go_ret2
  exact HE.out
end Go.Proofs.Ytajcmamapmeglaa


/- l2Marked and the specification's Fire, for every net, mark and number in memory. -/
namespace Go.Proofs.Ytajcmamapmeglaa
open Go.RowKit

theorem goodB_parts {p : Int} {ys : List Int} (h : goodB p ys = true) : (1 ≤ p ∧ p ≤ 16) ∧ (ys.length : Int) = p ∧ ∀ i, 0 ≤ ys.getD i 0 ∧ ys.getD i 0 ≤ 50 := by
  unfold goodB at h
  simp only [Bool.and_eq_true, decide_eq_true_eq] at h
  obtain ⟨⟨h1, h2⟩, h3⟩ := h
  refine ⟨by simpa [inB] using h1, h2, fun i => ?_⟩
  by_cases hi : i < ys.length
  · unfold allB at h3
    rw [List.all_eq_true] at h3
    have := h3 (ys.getD i 0) (by rw [List.getD_eq_getElem?_getD, List.getElem?_eq_getElem hi]; simp)
    simpa [inB] using this
  · rw [List.getD_eq_getElem?_getD, List.getElem?_eq_none (by omega)]; simp

/-- The lists of a transition, by its number. -/
def inOf (L : List (List Int)) (t : Int) : List Int := L.getD (3 * t.toNat) []
def outOf (L : List (List Int)) (t : Int) : List Int := L.getD (3 * t.toNat + 1) []
def resOf (L : List (List Int)) (t : Int) : List Int := L.getD (3 * t.toNat + 2) []

def firedL (L : List (List Int)) (ys : List Int) (t : Int) : List Int := fireL (inOf L t) (outOf L t) (resOf L t) ys

def fireOk (p : Int) (n : Nat) (L : List (List Int)) (ys : List Int) (t : Int) : Bool :=
  netOk p n L && goodB p ys && inB t 0 ((n : Int) - 1) && canB (inOf L t) ys && goodB p (firedL L ys t)

def fireR (p : Int) (n : Nat) (L : List (List Int)) (ys : List Int) (t : Int) : List Int := if fireOk p n L ys t then firedL L ys t else []

/-- A list and a bool; nothing that was there is written. -/
def REnd (g : Bool) (r : List Int) (w : World) (e : Ending) (w' : World) : Prop := ∃ a n c, e = .returned (.tuple #[.slice a n c, .bool g]) ∧ Row w' a n r ∧ Below w.heap.size w w'

theorem rend_no {p : Int} {n : Nat} {L : List (List Int)} {ys : List Int} {t : Int} {w w' : World} (h : fireOk p n L ys t = false) (hb : Below w.heap.size w w') : REnd (fireOk p n L ys t) (fireR p n L ys t) w (.returned (.tuple #[.slice none 0 0, .bool false])) w' := by
  refine ⟨none, 0, 0, by rw [h], ⟨?_, .inl rfl⟩, hb⟩
  unfold fireR; rw [h]; rfl

theorem rend_yes {p : Int} {n : Nat} {L : List (List Int)} {ys : List Int} {t : Int} {w w' : World} {a : Option Addr} {m c : Nat} (h : fireOk p n L ys t = true) (hr : Row w' a m (firedL L ys t)) (hb : Below w.heap.size w w') : REnd (fireOk p n L ys t) (fireR p n L ys t) w (.returned (.tuple #[.slice a m c, .bool true])) w' := by
  refine ⟨a, m, c, by rw [h], ?_, hb⟩
  unfold fireR; rw [h]; exact hr

theorem fireOk_no1 {p : Int} {n : Nat} {L : List (List Int)} {ys : List Int} {t : Int} (h : (netOk p n L && goodB p ys) = false) : fireOk p n L ys t = false := by unfold fireOk; rw [h]; rfl
theorem fireOk_no2 {p : Int} {n : Nat} {L : List (List Int)} {ys : List Int} {t : Int} (h : inB t 0 ((n : Int) - 1) = false) : fireOk p n L ys t = false := by unfold fireOk; rw [h]; simp
theorem fireOk_no3 {p : Int} {n : Nat} {L : List (List Int)} {ys : List Int} {t : Int} (h : canB (inOf L t) ys = false) : fireOk p n L ys t = false := by unfold fireOk; rw [h]; simp
theorem fireOk_no4 {p : Int} {n : Nat} {L : List (List Int)} {ys : List Int} {t : Int} (h : goodB p (firedL L ys t) = false) : fireOk p n L ys t = false := by unfold fireOk; rw [h]; simp
theorem fireOk_yes {p : Int} {n : Nat} {L : List (List Int)} {ys : List Int} {t : Int} (h : (netOk p n L && goodB p ys) = true) (h2 : inB t 0 ((n : Int) - 1) = true) (h3 : canB (inOf L t) ys = true) (h4 : goodB p (firedL L ys t) = true) : fireOk p n L ys t = true := by
  unfold fireOk; rw [h, h2, h3, h4]; rfl

theorem triOkOf {p : Int} {n i : Nat} {L : List (List Int)} (h : netOk p n L = true) (hi : i < n) : triOk p L i = true := by
  unfold netOk at h
  rw [Bool.and_eq_true] at h
  exact List.all_eq_true.mp h.2 i (by simpa using hi)

theorem tri_rise {p : Int} {L : List (List Int)} {i : Nat} (h : triOk p L i = true) : riseB (L.getD (3 * i) []) 0 (p - 1) = true ∧ riseB (L.getD (3 * i + 1) []) 0 (p - 1) = true ∧ riseB (L.getD (3 * i + 2) []) 0 (p - 1) = true := by
  unfold triOk at h
  simp only [Bool.and_eq_true] at h
  exact ⟨h.1.1.2, h.1.2, h.2⟩

theorem netOkN {p : Int} {n : Nat} {L : List (List Int)} (h : netOk p n L = true) : n ≤ 24 := by
  unfold netOk at h; simp at h; exact h.1.2

end Go.Proofs.Ytajcmamapmeglaa


/- What bothTokensOf answers, for every number of places and every two lists: both arrays and true where both are good marks, else false; nothing that was there is written. -/
namespace Go.Proofs.Ytajcmamapmeglaa
open Go.RowKit

def tokL (f : Nat → Int) : List Value := (tokF f).toList

theorem tokL_len (f : Nat → Int) : (tokL f).length = 16 := by simp [tokL, tokF_size]
theorem tokL_arr (f : Nat → Int) : (tokL f).toArray = tokF f := by simp [tokL]
theorem tokL_one (f : Nat → Int) : ∀ v ∈ tokL f, v.oneCell' = true := by
  intro v hv
  exact Array.all_eq_true_iff_forall_mem.1 (tokF_one f) v (by simpa [tokL] using hv)

theorem range_of_block {w : World} {b : Nat} {f : Nat → Int} {t : TypeId} {fr : Nat × Nat} (hb : w.heap[b]? = some (.cells (tokF f) t fr)) : w.rangeAt b 0 (tokL f) := by
  intro j v hv
  rw [cell_of_row w b (0 + j) _ t fr hb, Nat.zero_add]
  simpa [tokL] using hv

theorem there_of_block {w : World} {b : Nat} {C : Array Value} {t : TypeId} (hb : w.heap[b]? = some (.cells C t (0, 0))) (hs : C.size = 16) : w.there b 0 16 := by
  intro j hj
  refine ⟨?_, frozen_of_row w b _ C t hb⟩
  rw [cell_of_row w b (0 + j) _ t (0, 0) hb, Nat.zero_add, Array.getElem?_eq_getElem (by omega)]
  rfl

theorem setRow_same {w : World} {b : Nat} {C : Array Value} {t : TypeId} (hb : w.heap[b]? = some (.cells C t (0, 0))) (D : Array Value) : (w.setRow b D).heap[b]? = some (.cells D t (0, 0)) := by
  simp only [World.setRow, Array.getElem?_modify]
  rw [if_pos trivial, hb]
  rfl

theorem setRow_other (w : World) (b k : Nat) (D : Array Value) (h : k ≠ b) : (w.setRow b D).heap[k]? = w.heap[k]? := by
  simp only [World.setRow, Array.getElem?_modify]
  rw [if_neg (by omega)]

theorem below_setCells {B : Nat} {a w : World} (h : Below B a w) (b o : Nat) (hb : B ≤ b) (vs : List Value) : Below B a (w.setCells b o vs) := by
  induction vs generalizing w o with
  | nil => exact h
  | cons v r ih => exact ih (h.setCell hb v) (o + 1)

theorem results_cells_tmp {fn : Func} {p q u : Tmp} {ty tz : TypeId} (h : fn.results = #[.cell p ty, .cell q tz, .tmp u]) (tmps : Array Value) (P : Program) (w : World) :
    (results fn tmps).run P w =
      ((asAddr (tmps.getD p undef)).run P w).andThen fun a w₁ => ((loadVar ty a).run P w₁).andThen fun v w₂ =>
        ((asAddr (tmps.getD q undef)).run P w₂).andThen fun b w₃ => ((loadVar tz b).run P w₃).andThen fun v' w₄ => .ok (.tuple #[v, v', tmps.getD u undef]) w₄ := by
  simp only [results, h]
  simp [Sem.run_bind, Result.andThen]

theorem cons_store {P : Program} {md : Region.Mode} {ops : Array Oper} {Q : Exit → Act → World → Prop} {fuel : Nat} {listed : Array Bool} {a : Act} {w : World} {i : Nat} {o : Oper} {rs : List Nat} (ho : ops[i]? = some o)
    (hgd : o.guard = none) (hd : o.dst = none) (ty : TypeId) (x y : Operand) (hop : o.op = .store ty x y)
    (g : Nat) (cells : Array Value) (hx : a.eval x = .pointer (some ⟨g, 0, none⟩)) (hy : a.eval y = .agg cells)
    (t : TypeId) (old : Array Value) (hg : w.heap[g]? = some (.cells old t (0, 0))) (hi : (P.info? ty).map (·.size) = some cells.size)
    (hold : old.size = cells.size) (h1 : cells.all (·.oneCell') = true)
    (h : wpAny P md ops Q fuel (listed.setIfInBounds i true) a (w.setRow g cells))
    (hs : AllReady P md ops Q fuel listed a w rs) : AllReady P md ops Q fuel listed a w (i :: rs) := by
  refine AllReady.cons ho (fun K hK => ?_) hs
  rw [if_pos (by simp [Region.wanted, hgd])]
  refine wp_store_row ty x y hop g cells hx hy t old hg hi hold h1 (hK _ _ ?_)
  rw [hd]
  exact h

theorem cons_load {P : Program} {md : Region.Mode} {ops : Array Oper} {Q : Exit → Act → World → Prop} {fuel : Nat} {listed : Array Bool} {a : Act} {w : World} {i : Nat} {o : Oper} {rs : List Nat} (ho : ops[i]? = some o)
    (hgd : o.guard = none) (d : Option Tmp) (hd : o.dst = d) (ty : TypeId) (x : Operand) (hop : o.op = .load ty x)
    (g : Nat) (cells : Array Value) (hx : a.eval x = .pointer (some ⟨g, 0, none⟩))
    (t : TypeId) (n : Nat) (e : TypeId) (hu : P.underlying ty = some (.array n e)) (hg : w.heap[g]? = some (.cells cells t (0, 0))) (hi : (P.info? ty).map (·.size) = some cells.size)
    (h : wpAny P md ops Q fuel (listed.setIfInBounds i true) (a.put d (.agg cells)) w)
    (hs : AllReady P md ops Q fuel listed a w rs) : AllReady P md ops Q fuel listed a w (i :: rs) := by
  refine AllReady.cons ho (fun K hK => ?_) hs
  rw [if_pos (by simp [Region.wanted, hgd])]
  refine wp_load_row ty x hop g hx t cells (0, 0) _ hg hu rfl hi (hK _ _ ?_)
  rw [hd]
  exact h

theorem cons_assign {P : Program} {md : Region.Mode} {ops : Array Oper} {Q : Exit → Act → World → Prop} {fuel : Nat} {listed : Array Bool} {a : Act} {w : World} {i : Nat} {o : Oper} {rs : List Nat} (ho : ops[i]? = some o)
    (hgd : o.guard = none) (d : Option Tmp) (hd : o.dst = d) (x : Operand) (hop : o.op = .assign x)
    (h : wpAny P md ops Q fuel (listed.setIfInBounds i true) (a.put d (a.eval x)) w)
    (hs : AllReady P md ops Q fuel listed a w rs) : AllReady P md ops Q fuel listed a w (i :: rs) := by
  refine AllReady.cons ho (fun K hK => ?_) hs
  rw [if_pos (by simp [Region.wanted, hgd])]
  unfold Oper.wp
  simp only [execOp, hop, Sem.run_pure]
  refine hK _ _ ?_
  rw [hd]
  exact h

set_option maxRecDepth 10000 in
theorem both_results {fn : Func} (hr : fn.results = #[.cell 6 74, .cell 7 74, .tmp 8]) (tmps : Array Value) (W : World) (b6 b7 : Nat) (f g : Nat → Int) (v : Value)
    (h6 : tmps.getD 6 undef = .pointer (some ⟨b6, 0, none⟩)) (h7 : tmps.getD 7 undef = .pointer (some ⟨b7, 0, none⟩)) (h8 : tmps.getD 8 undef = v)
    (q6 : W.heap[b6]? = some (.cells (tokF f) 74 (0, 0))) (q7 : W.heap[b7]? = some (.cells (tokF g) 74 (0, 0))) :
    (results fn tmps).run Try.prog W = .ok (.tuple #[.agg (tokF f), .agg (tokF g), v]) W := by
  refine (results_cells_tmp hr _ _ _).trans ?_
  rw [h6, h7, h8]
  show ((loadVar 74 ⟨b6, 0, none⟩).run Try.prog W).andThen _ = _
  rw [run_loadVar_row _ _ 74 74 (tokF f) (0, 0) _ q6 Try.underlying74 rfl (by rw [tokF_size]; exact Try.size74)]
  show ((loadVar 74 ⟨b7, 0, none⟩).run Try.prog W).andThen _ = _
  rw [run_loadVar_row _ _ 74 74 (tokF g) (0, 0) _ q7 Try.underlying74 rfl (by rw [tokF_size]; exact Try.size74)]
  rfl

theorem below_rows {B : Nat} {w V : World} (h : Below B w V) (b c : Nat) (hb : B ≤ b) (hc : B ≤ c) (C D : Array Value) : Below B w ((V.drew.setRow b C).setRow c D) :=
  below_setRow (below_setRow h.drew _ hb _) _ hc _

theorem lit_one : (#[.int .u8 0, .int .u8 0, .int .u8 0, .int .u8 0, .int .u8 0, .int .u8 0, .int .u8 0, .int .u8 0, .int .u8 0, .int .u8 0, .int .u8 0, .int .u8 0, .int .u8 0, .int .u8 0, .int .u8 0, .int .u8 0] : Array Value).all (·.oneCell') = true := by
  rw [← packOf_zero []]; exact packOf_one _ _

end Go.Proofs.Ytajcmamapmeglaa
