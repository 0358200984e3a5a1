/- Contracts that the proof stands on, one behind the other. -/
import Derived.Test.YtajcmamapmeglaaP3
import Derived.OwnWalk
/- The list of a set of places: list of the program. -/
namespace Go.Proofs.Ytajcmamapmeglaa
open Go.RowKit

/-- The numbers below k that are as asked. -/
def nums2 (f : Nat → Bool) (k : Nat) : List Int := ((List.range k).filter f).map fun (i : Nat) => (i : Int)

theorem nums2_yes {f : Nat → Bool} {k : Nat} (h : f k = true) : nums2 f (k + 1) = nums2 f k ++ [(k : Int)] := by simp [nums2, List.range_succ, List.filter_append, h]
theorem nums2_no {f : Nat → Bool} {k : Nat} (h : f k = false) : nums2 f (k + 1) = nums2 f k := by simp [nums2, List.range_succ, List.filter_append, h]

theorem own_below2 {B : Nat} {w w' : World} {v : Value} {n : Nat} {l : List Value} (hown : w.ownsRow B 3 1 v n l) (hg : w.grownBy w' v.ownBlock) {a : World} {C : Nat} (h : Below C a w) (hC : C ≤ w.heap.size) (hB : C ≤ B) : Below C a w' := by
  refine h.grown hg hC fun k hk => ?_
  rcases hown.2 with ⟨rfl, _⟩ | ⟨g, cap, cur, rfl, hb, _⟩
  · simp [Value.ownBlock] at hk
  · simp [Value.ownBlock] at hk; omega

theorem one_cell2 (w : World) (v : Value) : ∀ j u, ([v] : List Value)[j]? = some u → (w.alloc (.cells #[v] 3)).cell? ((⟨w.heap.size, 0, none⟩ : Addr).add j) = some u := by
  intro j u hu
  match j, hu with
  | 0, hu =>
    simp at hu; subst hu
    rw [Addr.add_mid]
    exact cell_of_row _ w.heap.size 0 #[v] _ _ (heap_alloc_new _ _)
  | (q + 1), hu => simp at hu

theorem own_ob2 {B : Nat} {w : World} {v : Value} {n : Nat} {l : List Int} (hown : w.ownsRow B 3 1 v n (l.map (Value.int .i64))) : ∃ a b c, v = .slice a n c ∧ B ≤ b ∧ Ob w a b n l := by
  have hl : l.length = n := by have := hown.1; simpa using this
  rcases hown.2 with ⟨rfl, rfl⟩ | ⟨g, cap, cur, rfl, hb, hh, hnc, _, hsz, ht⟩
  · exact ⟨none, B, 0, rfl, Nat.le_refl _, hl, .inl rfl⟩
  · refine ⟨_, g, cap, rfl, hb, hl, .inr ⟨rfl, cur, hh, by omega, fun i hi => ?_⟩⟩
    have e : (cur.toList.take (n * 1))[i]? = (l.map (Value.int .i64))[i]? := by rw [ht]
    rw [List.getElem?_take_of_lt (by omega), Array.getElem?_toList] at e
    rw [e]
    simp [List.getElem?_eq_getElem (show i < l.length by omega)]

theorem info_split2 {P : Program} {e : TypeId} {z : Value} {size bytes : Nat} (h : (P.info? e).map (fun i => (i.zero, i.size, i.bytes)) = some (some z, size, bytes)) : ∃ i, P.info? e = some i ∧ i.zero = some z ∧ i.size = size ∧ i.bytes = bytes := by
  obtain ⟨i, hi, hzz⟩ := Option.map_eq_some_iff.1 h
  simp only [Prod.mk.injEq] at hzz
  exact ⟨i, hi, hzz.1, hzz.2.1, hzz.2.2⟩

theorem bit_of2 (s k : Nat) (hs : s < 2 ^ 16) : (bits .and .u16 ((s : Int) / 2 ^ k) 1 == 1) = s.testBit k := by
  have h1 : ((s : Int) / 2 ^ k) = ((s / 2 ^ k : Nat) : Int) := by simp
  have h2 : s / 2 ^ k < 2 ^ 16 := Nat.lt_of_le_of_lt (Nat.div_le_self _ _) hs
  have h3 := and_u16 (s / 2 ^ k) 1 h2 (by decide)
  rw [h1]
  rw [show ((1 : Nat) : Int) = (1 : Int) from rfl] at h3
  rw [h3, Nat.and_one_is_mod, Nat.testBit_eq_decide_div_mod_eq]
  by_cases h : s / 2 ^ k % 2 = 1
  · rw [h]; rfl
  · have h4 : s / 2 ^ k % 2 = 0 := by omega
    rw [h4]; rfl

set_option maxHeartbeats 400000 in
theorem has2_any (s k : Nat) (w : World) (hs : s < 2 ^ 16) (hk : k < 16) :
    Calls Try.prog 139 #[.int .u16 (s : Int), .int .i64 (k : Int)] w fun e w' => e = .returned (.bool (s.testBit k)) ∧ w' = w := by
  have hk0 : (0 : Int) ≤ (k : Int) := by omega
  have HB := hide (bit_of2 s k hs)
  go_enter Try.func139, Try.ntmps139
  go_wp2_with fail
  go_ret
  exact ⟨ret_bool HB.out, rfl⟩

/-- The places of a rising list are its bits. -/
theorem nums2_mask {p : Int} {xs : List Int} (hp : p ≤ 16) (h : riseB xs 0 (p - 1) = true) : nums2 (maskL xs).testBit 16 = xs := by
  have hm := fun z hz => riseB_mem h z hz
  have key : ∀ z, z ∈ nums2 (maskL xs).testBit 16 ↔ z ∈ xs := by
    intro z
    unfold nums2
    simp only [List.mem_map, List.mem_filter, List.mem_range]
    constructor
    · rintro ⟨i, ⟨_, hb⟩, rfl⟩
      rw [maskL_bit _ _ (fun z hz => (hm z hz).1)] at hb
      simpa using hb
    · intro hz
      have := hm z hz
      refine ⟨z.toNat, ⟨by omega, ?_⟩, by omega⟩
      rw [maskL_bit _ _ (fun z hz => (hm z hz).1), Int.toNat_of_nonneg this.1]
      simpa using hz
  have hrise : ∀ (f : Nat → Bool) (n : Nat), riseB (nums2 f n) 0 ((n : Int) - 1) = true := by
    intro f n
    induction n with
    | zero => rfl
    | succ n ih =>
      have hup : ∀ (ys : List Int) (lo hi hi' : Int), hi ≤ hi' → riseB ys lo hi = true → riseB ys lo hi' = true := by
        intro ys
        induction ys with
        | nil => intros; rfl
        | cons y r ihr =>
          intro lo hi hi' hh hr
          simp only [riseB, Bool.and_eq_true, decide_eq_true_eq] at hr ⊢
          exact ⟨⟨hr.1.1, by omega⟩, ihr _ _ _ hh hr.2⟩
      by_cases hf : f n = true
      · rw [nums2_yes hf, riseB_append, hup _ _ _ _ (by omega) ih]
        simp only [Bool.true_and, riseB, Bool.and_true, Bool.and_eq_true, decide_eq_true_eq]
        refine ⟨?_, by omega⟩
        cases hg : (nums2 f n).getLast? with
        | none => simp
        | some z =>
          have hz := List.mem_of_getLast? hg
          have := riseB_mem ih z hz
          simp; omega
      · have hf' : f n = false := by simpa using hf
        rw [nums2_no hf']
        exact hup _ _ _ _ (by omega) ih
  have hext : ∀ (ys zs : List Int) (lo hi : Int), riseB ys lo hi = true → riseB zs lo hi = true → (∀ z, z ∈ ys ↔ z ∈ zs) → ys = zs := by
    intro ys
    induction ys with
    | nil =>
      intro zs lo hi _ _ hh
      cases zs with
      | nil => rfl
      | cons y r => have := (hh y).mpr (by simp); simp at this
    | cons x r ih =>
      intro zs lo hi hx hy hh
      cases zs with
      | nil => have := (hh x).mp (by simp); simp at this
      | cons y s =>
        simp [riseB] at hx hy
        have hxm := riseB_mem hx.2
        have hym := riseB_mem hy.2
        have e : x = y := by
          have h1 := (hh x).mp (by simp)
          have h2 := (hh y).mpr (by simp)
          rcases List.mem_cons.mp h1 with e | h1
          · exact e
          · rcases List.mem_cons.mp h2 with e | h2
            · exact e.symm
            · have := hym x h1; have := hxm y h2; omega
        subst e
        congr 1
        refine ih s _ _ hx.2 hy.2 fun z => ?_
        have hz := hh z
        simp only [List.mem_cons] at hz
        constructor
        · intro hm
          rcases hz.mp (.inr hm) with e | hm'
          · have := hxm z hm; omega
          · exact hm'
        · intro hm
          rcases hz.mpr (.inr hm) with e | hm'
          · have := hym z hm; omega
          · exact hm'
  have hup2 : riseB xs 0 15 = true := by
    have : ∀ (ys : List Int) (lo hi hi' : Int), hi ≤ hi' → riseB ys lo hi = true → riseB ys lo hi' = true := by
      intro ys
      induction ys with
      | nil => intros; rfl
      | cons y r ihr =>
        intro lo hi hi' hh hr
        simp only [riseB, Bool.and_eq_true, decide_eq_true_eq] at hr ⊢
        exact ⟨⟨hr.1.1, by omega⟩, ihr _ _ _ hh hr.2⟩
    exact this xs 0 (p - 1) 15 (by omega) h
  exact hext _ _ 0 15 (hrise _ 16) hup2 key

set_option maxHeartbeats 1000000 in
theorem setList_any (s : Nat) (w : World) (hs : s < 2 ^ 16) :
    Calls Try.prog 94 #[.int .u16 (s : Int)] w fun e w' => ∃ a b m c, e = .returned (.slice a m c) ∧ w.heap.size ≤ b ∧ Ob w' a b m (nums2 s.testBit 16) ∧ Below w.heap.size w w' := by
  obtain ⟨i0, hi, hz0, hz1, hz2⟩ := info_split2 Try.info3
  go_enter Try.func94, Try.ntmps94
  go_wp2_with fail
  go_loopw [3, 5] (fun o i wr => ∃ k m : Nat, k ≤ 16 ∧ i = .int .i64 k ∧ Hid (m ≤ k) ∧ Hid (wr.ownsRow w.heap.size 3 1 o m ((nums2 s.testBit k).map (Value.int .i64))) ∧ Hid (Below w.heap.size w wr)) (fun _ i _ => 16 - (intOf i).toNat)
  case atStart => exact ⟨0, 0, Nat.zero_le _, rfl, Nat.le_refl _, World.ownsRow_nil _ _ _ _, Below.refl _ _⟩
  case round =>
    obtain ⟨k, m, hk, rfl, hmk, hown, hbw⟩ := hrel
    by_cases hlt : k < 16
    rotate_left
    · have hk' : k = 16 := by omega
      subst hk'
      obtain ⟨av, bv, cv, hv, hbv, hob⟩ := own_ob2 hown.out
      subst hv
      have HE := hide (And.intro hbv (And.intro hob hbw.out))
      clear hown hob hbv
      go_wp2_with fail
      go_ret
      exact ⟨av, bv, m, cv, rfl, HE.out⟩
    have hi1 : ((k : Int)) < 16 := by omega
    cases hh : s.testBit k
    · have HN := hide (nums2_no hh)
      go_wp2_with (go_at_call 139; refine (has2_any s k _ hs hlt).mono ?_; rintro e w' ⟨rfl, rfl⟩)
      go_roundw
      case rel => exact ⟨k + 1, m, by omega, by go_num, Nat.le_succ_of_le hmk.out, by rw [HN.out]; exact hown, hbw⟩
      case measure => simp [intOf]; omega
    have HN := hide (nums2_yes hh)
    have hA2 := below_al wr (.cells #[.int .i64 (k : Int)] 3)
    have HO2 := hide (hown.out.alloc (.cells #[.int .i64 (k : Int)] 3))
    have HB2 := hide (hbw.out.trans (hA2.mono hbw.out.size))
    have HCE : Hid (∀ j u, ([.int .i64 (k : Int)] : List Value)[j]? = some u → (wr.alloc (.cells #[.int .i64 (k : Int)] 3)).cell? ((⟨wr.heap.size, 0, none⟩ : Addr).add j) = some u) := one_cell2 wr _
    have H1c : Hid (∀ u ∈ ([.int .i64 (k : Int)] : List Value), u.oneCell' = true) := fun u hu => by simp at hu; subst hu; rfl
    have HX := hide (show m + 1 ≤ maxLen by have := hmk.out; unfold maxLen; omega)
    have HY := hide (show (m + 1) * 8 ≤ 140737488355328 by have := hmk.out; omega)
    have HZ := hide HB2.out.size
    clear hA2 hown hbw
    go_wp2_with (first
      | (go_at_call 139; refine (has2_any s k _ hs hlt).mono ?_; rintro e w' ⟨rfl, rfl⟩)
      | (refine wpList_append_own _ rfl (.tmp 11) (.tmp 13) 27 rfl w.heap.size 3 i0 (.int .i64 0) 1 8 Try.underlying27 hi hz0 hz1 hz2 rfl (by decide) u3 m _ rfl HO2.out ⟨_, 0, none⟩ 1 1 [.int .i64 (k : Int)] rfl rfl HCE.out H1c.out HX.out HY.out HZ.out ?_; intro v' W' r1 r2 r3))
    have HR1 : Hid (W'.ownsRow w.heap.size 3 1 v' (m + 1) ((nums2 s.testBit (k + 1)).map (Value.int .i64))) := by
      show World.ownsRow _ _ _ _ _ _ _
      rw [HN.out, List.map_append]; exact r1
    have HB3 := hide (own_below2 HO2.out r2 HB2.out HB2.out.size (Nat.le_refl _))
    clear r1 r2 r3
    go_wp2_with fail
    go_roundw
    case rel => exact ⟨k + 1, m + 1, by omega, by go_num, Nat.succ_le_succ hmk.out, HR1, HB3⟩
    case measure => simp [intOf]; omega
end Go.Proofs.Ytajcmamapmeglaa


/- What firings change: change, changes, changesAt, changesBy, keepsWeight of the program. -/
namespace Go.Proofs.Ytajcmamapmeglaa
open Go.RowKit
set_option maxRecDepth 10000

/-- What one firing of a step changes at a place, by its sets. -/
def chI (s0 s1 j : Nat) : Int := (if s1.testBit j then 1 else 0) - (if s0.testBit j then 1 else 0)

def chL (L : List (List Int)) (j k : Nat) : Int := chI (maskL (L.getD (3 * k) [])) (maskL (L.getD (3 * k + 1) [])) j

/-- What counted firings change at a place. -/
def chBy (L : List (List Int)) (n : Nat) (cs : List Int) (j : Nat) : Int := sumF (fun k => chL L j k * cs.getD k 0) n

/-- What a step changes of a weight. -/
def chW (s0 s1 : Nat) (ws : List Int) (P : Nat) : Int := sumF (fun j => chI s0 s1 j * ws.getD j 0) P

theorem chI_cases (s0 s1 j : Nat) : chI s0 s1 j = -1 ∨ chI s0 s1 j = 0 ∨ chI s0 s1 j = 1 := by
  unfold chI; cases s1.testBit j <;> cases s0.testBit j <;> simp

theorem chI_mul {s0 s1 j : Nat} {x : Int} (h : -1000 ≤ x ∧ x ≤ 1000) : -1000000 ≤ chI s0 s1 j * x ∧ chI s0 s1 j * x ≤ 1000000 := by
  rcases chI_cases s0 s1 j with e | e | e <;> rw [e] <;> omega

theorem cells3E {w : World} {b : Nat} {v0 v1 v2 : Value} {T : TypeId} (h : w.heap[b]? = some (.cells #[v0, v1, v2] T (0, 0))) : w.cell? ⟨b, 0, none⟩ = some v0 ∧ w.cell? ⟨b, 1, none⟩ = some v1 ∧ w.cell? ⟨b, 2, none⟩ = some v2 :=
  ⟨cell_of_row w b 0 _ _ _ h, cell_of_row w b 1 _ _ _ h, cell_of_row w b 2 _ _ _ h⟩


set_option maxHeartbeats 400000 in
theorem givesE_any (k s0 s1 s2 : Nat) (w : World) (h1 : s1 < 2 ^ 16) (hk : k < 16) :
    Calls Try.prog 158 #[.agg #[.int .u16 (s0 : Int), .int .u16 (s1 : Int), .int .u16 (s2 : Int)], .int .i64 (k : Int)] w fun e w' => e = .returned (.bool (s1.testBit k)) ∧ Below w.heap.size w w' := by
  have HB0 := hide (below_al w (.cells #[.int .u16 (s0 : Int), .int .u16 (s1 : Int), .int .u16 (s2 : Int)] 65))
  go_enter Try.func158, Try.ntmps158
  go_wp2_with fail
  refine (has2_any _ _ _ h1 hk).mono ?_
  rintro e w1 ⟨rfl, rfl⟩
  go_wp2_with fail
  go_ret
  exact ⟨rfl, HB0.out⟩

set_option maxHeartbeats 400000 in
theorem takesE_any (k s0 s1 s2 : Nat) (w : World) (h0 : s0 < 2 ^ 16) (hk : k < 16) :
    Calls Try.prog 159 #[.agg #[.int .u16 (s0 : Int), .int .u16 (s1 : Int), .int .u16 (s2 : Int)], .int .i64 (k : Int)] w fun e w' => e = .returned (.bool (s0.testBit k)) ∧ Below w.heap.size w w' := by
  have HB0 := hide (below_al w (.cells #[.int .u16 (s0 : Int), .int .u16 (s1 : Int), .int .u16 (s2 : Int)] 65))
  go_enter Try.func159, Try.ntmps159
  go_wp2_with fail
  refine (has2_any _ _ _ h0 hk).mono ?_
  rintro e w1 ⟨rfl, rfl⟩
  go_wp2_with fail
  go_ret
  exact ⟨rfl, HB0.out⟩

set_option maxHeartbeats 1000000 in
theorem change_any (k s0 s1 s2 : Nat) (w : World) (h0 : s0 < 2 ^ 16) (h1 : s1 < 2 ^ 16) (hk : k < 16) :
    Calls Try.prog 147 #[.agg #[.int .u16 (s0 : Int), .int .u16 (s1 : Int), .int .u16 (s2 : Int)], .int .i64 (k : Int)] w fun e w' => e = .returned (.int .i64 (chI s0 s1 k)) ∧ Below w.heap.size w w' := by
  have HB := hide (below_al w (.cells #[.int .u16 (s0 : Int), .int .u16 (s1 : Int), .int .u16 (s2 : Int)] 65))
  have HV := hide (heap_alloc_new w (.cells #[.int .u16 (s0 : Int), .int .u16 (s1 : Int), .int .u16 (s2 : Int)] 65))
  go_enter Try.func147, Try.ntmps147
  go_wp2_with fail
  refine (givesE_any k s0 s1 s2 _ h1 hk).mono ?_
  rintro e w1 ⟨rfl, hb⟩
  have HB1 := hide (HB.out.trans (hb.mono HB.out.size))
  have HV1 := hide (keep HV.out hb)
  obtain ⟨hc0, hc1, hc2⟩ := cells3E HV1.out
  have hlt := (Array.getElem?_eq_some_iff.mp HV1.out).1
  obtain ⟨g, hg⟩ : ∃ g, Hid (s1.testBit k = g) := ⟨_, rfl⟩
  rw [hg.out]
  clear hb HB HV
  cases g
  all_goals
    go_wp2_with fail
    refine (takesE_any k s0 s1 s2 _ h0 hk).mono ?_
    rintro e w2 ⟨rfl, hb⟩
    have HB2 := hide (HB1.out.trans (hb.mono HB1.out.size))
    obtain ⟨t, ht⟩ : ∃ t, Hid (s0.testBit k = t) := ⟨_, rfl⟩
    rw [ht.out]
    clear hb HB1 HV1 hc0 hc1 hc2 hlt
    cases t
    all_goals
      go_wp2_with fail
      go_ret
      exact ⟨by unfold chI; rw [hg.out, ht.out]; rfl, HB2.out⟩

set_option maxHeartbeats 2000000 in
theorem changes_any (P s0 s1 s2 : Nat) (w : World) (h0 : s0 < 2 ^ 16) (h1 : s1 < 2 ^ 16) (hP : P ≤ 16) :
    Calls Try.prog 114 #[.agg #[.int .u16 (s0 : Int), .int .u16 (s1 : Int), .int .u16 (s2 : Int)], .int .i64 (P : Int)] w fun e w' => MadeEnd (chI s0 s1) P w e w' := by
  have hmk := run_make_many (P := Try.prog) 27 3 (.int .i64 0) 1 8 Try.underlying27 Try.info3 .i64 .i64 P (by omega) (by omega)
  simp only [Value.cells, Nat.mul_one] at hmk
  have HB := hide (below_al w (.cells #[.int .u16 (s0 : Int), .int .u16 (s1 : Int), .int .u16 (s2 : Int)] 65))
  have HV := hide (heap_alloc_new w (.cells #[.int .u16 (s0 : Int), .int .u16 (s1 : Int), .int .u16 (s2 : Int)] 65))
  go_enter Try.func114, Try.ntmps114
  go_wp2_with fail
  have hvs : Hid ((w.alloc (.cells #[.int .u16 (s0 : Int), .int .u16 (s1 : Int), .int .u16 (s2 : Int)] 65)).heap.size = w.heap.size + 1) := by show _ = _; simp
  generalize w.alloc (.cells #[.int .u16 (s0 : Int), .int .u16 (s1 : Int), .int .u16 (s2 : Int)] 65) = v at *
  have HO := hide (outF_made v (chI s0 s1) P)
  rw [hvs.out] at HO
  have hA := below_al v (.cells (madeCells #[.int .i64 0] P) 3)
  have HW := hide (HB.out.trans (hA.mono HB.out.size))
  have HV1 := hide (keep HV.out hA)
  generalize v.alloc (.cells (madeCells #[.int .i64 0] P) 3) = v1 at *
  obtain ⟨g, hg⟩ : ∃ g, Hid (w.heap.size + 1 = g) := ⟨_, rfl⟩
  have hgw : w.heap.size < g := by have := hg.out; omega
  rw [hg.out] at HO ⊢
  clear hmk hA HB HV hg hvs v
  go_loopw [10] (fun i wr => ∃ k : Nat, k ≤ P ∧ i = .int .i64 k ∧ Hid (OutR wr g P (outF (chI s0 s1) k P)) ∧ Hid (wr.heap[w.heap.size]? = some (.cells #[.int .u16 (s0 : Int), .int .u16 (s1 : Int), .int .u16 (s2 : Int)] 65 (0, 0))) ∧ Hid (Below w.heap.size w wr)) (fun i _ => P - (intOf i).toNat)
  case atStart => exact ⟨0, Nat.zero_le _, rfl, HO, HV1, HW⟩
  case round =>
    obtain ⟨k, hk, rfl, ho, hv, hbw⟩ := hrel
    clear HO HW HV1
    by_cases hkn : k < P
    rotate_left
    · have hk' : k = P := by omega
      subst hk'
      have HE : Hid (MadeEnd (chI s0 s1) k w (.returned (.slice (some ⟨g, 0, none⟩) k k)) wr) := ⟨g, rfl, by omega, by rw [← outF_all]; exact ho.out, hbw.out⟩
      go_wp2_with fail
      go_ret
      exact HE.out
    obtain ⟨hc0, hc1, hc2⟩ := cells3E hv.out
    have hlt := (Array.getElem?_eq_some_iff.mp hv.out).1
    go_wp2_with fail
    refine (change_any k s0 s1 s2 _ h0 h1 (by omega)).mono ?_
    rintro e w1 ⟨rfl, hb⟩
    have HB1 := hide (hbw.out.trans (hb.mono hbw.out.size))
    have HV1 := hide (keep hv.out hb)
    have HO1 := hide (ho.out.grow hb)
    obtain ⟨hle, cur, hh, hcs, hcell⟩ := HO1.out
    have hfr := frozen_of_row w1 g k cur _ hh
    have hcy := cell_of_row w1 g k cur _ _ hh
    rw [hcell k hkn] at hcy
    have hgl := (Array.getElem?_eq_some_iff.mp hh).1
    obtain ⟨x, hx⟩ : ∃ x, Hid (chI s0 s1 k = x) := ⟨_, rfl⟩
    obtain ⟨y, hyy⟩ : ∃ y, Hid ((outF (chI s0 s1) k P).getD k 0 = y) := ⟨_, rfl⟩
    rw [hyy.out] at hcy
    have HN := hide (HO1.out.put hkn hx.out)
    have HBN := hide (HB1.out.setCell (p := ⟨g, k, none⟩) (by show w.heap.size ≤ g; omega) (.int .i64 x))
    have HVN : Hid ((w1.setCell ⟨g, k, none⟩ (.int .i64 x)).heap[w.heap.size]? = some (.cells #[.int .u16 (s0 : Int), .int .u16 (s1 : Int), .int .u16 (s2 : Int)] 65 (0, 0))) := by
      show _ = _
      rw [heap_setCell_other _ _ _ _ (show w.heap.size ≠ g by omega)]; exact HV1.out
    rw [hx.out]
    clear ho hbw hb hh hcell hcs hle hyy HO1 hv HB1 HV1 hc0 hc1 hc2 hlt hx
    go_wp2_with fail
    go_roundw
    case rel => exact ⟨k + 1, by omega, by go_num, HN, HVN, HBN⟩
    case measure => simp [intOf]; omega


set_option maxHeartbeats 2000000 in
theorem changesAt_any (p : Int) (B n j : Nat) (L : List (List Int)) (w : World) (h : PartS w B (3 * n) (3 * n) L) (hn : n ≤ 24) (hm : ∀ i, maskL (L.getD i []) < 2 ^ 16) (hj : j < 16) :
    Calls Try.prog 122 #[.agg #[.int .i64 p, .slice (some ⟨B, 0, none⟩) n n], .int .i64 (j : Int)] w fun e w' => MadeEnd (chL L j) n w e w' := by
  have hmk := run_make_many (P := Try.prog) 27 3 (.int .i64 0) 1 8 Try.underlying27 Try.info3 .i64 .i64 n (by omega) (by omega)
  simp only [Value.cells, Nat.mul_one] at hmk
  have HP := hide h
  have hBw : B < w.heap.size := by obtain ⟨C, q, _⟩ := h; exact (Array.getElem?_eq_some_iff.mp q).1
  have HB := hide (below_al w (.cells #[.int .i64 p, .slice (some ⟨B, 0, none⟩) n n] 59))
  have HV := hide (heap_alloc_new w (.cells #[.int .i64 p, .slice (some ⟨B, 0, none⟩) n n] 59))
  clear h
  go_enter Try.func122, Try.ntmps122
  go_wp2_with fail
  have hvs : Hid ((w.alloc (.cells #[.int .i64 p, .slice (some ⟨B, 0, none⟩) n n] 59)).heap.size = w.heap.size + 1) := by show _ = _; simp
  generalize w.alloc (.cells #[.int .i64 p, .slice (some ⟨B, 0, none⟩) n n] 59) = v at *
  have HO := hide (outF_made v (chL L j) n)
  rw [hvs.out] at HO
  have hA := below_al v (.cells (madeCells #[.int .i64 0] n) 3)
  have HW := hide (HB.out.trans (hA.mono HB.out.size))
  have HV1 := hide (keep HV.out hA)
  generalize v.alloc (.cells (madeCells #[.int .i64 0] n) 3) = v1 at *
  obtain ⟨g, hg⟩ : ∃ g, Hid (w.heap.size + 1 = g) := ⟨_, rfl⟩
  have hgw : w.heap.size < g := by have := hg.out; omega
  rw [hg.out] at HO ⊢
  obtain ⟨hc0, hc1⟩ := cells2 HV1.out
  have hlt := (Array.getElem?_eq_some_iff.mp HV1.out).1
  clear hmk hA HB HV hg hvs
  go_wp2_with fail
  clear hc0 hc1 hlt
  go_loopw [14] (fun i wr => ∃ k : Nat, k ≤ n ∧ i = .int .i64 k ∧ Hid (OutR wr g n (outF (chL L j) k n)) ∧ Hid (wr.heap[w.heap.size]? = some (.cells #[.int .i64 p, .slice (some ⟨B, 0, none⟩) n n] 59 (0, 0))) ∧ Hid (Below w.heap.size w wr)) (fun i _ => n - (intOf i).toNat)
  case atStart => exact ⟨0, Nat.zero_le _, rfl, HO, HV1, HW⟩
  case round =>
    obtain ⟨k, hk, rfl, ho, hv, hbw⟩ := hrel
    clear HO HW HV1
    by_cases hkn : k < n
    rotate_left
    · have hk' : k = n := by omega
      subst hk'
      have HE : Hid (MadeEnd (chL L j) k w (.returned (.slice (some ⟨g, 0, none⟩) k k)) wr) := ⟨g, rfl, by omega, by rw [← outF_all]; exact ho.out, hbw.out⟩
      go_wp2_with fail
      go_ret
      exact HE.out
    obtain ⟨hd0, hd1⟩ := cells2 hv.out
    have hlt := (Array.getElem?_eq_some_iff.mp hv.out).1
    obtain ⟨hc0, hc1, hc2⟩ := (HP.out.grow hbw.out).at3 hkn
    have hBr : B < wr.heap.size := by have := hbw.out.size; omega
    have m0 := hm (3 * k)
    have m1 := hm (3 * k + 1)
    obtain ⟨x, hx⟩ : ∃ x, Hid (chL L j k = x) := ⟨_, rfl⟩
    have hx' := hx.out
    unfold chL at hx'
    generalize maskL (L.getD (3 * k) []) = s0 at *
    generalize maskL (L.getD (3 * k + 1) []) = s1 at *
    generalize maskL (L.getD (3 * k + 2) []) = s2 at *
    have HX' := hide hx'
    clear hx'
    go_wp2_with fail
    refine (change_any j s0 s1 s2 _ m0 m1 hj).mono ?_
    rintro e w1 ⟨rfl, hb⟩
    have HB1 := hide (hbw.out.trans (hb.mono hbw.out.size))
    have HV1 := hide (keep hv.out hb)
    have HO1 := hide (ho.out.grow hb)
    obtain ⟨hle, cur, hh, hcs, hcell⟩ := HO1.out
    have hfr := frozen_of_row w1 g k cur _ hh
    have hcy := cell_of_row w1 g k cur _ _ hh
    rw [hcell k hkn] at hcy
    have hgl := (Array.getElem?_eq_some_iff.mp hh).1
    obtain ⟨y, hyy⟩ : ∃ y, Hid ((outF (chL L j) k n).getD k 0 = y) := ⟨_, rfl⟩
    rw [hyy.out] at hcy
    have HN := hide (HO1.out.put hkn hx.out)
    have HBN := hide (HB1.out.setCell (p := ⟨g, k, none⟩) (by show w.heap.size ≤ g; omega) (.int .i64 x))
    have HVN : Hid ((w1.setCell ⟨g, k, none⟩ (.int .i64 x)).heap[w.heap.size]? = some (.cells #[.int .i64 p, .slice (some ⟨B, 0, none⟩) n n] 59 (0, 0))) := by
      show _ = _
      rw [heap_setCell_other _ _ _ _ (show w.heap.size ≠ g by omega)]; exact HV1.out
    rw [HX'.out]
    clear ho hbw hb hh hcell hcs hle hyy HO1 hv HB1 HV1 hc0 hc1 hc2 hd0 hd1 hlt hx HX' m0 m1 hBr
    go_wp2_with fail
    go_roundw
    case rel => exact ⟨k + 1, by omega, by go_num, HN, HVN, HBN⟩
    case measure => simp [intOf]; omega


set_option maxHeartbeats 4000000 in
theorem changesBy_any (P B n c : Nat) (ac : Option Addr) (L : List (List Int)) (cs : List Int) (w : World) (h : PartS w B (3 * n) (3 * n) L) (rc : Row w ac n cs) (hn : n ≤ 24) (hm : ∀ i, maskL (L.getD i []) < 2 ^ 16) (hP : P ≤ 16) (hcs : ∀ i, i < n → -1000 ≤ cs.getD i 0 ∧ cs.getD i 0 ≤ 1000) :
    Calls Try.prog 69 #[.agg #[.int .i64 (P : Int), .slice (some ⟨B, 0, none⟩) n n], .slice ac n c] w fun e w' => MadeEnd (chBy L n cs) P w e w' := by
  have hmk := run_make_many (P := Try.prog) 27 3 (.int .i64 0) 1 8 Try.underlying27 Try.info3 .i64 .i64 P (by omega) (by omega)
  simp only [Value.cells, Nat.mul_one] at hmk
  have HP := hide h
  have RC := hide rc
  have HCS := hide hcs
  have hBw : B < w.heap.size := by obtain ⟨C, q, _⟩ := h; exact (Array.getElem?_eq_some_iff.mp q).1
  have HB := hide (below_al w (.cells #[.int .i64 (P : Int), .slice (some ⟨B, 0, none⟩) n n] 59))
  have HV := hide (heap_alloc_new w (.cells #[.int .i64 (P : Int), .slice (some ⟨B, 0, none⟩) n n] 59))
  clear h rc hcs
  go_enter Try.func69, Try.ntmps69
  go_wp2_with fail
  have hvs : Hid ((w.alloc (.cells #[.int .i64 (P : Int), .slice (some ⟨B, 0, none⟩) n n] 59)).heap.size = w.heap.size + 1) := by show _ = _; simp
  generalize w.alloc (.cells #[.int .i64 (P : Int), .slice (some ⟨B, 0, none⟩) n n] 59) = v at *
  have HO := hide (outF_made v (chBy L n cs) P)
  rw [hvs.out] at HO
  have hA := below_al v (.cells (madeCells #[.int .i64 0] P) 3)
  have HW := hide (HB.out.trans (hA.mono HB.out.size))
  have HV1 := hide (keep HV.out hA)
  generalize v.alloc (.cells (madeCells #[.int .i64 0] P) 3) = v1 at *
  obtain ⟨g, hg⟩ : ∃ g, Hid (w.heap.size + 1 = g) := ⟨_, rfl⟩
  have hgw : w.heap.size < g := by have := hg.out; omega
  rw [hg.out] at HO ⊢
  obtain ⟨hc0, hc1⟩ := cells2 HV1.out
  have hlt := (Array.getElem?_eq_some_iff.mp HV1.out).1
  clear hmk hA HB HV hg hvs
  go_wp2_with fail
  clear hc0 hc1 hlt
  go_loopw [12] (fun i wr => ∃ k : Nat, k ≤ P ∧ i = .int .i64 k ∧ Hid (OutR wr g P (outF (chBy L n cs) k P)) ∧ Hid (wr.heap[w.heap.size]? = some (.cells #[.int .i64 (P : Int), .slice (some ⟨B, 0, none⟩) n n] 59 (0, 0))) ∧ Hid (Below w.heap.size w wr)) (fun i _ => P - (intOf i).toNat)
  case atStart => exact ⟨0, Nat.zero_le _, rfl, HO, HV1, HW⟩
  case round =>
    obtain ⟨k, hk, rfl, ho, hv, hbw⟩ := hrel
    clear HO HW HV1
    by_cases hkn : k < P
    rotate_left
    · have hk' : k = P := by omega
      subst hk'
      have HE : Hid (MadeEnd (chBy L n cs) k w (.returned (.slice (some ⟨g, 0, none⟩) k k)) wr) := ⟨g, rfl, by omega, by rw [← outF_all]; exact ho.out, hbw.out⟩
      go_wp2_with fail
      go_ret
      exact HE.out
    obtain ⟨hd0, hd1⟩ := cells2 hv.out
    have hlt := (Array.getElem?_eq_some_iff.mp hv.out).1
    go_wp2_with fail
    refine (changesAt_any P B n k L _ (HP.out.grow hbw.out) hn hm (by omega)).mono ?_
    rintro e w1 ⟨g1, rfl, hg1, ho1, hb⟩
    have HB1 := hide (hbw.out.trans (hb.mono hbw.out.size))
    have HV1 := hide (keep hv.out hb)
    have HO1 := hide (ho.out.grow hb)
    have HQ := hide ho1.row
    clear ho hbw hb ho1 hv hd0 hd1 hlt hg1
    go_wp2_with fail
    refine (productsOf_any _ ac n n c _ cs _ HQ.out (RC.out.below HB1.out) (by omega) (fun i hi => by rw [listF_at _ _ _ hi]; exact chI_mul (HCS.out i hi))).mono ?_
    rintro e w2 ⟨g2, rfl, hg2, ho2, hb⟩
    have HB2 := hide (HB1.out.trans (hb.mono HB1.out.size))
    have HV2 := hide (keep HV1.out hb)
    have HO2 := hide (HO1.out.grow hb)
    have HQ2 := hide ho2.row
    clear HB1 HV1 HO1 HQ hb ho2 hg2
    go_wp2_with fail
    refine (sumOf_any _ n n _ _ HQ2.out (by omega) (fun i hi => by rw [listF_at _ _ _ hi, listF_at _ _ _ hi]; exact chI_mul (HCS.out i hi))).mono ?_
    rintro e w3 ⟨rfl, rfl⟩
    have hx : sumF (fun i => (listF (fun i => (listF (chL L k) n).getD i 0 * cs.getD i 0) n).getD i 0) n = chBy L n cs k := by
      unfold chBy
      exact sumF_congr fun i hi => by rw [listF_at _ _ _ hi, listF_at _ _ _ hi]
    rw [hx]
    obtain ⟨hle, cur, hh, hcs, hcell⟩ := HO2.out
    have hfr := frozen_of_row w3 g k cur _ hh
    have hcy := cell_of_row w3 g k cur _ _ hh
    rw [hcell k hkn] at hcy
    have hgl := (Array.getElem?_eq_some_iff.mp hh).1
    obtain ⟨y, hyy⟩ : ∃ y, Hid ((outF (chBy L n cs) k P).getD k 0 = y) := ⟨_, rfl⟩
    rw [hyy.out] at hcy
    obtain ⟨x, hx⟩ : ∃ x, Hid (chBy L n cs k = x) := ⟨_, rfl⟩
    have HN := hide (HO2.out.put hkn hx.out)
    have HBN := hide (HB2.out.setCell (p := ⟨g, k, none⟩) (by show w.heap.size ≤ g; omega) (.int .i64 x))
    have HVN : Hid ((w3.setCell ⟨g, k, none⟩ (.int .i64 x)).heap[w.heap.size]? = some (.cells #[.int .i64 (P : Int), .slice (some ⟨B, 0, none⟩) n n] 59 (0, 0))) := by
      show _ = _
      rw [heap_setCell_other _ _ _ _ (show w.heap.size ≠ g by omega)]; exact HV2.out
    rw [hx.out]
    clear hh hcell hcs hle hyy HO2 HB2 HV2 HQ2 hx
    go_wp2_with fail
    go_roundw
    case rel => exact ⟨k + 1, by omega, by go_num, HN, HVN, HBN⟩
    case measure => simp [intOf]; omega


set_option maxHeartbeats 2000000 in
theorem keepsWeight_any (P s0 s1 s2 c : Nat) (a : Option Addr) (ws : List Int) (w : World) (rw' : Row w a P ws) (h0 : s0 < 2 ^ 16) (h1 : s1 < 2 ^ 16) (hP : P ≤ 16) (hws : ∀ i, i < P → -1000 ≤ ws.getD i 0 ∧ ws.getD i 0 ≤ 1000) :
    Calls Try.prog 54 #[.agg #[.int .u16 (s0 : Int), .int .u16 (s1 : Int), .int .u16 (s2 : Int)], .slice a P c] w fun e w' => e = .returned (.bool (decide (chW s0 s1 ws P = 0))) ∧ Below w.heap.size w w' := by
  have RC := hide rw'
  have HCS := hide hws
  have HB := hide (below_al w (.cells #[.int .u16 (s0 : Int), .int .u16 (s1 : Int), .int .u16 (s2 : Int)] 65))
  clear rw' hws
  go_enter Try.func54, Try.ntmps54
  go_wp2_with fail
  refine (changes_any P s0 s1 s2 _ h0 h1 hP).mono ?_
  rintro e w1 ⟨g1, rfl, hg1, ho1, hb⟩
  have HB1 := hide (HB.out.trans (hb.mono HB.out.size))
  have HQ := hide ho1.row
  clear hb ho1 hg1 HB
  go_wp2_with fail
  refine (productsOf_any _ a P P c _ ws _ HQ.out (RC.out.below HB1.out) (by omega) (fun i hi => by rw [listF_at _ _ _ hi]; exact chI_mul (HCS.out i hi))).mono ?_
  rintro e w2 ⟨g2, rfl, hg2, ho2, hb⟩
  have HB2 := hide (HB1.out.trans (hb.mono HB1.out.size))
  have HQ2 := hide ho2.row
  clear HB1 HQ hb ho2 hg2
  go_wp2_with fail
  refine (sumOf_any _ P P _ _ HQ2.out (by omega) (fun i hi => by rw [listF_at _ _ _ hi, listF_at _ _ _ hi]; exact chI_mul (HCS.out i hi))).mono ?_
  rintro e w3 ⟨rfl, rfl⟩
  have hx : sumF (fun i => (listF (fun i => (listF (chI s0 s1) P).getD i 0 * ws.getD i 0) P).getD i 0) P = chW s0 s1 ws P := by
    unfold chW
    exact sumF_congr fun i hi => by rw [listF_at _ _ _ hi, listF_at _ _ _ hi]
  rw [hx]
  obtain ⟨x, hx2⟩ : ∃ x, Hid (chW s0 s1 ws P = x) := ⟨_, rfl⟩
  rw [hx2.out]
  have HBE : Hid ((x == 0) = decide (x = 0)) := rfl
  clear HQ2 hx RC HCS
  go_wp2_with fail
  go_ret
  exact ⟨ret_bool (by rw [hx2.out]; exact HBE.out), HB2.out⟩
end Go.Proofs.Ytajcmamapmeglaa


/- l2Fire and the specification's Fire, for every net and mark in memory. -/
namespace Go.Proofs.Ytajcmamapmeglaa
open Go.RowKit

/-- The numbers at the places xs are changed by g, one behind the other. -/
def updL (g : Int → Int) (xs ys : List Int) : List Int := xs.foldl (fun l p => l.set p.toNat (g (l.getD p.toNat 0))) ys

theorem updL_snoc (g : Int → Int) (xs ys : List Int) (x : Int) : updL g (xs ++ [x]) ys = (updL g xs ys).set x.toNat (g ((updL g xs ys).getD x.toNat 0)) := by simp [updL, List.foldl_append]

theorem updL_take (g : Int → Int) (xs ys : List Int) (k : Nat) (x : Int) (h : xs[k]? = some x) : updL g (xs.take (k + 1)) ys = (updL g (xs.take k) ys).set x.toNat (g ((updL g (xs.take k) ys).getD x.toNat 0)) := by
  rw [List.take_add_one, h]; exact updL_snoc _ _ _ _

theorem updL_len (g : Int → Int) (xs ys : List Int) : (updL g xs ys).length = ys.length := by
  induction xs using snoc_ind with
  | h0 => rfl
  | h1 xs x ih => rw [updL_snoc, List.length_set, ih]

theorem riseB_snoc {xs : List Int} {x lo hi : Int} (h : riseB (xs ++ [x]) lo hi = true) : riseB xs lo hi = true ∧ x ∉ xs := by
  induction xs generalizing lo with
  | nil => exact ⟨rfl, by simp⟩
  | cons y r ih =>
    simp only [List.cons_append, riseB, Bool.and_eq_true, decide_eq_true_eq] at h ⊢
    obtain ⟨h1, h2⟩ := h
    have := ih h2
    refine ⟨⟨h1, this.1⟩, ?_⟩
    intro hm
    rcases List.mem_cons.mp hm with e | hm
    · have := riseB_mem h2 x (by simp); omega
    · exact this.2 hm

theorem updL_at (g : Int → Int) {xs : List Int} (ys : List Int) (hi : Int) (h : riseB xs 0 hi = true) (hl : hi < ys.length) (i : Nat) : (updL g xs ys).getD i 0 = if (i : Int) ∈ xs then g (ys.getD i 0) else ys.getD i 0 := by
  induction xs using snoc_ind with
  | h0 => simp [updL]
  | h1 xs x ih =>
    have hs := riseB_snoc h
    have hx := riseB_mem h x (by simp)
    have ih' := ih hs.1
    rw [updL_snoc, List.getD_eq_getElem?_getD, List.getElem?_set, updL_len]
    by_cases e : x.toNat = i
    · subst e
      rw [if_pos rfl, if_pos (by omega), ih', Int.toNat_of_nonneg hx.1, if_neg hs.2, if_pos (by simp)]
      rfl
    · rw [if_neg e, ← List.getD_eq_getElem?_getD, ih']
      have hne : (i : Int) ≠ x := by omega
      by_cases hm : (i : Int) ∈ xs
      · rw [if_pos hm, if_pos (by simp [hm])]
      · rw [if_neg hm, if_neg (by simp [hm, hne])]

theorem bound3 (g : Int → Int) {xs : List Int} (ys : List Int) (hi : Int) (h : riseB xs 0 hi = true) (hl : hi < ys.length) (i : Nat) (hb : -60 ≤ ys.getD i 0 ∧ ys.getD i 0 ≤ 60) (hg : -60 ≤ g (ys.getD i 0) ∧ g (ys.getD i 0) ≤ 60) : -60 ≤ (updL g xs ys).getD i 0 ∧ (updL g xs ys).getD i 0 ≤ 60 := by
  rw [updL_at g ys hi h hl i]; split
  · exact hg
  · exact hb

def fireL (x0 x1 x2 ys : List Int) : List Int := updL (· + 1) x1 (updL (fun _ => 0) x2 (updL (· - 1) x0 ys))

end Go.Proofs.Ytajcmamapmeglaa


/- The specification's l7Plain, l7Counts, l7Weights, l7Change. -/
namespace Go.Proofs.Ytajcmamapmeglaa
open Go.RowKit
set_option maxRecDepth 10000

set_option maxHeartbeats 1000000 in
theorem plainS_any (p : Int) (a : Option Addr) (n c : Nat) (L : List (List Int)) (w : World) (h : Lists w a (3 * n) L) (hs : sizeN n L ≤ 1048576) :
    Calls Try.prog 77 #[.agg #[.int .i64 p, .slice a n c]] w fun e w' => e = .returned (.bool (plainB p n L)) ∧ Below w.heap.size w w' := by
  have hAl := below_al w (.cells #[.int .i64 p, .slice a n c] 26)
  have PAR := hide (heap_alloc_new w (.cells #[.int .i64 p, .slice a n c] 26))
  have HG := hide (goodNetS_any p a n c L _ (h.below hAl) hs)
  have HL := hide h
  have HB0 := hide hAl
  clear h hAl
  by_cases hg : netOk p n L = true
  rotate_left
  · have hg' : netOk p n L = false := by simpa using hg
    rw [hg'] at HG
    have HF := hide (show plainB p n L = false by unfold plainB; rw [hg']; rfl)
    clear hg hg'
    go_enter Try.func77, Try.ntmps77
    go_wp2_with fail
    refine HG.out.mono ?_
    rintro e w2 ⟨rfl, hb⟩
    have HB1 := hide (HB0.out.trans (hb.mono HB0.out.size))
    clear hb
    go_wp2_with fail
    go_ret
    exact ⟨ret_bool HF.out.symm, HB1.out⟩
  have hn := netN hg
  rw [hg] at HG
  have HF := hide (show plainB p n L = !resB n L by unfold plainB; rw [hg]; rfl)
  clear hg
  go_enter Try.func77, Try.ntmps77
  go_wp2_with fail
  refine HG.out.mono ?_
  rintro e w2 ⟨rfl, hb⟩
  have HB1 := hide (HB0.out.trans (hb.mono HB0.out.size))
  obtain ⟨hc0, hc1⟩ := cells2 (keep PAR.out hb)
  clear hb HG PAR HB0
  go_wp2_with fail
  refine (resS_any _ _ _ _ L _ (HL.out.below HB1.out) hn).mono ?_
  rintro e w3 ⟨rfl, hb⟩
  have HB2 := hide (HB1.out.trans (hb.mono HB1.out.size))
  obtain ⟨r, hr⟩ : ∃ r, Hid (resB n L = r) := ⟨_, rfl⟩
  rw [hr.out] at HF ⊢
  clear hb HB1 hc0 hc1
  go_wp2_with fail
  go_ret
  exact ⟨ret_bool (by rw [HF.out]), HB2.out⟩

set_option maxHeartbeats 1000000 in
theorem countsS_any (p : Int) (a ax : Option Addr) (n c nx cx : Nat) (L : List (List Int)) (xs : List Int) (w : World) (h : Lists w a (3 * n) L) (rx : Row w ax nx xs) (hs : sizeN n L ≤ 1048576) (hnx : nx ≤ 1048576) :
    Calls Try.prog 74 #[.agg #[.int .i64 p, .slice a n c], .slice ax nx cx] w fun e w' => e = .returned (.bool (cntOk p n L xs)) ∧ Below w.heap.size w w' := by
  have hAl := below_al w (.cells #[.int .i64 p, .slice a n c] 26)
  have PAR := hide (heap_alloc_new w (.cells #[.int .i64 p, .slice a n c] 26))
  have HG := hide (plainS_any p a n c L _ (h.below hAl) hs)
  have RX := hide (rx.below hAl)
  have hxl := rx.1
  have HB0 := hide hAl
  clear h hAl rx
  by_cases hg : plainB p n L = true
  rotate_left
  · have hg' : plainB p n L = false := by simpa using hg
    rw [hg'] at HG
    have HF := hide (show cntOk p n L xs = false by unfold cntOk; rw [hg']; rfl)
    clear hg hg'
    go_enter Try.func74, Try.ntmps74
    go_wp2_with fail
    refine HG.out.mono ?_
    rintro e w2 ⟨rfl, hb⟩
    have HB1 := hide (HB0.out.trans (hb.mono HB0.out.size))
    clear hb
    go_wp2_with fail
    go_ret
    exact ⟨ret_bool HF.out.symm, HB1.out⟩
  rw [hg] at HG
  have HF := hide (show cntOk p n L xs = (decide ((nx : Int) = (n : Int)) && allB xs (0) 1000) by unfold cntOk; rw [hg, hxl]; rfl)
  clear hg
  by_cases hm : (nx : Int) = (n : Int)
  rotate_left
  · have hd : ((nx : Int) == (n : Int)) = false := by simp [hm]
    have HF2 : Hid (cntOk p n L xs = false) := by show _ = _; rw [HF.out]; simp [hm]
    clear hm
    go_enter Try.func74, Try.ntmps74
    go_wp2_with fail
    refine HG.out.mono ?_
    rintro e w2 ⟨rfl, hb⟩
    have HB1 := hide (HB0.out.trans (hb.mono HB0.out.size))
    obtain ⟨hc0, hc1⟩ := cells2 (keep PAR.out hb)
    have hlt := (Array.getElem?_eq_some_iff.mp (keep PAR.out hb)).1
    clear hb
    go_wp2_with fail
    go_ret
    exact ⟨ret_bool HF2.out.symm, HB1.out⟩
  have hd : ((nx : Int) == (n : Int)) = true := by simp [hm]
  have HF2 : Hid (cntOk p n L xs = allB xs (0) 1000) := by show _ = _; rw [HF.out]; simp [hm]
  clear hm
  go_enter Try.func74, Try.ntmps74
  go_wp2_with fail
  refine HG.out.mono ?_
  rintro e w2 ⟨rfl, hb⟩
  have HB1 := hide (HB0.out.trans (hb.mono HB0.out.size))
  have HA := hide (allG_any ax nx cx xs (0) 1000 w2 (RX.out.below hb) hnx)
  obtain ⟨hc0, hc1⟩ := cells2 (keep PAR.out hb)
  have hlt := (Array.getElem?_eq_some_iff.mp (keep PAR.out hb)).1
  clear hb
  obtain ⟨r, hr⟩ : ∃ r, Hid (allB xs (0) 1000 = r) := ⟨_, rfl⟩
  rw [hr.out] at HF2 HA
  go_wp2_with fail
  refine HA.out.mono ?_
  rintro e w3 ⟨rfl, rfl⟩
  go_wp2_with fail
  go_ret
  exact ⟨ret_bool HF2.out.symm, HB1.out⟩

set_option maxHeartbeats 1000000 in
theorem weightsS_any (p : Int) (a ax : Option Addr) (n c nx cx : Nat) (L : List (List Int)) (xs : List Int) (w : World) (h : Lists w a (3 * n) L) (rx : Row w ax nx xs) (hs : sizeN n L ≤ 1048576) (hnx : nx ≤ 1048576) :
    Calls Try.prog 56 #[.agg #[.int .i64 p, .slice a n c], .slice ax nx cx] w fun e w' => e = .returned (.bool (wgtOk p n L xs)) ∧ Below w.heap.size w w' := by
  have hAl := below_al w (.cells #[.int .i64 p, .slice a n c] 26)
  have PAR := hide (heap_alloc_new w (.cells #[.int .i64 p, .slice a n c] 26))
  have HG := hide (plainS_any p a n c L _ (h.below hAl) hs)
  have RX := hide (rx.below hAl)
  have hxl := rx.1
  have HB0 := hide hAl
  clear h hAl rx
  by_cases hg : plainB p n L = true
  rotate_left
  · have hg' : plainB p n L = false := by simpa using hg
    rw [hg'] at HG
    have HF := hide (show wgtOk p n L xs = false by unfold wgtOk; rw [hg']; rfl)
    clear hg hg'
    go_enter Try.func56, Try.ntmps56
    go_wp2_with fail
    refine HG.out.mono ?_
    rintro e w2 ⟨rfl, hb⟩
    have HB1 := hide (HB0.out.trans (hb.mono HB0.out.size))
    clear hb
    go_wp2_with fail
    go_ret
    exact ⟨ret_bool HF.out.symm, HB1.out⟩
  rw [hg] at HG
  have HF := hide (show wgtOk p n L xs = (decide ((nx : Int) = p) && allB xs (-9) 9) by unfold wgtOk; rw [hg, hxl]; rfl)
  clear hg
  by_cases hm : (nx : Int) = p
  rotate_left
  · have hd : ((nx : Int) == p) = false := by simp [hm]
    have HF2 : Hid (wgtOk p n L xs = false) := by show _ = _; rw [HF.out]; simp [hm]
    clear hm
    go_enter Try.func56, Try.ntmps56
    go_wp2_with fail
    refine HG.out.mono ?_
    rintro e w2 ⟨rfl, hb⟩
    have HB1 := hide (HB0.out.trans (hb.mono HB0.out.size))
    obtain ⟨hc0, hc1⟩ := cells2 (keep PAR.out hb)
    have hlt := (Array.getElem?_eq_some_iff.mp (keep PAR.out hb)).1
    clear hb
    go_wp2_with fail
    go_ret
    exact ⟨ret_bool HF2.out.symm, HB1.out⟩
  have hd : ((nx : Int) == p) = true := by simp [hm]
  have HF2 : Hid (wgtOk p n L xs = allB xs (-9) 9) := by show _ = _; rw [HF.out]; simp [hm]
  clear hm
  go_enter Try.func56, Try.ntmps56
  go_wp2_with fail
  refine HG.out.mono ?_
  rintro e w2 ⟨rfl, hb⟩
  have HB1 := hide (HB0.out.trans (hb.mono HB0.out.size))
  have HA := hide (allG_any ax nx cx xs (-9) 9 w2 (RX.out.below hb) hnx)
  obtain ⟨hc0, hc1⟩ := cells2 (keep PAR.out hb)
  have hlt := (Array.getElem?_eq_some_iff.mp (keep PAR.out hb)).1
  clear hb
  obtain ⟨r, hr⟩ : ∃ r, Hid (allB xs (-9) 9 = r) := ⟨_, rfl⟩
  rw [hr.out] at HF2 HA
  go_wp2_with fail
  refine HA.out.mono ?_
  rintro e w3 ⟨rfl, rfl⟩
  go_wp2_with fail
  go_ret
  exact ⟨ret_bool HF2.out.symm, HB1.out⟩

/-- The numbers f 0, f 1 and so on, by what stands at each place. -/
theorem list_byD {xs ys : List Int} (hl : xs.length = ys.length) (h : ∀ i, i < ys.length → xs.getD i 0 = ys.getD i 0) : xs = ys := by
  apply List.ext_getElem hl
  intro i h1 h2
  have := h i h2
  rw [List.getD_eq_getElem?_getD, List.getD_eq_getElem?_getD, List.getElem?_eq_getElem h1, List.getElem?_eq_getElem h2] at this
  exact this

theorem net_rises {p : Int} {n k : Nat} {L : List (List Int)} (h : netOk p n L = true) (hk : k < n) : riseB (L.getD (3 * k) []) 0 (p - 1) = true ∧ riseB (L.getD (3 * k + 1) []) 0 (p - 1) = true ∧ riseB (L.getD (3 * k + 2) []) 0 (p - 1) = true := by
  unfold netOk at h
  rw [Bool.and_eq_true] at h
  have ht := List.all_eq_true.mp h.2 k (by simpa using hk)
  unfold triOk at ht
  simp only [Bool.and_eq_true] at ht
  exact ⟨ht.1.1.2, ht.1.2, ht.2⟩

theorem net_masks {p : Int} {n : Nat} {L : List (List Int)} (h : netOk p n L = true) (hl : L.length = 3 * n) : ∀ i, maskL (L.getD i []) < 2 ^ 16 := by
  have hp : p ≤ 16 := by unfold netOk at h; simp [inB] at h; exact h.1.1.2
  intro i
  by_cases hi : i < 3 * n
  · have hr := net_rises h (show i / 3 < n by omega)
    have key : riseB (L.getD i []) 0 (p - 1) = true := by
      have : i = 3 * (i / 3) ∨ i = 3 * (i / 3) + 1 ∨ i = 3 * (i / 3) + 2 := by omega
      rcases this with e | e | e
      · rw [e]; exact hr.1
      · rw [e]; exact hr.2.1
      · rw [e]; exact hr.2.2
    exact maskL_lt _ fun x hx => by have := (riseB_mem key x hx).2; omega
  · rw [List.getD_eq_getElem?_getD, List.getElem?_eq_none (by omega)]
    show maskL [] < 2 ^ 16
    decide

theorem chL_eq {p : Int} {n k j : Nat} {L : List (List Int)} (h : netOk p n L = true) (hk : k < n) : chL L j k = (if (j : Int) ∈ L.getD (3 * k + 1) [] then 1 else 0) - (if (j : Int) ∈ L.getD (3 * k) [] then 1 else 0) := by
  have hr := net_rises h hk
  unfold chL chI
  rw [maskL_bit _ _ (fun x hx => (riseB_mem hr.1 x hx).1), maskL_bit _ _ (fun x hx => (riseB_mem hr.2.1 x hx).1)]
  simp

/-- What the counted firings of the first k transitions change. -/
def chP (L : List (List Int)) (cs : List Int) (P k : Nat) : List Int := listF (fun j => sumF (fun i => chL L j i * cs.getD i 0) k) P

theorem chP_step {P n k : Nat} {L : List (List Int)} {cs : List Int} (h : netOk (P : Int) n L = true) (hk : k < n) :
    updL (fun y => y - cs.getD k 0) (L.getD (3 * k) []) (updL (fun y => y + cs.getD k 0) (L.getD (3 * k + 1) []) (chP L cs P k)) = chP L cs P (k + 1) := by
  have hr := net_rises h hk
  have hP : 1 ≤ P := by unfold netOk at h; simp [inB] at h; omega
  apply list_byD
  · rw [updL_len, updL_len]; unfold chP; rw [listF_len, listF_len]
  · intro i hi
    have hi' : i < P := by unfold chP at hi; rwa [listF_len] at hi
    have hl : (chP L cs P k).length = P := listF_len _ _
    rw [updL_at _ _ _ hr.1 (by rw [updL_len, hl]; omega), updL_at _ _ _ hr.2.1 (by rw [hl]; omega)]
    unfold chP
    rw [listF_at _ _ _ hi', listF_at _ _ _ hi', sumF, chL_eq h hk]
    generalize cs.getD k 0 = c
    by_cases e1 : (i : Int) ∈ L.getD (3 * k + 1) [] <;> by_cases e0 : (i : Int) ∈ L.getD (3 * k) [] <;> simp only [e0, e1, if_true, if_false] <;> omega

theorem chP_bound {P n k : Nat} {L : List (List Int)} {cs : List Int} (hn : n ≤ 24) (hk : k ≤ n) (hcs : ∀ i, i < n → -1000 ≤ cs.getD i 0 ∧ cs.getD i 0 ≤ 1000) (j : Nat) : -24000000 ≤ (chP L cs P k).getD j 0 ∧ (chP L cs P k).getD j 0 ≤ 24000000 := by
  by_cases hj : j < P
  · unfold chP
    rw [listF_at _ _ _ hj]
    have := sumF_bound (f := fun i => chL L j i * cs.getD i 0) (n := n) (M := 1000000) (by omega) (fun i hi => chI_mul (hcs i hi)) k hk
    omega
  · rw [List.getD_eq_getElem?_getD, List.getElem?_eq_none (by unfold chP; rw [listF_len]; omega)]
    simp

theorem upd_bound (g : Int → Int) (xs ys : List Int) (hi : Int) (h : riseB xs 0 hi = true) (hl : hi < ys.length) (i : Nat) (M : Int) (hb : -M ≤ ys.getD i 0 ∧ ys.getD i 0 ≤ M) (hg : -M ≤ g (ys.getD i 0) ∧ g (ys.getD i 0) ≤ M) : -M ≤ (updL g xs ys).getD i 0 ∧ (updL g xs ys).getD i 0 ≤ M := by
  rw [updL_at g ys hi h hl i]; split
  · exact hg
  · exact hb

set_option maxHeartbeats 4000000 in
theorem changeS_any (P : Nat) (a ac : Option Addr) (n c nc cc : Nat) (L : List (List Int)) (cs : List Int) (w : World) (h : Lists w a (3 * n) L) (rc : Row w ac nc cs) (hs : sizeN n L ≤ 1048576) (hg : netOk (P : Int) n L = true) (hnc : n ≤ nc) (hcs : ∀ i, i < n → -1000 ≤ cs.getD i 0 ∧ cs.getD i 0 ≤ 1000) :
    Calls Try.prog 75 #[.agg #[.int .i64 (P : Int), .slice a n c], .slice ac nc cc] w fun e w' => MadeEnd (chBy L n cs) P w e w' := by
  have hP16 : P ≤ 16 := by unfold netOk at hg; simp [inB] at hg; omega
  have hn := netN hg
  have hmk := run_make_many (P := Try.prog) 27 3 (.int .i64 0) 1 8 Try.underlying27 Try.info3 .i64 .i64 P (by omega) (by omega)
  simp only [Value.cells, Nat.mul_one] at hmk
  have HL := hide h
  have RC := hide rc
  have HG := hide hg
  have HCS := hide hcs
  have HB := hide (below_al w (.cells #[.int .i64 (P : Int), .slice a n c] 26))
  have HV := hide (heap_alloc_new w (.cells #[.int .i64 (P : Int), .slice a n c] 26))
  clear h rc hcs hg
  go_enter Try.func75, Try.ntmps75
  go_wp2_with fail
  have hvs : Hid ((w.alloc (.cells #[.int .i64 (P : Int), .slice a n c] 26)).heap.size = w.heap.size + 1) := by show _ = _; simp
  generalize w.alloc (.cells #[.int .i64 (P : Int), .slice a n c] 26) = v at *
  have HO := hide (outF_made v (chBy L n cs) P)
  rw [hvs.out] at HO
  have hA := below_al v (.cells (madeCells #[.int .i64 0] P) 3)
  have HW := hide (HB.out.trans (hA.mono HB.out.size))
  generalize v.alloc (.cells (madeCells #[.int .i64 0] P) 3) = v1 at *
  obtain ⟨g, hg⟩ : ∃ g, Hid (w.heap.size + 1 = g) := ⟨_, rfl⟩
  have hgw : w.heap.size < g := by have := hg.out; omega
  rw [hg.out] at HO ⊢
  have HO1 : Hid (OutR v1 g P (chP L cs P 0)) := by
    have := HO.out
    show OutR _ _ _ _
    have e : outF (chBy L n cs) 0 P = chP L cs P 0 := by unfold outF chP listF; exact List.map_congr_left fun i _ => by rw [if_neg (by omega)]; rfl
    rw [← e]; exact this
  clear hmk hA HB HV hg hvs HO v
  go_loopw [18] (fun i wr => ∃ k : Nat, k ≤ n ∧ i = .int .i64 k ∧ Hid (OutR wr g P (chP L cs P k)) ∧ Hid (Below w.heap.size w wr)) (fun i _ => n - (intOf i).toNat)
  case atStart => exact ⟨0, Nat.zero_le _, rfl, HO1, HW⟩
  case round =>
    obtain ⟨k, hk, rfl, ho, hbw⟩ := hrel
    clear HO1 HW
    by_cases hkn : k < n
    rotate_left
    · have hk' : k = n := by omega
      subst hk'
      have HE : Hid (MadeEnd (chBy L k cs) P w (.returned (.slice (some ⟨g, 0, none⟩) P P)) wr) := ⟨g, rfl, by omega, ho.out, hbw.out⟩
      go_wp2_with fail
      go_ret
      exact HE.out
    obtain ⟨b, off, a0, n0, c0, a1, n1, c1, a2, n2, c2, rfl, hbl, hr, m0, m1, m2, r0, r1, r2⟩ := HL.out.tri hkn
    obtain ⟨hw0, hw1, hw2⟩ := rangeAt_cells3 hr
    have hc0 := (hbw.out.cell hbl).trans hw0
    have hc1 := (hbw.out.cell hbl).trans hw1
    have hc2 := (hbw.out.cell hbl).trans hw2
    have hblr : b < wr.heap.size := by have := hbw.out.size; omega
    have hri := net_rises HG.out hkn
    have HR0 := hide hri.1
    have HR1 := hide hri.2.1
    have HST := hide (chP_step (cs := cs) HG.out hkn)
    have HBD := hide (chP_bound (P := P) (L := L) hn hk HCS.out)
    have hck := HCS.out k hkn
    obtain ⟨ck, hck2⟩ : ∃ x, Hid (cs.getD k 0 = x) := ⟨_, rfl⟩
    rw [hck2.out] at HST hck
    have hCA : Hid (cs[k]? = some ck) := by
      show _ = _
      have h1 : k < cs.length := by rw [RC.out.1]; omega
      have h2 := hck2.out
      rw [List.getD_eq_getElem?_getD, List.getElem?_eq_getElem h1] at h2
      rw [List.getElem?_eq_getElem h1]; simpa using h2
    have hl0 := len_le L (3 * k)
    have hl1 := len_le L (3 * k + 1)
    have hs' : n + sizeL L ≤ 1048576 := hs
    obtain ⟨x0, hx0⟩ : ∃ x, Hid (L.getD (3 * k) [] = x) := ⟨_, rfl⟩
    obtain ⟨x1, hx1⟩ : ∃ x, Hid (L.getD (3 * k + 1) [] = x) := ⟨_, rfl⟩
    rw [hx0.out] at r0 hl0 HR0 HST
    rw [hx1.out] at r1 hl1 HR1 HST
    have q0 : n0 ≤ 1048576 := by have := r0.1; omega
    have q1 : n1 ≤ 1048576 := by have := r1.1; omega
    have R0 := hide r0
    have R1 := hide r1
    obtain ⟨ys, hys⟩ : ∃ x, Hid (chP L cs P k = x) := ⟨_, rfl⟩
    have hyl : ys.length = P := by rw [← hys.out]; exact listF_len _ _
    rw [hys.out] at ho HST HBD
    have hA1 := below_al wr (.cells #[.slice a0 n0 c0, .slice a1 n1 c1, .slice a2 n2 c2] 106)
    have HV1 := hide (heap_alloc_new wr (.cells #[.slice a0 n0 c0, .slice a1 n1 c1, .slice a2 n2 c2] 106))
    have HB1 := hide (hbw.out.trans (hA1.mono hbw.out.size))
    have HO2 := hide (ho.out.grow hA1)
    obtain ⟨q, hq⟩ : ∃ q, Hid (wr.heap.size = q) := ⟨_, rfl⟩
    have hqg : g < q := by obtain ⟨_, cur, hh, _⟩ := ho.out; have := (Array.getElem?_eq_some_iff.mp hh).1; have := hq.out; omega
    clear hr r0 r1 r2 m0 m1 m2 hri hl0 hl1 hs' hA1 ho hbw
    have HYL1 := hide hyl
    have HYB1 : Hid (∀ z, -24000000 ≤ ys.getD z 0 ∧ ys.getD z 0 ≤ 24000000) := HBD.out
    have HYL2 : Hid ((updL (fun y => y + ck) x1 ys).length = P) := by show _ = _; rw [updL_len]; exact hyl
    have HYB2 : Hid (∀ z, -24001000 ≤ (updL (fun y => y + ck) x1 ys).getD z 0 ∧ (updL (fun y => y + ck) x1 ys).getD z 0 ≤ 24001000) := fun z => upd_bound (fun y => y + ck) x1 ys ((P : Int) - 1) HR1.out (by omega) z 24001000 (by have := HBD.out z; omega) (by have := HBD.out z; omega)
    go_wp2_with fail
    clear hc0 hc1 hc2 hw0 hw1 hw2 hblr
    generalize wr.alloc (.cells #[.slice a0 n0 c0, .slice a1 n1 c1, .slice a2 n2 c2] 106) = W0 at *
    rw [hq.out] at HV1 ⊢
    go_loopw [26] (fun i wr => ∃ j : Nat, j ≤ n1 ∧ i = .int .i64 j ∧ Hid (OutR wr g P (updL (fun y => y + ck) (x1.take j) ys)) ∧ Hid (wr.heap[q]? = some (.cells #[.slice a0 n0 c0, .slice a1 n1 c1, .slice a2 n2 c2] 106 (0, 0))) ∧ Hid (Below w.heap.size w wr)) (fun i _ => n1 - (intOf i).toNat)
    case atStart => exact ⟨0, Nat.zero_le _, rfl, HO2, HV1, HB1⟩
    case round =>
      obtain ⟨j, hj, rfl, ho, hv, hbw⟩ := hrel
      by_cases hjn : j < n1
      · obtain ⟨b1, o1, x, rfl, hl1, hc1, H1⟩ := (R1.out.below hbw.out).at hjn
        have hxm := riseB_mem HR1.out x (List.mem_of_getElem? H1.out)
        obtain ⟨z, rfl⟩ : ∃ z : Nat, x = (z : Int) := ⟨x.toNat, by omega⟩
        have hzn : (z : Int) < (P : Int) := by omega
        have HU := hide (updL_take (fun y => y + ck) x1 ys j _ H1.out)
        rw [Int.toNat_natCast] at HU
        obtain ⟨hle, cur, hh, hcs2, hcell⟩ := ho.out
        have hy := hcell z (by omega)
        have hfr := frozen_of_row wr g z cur _ hh
        have hcy := cell_of_row wr g z cur _ _ hh
        rw [hy] at hcy
        have hgl := (Array.getElem?_eq_some_iff.mp hh).1
        have hyb := upd_bound (fun y => y + ck) (x1.take j) ys ((P : Int) - 1) (riseB_take (k := j) HR1.out) (by have := HYL1.out; omega) z 24001000 (by have := HYB1.out z; omega) (by have := HYB1.out z; omega)
        obtain ⟨y, hyy⟩ : ∃ y, Hid ((updL (fun y => y + ck) (x1.take j) ys).getD z 0 = y) := ⟨_, rfl⟩
        rw [hyy.out] at hcy hyb HU
        obtain ⟨b2, o2, u, rfl, hl2, hc2, H2⟩ := (RC.out.below hbw.out).at (show k < nc by omega)
        obtain rfl : ck = u := by have h1 := H2.out; rw [hCA.out] at h1; simpa using h1
        have HN : Hid (OutR (wr.setCell ⟨g, z, none⟩ (.int .i64 (y + ck))) g P (updL (fun y => y + ck) (x1.take (j + 1)) ys)) := by
          show OutR _ _ _ _
          rw [HU.out]; exact ho.out.set z (by omega) _
        have HBN := hide (hbw.out.setCell (p := ⟨g, z, none⟩) (by show w.heap.size ≤ g; omega) (.int .i64 (y + ck)))
        have HVN := hide ((heap_setCell_other wr ⟨g, z, none⟩ q (.int .i64 (y + ck)) (show q ≠ g by omega)).trans hv.out)
        clear ho hbw hv hh hcell hy hxm HU H1 H2 hcs2 hle hyy HCS HST HBD HG HL HYB1 HYL1 HR0 HR1 R0 R1 RC hCA HO2 HV1 HB1
        go_wp2_with fail
        go_region
        all_goals
          go_wp2_with fail
          go_roundw
          case rel => exact ⟨j + 1, by omega, by go_num, HN, HVN, HBN.out.drew⟩
          case measure => simp [intOf]; omega
      · have hj' : n1 = j := by omega
        subst hj'
        have HO3 : Hid (OutR wr g P (updL (fun y => y + ck) x1 ys)) := by have := ho.out; rwa [List.take_of_length_le (by have := R1.out.1; omega)] at this
        have HB3 := hbw
        have HV3 := hv
        clear ho hbw hv HO2 HV1 HB1
        have HO2 := HO3
        have HV1 := HV3
        have HB1 := HB3
        clear HO3 HV3 HB3
        obtain ⟨hv0, hv1, hv2⟩ := cells3E HV1.out
        have hvl := (Array.getElem?_eq_some_iff.mp HV1.out).1
        go_wp2_with fail
        clear hv0 hv1 hv2 hvl
        go_loopw [44] (fun i wr => ∃ j : Nat, j ≤ n0 ∧ i = .int .i64 j ∧ Hid (OutR wr g P (updL (fun y => y - ck) (x0.take j) (updL (fun y => y + ck) x1 ys))) ∧ Hid (wr.heap[q]? = some (.cells #[.slice a0 n0 c0, .slice a1 n1 c1, .slice a2 n2 c2] 106 (0, 0))) ∧ Hid (Below w.heap.size w wr)) (fun i _ => n0 - (intOf i).toNat)
        case atStart => exact ⟨0, Nat.zero_le _, rfl, HO2, HV1, HB1⟩
        case round =>
          obtain ⟨j, hj, rfl, ho, hv, hbw⟩ := hrel
          by_cases hjn : j < n0
          · obtain ⟨b1, o1, x, rfl, hl1, hc1, H1⟩ := (R0.out.below hbw.out).at hjn
            have hxm := riseB_mem HR0.out x (List.mem_of_getElem? H1.out)
            obtain ⟨z, rfl⟩ : ∃ z : Nat, x = (z : Int) := ⟨x.toNat, by omega⟩
            have hzn : (z : Int) < (P : Int) := by omega
            have HU := hide (updL_take (fun y => y - ck) x0 (updL (fun y => y + ck) x1 ys) j _ H1.out)
            rw [Int.toNat_natCast] at HU
            obtain ⟨hle, cur, hh, hcs2, hcell⟩ := ho.out
            have hy := hcell z (by omega)
            have hfr := frozen_of_row wr g z cur _ hh
            have hcy := cell_of_row wr g z cur _ _ hh
            rw [hy] at hcy
            have hgl := (Array.getElem?_eq_some_iff.mp hh).1
            have hyb := upd_bound (fun y => y - ck) (x0.take j) (updL (fun y => y + ck) x1 ys) ((P : Int) - 1) (riseB_take (k := j) HR0.out) (by have := HYL2.out; omega) z 24002000 (by have := HYB2.out z; omega) (by have := HYB2.out z; omega)
            obtain ⟨y, hyy⟩ : ∃ y, Hid ((updL (fun y => y - ck) (x0.take j) (updL (fun y => y + ck) x1 ys)).getD z 0 = y) := ⟨_, rfl⟩
            rw [hyy.out] at hcy hyb HU
            obtain ⟨b2, o2, u, rfl, hl2, hc2, H2⟩ := (RC.out.below hbw.out).at (show k < nc by omega)
            obtain rfl : ck = u := by have h1 := H2.out; rw [hCA.out] at h1; simpa using h1
            have HN : Hid (OutR (wr.setCell ⟨g, z, none⟩ (.int .i64 (y - ck))) g P (updL (fun y => y - ck) (x0.take (j + 1)) (updL (fun y => y + ck) x1 ys))) := by
              show OutR _ _ _ _
              rw [HU.out]; exact ho.out.set z (by omega) _
            have HBN := hide (hbw.out.setCell (p := ⟨g, z, none⟩) (by show w.heap.size ≤ g; omega) (.int .i64 (y - ck)))
            have HVN := hide ((heap_setCell_other wr ⟨g, z, none⟩ q (.int .i64 (y - ck)) (show q ≠ g by omega)).trans hv.out)
            clear ho hbw hv hh hcell hy hxm HU H1 H2 hcs2 hle hyy HCS HST HBD HG HL HYB2 HYL2 HR0 HR1 R0 R1 RC hCA HO2 HV1 HB1
            go_wp2_with fail
            go_region
            all_goals
              go_wp2_with fail
              go_roundw
              case rel => exact ⟨j + 1, by omega, by go_num, HN, HVN, HBN.out.drew⟩
              case measure => simp [intOf]; omega
          · have hj' : n0 = j := by omega
            subst hj'
            have HO3 : Hid (OutR wr g P (chP L cs P (k + 1))) := by
              have := ho.out
              rw [List.take_of_length_le (by have := R0.out.1; omega)] at this
              show OutR _ _ _ _
              rw [← HST.out]; exact this
            have HB3 := hbw
            clear ho hbw hv
            go_wp2_with fail
            go_roundw
            case rel => exact ⟨k + 1, by omega, by go_num, HO3, HB3⟩
            case measure => simp [intOf]; omega
end Go.Proofs.Ytajcmamapmeglaa
