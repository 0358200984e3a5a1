/- The list of a set of places: list of the program. -/
import Derived.Test.YtnknhjiofpjbbaaGm
import Derived.Test.YtnknhjiofpjbbaaPs
import Derived.OwnWalk
namespace Go.Proofs.Ytnknhjiofpjbbaa
open Go.RowKit

/-- The numbers below k that are as asked. -/
def nums2 (f : Nat → Bool) (k : Nat) : List Int := ((List.range k).filter f).map fun (i : Nat) => (i : Int)

theorem nums2_yes {f : Nat → Bool} {k : Nat} (h : f k = true) : nums2 f (k + 1) = nums2 f k ++ [(k : Int)] := by simp [nums2, List.range_succ, List.filter_append, h]
theorem nums2_no {f : Nat → Bool} {k : Nat} (h : f k = false) : nums2 f (k + 1) = nums2 f k := by simp [nums2, List.range_succ, List.filter_append, h]

theorem own_below2 {B : Nat} {w w' : World} {v : Value} {n : Nat} {l : List Value} (hown : w.ownsRow B 3 1 v n l) (hg : w.grownBy w' v.ownBlock) {a : World} {C : Nat} (h : Below C a w) (hC : C ≤ w.heap.size) (hB : C ≤ B) : Below C a w' := by
  refine h.grown hg hC fun k hk => ?_
  rcases hown.2 with ⟨rfl, _⟩ | ⟨g, cap, cur, rfl, hb, _⟩
  · simp [Value.ownBlock] at hk
  · simp [Value.ownBlock] at hk; omega

theorem one_cell2 (w : World) (v : Value) : ∀ j u, ([v] : List Value)[j]? = some u → (w.alloc (.cells #[v] 3)).cell? ((⟨w.heap.size, 0, none⟩ : Addr).add j) = some u := by
  intro j u hu
  match j, hu with
  | 0, hu =>
    simp at hu; subst hu
    rw [Addr.add_mid]
    exact cell_of_row _ w.heap.size 0 #[v] _ _ (heap_alloc_new _ _)
  | (q + 1), hu => simp at hu

theorem own_ob2 {B : Nat} {w : World} {v : Value} {n : Nat} {l : List Int} (hown : w.ownsRow B 3 1 v n (l.map (Value.int .i64))) : ∃ a b c, v = .slice a n c ∧ B ≤ b ∧ Ob w a b n l := by
  have hl : l.length = n := by have := hown.1; simpa using this
  rcases hown.2 with ⟨rfl, rfl⟩ | ⟨g, cap, cur, rfl, hb, hh, hnc, _, hsz, ht⟩
  · exact ⟨none, B, 0, rfl, Nat.le_refl _, hl, .inl rfl⟩
  · refine ⟨_, g, cap, rfl, hb, hl, .inr ⟨rfl, cur, hh, by omega, fun i hi => ?_⟩⟩
    have e : (cur.toList.take (n * 1))[i]? = (l.map (Value.int .i64))[i]? := by rw [ht]
    rw [List.getElem?_take_of_lt (by omega), Array.getElem?_toList] at e
    rw [e]
    simp [List.getElem?_eq_getElem (show i < l.length by omega)]

theorem info_split2 {P : Program} {e : TypeId} {z : Value} {size bytes : Nat} (h : (P.info? e).map (fun i => (i.zero, i.size, i.bytes)) = some (some z, size, bytes)) : ∃ i, P.info? e = some i ∧ i.zero = some z ∧ i.size = size ∧ i.bytes = bytes := by
  obtain ⟨i, hi, hzz⟩ := Option.map_eq_some_iff.1 h
  simp only [Prod.mk.injEq] at hzz
  exact ⟨i, hi, hzz.1, hzz.2.1, hzz.2.2⟩

theorem bit_of2 (s k : Nat) (hs : s < 2 ^ 16) : (bits .and .u16 ((s : Int) / 2 ^ k) 1 == 1) = s.testBit k := by
  have h1 : ((s : Int) / 2 ^ k) = ((s / 2 ^ k : Nat) : Int) := by simp
  have h2 : s / 2 ^ k < 2 ^ 16 := Nat.lt_of_le_of_lt (Nat.div_le_self _ _) hs
  have h3 := and_u16 (s / 2 ^ k) 1 h2 (by decide)
  rw [h1]
  rw [show ((1 : Nat) : Int) = (1 : Int) from rfl] at h3
  rw [h3, Nat.and_one_is_mod, Nat.testBit_eq_decide_div_mod_eq]
  by_cases h : s / 2 ^ k % 2 = 1
  · rw [h]; rfl
  · have h4 : s / 2 ^ k % 2 = 0 := by omega
    rw [h4]; rfl

set_option maxHeartbeats 400000 in
theorem has2_any (s k : Nat) (w : World) (hs : s < 2 ^ 16) (hk : k < 16) :
    Calls Try.prog 73 #[.int .u16 (s : Int), .int .i64 (k : Int)] w fun e w' => e = .returned (.bool (s.testBit k)) ∧ w' = w := by
  have hk0 : (0 : Int) ≤ (k : Int) := by omega
  have HB := hide (bit_of2 s k hs)
  go_enter Try.func73, Try.ntmps73
  go_wp2_with fail
  go_ret
  exact ⟨ret_bool HB.out, rfl⟩

/-- The places of a rising list are its bits. -/
theorem nums2_mask {p : Int} {xs : List Int} (hp : p ≤ 16) (h : riseB xs 0 (p - 1) = true) : nums2 (maskL xs).testBit 16 = xs := by
  have hm := fun z hz => riseB_mem h z hz
  have key : ∀ z, z ∈ nums2 (maskL xs).testBit 16 ↔ z ∈ xs := by
    intro z
    unfold nums2
    simp only [List.mem_map, List.mem_filter, List.mem_range]
    constructor
    · rintro ⟨i, ⟨_, hb⟩, rfl⟩
      rw [maskL_bit _ _ (fun z hz => (hm z hz).1)] at hb
      simpa using hb
    · intro hz
      have := hm z hz
      refine ⟨z.toNat, ⟨by omega, ?_⟩, by omega⟩
      rw [maskL_bit _ _ (fun z hz => (hm z hz).1), Int.toNat_of_nonneg this.1]
      simpa using hz
  have hrise : ∀ (f : Nat → Bool) (n : Nat), riseB (nums2 f n) 0 ((n : Int) - 1) = true := by
    intro f n
    induction n with
    | zero => rfl
    | succ n ih =>
      have hup : ∀ (ys : List Int) (lo hi hi' : Int), hi ≤ hi' → riseB ys lo hi = true → riseB ys lo hi' = true := by
        intro ys
        induction ys with
        | nil => intros; rfl
        | cons y r ihr =>
          intro lo hi hi' hh hr
          simp only [riseB, Bool.and_eq_true, decide_eq_true_eq] at hr ⊢
          exact ⟨⟨hr.1.1, by omega⟩, ihr _ _ _ hh hr.2⟩
      by_cases hf : f n = true
      · rw [nums2_yes hf, riseB_append, hup _ _ _ _ (by omega) ih]
        simp only [Bool.true_and, riseB, Bool.and_true, Bool.and_eq_true, decide_eq_true_eq]
        refine ⟨?_, by omega⟩
        cases hg : (nums2 f n).getLast? with
        | none => simp
        | some z =>
          have hz := List.mem_of_getLast? hg
          have := riseB_mem ih z hz
          simp; omega
      · have hf' : f n = false := by simpa using hf
        rw [nums2_no hf']
        exact hup _ _ _ _ (by omega) ih
  have hext : ∀ (ys zs : List Int) (lo hi : Int), riseB ys lo hi = true → riseB zs lo hi = true → (∀ z, z ∈ ys ↔ z ∈ zs) → ys = zs := by
    intro ys
    induction ys with
    | nil =>
      intro zs lo hi _ _ hh
      cases zs with
      | nil => rfl
      | cons y r => have := (hh y).mpr (by simp); simp at this
    | cons x r ih =>
      intro zs lo hi hx hy hh
      cases zs with
      | nil => have := (hh x).mp (by simp); simp at this
      | cons y s =>
        simp [riseB] at hx hy
        have hxm := riseB_mem hx.2
        have hym := riseB_mem hy.2
        have e : x = y := by
          have h1 := (hh x).mp (by simp)
          have h2 := (hh y).mpr (by simp)
          rcases List.mem_cons.mp h1 with e | h1
          · exact e
          · rcases List.mem_cons.mp h2 with e | h2
            · exact e.symm
            · have := hym x h1; have := hxm y h2; omega
        subst e
        congr 1
        refine ih s _ _ hx.2 hy.2 fun z => ?_
        have hz := hh z
        simp only [List.mem_cons] at hz
        constructor
        · intro hm
          rcases hz.mp (.inr hm) with e | hm'
          · have := hxm z hm; omega
          · exact hm'
        · intro hm
          rcases hz.mpr (.inr hm) with e | hm'
          · have := hym z hm; omega
          · exact hm'
  have hup2 : riseB xs 0 15 = true := by
    have : ∀ (ys : List Int) (lo hi hi' : Int), hi ≤ hi' → riseB ys lo hi = true → riseB ys lo hi' = true := by
      intro ys
      induction ys with
      | nil => intros; rfl
      | cons y r ihr =>
        intro lo hi hi' hh hr
        simp only [riseB, Bool.and_eq_true, decide_eq_true_eq] at hr ⊢
        exact ⟨⟨hr.1.1, by omega⟩, ihr _ _ _ hh hr.2⟩
    exact this xs 0 (p - 1) 15 (by omega) h
  exact hext _ _ 0 15 (hrise _ 16) hup2 key

set_option maxHeartbeats 1000000 in
theorem setList_any (s : Nat) (w : World) (hs : s < 2 ^ 16) :
    Calls Try.prog 45 #[.int .u16 (s : Int)] w fun e w' => ∃ a b m c, e = .returned (.slice a m c) ∧ w.heap.size ≤ b ∧ Ob w' a b m (nums2 s.testBit 16) ∧ Below w.heap.size w w' := by
  obtain ⟨i0, hi, hz0, hz1, hz2⟩ := info_split2 Try.info3
  go_enter Try.func45, Try.ntmps45
  go_wp2_with fail
  go_loopw [3, 5] (fun o i wr => ∃ k m : Nat, k ≤ 16 ∧ i = .int .i64 k ∧ Hid (m ≤ k) ∧ Hid (wr.ownsRow w.heap.size 3 1 o m ((nums2 s.testBit k).map (Value.int .i64))) ∧ Hid (Below w.heap.size w wr)) (fun _ i _ => 16 - (intOf i).toNat)
  case atStart => exact ⟨0, 0, Nat.zero_le _, rfl, Nat.le_refl _, World.ownsRow_nil _ _ _ _, Below.refl _ _⟩
  case round =>
    obtain ⟨k, m, hk, rfl, hmk, hown, hbw⟩ := hrel
    by_cases hlt : k < 16
    rotate_left
    · have hk' : k = 16 := by omega
      subst hk'
      obtain ⟨av, bv, cv, hv, hbv, hob⟩ := own_ob2 hown.out
      subst hv
      have HE := hide (And.intro hbv (And.intro hob hbw.out))
      clear hown hob hbv
      go_wp2_with fail
      go_ret
      exact ⟨av, bv, m, cv, rfl, HE.out⟩
    have hi1 : ((k : Int)) < 16 := by omega
    cases hh : s.testBit k
    · have HN := hide (nums2_no hh)
      go_wp2_with (go_at_call 73; refine (has2_any s k _ hs hlt).mono ?_; rintro e w' ⟨rfl, rfl⟩)
      go_roundw
      case rel => exact ⟨k + 1, m, by omega, by go_num, Nat.le_succ_of_le hmk.out, by rw [HN.out]; exact hown, hbw⟩
      case measure => simp [intOf]; omega
    have HN := hide (nums2_yes hh)
    have hA2 := below_al wr (.cells #[.int .i64 (k : Int)] 3)
    have HO2 := hide (hown.out.alloc (.cells #[.int .i64 (k : Int)] 3))
    have HB2 := hide (hbw.out.trans (hA2.mono hbw.out.size))
    have HCE : Hid (∀ j u, ([.int .i64 (k : Int)] : List Value)[j]? = some u → (wr.alloc (.cells #[.int .i64 (k : Int)] 3)).cell? ((⟨wr.heap.size, 0, none⟩ : Addr).add j) = some u) := one_cell2 wr _
    have H1c : Hid (∀ u ∈ ([.int .i64 (k : Int)] : List Value), u.oneCell' = true) := fun u hu => by simp at hu; subst hu; rfl
    have HX := hide (show m + 1 ≤ maxLen by have := hmk.out; unfold maxLen; omega)
    have HY := hide (show (m + 1) * 8 ≤ 140737488355328 by have := hmk.out; omega)
    have HZ := hide HB2.out.size
    clear hA2 hown hbw
    go_wp2_with (first
      | (go_at_call 73; refine (has2_any s k _ hs hlt).mono ?_; rintro e w' ⟨rfl, rfl⟩)
      | (refine wpList_append_own _ rfl (.tmp 11) (.tmp 13) 38 rfl w.heap.size 3 i0 (.int .i64 0) 1 8 Try.underlying38 hi hz0 hz1 hz2 rfl (by decide) u3 m _ rfl HO2.out ⟨_, 0, none⟩ 1 1 [.int .i64 (k : Int)] rfl rfl HCE.out H1c.out HX.out HY.out HZ.out ?_; intro v' W' r1 r2 r3))
    have HR1 : Hid (W'.ownsRow w.heap.size 3 1 v' (m + 1) ((nums2 s.testBit (k + 1)).map (Value.int .i64))) := by
      show World.ownsRow _ _ _ _ _ _ _
      rw [HN.out, List.map_append]; exact r1
    have HB3 := hide (own_below2 HO2.out r2 HB2.out HB2.out.size (Nat.le_refl _))
    clear r1 r2 r3
    go_wp2_with fail
    go_roundw
    case rel => exact ⟨k + 1, m + 1, by omega, by go_num, Nat.succ_le_succ hmk.out, HR1, HB3⟩
    case measure => simp [intOf]; omega
end Go.Proofs.Ytnknhjiofpjbbaa
