/- Contracts that the proof stands on, one behind the other. -/
import Derived.Test.YtbhhpfiolombcaaP8
import Derived.OwnWalk
import Derived.WalkMore
import Derived.ScopeJumps
import Derived.Deep.RegionHeld3
/- The list of a set of places: list of the program. -/
namespace Go.Proofs.Ytbhhpfiolombcaa
open Go.RowKit

/-- The numbers below k that are as asked. -/
def nums2 (f : Nat → Bool) (k : Nat) : List Int := ((List.range k).filter f).map fun (i : Nat) => (i : Int)

theorem nums2_yes {f : Nat → Bool} {k : Nat} (h : f k = true) : nums2 f (k + 1) = nums2 f k ++ [(k : Int)] := by simp [nums2, List.range_succ, List.filter_append, h]
theorem nums2_no {f : Nat → Bool} {k : Nat} (h : f k = false) : nums2 f (k + 1) = nums2 f k := by simp [nums2, List.range_succ, List.filter_append, h]

theorem own_below2 {B : Nat} {w w' : World} {v : Value} {n : Nat} {l : List Value} (hown : w.ownsRow B 3 1 v n l) (hg : w.grownBy w' v.ownBlock) {a : World} {C : Nat} (h : Below C a w) (hC : C ≤ w.heap.size) (hB : C ≤ B) : Below C a w' := by
  refine h.grown hg hC fun k hk => ?_
  rcases hown.2 with ⟨rfl, _⟩ | ⟨g, cap, cur, rfl, hb, _⟩
  · simp [Value.ownBlock] at hk
  · simp [Value.ownBlock] at hk; omega

theorem one_cell2 (w : World) (v : Value) : ∀ j u, ([v] : List Value)[j]? = some u → (w.alloc (.cells #[v] 3)).cell? ((⟨w.heap.size, 0, none⟩ : Addr).add j) = some u := by
  intro j u hu
  match j, hu with
  | 0, hu =>
    simp at hu; subst hu
    rw [Addr.add_mid]
    exact cell_of_row _ w.heap.size 0 #[v] _ _ (heap_alloc_new _ _)
  | (q + 1), hu => simp at hu

theorem own_ob2 {B : Nat} {w : World} {v : Value} {n : Nat} {l : List Int} (hown : w.ownsRow B 3 1 v n (l.map (Value.int .i64))) : ∃ a b c, v = .slice a n c ∧ B ≤ b ∧ Ob w a b n l := by
  have hl : l.length = n := by have := hown.1; simpa using this
  rcases hown.2 with ⟨rfl, rfl⟩ | ⟨g, cap, cur, rfl, hb, hh, hnc, _, hsz, ht⟩
  · exact ⟨none, B, 0, rfl, Nat.le_refl _, hl, .inl rfl⟩
  · refine ⟨_, g, cap, rfl, hb, hl, .inr ⟨rfl, cur, hh, by omega, fun i hi => ?_⟩⟩
    have e : (cur.toList.take (n * 1))[i]? = (l.map (Value.int .i64))[i]? := by rw [ht]
    rw [List.getElem?_take_of_lt (by omega), Array.getElem?_toList] at e
    rw [e]
    simp [List.getElem?_eq_getElem (show i < l.length by omega)]

theorem info_split2 {P : Program} {e : TypeId} {z : Value} {size bytes : Nat} (h : (P.info? e).map (fun i => (i.zero, i.size, i.bytes)) = some (some z, size, bytes)) : ∃ i, P.info? e = some i ∧ i.zero = some z ∧ i.size = size ∧ i.bytes = bytes := by
  obtain ⟨i, hi, hzz⟩ := Option.map_eq_some_iff.1 h
  simp only [Prod.mk.injEq] at hzz
  exact ⟨i, hi, hzz.1, hzz.2.1, hzz.2.2⟩

theorem bit_of2 (s k : Nat) (hs : s < 2 ^ 16) : (bits .and .u16 ((s : Int) / 2 ^ k) 1 == 1) = s.testBit k := by
  have h1 : ((s : Int) / 2 ^ k) = ((s / 2 ^ k : Nat) : Int) := by simp
  have h2 : s / 2 ^ k < 2 ^ 16 := Nat.lt_of_le_of_lt (Nat.div_le_self _ _) hs
  have h3 := and_u16 (s / 2 ^ k) 1 h2 (by decide)
  rw [h1]
  rw [show ((1 : Nat) : Int) = (1 : Int) from rfl] at h3
  rw [h3, Nat.and_one_is_mod, Nat.testBit_eq_decide_div_mod_eq]
  by_cases h : s / 2 ^ k % 2 = 1
  · rw [h]; rfl
  · have h4 : s / 2 ^ k % 2 = 0 := by omega
    rw [h4]; rfl

set_option maxHeartbeats 400000 in
theorem has2_any (s k : Nat) (w : World) (hs : s < 2 ^ 16) (hk : k < 16) :
    Calls Try.prog 58 #[.int .u16 (s : Int), .int .i64 (k : Int)] w fun e w' => e = .returned (.bool (s.testBit k)) ∧ w' = w := by
  have hk0 : (0 : Int) ≤ (k : Int) := by omega
  have HB := hide (bit_of2 s k hs)
  go_enter Try.func58, Try.ntmps58
  go_wp2_with fail
  go_ret
  exact ⟨ret_bool HB.out, rfl⟩

/-- The places of a rising list are its bits. -/
theorem nums2_mask {p : Int} {xs : List Int} (hp : p ≤ 16) (h : riseB xs 0 (p - 1) = true) : nums2 (maskL xs).testBit 16 = xs := by
  have hm := fun z hz => riseB_mem h z hz
  have key : ∀ z, z ∈ nums2 (maskL xs).testBit 16 ↔ z ∈ xs := by
    intro z
    unfold nums2
    simp only [List.mem_map, List.mem_filter, List.mem_range]
    constructor
    · rintro ⟨i, ⟨_, hb⟩, rfl⟩
      rw [maskL_bit _ _ (fun z hz => (hm z hz).1)] at hb
      simpa using hb
    · intro hz
      have := hm z hz
      refine ⟨z.toNat, ⟨by omega, ?_⟩, by omega⟩
      rw [maskL_bit _ _ (fun z hz => (hm z hz).1), Int.toNat_of_nonneg this.1]
      simpa using hz
  have hrise : ∀ (f : Nat → Bool) (n : Nat), riseB (nums2 f n) 0 ((n : Int) - 1) = true := by
    intro f n
    induction n with
    | zero => rfl
    | succ n ih =>
      have hup : ∀ (ys : List Int) (lo hi hi' : Int), hi ≤ hi' → riseB ys lo hi = true → riseB ys lo hi' = true := by
        intro ys
        induction ys with
        | nil => intros; rfl
        | cons y r ihr =>
          intro lo hi hi' hh hr
          simp only [riseB, Bool.and_eq_true, decide_eq_true_eq] at hr ⊢
          exact ⟨⟨hr.1.1, by omega⟩, ihr _ _ _ hh hr.2⟩
      by_cases hf : f n = true
      · rw [nums2_yes hf, riseB_append, hup _ _ _ _ (by omega) ih]
        simp only [Bool.true_and, riseB, Bool.and_true, Bool.and_eq_true, decide_eq_true_eq]
        refine ⟨?_, by omega⟩
        cases hg : (nums2 f n).getLast? with
        | none => simp
        | some z =>
          have hz := List.mem_of_getLast? hg
          have := riseB_mem ih z hz
          simp; omega
      · have hf' : f n = false := by simpa using hf
        rw [nums2_no hf']
        exact hup _ _ _ _ (by omega) ih
  have hext : ∀ (ys zs : List Int) (lo hi : Int), riseB ys lo hi = true → riseB zs lo hi = true → (∀ z, z ∈ ys ↔ z ∈ zs) → ys = zs := by
    intro ys
    induction ys with
    | nil =>
      intro zs lo hi _ _ hh
      cases zs with
      | nil => rfl
      | cons y r => have := (hh y).mpr (by simp); simp at this
    | cons x r ih =>
      intro zs lo hi hx hy hh
      cases zs with
      | nil => have := (hh x).mp (by simp); simp at this
      | cons y s =>
        simp [riseB] at hx hy
        have hxm := riseB_mem hx.2
        have hym := riseB_mem hy.2
        have e : x = y := by
          have h1 := (hh x).mp (by simp)
          have h2 := (hh y).mpr (by simp)
          rcases List.mem_cons.mp h1 with e | h1
          · exact e
          · rcases List.mem_cons.mp h2 with e | h2
            · exact e.symm
            · have := hym x h1; have := hxm y h2; omega
        subst e
        congr 1
        refine ih s _ _ hx.2 hy.2 fun z => ?_
        have hz := hh z
        simp only [List.mem_cons] at hz
        constructor
        · intro hm
          rcases hz.mp (.inr hm) with e | hm'
          · have := hxm z hm; omega
          · exact hm'
        · intro hm
          rcases hz.mpr (.inr hm) with e | hm'
          · have := hym z hm; omega
          · exact hm'
  have hup2 : riseB xs 0 15 = true := by
    have : ∀ (ys : List Int) (lo hi hi' : Int), hi ≤ hi' → riseB ys lo hi = true → riseB ys lo hi' = true := by
      intro ys
      induction ys with
      | nil => intros; rfl
      | cons y r ihr =>
        intro lo hi hi' hh hr
        simp only [riseB, Bool.and_eq_true, decide_eq_true_eq] at hr ⊢
        exact ⟨⟨hr.1.1, by omega⟩, ihr _ _ _ hh hr.2⟩
    exact this xs 0 (p - 1) 15 (by omega) h
  exact hext _ _ 0 15 (hrise _ 16) hup2 key

set_option maxHeartbeats 1000000 in
theorem setList_any (s : Nat) (w : World) (hs : s < 2 ^ 16) :
    Calls Try.prog 31 #[.int .u16 (s : Int)] w fun e w' => ∃ a b m c, e = .returned (.slice a m c) ∧ w.heap.size ≤ b ∧ Ob w' a b m (nums2 s.testBit 16) ∧ Below w.heap.size w w' := by
  obtain ⟨i0, hi, hz0, hz1, hz2⟩ := info_split2 Try.info3
  go_enter Try.func31, Try.ntmps31
  go_wp2_with fail
  go_loopw [3, 5] (fun o i wr => ∃ k m : Nat, k ≤ 16 ∧ i = .int .i64 k ∧ Hid (m ≤ k) ∧ Hid (wr.ownsRow w.heap.size 3 1 o m ((nums2 s.testBit k).map (Value.int .i64))) ∧ Hid (Below w.heap.size w wr)) (fun _ i _ => 16 - (intOf i).toNat)
  case atStart => exact ⟨0, 0, Nat.zero_le _, rfl, Nat.le_refl _, World.ownsRow_nil _ _ _ _, Below.refl _ _⟩
  case round =>
    obtain ⟨k, m, hk, rfl, hmk, hown, hbw⟩ := hrel
    by_cases hlt : k < 16
    rotate_left
    · have hk' : k = 16 := by omega
      subst hk'
      obtain ⟨av, bv, cv, hv, hbv, hob⟩ := own_ob2 hown.out
      subst hv
      have HE := hide (And.intro hbv (And.intro hob hbw.out))
      clear hown hob hbv
      go_wp2_with fail
      go_ret
      exact ⟨av, bv, m, cv, rfl, HE.out⟩
    have hi1 : ((k : Int)) < 16 := by omega
    cases hh : s.testBit k
    · have HN := hide (nums2_no hh)
      go_wp2_with (go_at_call 58; refine (has2_any s k _ hs hlt).mono ?_; rintro e w' ⟨rfl, rfl⟩)
      go_roundw
      case rel => exact ⟨k + 1, m, by omega, by go_num, Nat.le_succ_of_le hmk.out, by rw [HN.out]; exact hown, hbw⟩
      case measure => simp [intOf]; omega
    have HN := hide (nums2_yes hh)
    have hA2 := below_al wr (.cells #[.int .i64 (k : Int)] 3)
    have HO2 := hide (hown.out.alloc (.cells #[.int .i64 (k : Int)] 3))
    have HB2 := hide (hbw.out.trans (hA2.mono hbw.out.size))
    have HCE : Hid (∀ j u, ([.int .i64 (k : Int)] : List Value)[j]? = some u → (wr.alloc (.cells #[.int .i64 (k : Int)] 3)).cell? ((⟨wr.heap.size, 0, none⟩ : Addr).add j) = some u) := one_cell2 wr _
    have H1c : Hid (∀ u ∈ ([.int .i64 (k : Int)] : List Value), u.oneCell' = true) := fun u hu => by simp at hu; subst hu; rfl
    have HX := hide (show m + 1 ≤ maxLen by have := hmk.out; unfold maxLen; omega)
    have HY := hide (show (m + 1) * 8 ≤ 140737488355328 by have := hmk.out; omega)
    have HZ := hide HB2.out.size
    clear hA2 hown hbw
    go_wp2_with (first
      | (go_at_call 58; refine (has2_any s k _ hs hlt).mono ?_; rintro e w' ⟨rfl, rfl⟩)
      | (refine wpList_append_own _ rfl (.tmp 11) (.tmp 13) 33 rfl w.heap.size 3 i0 (.int .i64 0) 1 8 Try.underlying33 hi hz0 hz1 hz2 rfl (by decide) u3 m _ rfl HO2.out ⟨_, 0, none⟩ 1 1 [.int .i64 (k : Int)] rfl rfl HCE.out H1c.out HX.out HY.out HZ.out ?_; intro v' W' r1 r2 r3))
    have HR1 : Hid (W'.ownsRow w.heap.size 3 1 v' (m + 1) ((nums2 s.testBit (k + 1)).map (Value.int .i64))) := by
      show World.ownsRow _ _ _ _ _ _ _
      rw [HN.out, List.map_append]; exact r1
    have HB3 := hide (own_below2 HO2.out r2 HB2.out HB2.out.size (Nat.le_refl _))
    clear r1 r2 r3
    go_wp2_with fail
    go_roundw
    case rel => exact ⟨k + 1, m + 1, by omega, by go_num, Nat.succ_le_succ hmk.out, HR1, HB3⟩
    case measure => simp [intOf]; omega
end Go.Proofs.Ytbhhpfiolombcaa


/- Ways: what can be come to, as a set that is found step by step. -/
namespace Go.Proofs.Ytbhhpfiolombcaa
open Go.RowKit

/-- What can be come to from s, where each of n steps leads from any one of A to all of B. -/
inductive Rch (A B : Nat → List Int) (n : Nat) (s : Int) : Int → Prop
  | base : Rch A B n s s
  | step {p q : Int} {k : Nat} : Rch A B n s p → k < n → p ∈ A k → q ∈ B k → Rch A B n s q

open Classical in
noncomputable def rchB (A B : Nat → List Int) (n : Nat) (s : Int) (i : Nat) : Bool := decide (Rch A B n s (i : Int))

theorem rchB_iff {A B : Nat → List Int} {n : Nat} {s : Int} {i : Nat} : rchB A B n s i = true ↔ Rch A B n s (i : Int) := by
  unfold rchB; simp

/-- All lists lie within 0..15. -/
def Small (A : Nat → List Int) (n : Nat) : Prop := ∀ k, k < n → ∀ x ∈ A k, 0 ≤ x ∧ x < 16

theorem Rch.small {A B : Nat → List Int} {n : Nat} {s p : Int} (hB : Small B n) (hs : 0 ≤ s ∧ s < 16) (h : Rch A B n s p) : 0 ≤ p ∧ p < 16 := by
  induction h with
  | base => exact hs
  | step _ hk _ hq _ => exact hB _ hk _ hq

/-- A set that holds s, nothing but what can be come to, and all that a step leads to, is what can be come to. -/
theorem rch_all {A B : Nat → List Int} {n : Nat} {s : Int} {S : Nat → Bool}
    (h0 : S s.toNat = true) (h1 : ∀ i, S i = true → Rch A B n s (i : Int))
    (h2 : ∀ k, k < n → ∀ p ∈ A k, S p.toNat = true → ∀ q ∈ B k, S q.toNat = true) (i : Nat) : S i = rchB A B n s i := by
  have key : ∀ p, Rch A B n s p → S p.toNat = true := by
    intro p hp
    induction hp with
    | base => exact h0
    | step hp hk hpa hq ih => exact h2 _ hk _ hpa ih _ hq
  rw [Bool.eq_iff_iff, rchB_iff]
  constructor
  · exact h1 i
  · intro h; have := key _ h; simpa using this

theorem and_ne_iff {xs : List Int} {m : Nat} (h : ∀ x ∈ xs, 0 ≤ x) : maskL xs &&& m ≠ 0 ↔ ∃ x ∈ xs, m.testBit x.toNat = true := by
  constructor
  · intro hne
    apply Classical.byContradiction
    intro hno
    apply hne
    apply Nat.eq_of_testBit_eq
    intro i
    rw [Nat.testBit_and, maskL_bit xs i h, Nat.zero_testBit]
    by_cases hi : ((i : Int)) ∈ xs
    · have : ¬ m.testBit i = true := fun hb => hno ⟨i, hi, by simpa using hb⟩
      simp [this]
    · simp [hi]
  · rintro ⟨x, hx, hb⟩ he
    have h1 := maskL_bit xs x.toNat h
    have hx0 := h x hx
    have : (maskL xs &&& m).testBit x.toNat = true := by
      rw [Nat.testBit_and, h1, hb]; simp; rw [show max x 0 = x by omega]; exact hx
    rw [he] at this; simp at this

theorem sub_iff {xs : List Int} {m : Nat} (h : ∀ x ∈ xs, 0 ≤ x) : maskL xs &&& m = maskL xs ↔ ∀ x ∈ xs, m.testBit x.toNat = true := by
  constructor
  · intro he x hx
    have hx0 := h x hx
    have h1 := maskL_bit xs x.toNat h
    have h2 : (maskL xs).testBit x.toNat = true := by rw [h1]; simp; rw [show max x 0 = x by omega]; exact hx
    rw [← he, Nat.testBit_and] at h2
    simp at h2; exact h2.2
  · intro hall
    apply Nat.eq_of_testBit_eq
    intro i
    rw [Nat.testBit_and, maskL_bit xs i h]
    by_cases hi : ((i : Int)) ∈ xs
    · have := hall _ hi; simp at this; simp [hi, this]
    · simp [hi]

/-- What the program keeps in mind of the set that it has so far. -/
structure Come (A B : Nat → List Int) (n : Nat) (s : Int) (m : Nat) : Prop where
  lt : m < 2 ^ 16
  has : m.testBit s.toNat = true
  only : ∀ i, m.testBit i = true → Rch A B n s (i : Int)

theorem Come.start {A B : Nat → List Int} {n : Nat} {s : Int} (hs : 0 ≤ s ∧ s < 16) : Come A B n s (2 ^ s.toNat) := by
  refine ⟨Nat.pow_lt_pow_right (by decide) (by omega), by simp, fun i hi => ?_⟩
  rw [Nat.testBit_two_pow] at hi
  simp at hi
  have : (i : Int) = s := by omega
  rw [this]; exact .base

theorem Come.more {A B : Nat → List Int} {n : Nat} {s : Int} {m k : Nat} (hA : Small A n) (hB : Small B n) (h : Come A B n s m) (hk : k < n) (hn : maskL (A k) &&& m ≠ 0) : Come A B n s (m ||| maskL (B k)) := by
  obtain ⟨p, hp, hb⟩ := (and_ne_iff fun x hx => (hA k hk x hx).1).mp hn
  have hp0 := hA k hk p hp
  refine ⟨Nat.or_lt_two_pow h.lt (maskL_lt _ fun x hx => (hB k hk x hx).2), by rw [Nat.testBit_or, h.has]; rfl, fun i hi => ?_⟩
  rw [Nat.testBit_or, maskL_bit _ _ fun x hx => (hB k hk x hx).1] at hi
  simp at hi
  rcases hi with hi | hi
  · exact h.only i hi
  · refine .step (p := p) ?_ hk hp hi
    have := h.only _ hb
    rwa [show ((p.toNat : Nat) : Int) = p by omega] at this

theorem come_less {m b : Nat} (hm : m ||| b < 2 ^ 16) (h : ¬ b &&& m = b) : 65536 - (m ||| b) < 65536 - m := by
  have h1 : m ≤ m ||| b := Nat.left_le_or
  have h2 : m ||| b ≠ m := by
    intro e
    apply h
    apply Nat.eq_of_testBit_eq
    intro i
    have : (m ||| b).testBit i = m.testBit i := by rw [e]
    rw [Nat.testBit_or] at this
    rw [Nat.testBit_and]
    cases hb : b.testBit i <;> cases hq : m.testBit i <;> simp_all
  omega

/-- The step leads to nothing new. -/
def Quiet (A B : Nat → List Int) (k m : Nat) : Prop := maskL (A k) &&& m = 0 ∨ maskL (B k) &&& m = maskL (B k)

theorem Come.done {A B : Nat → List Int} {n : Nat} {s : Int} {m : Nat} (hA : Small A n) (hB : Small B n) (h : Come A B n s m) (hq : ∀ k, k < n → Quiet A B k m) : ∀ i, m.testBit i = rchB A B n s i := by
  refine rch_all h.has h.only fun k hk p hp hb q hq' => ?_
  rcases hq k hk with h0 | h0
  · exact absurd h0 ((and_ne_iff fun x hx => (hA k hk x hx).1).mpr ⟨p, hp, hb⟩)
  · exact (sub_iff fun x hx => (hB k hk x hx).1).mp h0 q hq'

theorem andNotW_nat (a b : Nat) : bits .andNot .u16 (a : Int) (b : Int) = (((BitVec.ofNat 16 a) &&& ~~~(BitVec.ofNat 16 b)).toNat : Int) := by
  simp only [bits, BitVec.ofInt_natCast]
  refine wraps_u16 _ (Int.natCast_nonneg _) ?_
  have := ((BitVec.ofNat 16 a) &&& ~~~(BitVec.ofNat 16 b)).isLt
  exact_mod_cast this

theorem andNotW_zero {a b : Nat} (h : a &&& b = a) : bits .andNot .u16 (a : Int) (b : Int) = 0 := by
  rw [andNotW_nat a b]
  have : (BitVec.ofNat 16 a) &&& ~~~(BitVec.ofNat 16 b) = 0#16 := by
    apply BitVec.eq_of_getLsbD_eq
    intro i hi
    have hbit : (a &&& b).testBit i = a.testBit i := by rw [h]
    rw [Nat.testBit_and] at hbit
    rw [BitVec.getLsbD_and, BitVec.getLsbD_not, BitVec.getLsbD_ofNat, BitVec.getLsbD_ofNat]
    cases h1 : a.testBit i
    · simp
    · rw [h1] at hbit
      have : b.testBit i = true := by simpa using hbit
      simp [this, hi]
  rw [this]; rfl

theorem andNotW_ne {a b : Nat} (ha : a < 2 ^ 16) (h : ¬ a &&& b = a) : ¬ bits .andNot .u16 (a : Int) (b : Int) = 0 := by
  rw [andNotW_nat a b]
  intro e
  apply h
  have e' : (BitVec.ofNat 16 a) &&& ~~~(BitVec.ofNat 16 b) = 0#16 := by
    apply BitVec.eq_of_toNat_eq
    simpa using (by exact_mod_cast e : ((BitVec.ofNat 16 a) &&& ~~~(BitVec.ofNat 16 b)).toNat = 0)
  apply Nat.eq_of_testBit_eq
  intro i
  rw [Nat.testBit_and]
  by_cases hi : i < 16
  · have := congrArg (fun x => BitVec.getLsbD x i) e'
    rw [BitVec.getLsbD_and, BitVec.getLsbD_not, BitVec.getLsbD_ofNat, BitVec.getLsbD_ofNat] at this
    cases h1 : a.testBit i
    · rfl
    · rw [h1] at this
      cases h2 : b.testBit i
      · rw [h2] at this; simp [hi] at this
      · rfl
  · rw [Nat.testBit_lt_two_pow (Nat.lt_of_lt_of_le ha (Nat.pow_le_pow_right (by decide) (by omega)))]; rfl


theorem meetW_yes {a m : Nat} (ha : a < 2 ^ 16) (hm : m < 2 ^ 16) (h : a &&& m ≠ 0) : (bits .and .u16 (a : Int) (m : Int) != 0) = true := by
  rw [and_u16 a m ha hm]; simpa using h
theorem meetW_no {a m : Nat} (ha : a < 2 ^ 16) (hm : m < 2 ^ 16) (h : a &&& m = 0) : (bits .and .u16 (a : Int) (m : Int) != 0) = false := by
  rw [and_u16 a m ha hm, h]; rfl
theorem lessW_yes {a m : Nat} (ha : a < 2 ^ 16) (h : ¬ a &&& m = a) : (bits .andNot .u16 (a : Int) (m : Int) != 0) = true := by
  simpa using andNotW_ne ha h
theorem lessW_no {a m : Nat} (h : a &&& m = a) : (bits .andNot .u16 (a : Int) (m : Int) != 0) = false := by
  rw [andNotW_zero h]; rfl

/-- What can be come to, as bits. -/
noncomputable def rchM (A B : Nat → List Int) (n : Nat) (s : Int) : Nat := maskL (nums2 (rchB A B n s) 16)

theorem nums2_mem {f : Nat → Bool} {k : Nat} {x : Int} (h : x ∈ nums2 f k) : 0 ≤ x ∧ x < (k : Int) ∧ f x.toNat = true := by
  unfold nums2 at h
  rw [List.mem_map] at h
  obtain ⟨i, hi, rfl⟩ := h
  rw [List.mem_filter, List.mem_range] at hi
  exact ⟨by omega, by omega, by simpa using hi.2⟩

theorem nums2_in {f : Nat → Bool} {k i : Nat} : ((i : Int)) ∈ nums2 f k ↔ i < k ∧ f i = true := by
  constructor
  · intro h; have := nums2_mem h; simp at this; exact ⟨by omega, this.2⟩
  · intro h; unfold nums2; rw [List.mem_map]; exact ⟨i, by simp [h.1, h.2], rfl⟩

theorem rchM_lt (A B : Nat → List Int) (n : Nat) (s : Int) : rchM A B n s < 2 ^ 16 := maskL_lt _ fun _ hx => (nums2_mem hx).2.1

theorem rchM_bit {A B : Nat → List Int} {n : Nat} {s : Int} (hB : Small B n) (hs : 0 ≤ s ∧ s < 16) (i : Nat) : (rchM A B n s).testBit i = rchB A B n s i := by
  unfold rchM
  rw [maskL_bit _ _ fun x hx => (nums2_mem hx).1]
  rw [Bool.eq_iff_iff, decide_eq_true_iff, nums2_in]
  constructor
  · exact fun h => h.2
  · intro h
    have := (rchB_iff.mp h).small hB hs
    exact ⟨by omega, h⟩

theorem rchM_eq {A B : Nat → List Int} {n : Nat} {s : Int} {m : Nat} (hB : Small B n) (hs : 0 ≤ s ∧ s < 16) (h : ∀ i, m.testBit i = rchB A B n s i) : m = rchM A B n s :=
  Nat.eq_of_testBit_eq fun i => by rw [h, rchM_bit hB hs]
end Go.Proofs.Ytbhhpfiolombcaa


/- walk of the program: the places that can be come to, by a goto. -/
namespace Go.Proofs.Ytbhhpfiolombcaa
open Go.RowKit
set_option maxRecDepth 10000

theorem PartS.atW {w : World} {B n k : Nat} {L : List (List Int)} (h : PartS w B (3 * n) (3 * n) L) (hk : k < n) :
    w.cell? ⟨B, k * 3, none⟩ = some (.int .u16 (maskL (L.getD (3 * k) []) : Int)) ∧ w.cell? ⟨B, k * 3 + 1, none⟩ = some (.int .u16 (maskL (L.getD (3 * k + 1) []) : Int)) ∧ w.cell? ⟨B, k * 3 + 2, none⟩ = some (.int .u16 (maskL (L.getD (3 * k + 2) []) : Int)) := by
  obtain ⟨C, h1, h2, h3⟩ := h
  refine ⟨?_, ?_, ?_⟩
  · rw [cell_of_row w B _ C _ _ h1, Nat.mul_comm]; exact h3 _ (by omega)
  · rw [cell_of_row w B _ C _ _ h1, Nat.mul_comm]; exact h3 _ (by omega)
  · rw [cell_of_row w B _ C _ _ h1, Nat.mul_comm]; exact h3 _ (by omega)

theorem ahead_any (s0 s1 s2 : Int) (w : World) :
    Calls Try.prog 56 #[.agg #[.int .u16 s0, .int .u16 s1, .int .u16 s2]] w fun e w' => e = .returned (.int .u16 s0) ∧ Below w.heap.size w w' := by
  go_enter Try.func56, Try.ntmps56
  go_wp2_with fail
  go_ret
  exact ⟨rfl, below_al _ _⟩

theorem behind_any (s0 s1 s2 : Int) (w : World) :
    Calls Try.prog 57 #[.agg #[.int .u16 s0, .int .u16 s1, .int .u16 s2]] w fun e w' => e = .returned (.int .u16 s1) ∧ Below w.heap.size w w' := by
  go_enter Try.func57, Try.ntmps57
  go_wp2_with fail
  go_ret
  exact ⟨rfl, below_al _ _⟩

theorem wp_scope_jumps2 {P : Program} {a : Act} {w : World} {Q : Exit → Act → World → Prop} {c rest : Code} (l : Nat) (J : Act → World → Prop) (μ : Act → World → Nat) (hf : findLabel c l = some (Code.skip.seq rest))
    (first : c.wp P (Exit.jump l J Q) a w)
    (pass : ∀ a w, J a w → rest.wp P (Exit.jump l (fun a' w' => J a' w' ∧ μ a' w' < μ a w) Q) a w) : (Code.scope c).wp P Q a w :=
  wp_scope_jumps l J μ hf first fun a w h => wp_seq (wp_skip (pass a w h))

theorem ret_u16 {a b : Nat} (h : a = b) : Ending.returned (.int .u16 (a : Int)) = .returned (.int .u16 (b : Int)) := by rw [h]

/-- What walk keeps in mind at the label. -/
structure WkInv (w wr : World) (p : Int) (B n m : Nat) (A D : Nat → List Int) (s : Int) : Prop where
  par : wr.heap[w.heap.size]? = some (.cells #[.int .i64 p, .slice (some ⟨B, 0, none⟩) n n] 45 (0, 0))
  bel : Below w.heap.size w wr
  come : Come A D n s m

set_option maxHeartbeats 4000000 in
theorem walkF_any (A D : Nat → List Int) (p s : Int) (B n : Nat) (L : List (List Int)) (w : World) (h : PartS w B (3 * n) (3 * n) L) (hn : n ≤ 24) (hs : 0 ≤ s ∧ s < 16)
    (hA : Small A n) (hD : Small D n) (eA : ∀ k, A k = L.getD (3 * k) []) (eD : ∀ k, D k = L.getD (3 * k + 1) []) :
    Calls Try.prog 55 #[.agg #[.int .i64 p, .slice (some ⟨B, 0, none⟩) n n], .int .i64 s, .func (.func 56) #[] #[], .func (.func 57) #[] #[]] w fun e w' => e = .returned (.int .u16 (rchM A D n s : Int)) ∧ Below w.heap.size w w' := by
  have HP := hide h
  have HA := hide hA
  have HD := hide hD
  have EA := hide eA
  have ED := hide eD
  have hs0 := hs.1
  have hs1 := hs.2
  clear h eA eD hA hD hs
  go_enter Try.func55, Try.ntmps55
  go_wp2_with fail
  refine (fun pass => wp_scope_jumps2 0 (fun a' w' => ∃ (m : Nat) (u5 u6 u7 u10 u11 u12 u13 u14 u15 u16 u17 u18 u19 u20 u21 u22 u23 u24 u25 u26 u27 u28 u29 u30 u31 u32 u33 u34 u35 u36 u37 u38 u39 u40 u41 : Value), a' = { tmps := #[.agg #[.int .i64 p, .slice (some ⟨B, 0, none⟩) n n], .int .i64 s, .func (.func 56) #[] #[], .func (.func 57) #[] #[], .pointer (some ⟨w.heap.size, 0, none⟩), u5, u6, u7, .int .u16 0, .int .u16 (m : Int), u10, u11, u12, u13, u14, u15, u16, u17, u18, u19, u20, u21, u22, u23, u24, u25, u26, u27, u28, u29, u30, u31, u32, u33, u34, u35, u36, u37, u38, u39, u40, u41], defers := [] } ∧ Hid (WkInv w w' p B n m A D s)) (fun a' _ => 65536 - (intOf (a'.tmps.getD 9 undef)).toNat) rfl ?_ pass) ?_
  · have HPAR := hide (heap_alloc_new w (.cells #[.int .i64 p, .slice (some ⟨B, 0, none⟩) n n] 45))
    have HB0 := hide (below_al w (.cells #[.int .i64 p, .slice (some ⟨B, 0, none⟩) n n] 45))
    have HC0 := hide (Come.start (A := A) (B := D) (n := n) ⟨hs0, hs1⟩)
    have HW : Hid (IntKind.u16.wrap (2 ^ s.toNat) = ((2 ^ s.toNat : Nat) : Int)) := by
      show _ = _
      rw [show ((2 : Int) ^ s.toNat) = ((2 ^ s.toNat : Nat) : Int) by simp]
      exact wraps_u16 _ (Int.natCast_nonneg _) (by exact_mod_cast HC0.out.lt)
    go_wp2_with fail
    go_step3
    rename_i K hK
    rw [HW.out]
    refine hK _ _ (Code.wp_mono ?_ (pass _ _ ⟨2 ^ s.toNat, _, _, _, _, _, _, _, _, _, _, _, _, _, _, _, _, _, _, _, _, _, _, _, _, _, _, _, _, _, _, _, _, _, _, _, rfl, ⟨HPAR.out, HB0.out, HC0.out⟩⟩))
    intro e a2 w2 hq
    cases e <;> first | exact hq | exact ⟨hq.1, hq.2.1⟩
  · rintro a' w' ⟨m, u5, u6, u7, u10, u11, u12, u13, u14, u15, u16, u17, u18, u19, u20, u21, u22, u23, u24, u25, u26, u27, u28, u29, u30, u31, u32, u33, u34, u35, u36, u37, u38, u39, u40, u41, rfl, hin⟩
    obtain ⟨hc0, hc1⟩ := cells2 hin.out.par
    have hm := hin.out.come.lt
    go_wp2_with fail
    clear hc0 hc1
    go_loopw [9, 17] (fun c i wr => ∃ k : Nat, k ≤ n ∧ i = .int .i64 k ∧ c = .int .u16 (m : Int) ∧ Hid (∀ j, j < k → Quiet A D j m) ∧ Hid (WkInv w wr p B n m A D s)) (fun _ i _ => n - (intOf i).toNat)
    case atStart => exact ⟨0, Nat.zero_le _, rfl, rfl, fun j hj => absurd hj (by omega), hin⟩
    case round =>
      clear hin
      obtain ⟨k, hk, rfl, rfl, hu, hin⟩ := hrel
      by_cases hlt : k < n
      rotate_left
      · have hk' : k = n := by omega
        subst hk'
        have HR := hide (rchM_eq HD.out ⟨hs0, hs1⟩ (hin.out.come.done HA.out HD.out hu.out))
        clear hm
        go_wp2_with fail
        simp only [Exit.jump]
        go_ret
        exact ⟨ret_u16 HR.out, hin.out.bel⟩
      obtain ⟨hc0, hc1, hc2⟩ := (HP.out.grow hin.out.bel).atW hlt
      have ea := EA.out k
      have ed := ED.out k
      have ha16 : maskL (A k) < 2 ^ 16 := maskL_lt _ fun x hx => (HA.out k hlt x hx).2
      have hd16 : maskL (D k) < 2 ^ 16 := maskL_lt _ fun x hx => (HD.out k hlt x hx).2
      have HQ := hide (fun (h : Quiet A D k m) (j : Nat) (hj : j < k + 1) => (if e : j < k then hu.out j e else (by rw [show j = k by omega]; exact h) : Quiet A D j m))
      have HMO := hide (fun (h : maskL (A k) &&& m ≠ 0) => hin.out.come.more HA.out HD.out hlt h)
      have HOR := hide (or_u16 m (maskL (D k)) hm hd16)
      unfold Quiet at HQ
      rw [ea] at HQ HMO ha16
      rw [ed] at HQ HMO hd16 HOR
      have HA1 := hide (below_al wr (.cells #[.int .u16 (maskL (L.getD (3 * k) []) : Int), .int .u16 (maskL (L.getD (3 * k + 1) []) : Int), .int .u16 (maskL (L.getD (3 * k + 2) []) : Int)] 89))
      have HPAR := hide hin.out.par
      have HB0 := hide hin.out.bel
      have HCO := hide hin.out.come
      clear hin hu ea ed
      generalize maskL (L.getD (3 * k) []) = s0 at *
      generalize maskL (L.getD (3 * k + 1) []) = s1 at *
      generalize maskL (L.getD (3 * k + 2) []) = s2 at *
      go_wp2_with fail
      refine (ahead_any _ _ _ _).mono ?_
      rintro e w1 ⟨rfl, hb⟩
      have HB1 := hide (HA1.out.trans (hb.mono HA1.out.size))
      have hX := keep (heap_alloc_new wr (.cells #[.int .u16 (s0 : Int), .int .u16 (s1 : Int), .int .u16 (s2 : Int)] 89)) hb
      have hx0 := cell_of_row w1 _ 0 _ _ _ hX
      have hx1 := cell_of_row w1 _ 1 _ _ _ hX
      have hx2 := cell_of_row w1 _ 2 _ _ _ hX
      simp at hx0 hx1 hx2
      have HX := hide hX
      clear hb HA1 hX hc0 hc1 hc2
      by_cases hz : s0 &&& m = 0
      · have hcd := meetW_no ha16 hm hz
        have HQ1 := hide (HQ.out (.inl hz))
        have HI : Hid (WkInv w w1 p B n m A D s) := ⟨keep HPAR.out HB1.out, HB0.out.trans (HB1.out.mono HB0.out.size), HCO.out⟩
        clear HQ HMO HOR HPAR HB0 HCO hz HX
        go_wp2_with fail
        go_roundw
        case rel => exact ⟨k + 1, by omega, by go_num, rfl, HQ1, HI⟩
        case measure => simp [intOf]; omega
      have hcd := meetW_yes ha16 hm hz
      have HZ : Hid (s0 &&& m ≠ 0) := hz
      clear hz
      go_wp2_with fail
      refine (behind_any _ _ _ _).mono ?_
      rintro e w2 ⟨rfl, hb⟩
      have HB2 := hide (HB1.out.trans (hb.mono HB1.out.size))
      have hX := keep HX.out hb
      have hx0 := cell_of_row w2 _ 0 _ _ _ hX
      have hx1 := cell_of_row w2 _ 1 _ _ _ hX
      have hx2 := cell_of_row w2 _ 2 _ _ _ hX
      simp at hx0 hx1 hx2
      clear hb hX HX HB1
      by_cases hy : s1 &&& m = s1
      · have hcd2 := lessW_no hy
        have HQ1 := hide (HQ.out (.inr hy))
        have HI : Hid (WkInv w w2 p B n m A D s) := ⟨keep HPAR.out HB2.out, HB0.out.trans (HB2.out.mono HB0.out.size), HCO.out⟩
        clear HQ HMO HOR HPAR HB0 HCO hy
        go_wp2_with fail
        go_roundw
        case rel => exact ⟨k + 1, by omega, by go_num, rfl, HQ1, HI⟩
        case measure => simp [intOf]; omega
      have hcd2 := lessW_yes hd16 hy
      have HMO1 := hide (HMO.out HZ.out)
      have HLE := hide (come_less HMO1.out.lt hy)
      clear hy HMO HQ
      go_wp2_with fail
      refine (behind_any _ _ _ _).mono ?_
      rintro e w3 ⟨rfl, hb⟩
      have HI : Hid (WkInv w w3 p B n (m ||| s1) A D s) := ⟨keep (keep HPAR.out HB2.out) hb, HB0.out.trans ((HB2.out.trans (hb.mono HB2.out.size)).mono HB0.out.size), HMO1.out⟩
      clear hb HB0 HPAR HB2 HCO
      go_wp2_with fail
      go_step3
      rw [HOR.out]
      refine ⟨rfl, ⟨m ||| s1, _, _, _, _, _, _, _, _, _, _, _, _, _, _, _, _, _, _, _, _, _, _, _, _, _, _, _, _, _, _, _, _, _, _, _, rfl, HI⟩, ?_⟩
      have := HLE.out
      simpa [intOf] using this

set_option maxHeartbeats 4000000 in
theorem walkB_any (A D : Nat → List Int) (p s : Int) (B n : Nat) (L : List (List Int)) (w : World) (h : PartS w B (3 * n) (3 * n) L) (hn : n ≤ 24) (hs : 0 ≤ s ∧ s < 16)
    (hA : Small A n) (hD : Small D n) (eA : ∀ k, A k = L.getD (3 * k + 1) []) (eD : ∀ k, D k = L.getD (3 * k) []) :
    Calls Try.prog 55 #[.agg #[.int .i64 p, .slice (some ⟨B, 0, none⟩) n n], .int .i64 s, .func (.func 57) #[] #[], .func (.func 56) #[] #[]] w fun e w' => e = .returned (.int .u16 (rchM A D n s : Int)) ∧ Below w.heap.size w w' := by
  have HP := hide h
  have HA := hide hA
  have HD := hide hD
  have EA := hide eA
  have ED := hide eD
  have hs0 := hs.1
  have hs1 := hs.2
  clear h eA eD hA hD hs
  go_enter Try.func55, Try.ntmps55
  go_wp2_with fail
  refine (fun pass => wp_scope_jumps2 0 (fun a' w' => ∃ (m : Nat) (u5 u6 u7 u10 u11 u12 u13 u14 u15 u16 u17 u18 u19 u20 u21 u22 u23 u24 u25 u26 u27 u28 u29 u30 u31 u32 u33 u34 u35 u36 u37 u38 u39 u40 u41 : Value), a' = { tmps := #[.agg #[.int .i64 p, .slice (some ⟨B, 0, none⟩) n n], .int .i64 s, .func (.func 57) #[] #[], .func (.func 56) #[] #[], .pointer (some ⟨w.heap.size, 0, none⟩), u5, u6, u7, .int .u16 0, .int .u16 (m : Int), u10, u11, u12, u13, u14, u15, u16, u17, u18, u19, u20, u21, u22, u23, u24, u25, u26, u27, u28, u29, u30, u31, u32, u33, u34, u35, u36, u37, u38, u39, u40, u41], defers := [] } ∧ Hid (WkInv w w' p B n m A D s)) (fun a' _ => 65536 - (intOf (a'.tmps.getD 9 undef)).toNat) rfl ?_ pass) ?_
  · have HPAR := hide (heap_alloc_new w (.cells #[.int .i64 p, .slice (some ⟨B, 0, none⟩) n n] 45))
    have HB0 := hide (below_al w (.cells #[.int .i64 p, .slice (some ⟨B, 0, none⟩) n n] 45))
    have HC0 := hide (Come.start (A := A) (B := D) (n := n) ⟨hs0, hs1⟩)
    have HW : Hid (IntKind.u16.wrap (2 ^ s.toNat) = ((2 ^ s.toNat : Nat) : Int)) := by
      show _ = _
      rw [show ((2 : Int) ^ s.toNat) = ((2 ^ s.toNat : Nat) : Int) by simp]
      exact wraps_u16 _ (Int.natCast_nonneg _) (by exact_mod_cast HC0.out.lt)
    go_wp2_with fail
    go_step3
    rename_i K hK
    rw [HW.out]
    refine hK _ _ (Code.wp_mono ?_ (pass _ _ ⟨2 ^ s.toNat, _, _, _, _, _, _, _, _, _, _, _, _, _, _, _, _, _, _, _, _, _, _, _, _, _, _, _, _, _, _, _, _, _, _, _, rfl, ⟨HPAR.out, HB0.out, HC0.out⟩⟩))
    intro e a2 w2 hq
    cases e <;> first | exact hq | exact ⟨hq.1, hq.2.1⟩
  · rintro a' w' ⟨m, u5, u6, u7, u10, u11, u12, u13, u14, u15, u16, u17, u18, u19, u20, u21, u22, u23, u24, u25, u26, u27, u28, u29, u30, u31, u32, u33, u34, u35, u36, u37, u38, u39, u40, u41, rfl, hin⟩
    obtain ⟨hc0, hc1⟩ := cells2 hin.out.par
    have hm := hin.out.come.lt
    go_wp2_with fail
    clear hc0 hc1
    go_loopw [9, 17] (fun c i wr => ∃ k : Nat, k ≤ n ∧ i = .int .i64 k ∧ c = .int .u16 (m : Int) ∧ Hid (∀ j, j < k → Quiet A D j m) ∧ Hid (WkInv w wr p B n m A D s)) (fun _ i _ => n - (intOf i).toNat)
    case atStart => exact ⟨0, Nat.zero_le _, rfl, rfl, fun j hj => absurd hj (by omega), hin⟩
    case round =>
      clear hin
      obtain ⟨k, hk, rfl, rfl, hu, hin⟩ := hrel
      by_cases hlt : k < n
      rotate_left
      · have hk' : k = n := by omega
        subst hk'
        have HR := hide (rchM_eq HD.out ⟨hs0, hs1⟩ (hin.out.come.done HA.out HD.out hu.out))
        clear hm
        go_wp2_with fail
        simp only [Exit.jump]
        go_ret
        exact ⟨ret_u16 HR.out, hin.out.bel⟩
      obtain ⟨hc0, hc1, hc2⟩ := (HP.out.grow hin.out.bel).atW hlt
      have ea := EA.out k
      have ed := ED.out k
      have ha16 : maskL (A k) < 2 ^ 16 := maskL_lt _ fun x hx => (HA.out k hlt x hx).2
      have hd16 : maskL (D k) < 2 ^ 16 := maskL_lt _ fun x hx => (HD.out k hlt x hx).2
      have HQ := hide (fun (h : Quiet A D k m) (j : Nat) (hj : j < k + 1) => (if e : j < k then hu.out j e else (by rw [show j = k by omega]; exact h) : Quiet A D j m))
      have HMO := hide (fun (h : maskL (A k) &&& m ≠ 0) => hin.out.come.more HA.out HD.out hlt h)
      have HOR := hide (or_u16 m (maskL (D k)) hm hd16)
      unfold Quiet at HQ
      rw [ea] at HQ HMO ha16
      rw [ed] at HQ HMO hd16 HOR
      have HA1 := hide (below_al wr (.cells #[.int .u16 (maskL (L.getD (3 * k) []) : Int), .int .u16 (maskL (L.getD (3 * k + 1) []) : Int), .int .u16 (maskL (L.getD (3 * k + 2) []) : Int)] 89))
      have HPAR := hide hin.out.par
      have HB0 := hide hin.out.bel
      have HCO := hide hin.out.come
      clear hin hu ea ed
      generalize maskL (L.getD (3 * k) []) = s0 at *
      generalize maskL (L.getD (3 * k + 1) []) = s1 at *
      generalize maskL (L.getD (3 * k + 2) []) = s2 at *
      go_wp2_with fail
      refine (behind_any _ _ _ _).mono ?_
      rintro e w1 ⟨rfl, hb⟩
      have HB1 := hide (HA1.out.trans (hb.mono HA1.out.size))
      have hX := keep (heap_alloc_new wr (.cells #[.int .u16 (s0 : Int), .int .u16 (s1 : Int), .int .u16 (s2 : Int)] 89)) hb
      have hx0 := cell_of_row w1 _ 0 _ _ _ hX
      have hx1 := cell_of_row w1 _ 1 _ _ _ hX
      have hx2 := cell_of_row w1 _ 2 _ _ _ hX
      simp at hx0 hx1 hx2
      have HX := hide hX
      clear hb HA1 hX hc0 hc1 hc2
      by_cases hz : s1 &&& m = 0
      · have hcd := meetW_no ha16 hm hz
        have HQ1 := hide (HQ.out (.inl hz))
        have HI : Hid (WkInv w w1 p B n m A D s) := ⟨keep HPAR.out HB1.out, HB0.out.trans (HB1.out.mono HB0.out.size), HCO.out⟩
        clear HQ HMO HOR HPAR HB0 HCO hz HX
        go_wp2_with fail
        go_roundw
        case rel => exact ⟨k + 1, by omega, by go_num, rfl, HQ1, HI⟩
        case measure => simp [intOf]; omega
      have hcd := meetW_yes ha16 hm hz
      have HZ : Hid (s1 &&& m ≠ 0) := hz
      clear hz
      go_wp2_with fail
      refine (ahead_any _ _ _ _).mono ?_
      rintro e w2 ⟨rfl, hb⟩
      have HB2 := hide (HB1.out.trans (hb.mono HB1.out.size))
      have hX := keep HX.out hb
      have hx0 := cell_of_row w2 _ 0 _ _ _ hX
      have hx1 := cell_of_row w2 _ 1 _ _ _ hX
      have hx2 := cell_of_row w2 _ 2 _ _ _ hX
      simp at hx0 hx1 hx2
      clear hb hX HX HB1
      by_cases hy : s0 &&& m = s0
      · have hcd2 := lessW_no hy
        have HQ1 := hide (HQ.out (.inr hy))
        have HI : Hid (WkInv w w2 p B n m A D s) := ⟨keep HPAR.out HB2.out, HB0.out.trans (HB2.out.mono HB0.out.size), HCO.out⟩
        clear HQ HMO HOR HPAR HB0 HCO hy
        go_wp2_with fail
        go_roundw
        case rel => exact ⟨k + 1, by omega, by go_num, rfl, HQ1, HI⟩
        case measure => simp [intOf]; omega
      have hcd2 := lessW_yes hd16 hy
      have HMO1 := hide (HMO.out HZ.out)
      have HLE := hide (come_less HMO1.out.lt hy)
      clear hy HMO HQ
      go_wp2_with fail
      refine (ahead_any _ _ _ _).mono ?_
      rintro e w3 ⟨rfl, hb⟩
      have HI : Hid (WkInv w w3 p B n (m ||| s0) A D s) := ⟨keep (keep HPAR.out HB2.out) hb, HB0.out.trans ((HB2.out.trans (hb.mono HB2.out.size)).mono HB0.out.size), HMO1.out⟩
      clear hb HB0 HPAR HB2 HCO
      go_wp2_with fail
      go_step3
      rw [HOR.out]
      refine ⟨rfl, ⟨m ||| s0, _, _, _, _, _, _, _, _, _, _, _, _, _, _, _, _, _, _, _, _, _, _, _, _, _, _, _, _, _, _, _, _, _, _, _, rfl, HI⟩, ?_⟩
      have := HLE.out
      simpa [intOf] using this

end Go.Proofs.Ytbhhpfiolombcaa


/- waysOf of the program, and what is asked of a step. -/
namespace Go.Proofs.Ytbhhpfiolombcaa
open Go.RowKit
set_option maxRecDepth 10000

def inL (L : List (List Int)) (k : Nat) : List Int := L.getD (3 * k) []
def outL (L : List (List Int)) (k : Nat) : List Int := L.getD (3 * k + 1) []

noncomputable def fthM (n : Nat) (L : List (List Int)) (s : Int) : Nat := rchM (inL L) (outL L) n s
noncomputable def bckM (n : Nat) (L : List (List Int)) (t : Int) : Nat := rchM (outL L) (inL L) n t

theorem netOk_parts {p : Int} {n : Nat} {L : List (List Int)} (h : netOk p n L = true) : (1 ≤ p ∧ p ≤ 16) ∧ n ≤ 24 ∧ ∀ k, k < n → tri3Ok p (L.getD (3 * k) []) (L.getD (3 * k + 1) []) (L.getD (3 * k + 2) []) = true := by
  unfold netOk at h
  simp only [Bool.and_eq_true] at h
  refine ⟨?_, ?_, fun k hk => ?_⟩
  · have := h.1.1; simp [inB] at this; omega
  · simpa using h.1.2
  · have := List.all_eq_true.mp h.2 k (by simpa using hk)
    rwa [triOk_eq] at this

theorem tri3_rise {p : Int} {x0 x1 x2 : List Int} (h : tri3Ok p x0 x1 x2 = true) : riseB x0 0 (p - 1) = true ∧ riseB x1 0 (p - 1) = true ∧ riseB x2 0 (p - 1) = true := by
  unfold tri3Ok at h
  simp only [Bool.and_eq_true] at h
  exact ⟨h.1.1.2, h.1.2, h.2⟩

theorem netOk_mem {p : Int} {n : Nat} {L : List (List Int)} (h : netOk p n L = true) {k : Nat} (hk : k < n) :
    (∀ x ∈ inL L k, 0 ≤ x ∧ x < p) ∧ (∀ x ∈ outL L k, 0 ≤ x ∧ x < p) ∧ (∀ x ∈ L.getD (3 * k + 2) [], 0 ≤ x ∧ x < p) := by
  obtain ⟨_, _, h3⟩ := netOk_parts h
  obtain ⟨r0, r1, r2⟩ := tri3_rise (h3 k hk)
  refine ⟨fun x hx => ?_, fun x hx => ?_, fun x hx => ?_⟩
  · have := riseB_mem r0 x hx; omega
  · have := riseB_mem r1 x hx; omega
  · have := riseB_mem r2 x hx; omega

theorem small_in {p : Int} {n : Nat} {L : List (List Int)} (h : netOk p n L = true) : Small (inL L) n := fun k hk x hx => by
  have := (netOk_mem h hk).1 x hx
  have := (netOk_parts h).1
  omega
theorem small_out {p : Int} {n : Nat} {L : List (List Int)} (h : netOk p n L = true) : Small (outL L) n := fun k hk x hx => by
  have := (netOk_mem h hk).2.1 x hx
  have := (netOk_parts h).1
  omega

theorem ret_b {a b : Bool} (h : a = b) : Ending.returned (.bool a) = .returned (.bool b) := by rw [h]

theorem lacksPlace_any (p q : Int) (a : Option Addr) (n c : Nat) (w : World) :
    Calls Try.prog 54 #[.agg #[.int .i64 p, .slice a n c], .int .i64 q] w fun e w' => e = .returned (.bool (!inB q 0 (p - 1))) ∧ Below w.heap.size w w' := by
  have HX : Hid (∀ b : Bool, (b = true ↔ q < 0 ∨ p ≤ q) → b = !inB q 0 (p - 1)) := by
    intro b hb
    unfold inB
    cases b
    · have : ¬ (q < 0 ∨ p ≤ q) := fun h => by simpa using hb.mpr h
      simp; omega
    · have := hb.mp rfl
      simp; omega
  by_cases h0 : q < 0
  · go_enter Try.func54, Try.ntmps54
    go_wp2_with fail
    go_ret
    exact ⟨ret_b (HX.out true (by simp [h0])), below_al _ _⟩
  by_cases h1 : p ≤ q
  · go_enter Try.func54, Try.ntmps54
    go_wp2_with fail
    go_ret
    exact ⟨ret_b (HX.out true (by simp [h1])), below_al _ _⟩
  · go_enter Try.func54, Try.ntmps54
    go_wp2_with fail
    go_ret
    exact ⟨ret_b (HX.out false (by simp; omega)), below_al _ _⟩

/-- Whether a net is good and two numbers are places of it. -/
def wayOk (p : Int) (n : Nat) (L : List (List Int)) (s t : Int) : Bool := netOk p n L && inB s 0 (p - 1) && inB t 0 (p - 1)

/-- How waysOf ends. -/
def WayEnd (g : Bool) (p : Int) (n : Nat) (L : List (List Int)) (s t : Int) (w : World) (e : Ending) (w' : World) : Prop :=
  ∃ p' a m c F K, e = .returned (.tuple #[.agg #[.int .i64 p', .slice a m c, .int .u16 ((F : Nat) : Int), .int .u16 ((K : Nat) : Int)], .bool g]) ∧
    Hid (g = true → p' = p ∧ m = n ∧ c = n ∧ F = fthM n L s ∧ K = bckM n L t ∧ ∃ B, a = some ⟨B, 0, none⟩ ∧ w.heap.size ≤ B ∧ PartS w' B (3 * n) (3 * n) L) ∧ Below w.heap.size w w'

theorem wayEnd_no {p : Int} {n : Nat} {L : List (List Int)} {s t : Int} {w w' : World} (h : wayOk p n L s t = false) (hb : Below w.heap.size w w') :
    WayEnd (wayOk p n L s t) p n L s t w (.returned (.tuple #[.agg #[.int .i64 0, .slice none 0 0, .int .u16 0, .int .u16 0], .bool false])) w' :=
  ⟨0, none, 0, 0, 0, 0, by rw [h]; rfl, by rw [h]; intro e; simp at e, hb⟩

theorem cells4 {w : World} {b : Nat} {v0 v1 v2 v3 : Value} {T : TypeId} (h : w.heap[b]? = some (.cells #[v0, v1, v2, v3] T (0, 0))) :
    (w.cell? ⟨b, 0, none⟩ = some v0 ∧ w.cell? ⟨b, 1, none⟩ = some v1 ∧ w.cell? ⟨b, 2, none⟩ = some v2 ∧ w.cell? ⟨b, 3, none⟩ = some v3) ∧
    (w.frozen? ⟨b, 0, none⟩ = false ∧ w.frozen? ⟨b, 1, none⟩ = false ∧ w.frozen? ⟨b, 2, none⟩ = false ∧ w.frozen? ⟨b, 3, none⟩ = false) :=
  ⟨⟨cell_of_row w b 0 _ _ _ h, cell_of_row w b 1 _ _ _ h, cell_of_row w b 2 _ _ _ h, cell_of_row w b 3 _ _ _ h⟩,
   ⟨frozen_of_row w b 0 _ _ h, frozen_of_row w b 1 _ _ h, frozen_of_row w b 2 _ _ h, frozen_of_row w b 3 _ _ h⟩⟩

theorem below_set4 {B : Nat} {a w : World} (h : Below B a w) {g : Nat} (hg : B ≤ g) (v0 v1 v2 v3 : Value) :
    Below B a ((((w.setCell ⟨g, 0, none⟩ v0).setCell ⟨g, 1, none⟩ v1).setCell ⟨g, 2, none⟩ v2).setCell ⟨g, 3, none⟩ v3) :=
  (((h.setCell (by simpa using hg) _).setCell (by simpa using hg) _).setCell (by simpa using hg) _).setCell (by simpa using hg) _

theorem PartS.set4 {w : World} {B n k g : Nat} {L : List (List Int)} (h : PartS w B n k L) (hg : B ≠ g) (v0 v1 v2 v3 : Value) : PartS ((((w.setCell ⟨g, 0, none⟩ v0).setCell ⟨g, 1, none⟩ v1).setCell ⟨g, 2, none⟩ v2).setCell ⟨g, 3, none⟩ v3) B n k L :=
  (((h.set_other hg 0 v0).set_other hg 1 v1).set_other hg 2 v2).set_other hg 3 v3

theorem Try.size61 : (Try.prog.info? 61).map (·.size) = some 4 := by kernel_rfl

theorem PartS.setRowW {w : World} {B n k g : Nat} {L : List (List Int)} (h : PartS w B n k L) (hg : B ≠ g) (D : Array Value) : PartS (w.setRow g D) B n k L := by
  obtain ⟨C, h1, h2, h3⟩ := h
  exact ⟨C, (setRow_otherW w hg D).trans h1, h2, h3⟩

theorem keep2 {W W' : World} {a1 a2 : Addr} {v1 v2 : Value} (hb : Below W.heap.size W W') (h : W.cell? a1 = some v1 ∧ W.cell? a2 = some v2) : W'.cell? a1 = some v1 ∧ W'.cell? a2 = some v2 :=
  ⟨(hb.cell (World.block_lt_of_cell? _ _ h.1)).trans h.1, (hb.cell (World.block_lt_of_cell? _ _ h.2)).trans h.2⟩

theorem keep2_set4 {W : World} {g b x1 x2 : Nat} {v1 v2 u0 u1 u2 u3 : Value} (hg : b ≠ g) (h : W.cell? ⟨b, x1, none⟩ = some v1 ∧ W.cell? ⟨b, x2, none⟩ = some v2) :
    ((((W.setCell ⟨g, 0, none⟩ u0).setCell ⟨g, 1, none⟩ u1).setCell ⟨g, 2, none⟩ u2).setCell ⟨g, 3, none⟩ u3).cell? ⟨b, x1, none⟩ = some v1 ∧ ((((W.setCell ⟨g, 0, none⟩ u0).setCell ⟨g, 1, none⟩ u1).setCell ⟨g, 2, none⟩ u2).setCell ⟨g, 3, none⟩ u3).cell? ⟨b, x2, none⟩ = some v2 := by
  have far : ∀ x, ((((W.setCell ⟨g, 0, none⟩ u0).setCell ⟨g, 1, none⟩ u1).setCell ⟨g, 2, none⟩ u2).setCell ⟨g, 3, none⟩ u3).cell? ⟨b, x, none⟩ = W.cell? ⟨b, x, none⟩ := fun x => by
    rw [World.cell?_setCell_far _ _ _ _ (fun e => hg e.symm), World.cell?_setCell_far _ _ _ _ (fun e => hg e.symm), World.cell?_setCell_far _ _ _ _ (fun e => hg e.symm), World.cell?_setCell_far _ _ _ _ (fun e => hg e.symm)]
  exact ⟨(far _).trans h.1, (far _).trans h.2⟩

set_option maxHeartbeats 4000000 in
theorem waysOf_any (p s t : Int) (a : Option Addr) (n c : Nat) (L : List (List Int)) (w : World) (h : Lists w a (3 * n) L) (hs : sizeN n L ≤ 1048576) :
    Calls Try.prog 29 #[.agg #[.int .i64 p, .slice a n c], .int .i64 s, .int .i64 t] w fun e w' => WayEnd (wayOk p n L s t) p n L s t w e w' := by
  have HT := hide (netSteps_any p a n c L ((w.alloc (.cells #[.int .i64 p, .slice a n c] 26)).alloc (.cells #[.int .i64 0, .slice none 0 0, .int .u16 0, .int .u16 0] 61)) (h.below (below_two _ _ _)) hs)
  have HA := hide (below_two w (.cells #[.int .i64 p, .slice a n c] 26) (.cells #[.int .i64 0, .slice none 0 0, .int .u16 0, .int .u16 0] 61))
  have HR0 : Hid (((w.alloc (.cells #[.int .i64 p, .slice a n c] 26)).alloc (.cells #[.int .i64 0, .slice none 0 0, .int .u16 0, .int .u16 0] 61)).heap[w.heap.size + 1]? = some (.cells #[.int .i64 0, .slice none 0 0, .int .u16 0, .int .u16 0] 61 (0, 0))) := by
    have := heap_alloc_new (w.alloc (.cells #[.int .i64 p, .slice a n c] 26)) (.cells #[.int .i64 0, .slice none 0 0, .int .u16 0, .int .u16 0] 61)
    rw [show (w.alloc (.cells #[.int .i64 p, .slice a n c] 26)).heap.size = w.heap.size + 1 by simp] at this
    exact this
  clear h
  by_cases hg : netOk p n L = true
  rotate_left
  · have hg' : netOk p n L = false := by simpa using hg
    have HN := hide (show wayOk p n L s t = false by unfold wayOk; rw [hg']; rfl)
    rw [hg'] at HT
    clear hg hg'
    go_enter Try.func29, Try.ntmps29
    go_wp2_with fail
    refine HT.out.mono ?_
    rintro e w2 ⟨p', a', m, c', rfl, hx, hb⟩
    have HB2 := hide (HA.out.trans (hb.mono HA.out.size))
    have hR := keep HR0.out hb
    obtain ⟨⟨hr0, hr1, hr2, hr3⟩, hf0, hf1, hf2, hf3⟩ := cells4 hR
    have hlr : w.heap.size + 1 < w2.heap.size := (Array.getElem?_eq_some_iff.mp hR).1
    clear hb HT hx HA HR0 hR
    go_wp2_with fail
    refine bodyPost_ret (v := .tuple #[.agg #[.int .i64 0, .slice none 0 0, .int .u16 0, .int .u16 0], .bool false]) (by simp [results, Try.results29, go_sem, hr0, hr1, hr2, hr3, hlr]) rfl ?_
    exact wayEnd_no HN.out ((below_set4 HB2.out (by simp) _ _ _ _).alloc (by have := HB2.out.size; simp [World.setCell]; omega) _)
  have HG := hide hg
  have HPP := hide (netOk_parts hg)
  rw [hg] at HT
  clear hg
  go_enter Try.func29, Try.ntmps29
  go_wp2_with fail
  refine HT.out.mono ?_
  rintro e w2 ⟨p', a', m, c', rfl, hx, hb⟩
  obtain ⟨e1, e2, e3, B, rfl, hBs, hps⟩ := hx.out rfl
  subst e1 e2 e3
  have hA := below_al w2 (.cells #[.int .i64 p', .slice (some ⟨B, 0, none⟩) c' c'] 45)
  have HB2 := hide (HA.out.trans ((hb.trans (hA.mono hb.size)).mono HA.out.size))
  have HR2 := hide (keep (keep HR0.out hb) hA)
  have HPS := hide (hps.grow hA)
  have HV2 := hide (heap_alloc_new w2 (.cells #[.int .i64 p', .slice (some ⟨B, 0, none⟩) c' c'] 45))
  have HBs := hide (show w.heap.size + 1 + 1 ≤ B by simpa using hBs)
  have HW2 := hide (show w.heap.size + 1 < w2.heap.size from (Array.getElem?_eq_some_iff.mp (keep HR0.out hb)).1)
  clear hx hb hBs hps hA HT HA HR0
  go_wp2_with fail
  refine (lacksPlace_any _ _ _ _ _ _).mono ?_
  rintro e w3 ⟨rfl, hb3⟩
  have HB3 := hide (HB2.out.trans (hb3.mono HB2.out.size))
  have HR3 := hide (keep HR2.out hb3)
  have HV3 := hide (keep HV2.out hb3)
  have HPS3 := hide (HPS.out.grow hb3)
  clear hb3 HB2 HR2 HV2 HPS
  by_cases hq : inB s 0 (p' - 1) = true
  rotate_left
  · have hq' : inB s 0 (p' - 1) = false := by simpa using hq
    have HN := hide (show wayOk p' c' L s t = false by unfold wayOk; rw [hq']; simp)
    rw [hq']
    obtain ⟨⟨hr0, hr1, hr2, hr3⟩, hf0, hf1, hf2, hf3⟩ := cells4 HR3.out
    clear hq hq'
    go_wp2_with fail
    refine bodyPost_ret (v := .tuple #[.agg #[.int .i64 0, .slice none 0 0, .int .u16 0, .int .u16 0], .bool false]) (by simp [results, Try.results29, go_sem, hr0, hr1, hr2, hr3]) rfl ?_
    exact wayEnd_no HN.out (below_set4 HB3.out (by simp) _ _ _ _)
  have HQ := hide hq
  rw [hq]
  obtain ⟨hv0, hv1⟩ := cells2 HV3.out
  clear hq
  go_wp2_with fail
  refine (lacksPlace_any _ _ _ _ _ _).mono ?_
  rintro e w4 ⟨rfl, hb3⟩
  have HB4 := hide (HB3.out.trans (hb3.mono HB3.out.size))
  have HR4 := hide (keep HR3.out hb3)
  have HV4 := hide (keep HV3.out hb3)
  have HPS4 := hide (HPS3.out.grow hb3)
  clear hb3 HB3 HR3 HV3 HPS3 hv0 hv1
  by_cases hq : inB t 0 (p' - 1) = true
  rotate_left
  · have hq' : inB t 0 (p' - 1) = false := by simpa using hq
    have HN := hide (show wayOk p' c' L s t = false by unfold wayOk; rw [hq']; simp)
    rw [hq']
    obtain ⟨⟨hr0, hr1, hr2, hr3⟩, hf0, hf1, hf2, hf3⟩ := cells4 HR4.out
    clear hq hq'
    go_wp2_with fail
    refine bodyPost_ret (v := .tuple #[.agg #[.int .i64 0, .slice none 0 0, .int .u16 0, .int .u16 0], .bool false]) (by simp [results, Try.results29, go_sem, hr0, hr1, hr2, hr3]) rfl ?_
    exact wayEnd_no HN.out (below_set4 HB4.out (by simp) _ _ _ _)
  have HQ2 := hide hq
  rw [hq]
  clear hq
  have hp := HPP.out.1
  have hn24 := HPP.out.2.1
  have HWS := hide (fun W (hW : PartS W B (3 * c') (3 * c') L) => walkF_any (inL L) (outL L) p' s B c' L W hW hn24 (by have := HQ.out; simp [inB] at this; omega) (small_in HG.out) (small_out HG.out) (fun _ => rfl) (fun _ => rfl))
  have HWB := hide (fun W (hW : PartS W B (3 * c') (3 * c') L) => walkB_any (outL L) (inL L) p' t B c' L W hW hn24 (by have := HQ2.out; simp [inB] at this; omega) (small_out HG.out) (small_in HG.out) (fun _ => rfl) (fun _ => rfl))
  have HOK := hide (show wayOk p' c' L s t = true by unfold wayOk; rw [HG.out, HQ.out, HQ2.out]; rfl)
  clear hp
  go_wp2_with fail
  obtain ⟨V, hV⟩ : ∃ V, Hid (w2.heap.size = V) := ⟨_, rfl⟩
  rw [hV.out] at HV4 HW2 ⊢
  have HVF := hide (keep HV4.out (Below.refl _ w4).drew)
  have hVR : V ≠ w.heap.size + 1 := by have := HW2.out; omega
  obtain ⟨F, hF⟩ : ∃ F, Hid (rchM (inL L) (outL L) c' s = F) := ⟨_, rfl⟩
  obtain ⟨K, hK⟩ : ∃ F, Hid (rchM (outL L) (inL L) c' t = F) := ⟨_, rfl⟩
  rw [hF.out] at HWS
  rw [hK.out] at HWB
  have HPF : Hid (PartS w4.drew B (3 * c') (3 * c') L) := HPS4.out.grow (Below.refl _ w4).drew
  have HRF := hide (keep HR4.out (Below.refl _ w4).drew)
  have HBF : Hid (Below w.heap.size w w4.drew) := HB4.out.drew
  clear HV4 hV HPP HPS4 HR4 HB4
  refine wp_region_held_drew (S := fun W => W.cell? ⟨V, 0, none⟩ = some (.int .i64 p') ∧ W.cell? ⟨V, 1, none⟩ = some (.slice (some ⟨B, 0, none⟩) c' c')) (by kernel_rfl) ?_ (fun hHeld => ?_)
  · exact cells2 HVF.out
  refine take_yes (i := 0) (some 28) (.agg #[.int .i64 p', .slice (some ⟨B, 0, none⟩) c' c']) rfl rfl (by kernel_rfl) (by kernel_rfl) (by kernel_rfl) (fun _ _ _ h => h) (by rfl) ?_ (by assumption) ?_
  · intro W hSw
    obtain ⟨hz0, hz1⟩ := hSw
    go_simp
  simp only [Act.put, List.setIfInBounds_toArray, List.set_cons_zero, List.set_cons_succ]
  refine take_yes (i := 1) (some 29) (.agg #[.int .i64 p', .slice (some ⟨B, 0, none⟩) c' c']) rfl rfl (by kernel_rfl) (by kernel_rfl) (by kernel_rfl) (fun _ _ _ h => h) (by rfl) ?_ (by assumption) ?_
  · intro W hSw
    obtain ⟨hz0, hz1⟩ := hSw
    go_simp
  simp only [Act.put, List.setIfInBounds_toArray, List.set_cons_zero, List.set_cons_succ]
  refine take_yes (i := 2) (some 30) (.int .i64 s) rfl rfl (by kernel_rfl) (by kernel_rfl) (by kernel_rfl) (fun _ _ _ h => h) (by rfl) ?_ (by assumption) ?_
  · intro W hSw
    obtain ⟨hz0, hz1⟩ := hSw
    go_simp
  simp only [Act.put, List.setIfInBounds_toArray, List.set_cons_zero, List.set_cons_succ]
  refine take_yes (i := 4) (some 32) (.agg #[.int .i64 p', .slice (some ⟨B, 0, none⟩) c' c']) rfl rfl (by kernel_rfl) (by kernel_rfl) (by kernel_rfl) (fun _ _ _ h => h) (by rfl) ?_ (by assumption) ?_
  · intro W hSw
    obtain ⟨hz0, hz1⟩ := hSw
    go_simp
  simp only [Act.put, List.setIfInBounds_toArray, List.set_cons_zero, List.set_cons_succ]
  refine take_yes (i := 5) (some 33) (.int .i64 t) rfl rfl (by kernel_rfl) (by kernel_rfl) (by kernel_rfl) (fun _ _ _ h => h) (by rfl) ?_ (by assumption) ?_
  · intro W hSw
    obtain ⟨hz0, hz1⟩ := hSw
    go_simp
  simp only [Act.put, List.setIfInBounds_toArray, List.set_cons_zero, List.set_cons_succ]
  refine call_next (i := 3) (some 31) rfl rfl (by kernel_rfl) (by rfl) 55 _ _ _ rfl Try.func55 (by decide) rfl #[.agg #[.int .i64 p', .slice (some ⟨B, 0, none⟩) c' c'], .int .i64 s, .func (.func 56) #[] #[], .func (.func 57) #[] #[]] (mapw4 _ _ _ _ _ _ _ _ _ rfl rfl rfl rfl) _ (HWS.out _ HPF.out) ?_
  rintro e v1 ⟨rfl, hbl1⟩
  refine ⟨_, rfl, ?_, fun hHeld => ?_⟩
  · exact cells2 (keep HVF.out hbl1)
  simp only [Act.put, List.setIfInBounds_toArray, List.set_cons_zero, List.set_cons_succ]
  refine call_next (i := 6) (some 34) rfl rfl (by kernel_rfl) (by rfl) 55 _ _ _ rfl Try.func55 (by decide) rfl #[.agg #[.int .i64 p', .slice (some ⟨B, 0, none⟩) c' c'], .int .i64 t, .func (.func 57) #[] #[], .func (.func 56) #[] #[]] (mapw4 _ _ _ _ _ _ _ _ _ rfl rfl rfl rfl) _ (HWB.out _ (HPF.out.grow hbl1)) ?_
  rintro e v2 ⟨rfl, hbl2⟩
  refine ⟨_, rfl, ?_, fun hHeld => ?_⟩
  · exact cells2 (keep (keep HVF.out hbl1) hbl2)
  simp only [Act.put, List.setIfInBounds_toArray, List.set_cons_zero, List.set_cons_succ]
  refine take_yes (i := 7) (some 35) (.agg #[.int .i64 p', .slice (some ⟨B, 0, none⟩) c' c', .int .u16 (F : Int), .int .u16 (K : Int)]) rfl rfl (by kernel_rfl) (by kernel_rfl) (by kernel_rfl) (fun _ _ _ h => h) (by rfl) ?_ (by assumption) ?_
  · intro W hSw
    obtain ⟨hz0, hz1⟩ := hSw
    go_simp
  simp only [Act.put, List.setIfInBounds_toArray, List.set_cons_zero, List.set_cons_succ]
  refine store_next (i := 8) rfl rfl (by kernel_rfl) (by rfl) 61 _ _ rfl (w.heap.size + 1) #[.int .i64 p', .slice (some ⟨B, 0, none⟩) c' c', .int .u16 (F : Int), .int .u16 (K : Int)] rfl rfl 61 _ (keep (keep HRF.out hbl1) hbl2) Try.size61 rfl (by simp [Value.oneCell']) ?_ (fun hHeld => ?_)
  · exact cells2 ((setRow_otherW _ hVR _).trans (keep (keep HVF.out hbl1) hbl2))
  refine take_yes (i := 9) (some 7) (.bool true) rfl rfl (by kernel_rfl) (by kernel_rfl) (by kernel_rfl) (fun _ _ _ h => h) (by rfl) ?_ (by assumption) ?_
  · intro W hSw
    obtain ⟨hz0, hz1⟩ := hSw
    go_simp
  simp only [Act.put, List.setIfInBounds_toArray, List.set_cons_zero, List.set_cons_succ]
  refine wpAnyH_done (by kernel_rfl) ?_ _
  obtain ⟨⟨hr0, hr1, hr2, hr3⟩, _⟩ := cells4 (setRow_sameW (keep (keep HRF.out hbl1) hbl2) #[.int .i64 p', .slice (some ⟨B, 0, none⟩) c' c', .int .u16 (F : Int), .int .u16 (K : Int)])
  have HPX := hide (((HPF.out.grow hbl1).grow hbl2).setRowW (g := w.heap.size + 1) (by have := HBs.out; omega) #[.int .i64 p', .slice (some ⟨B, 0, none⟩) c' c', .int .u16 (F : Int), .int .u16 (K : Int)])
  have HBX := hide (below_setRow (HBF.out.trans ((hbl1.trans (hbl2.mono hbl1.size)).mono HBF.out.size)) (w.heap.size + 1) (by omega) #[.int .i64 p', .slice (some ⟨B, 0, none⟩) c' c', .int .u16 (F : Int), .int .u16 (K : Int)])
  clear hbl1 hbl2 HPF HBF hHeld HRF HVF
  go_wp2_with fail
  refine bodyPost_ret (v := .tuple #[.agg #[.int .i64 p', .slice (some ⟨B, 0, none⟩) c' c', .int .u16 (F : Int), .int .u16 (K : Int)], .bool true]) (by simp [results, Try.results29, go_sem, hr0, hr1, hr2, hr3]) rfl ?_
  exact ⟨_, _, _, _, F, K, by rw [HOK.out], fun _ => ⟨rfl, rfl, rfl, hF.out.symm, hK.out.symm, B, rfl, by have := HBs.out; omega, HPX.out⟩, HBX.out⟩
end Go.Proofs.Ytbhhpfiolombcaa
