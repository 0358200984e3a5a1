/- Contracts that the proof stands on, one behind the other. -/
import Derived.Test.YtdhnhpjcoeglmaaP21
import Derived.OwnWalk
import Derived.WalkMore
import Derived.ScopeJumps
/- Nets whose lists append has made: each list in a block of its own in which there may be more room, or empty; what markTransS and markNet write into one, and what heldTransS and heldNet answer. -/
namespace Go.Proofs.Ytdhnhpjcoeglmaa
open Go.RowKit

/-- Lists by their number, each that is not empty in a block of its own between lo and hi. -/
def PartG (w : World) (B lo hi n : Nat) (T : TypeId) (M : Nat → List Int) : Prop :=
  ∃ (C : Array Value) (A : Nat → Option Addr) (f cap : Nat → Nat), w.heap[B]? = some (.cells C T (0, 0)) ∧ n ≤ C.size ∧
    (∀ j, j < n → C[j]? = some (.slice (A j) (M j).length (cap j)) ∧ Ob w (A j) (f j) (M j).length (M j) ∧ (M j ≠ [] → lo ≤ f j ∧ f j < hi ∧ f j ≠ B)) ∧
    (∀ i j, i < j → j < n → M i ≠ [] → M j ≠ [] → f i ≠ f j)

theorem PartG.grow {w w' : World} {B lo hi n : Nat} {T : TypeId} {M : Nat → List Int} (h : PartG w B lo hi n T M) (hb : Below w.heap.size w w') : PartG w' B lo hi n T M := by
  obtain ⟨C, A, f, cap, h1, h2, h3, h4⟩ := h
  refine ⟨C, A, f, cap, (hb.block B (Array.getElem?_eq_some_iff.mp h1).1).trans h1, h2, fun j hj => ?_, h4⟩
  obtain ⟨e1, e2, e3⟩ := h3 j hj
  exact ⟨e1, e2.grow hb, e3⟩

theorem PartG.keeps {w w' : World} {B lo hi n lo' hi' : Nat} {T : TypeId} {M : Nat → List Int} (h : PartG w B lo hi n T M) (hk : Keeps lo' hi' w w') (h1 : hi' ≤ lo) (h2 : hi' ≤ B) : PartG w' B lo hi n T M := by
  obtain ⟨C, A, f, cap, q1, q2, q3, q4⟩ := h
  refine ⟨C, A, f, cap, (hk.top B h2 (Array.getElem?_eq_some_iff.mp q1).1).trans q1, q2, fun j hj => ?_, q4⟩
  obtain ⟨e1, e2, e3⟩ := q3 j hj
  refine ⟨e1, ?_, e3⟩
  by_cases he : M j = []
  · rw [he]; exact ⟨rfl, .inl rfl⟩
  · exact e2.keeps hk (by have := (e3 he).1; omega)

theorem markedF_at (k0 : Nat) (M : Nat → List Int) (q : Nat) : markedF k0 M q q = M q := by unfold markedF; rw [if_neg (by omega)]

/-- A net's slice: nil where there is no transition, or a block that leads to the lists. -/
def NetG (w : World) (a : Option Addr) (B lo hi n : Nat) (M : Nat → List Int) : Prop := n = 0 ∨ (a = some ⟨B, 0, none⟩ ∧ PartG w B lo hi (3 * n) 78 M)

theorem NetG.lists {w : World} {a : Option Addr} {B lo hi n : Nat} {L : List (List Int)} (h : NetG w a B lo hi n (fun j => L.getD j [])) (hl : L.length = 3 * n) (hs : sizeN n L ≤ 1048576) : Lists w a (3 * n) L := by
  rcases h with h0 | ⟨rfl, C, A, f, cap, h1, h2, h3, h4⟩
  · exact ⟨hl, .inl (by omega)⟩
  · refine ⟨hl, .inr ⟨B, 0, rfl, (Array.getElem?_eq_some_iff.mp h1).1, fun j hj => ?_⟩⟩
    obtain ⟨e1, e2, e3⟩ := h3 j hj
    refine ⟨_, _, _, by rw [cell_of_row w B (0 + j) C _ _ h1, Nat.zero_add]; exact e1, ?_, e2.row⟩
    have := len_le L j
    show (L.getD j []).length ≤ maxLen
    unfold sizeN at hs; unfold maxLen; omega

/-- Lists by their number, to be read. -/
def ListsF (w : World) (a : Option Addr) (n : Nat) (M : Nat → List Int) : Prop :=
  n = 0 ∨ ∃ b off, a = some ⟨b, off, none⟩ ∧ ∀ j, j < n → ∃ a' c', w.cell? ⟨b, off + j, none⟩ = some (.slice a' (M j).length c') ∧ Row w a' (M j).length (M j)

theorem NetG.listsF {w : World} {a : Option Addr} {B lo hi n : Nat} {M : Nat → List Int} (h : NetG w a B lo hi n M) : ListsF w a (3 * n) M := by
  rcases h with h0 | ⟨rfl, C, A, f, cap, h1, h2, h3, h4⟩
  · exact .inl (by omega)
  · refine .inr ⟨B, 0, rfl, fun j hj => ?_⟩
    obtain ⟨e1, e2, e3⟩ := h3 j hj
    exact ⟨_, _, by rw [cell_of_row w B (0 + j) C _ _ h1, Nat.zero_add]; exact e1, e2.row⟩

end Go.Proofs.Ytdhnhpjcoeglmaa


/- The list of a set of places: list of the program. -/
namespace Go.Proofs.Ytdhnhpjcoeglmaa
open Go.RowKit

/-- The numbers below k that are as asked. -/
def nums2 (f : Nat → Bool) (k : Nat) : List Int := ((List.range k).filter f).map fun (i : Nat) => (i : Int)

theorem nums2_yes {f : Nat → Bool} {k : Nat} (h : f k = true) : nums2 f (k + 1) = nums2 f k ++ [(k : Int)] := by simp [nums2, List.range_succ, List.filter_append, h]
theorem nums2_no {f : Nat → Bool} {k : Nat} (h : f k = false) : nums2 f (k + 1) = nums2 f k := by simp [nums2, List.range_succ, List.filter_append, h]

theorem own_below2 {B : Nat} {w w' : World} {v : Value} {n : Nat} {l : List Value} (hown : w.ownsRow B 3 1 v n l) (hg : w.grownBy w' v.ownBlock) {a : World} {C : Nat} (h : Below C a w) (hC : C ≤ w.heap.size) (hB : C ≤ B) : Below C a w' := by
  refine h.grown hg hC fun k hk => ?_
  rcases hown.2 with ⟨rfl, _⟩ | ⟨g, cap, cur, rfl, hb, _⟩
  · simp [Value.ownBlock] at hk
  · simp [Value.ownBlock] at hk; omega

theorem one_cell2 (w : World) (v : Value) : ∀ j u, ([v] : List Value)[j]? = some u → (w.alloc (.cells #[v] 3)).cell? ((⟨w.heap.size, 0, none⟩ : Addr).add j) = some u := by
  intro j u hu
  match j, hu with
  | 0, hu =>
    simp at hu; subst hu
    rw [Addr.add_mid]
    exact cell_of_row _ w.heap.size 0 #[v] _ _ (heap_alloc_new _ _)
  | (q + 1), hu => simp at hu

theorem own_ob2 {B : Nat} {w : World} {v : Value} {n : Nat} {l : List Int} (hown : w.ownsRow B 3 1 v n (l.map (Value.int .i64))) : ∃ a b c, v = .slice a n c ∧ B ≤ b ∧ Ob w a b n l := by
  have hl : l.length = n := by have := hown.1; simpa using this
  rcases hown.2 with ⟨rfl, rfl⟩ | ⟨g, cap, cur, rfl, hb, hh, hnc, _, hsz, ht⟩
  · exact ⟨none, B, 0, rfl, Nat.le_refl _, hl, .inl rfl⟩
  · refine ⟨_, g, cap, rfl, hb, hl, .inr ⟨rfl, cur, hh, by omega, fun i hi => ?_⟩⟩
    have e : (cur.toList.take (n * 1))[i]? = (l.map (Value.int .i64))[i]? := by rw [ht]
    rw [List.getElem?_take_of_lt (by omega), Array.getElem?_toList] at e
    rw [e]
    simp [List.getElem?_eq_getElem (show i < l.length by omega)]

theorem info_split2 {P : Program} {e : TypeId} {z : Value} {size bytes : Nat} (h : (P.info? e).map (fun i => (i.zero, i.size, i.bytes)) = some (some z, size, bytes)) : ∃ i, P.info? e = some i ∧ i.zero = some z ∧ i.size = size ∧ i.bytes = bytes := by
  obtain ⟨i, hi, hzz⟩ := Option.map_eq_some_iff.1 h
  simp only [Prod.mk.injEq] at hzz
  exact ⟨i, hi, hzz.1, hzz.2.1, hzz.2.2⟩

theorem bit_of2 (s k : Nat) (hs : s < 2 ^ 16) : (bits .and .u16 ((s : Int) / 2 ^ k) 1 == 1) = s.testBit k := by
  have h1 : ((s : Int) / 2 ^ k) = ((s / 2 ^ k : Nat) : Int) := by simp
  have h2 : s / 2 ^ k < 2 ^ 16 := Nat.lt_of_le_of_lt (Nat.div_le_self _ _) hs
  have h3 := and_u16 (s / 2 ^ k) 1 h2 (by decide)
  rw [h1]
  rw [show ((1 : Nat) : Int) = (1 : Int) from rfl] at h3
  rw [h3, Nat.and_one_is_mod, Nat.testBit_eq_decide_div_mod_eq]
  by_cases h : s / 2 ^ k % 2 = 1
  · rw [h]; rfl
  · have h4 : s / 2 ^ k % 2 = 0 := by omega
    rw [h4]; rfl

set_option maxHeartbeats 400000 in
theorem has2_any (s k : Nat) (w : World) (hs : s < 2 ^ 16) (hk : k < 16) :
    Calls Try.prog 132 #[.int .u16 (s : Int), .int .i64 (k : Int)] w fun e w' => e = .returned (.bool (s.testBit k)) ∧ w' = w := by
  have hk0 : (0 : Int) ≤ (k : Int) := by omega
  have HB := hide (bit_of2 s k hs)
  go_enter Try.func132, Try.ntmps132
  go_wp2_with fail
  go_ret
  exact ⟨ret_bool HB.out, rfl⟩

/-- The places of a rising list are its bits. -/
theorem nums2_mask {p : Int} {xs : List Int} (hp : p ≤ 16) (h : riseB xs 0 (p - 1) = true) : nums2 (maskL xs).testBit 16 = xs := by
  have hm := fun z hz => riseB_mem h z hz
  have key : ∀ z, z ∈ nums2 (maskL xs).testBit 16 ↔ z ∈ xs := by
    intro z
    unfold nums2
    simp only [List.mem_map, List.mem_filter, List.mem_range]
    constructor
    · rintro ⟨i, ⟨_, hb⟩, rfl⟩
      rw [maskL_bit _ _ (fun z hz => (hm z hz).1)] at hb
      simpa using hb
    · intro hz
      have := hm z hz
      refine ⟨z.toNat, ⟨by omega, ?_⟩, by omega⟩
      rw [maskL_bit _ _ (fun z hz => (hm z hz).1), Int.toNat_of_nonneg this.1]
      simpa using hz
  have hrise : ∀ (f : Nat → Bool) (n : Nat), riseB (nums2 f n) 0 ((n : Int) - 1) = true := by
    intro f n
    induction n with
    | zero => rfl
    | succ n ih =>
      have hup : ∀ (ys : List Int) (lo hi hi' : Int), hi ≤ hi' → riseB ys lo hi = true → riseB ys lo hi' = true := by
        intro ys
        induction ys with
        | nil => intros; rfl
        | cons y r ihr =>
          intro lo hi hi' hh hr
          simp only [riseB, Bool.and_eq_true, decide_eq_true_eq] at hr ⊢
          exact ⟨⟨hr.1.1, by omega⟩, ihr _ _ _ hh hr.2⟩
      by_cases hf : f n = true
      · rw [nums2_yes hf, riseB_append, hup _ _ _ _ (by omega) ih]
        simp only [Bool.true_and, riseB, Bool.and_true, Bool.and_eq_true, decide_eq_true_eq]
        refine ⟨?_, by omega⟩
        cases hg : (nums2 f n).getLast? with
        | none => simp
        | some z =>
          have hz := List.mem_of_getLast? hg
          have := riseB_mem ih z hz
          simp; omega
      · have hf' : f n = false := by simpa using hf
        rw [nums2_no hf']
        exact hup _ _ _ _ (by omega) ih
  have hext : ∀ (ys zs : List Int) (lo hi : Int), riseB ys lo hi = true → riseB zs lo hi = true → (∀ z, z ∈ ys ↔ z ∈ zs) → ys = zs := by
    intro ys
    induction ys with
    | nil =>
      intro zs lo hi _ _ hh
      cases zs with
      | nil => rfl
      | cons y r => have := (hh y).mpr (by simp); simp at this
    | cons x r ih =>
      intro zs lo hi hx hy hh
      cases zs with
      | nil => have := (hh x).mp (by simp); simp at this
      | cons y s =>
        simp [riseB] at hx hy
        have hxm := riseB_mem hx.2
        have hym := riseB_mem hy.2
        have e : x = y := by
          have h1 := (hh x).mp (by simp)
          have h2 := (hh y).mpr (by simp)
          rcases List.mem_cons.mp h1 with e | h1
          · exact e
          · rcases List.mem_cons.mp h2 with e | h2
            · exact e.symm
            · have := hym x h1; have := hxm y h2; omega
        subst e
        congr 1
        refine ih s _ _ hx.2 hy.2 fun z => ?_
        have hz := hh z
        simp only [List.mem_cons] at hz
        constructor
        · intro hm
          rcases hz.mp (.inr hm) with e | hm'
          · have := hxm z hm; omega
          · exact hm'
        · intro hm
          rcases hz.mpr (.inr hm) with e | hm'
          · have := hym z hm; omega
          · exact hm'
  have hup2 : riseB xs 0 15 = true := by
    have : ∀ (ys : List Int) (lo hi hi' : Int), hi ≤ hi' → riseB ys lo hi = true → riseB ys lo hi' = true := by
      intro ys
      induction ys with
      | nil => intros; rfl
      | cons y r ihr =>
        intro lo hi hi' hh hr
        simp only [riseB, Bool.and_eq_true, decide_eq_true_eq] at hr ⊢
        exact ⟨⟨hr.1.1, by omega⟩, ihr _ _ _ hh hr.2⟩
    exact this xs 0 (p - 1) 15 (by omega) h
  exact hext _ _ 0 15 (hrise _ 16) hup2 key

set_option maxHeartbeats 1000000 in
theorem setList_any (s : Nat) (w : World) (hs : s < 2 ^ 16) :
    Calls Try.prog 63 #[.int .u16 (s : Int)] w fun e w' => ∃ a b m c, e = .returned (.slice a m c) ∧ w.heap.size ≤ b ∧ Ob w' a b m (nums2 s.testBit 16) ∧ Below w.heap.size w w' := by
  obtain ⟨i0, hi, hz0, hz1, hz2⟩ := info_split2 Try.info3
  go_enter Try.func63, Try.ntmps63
  go_wp2_with fail
  go_loopw [3, 5] (fun o i wr => ∃ k m : Nat, k ≤ 16 ∧ i = .int .i64 k ∧ Hid (m ≤ k) ∧ Hid (wr.ownsRow w.heap.size 3 1 o m ((nums2 s.testBit k).map (Value.int .i64))) ∧ Hid (Below w.heap.size w wr)) (fun _ i _ => 16 - (intOf i).toNat)
  case atStart => exact ⟨0, 0, Nat.zero_le _, rfl, Nat.le_refl _, World.ownsRow_nil _ _ _ _, Below.refl _ _⟩
  case round =>
    obtain ⟨k, m, hk, rfl, hmk, hown, hbw⟩ := hrel
    by_cases hlt : k < 16
    rotate_left
    · have hk' : k = 16 := by omega
      subst hk'
      obtain ⟨av, bv, cv, hv, hbv, hob⟩ := own_ob2 hown.out
      subst hv
      have HE := hide (And.intro hbv (And.intro hob hbw.out))
      clear hown hob hbv
      go_wp2_with fail
      go_ret
      exact ⟨av, bv, m, cv, rfl, HE.out⟩
    have hi1 : ((k : Int)) < 16 := by omega
    cases hh : s.testBit k
    · have HN := hide (nums2_no hh)
      go_wp2_with (go_at_call 132; refine (has2_any s k _ hs hlt).mono ?_; rintro e w' ⟨rfl, rfl⟩)
      go_roundw
      case rel => exact ⟨k + 1, m, by omega, by go_num, Nat.le_succ_of_le hmk.out, by rw [HN.out]; exact hown, hbw⟩
      case measure => simp [intOf]; omega
    have HN := hide (nums2_yes hh)
    have hA2 := below_al wr (.cells #[.int .i64 (k : Int)] 3)
    have HO2 := hide (hown.out.alloc (.cells #[.int .i64 (k : Int)] 3))
    have HB2 := hide (hbw.out.trans (hA2.mono hbw.out.size))
    have HCE : Hid (∀ j u, ([.int .i64 (k : Int)] : List Value)[j]? = some u → (wr.alloc (.cells #[.int .i64 (k : Int)] 3)).cell? ((⟨wr.heap.size, 0, none⟩ : Addr).add j) = some u) := one_cell2 wr _
    have H1c : Hid (∀ u ∈ ([.int .i64 (k : Int)] : List Value), u.oneCell' = true) := fun u hu => by simp at hu; subst hu; rfl
    have HX := hide (show m + 1 ≤ maxLen by have := hmk.out; unfold maxLen; omega)
    have HY := hide (show (m + 1) * 8 ≤ 140737488355328 by have := hmk.out; omega)
    have HZ := hide HB2.out.size
    clear hA2 hown hbw
    go_wp2_with (first
      | (go_at_call 132; refine (has2_any s k _ hs hlt).mono ?_; rintro e w' ⟨rfl, rfl⟩)
      | (refine wpList_append_own _ rfl (.tmp 11) (.tmp 13) 31 rfl w.heap.size 3 i0 (.int .i64 0) 1 8 Try.underlying31 hi hz0 hz1 hz2 rfl (by decide) u3 m _ rfl HO2.out ⟨_, 0, none⟩ 1 1 [.int .i64 (k : Int)] rfl rfl HCE.out H1c.out HX.out HY.out HZ.out ?_; intro v' W' r1 r2 r3))
    have HR1 : Hid (W'.ownsRow w.heap.size 3 1 v' (m + 1) ((nums2 s.testBit (k + 1)).map (Value.int .i64))) := by
      show World.ownsRow _ _ _ _ _ _ _
      rw [HN.out, List.map_append]; exact r1
    have HB3 := hide (own_below2 HO2.out r2 HB2.out HB2.out.size (Nat.le_refl _))
    clear r1 r2 r3
    go_wp2_with fail
    go_roundw
    case rel => exact ⟨k + 1, m + 1, by omega, by go_num, Nat.succ_le_succ hmk.out, HR1, HB3⟩
    case measure => simp [intOf]; omega
end Go.Proofs.Ytdhnhpjcoeglmaa


/- Ways: what can be come to, as a set that is found step by step. -/
namespace Go.Proofs.Ytdhnhpjcoeglmaa
open Go.RowKit

/-- What can be come to from s, where each of n steps leads from any one of A to all of B. -/
inductive Rch (A B : Nat → List Int) (n : Nat) (s : Int) : Int → Prop
  | base : Rch A B n s s
  | step {p q : Int} {k : Nat} : Rch A B n s p → k < n → p ∈ A k → q ∈ B k → Rch A B n s q

open Classical in
noncomputable def rchB (A B : Nat → List Int) (n : Nat) (s : Int) (i : Nat) : Bool := decide (Rch A B n s (i : Int))

theorem rchB_iff {A B : Nat → List Int} {n : Nat} {s : Int} {i : Nat} : rchB A B n s i = true ↔ Rch A B n s (i : Int) := by
  unfold rchB; simp

/-- All lists lie within 0..15. -/
def Small (A : Nat → List Int) (n : Nat) : Prop := ∀ k, k < n → ∀ x ∈ A k, 0 ≤ x ∧ x < 16

theorem Rch.small {A B : Nat → List Int} {n : Nat} {s p : Int} (hB : Small B n) (hs : 0 ≤ s ∧ s < 16) (h : Rch A B n s p) : 0 ≤ p ∧ p < 16 := by
  induction h with
  | base => exact hs
  | step _ hk _ hq _ => exact hB _ hk _ hq

/-- A set that holds s, nothing but what can be come to, and all that a step leads to, is what can be come to. -/
theorem rch_all {A B : Nat → List Int} {n : Nat} {s : Int} {S : Nat → Bool}
    (h0 : S s.toNat = true) (h1 : ∀ i, S i = true → Rch A B n s (i : Int))
    (h2 : ∀ k, k < n → ∀ p ∈ A k, S p.toNat = true → ∀ q ∈ B k, S q.toNat = true) (i : Nat) : S i = rchB A B n s i := by
  have key : ∀ p, Rch A B n s p → S p.toNat = true := by
    intro p hp
    induction hp with
    | base => exact h0
    | step hp hk hpa hq ih => exact h2 _ hk _ hpa ih _ hq
  rw [Bool.eq_iff_iff, rchB_iff]
  constructor
  · exact h1 i
  · intro h; have := key _ h; simpa using this

theorem and_ne_iff {xs : List Int} {m : Nat} (h : ∀ x ∈ xs, 0 ≤ x) : maskL xs &&& m ≠ 0 ↔ ∃ x ∈ xs, m.testBit x.toNat = true := by
  constructor
  · intro hne
    apply Classical.byContradiction
    intro hno
    apply hne
    apply Nat.eq_of_testBit_eq
    intro i
    rw [Nat.testBit_and, maskL_bit xs i h, Nat.zero_testBit]
    by_cases hi : ((i : Int)) ∈ xs
    · have : ¬ m.testBit i = true := fun hb => hno ⟨i, hi, by simpa using hb⟩
      simp [this]
    · simp [hi]
  · rintro ⟨x, hx, hb⟩ he
    have h1 := maskL_bit xs x.toNat h
    have hx0 := h x hx
    have : (maskL xs &&& m).testBit x.toNat = true := by
      rw [Nat.testBit_and, h1, hb]; simp; rw [show max x 0 = x by omega]; exact hx
    rw [he] at this; simp at this

theorem sub_iff {xs : List Int} {m : Nat} (h : ∀ x ∈ xs, 0 ≤ x) : maskL xs &&& m = maskL xs ↔ ∀ x ∈ xs, m.testBit x.toNat = true := by
  constructor
  · intro he x hx
    have hx0 := h x hx
    have h1 := maskL_bit xs x.toNat h
    have h2 : (maskL xs).testBit x.toNat = true := by rw [h1]; simp; rw [show max x 0 = x by omega]; exact hx
    rw [← he, Nat.testBit_and] at h2
    simp at h2; exact h2.2
  · intro hall
    apply Nat.eq_of_testBit_eq
    intro i
    rw [Nat.testBit_and, maskL_bit xs i h]
    by_cases hi : ((i : Int)) ∈ xs
    · have := hall _ hi; simp at this; simp [hi, this]
    · simp [hi]

/-- What the program keeps in mind of the set that it has so far. -/
structure Come (A B : Nat → List Int) (n : Nat) (s : Int) (m : Nat) : Prop where
  lt : m < 2 ^ 16
  has : m.testBit s.toNat = true
  only : ∀ i, m.testBit i = true → Rch A B n s (i : Int)

theorem Come.start {A B : Nat → List Int} {n : Nat} {s : Int} (hs : 0 ≤ s ∧ s < 16) : Come A B n s (2 ^ s.toNat) := by
  refine ⟨Nat.pow_lt_pow_right (by decide) (by omega), by simp, fun i hi => ?_⟩
  rw [Nat.testBit_two_pow] at hi
  simp at hi
  have : (i : Int) = s := by omega
  rw [this]; exact .base

theorem Come.more {A B : Nat → List Int} {n : Nat} {s : Int} {m k : Nat} (hA : Small A n) (hB : Small B n) (h : Come A B n s m) (hk : k < n) (hn : maskL (A k) &&& m ≠ 0) : Come A B n s (m ||| maskL (B k)) := by
  obtain ⟨p, hp, hb⟩ := (and_ne_iff fun x hx => (hA k hk x hx).1).mp hn
  have hp0 := hA k hk p hp
  refine ⟨Nat.or_lt_two_pow h.lt (maskL_lt _ fun x hx => (hB k hk x hx).2), by rw [Nat.testBit_or, h.has]; rfl, fun i hi => ?_⟩
  rw [Nat.testBit_or, maskL_bit _ _ fun x hx => (hB k hk x hx).1] at hi
  simp at hi
  rcases hi with hi | hi
  · exact h.only i hi
  · refine .step (p := p) ?_ hk hp hi
    have := h.only _ hb
    rwa [show ((p.toNat : Nat) : Int) = p by omega] at this

theorem come_less {m b : Nat} (hm : m ||| b < 2 ^ 16) (h : ¬ b &&& m = b) : 65536 - (m ||| b) < 65536 - m := by
  have h1 : m ≤ m ||| b := Nat.left_le_or
  have h2 : m ||| b ≠ m := by
    intro e
    apply h
    apply Nat.eq_of_testBit_eq
    intro i
    have : (m ||| b).testBit i = m.testBit i := by rw [e]
    rw [Nat.testBit_or] at this
    rw [Nat.testBit_and]
    cases hb : b.testBit i <;> cases hq : m.testBit i <;> simp_all
  omega

/-- The step leads to nothing new. -/
def Quiet (A B : Nat → List Int) (k m : Nat) : Prop := maskL (A k) &&& m = 0 ∨ maskL (B k) &&& m = maskL (B k)

theorem Come.done {A B : Nat → List Int} {n : Nat} {s : Int} {m : Nat} (hA : Small A n) (hB : Small B n) (h : Come A B n s m) (hq : ∀ k, k < n → Quiet A B k m) : ∀ i, m.testBit i = rchB A B n s i := by
  refine rch_all h.has h.only fun k hk p hp hb q hq' => ?_
  rcases hq k hk with h0 | h0
  · exact absurd h0 ((and_ne_iff fun x hx => (hA k hk x hx).1).mpr ⟨p, hp, hb⟩)
  · exact (sub_iff fun x hx => (hB k hk x hx).1).mp h0 q hq'

theorem andNotW_nat (a b : Nat) : bits .andNot .u16 (a : Int) (b : Int) = (((BitVec.ofNat 16 a) &&& ~~~(BitVec.ofNat 16 b)).toNat : Int) := by
  simp only [bits, BitVec.ofInt_natCast]
  refine wraps_u16 _ (Int.natCast_nonneg _) ?_
  have := ((BitVec.ofNat 16 a) &&& ~~~(BitVec.ofNat 16 b)).isLt
  exact_mod_cast this

theorem andNotW_zero {a b : Nat} (h : a &&& b = a) : bits .andNot .u16 (a : Int) (b : Int) = 0 := by
  rw [andNotW_nat a b]
  have : (BitVec.ofNat 16 a) &&& ~~~(BitVec.ofNat 16 b) = 0#16 := by
    apply BitVec.eq_of_getLsbD_eq
    intro i hi
    have hbit : (a &&& b).testBit i = a.testBit i := by rw [h]
    rw [Nat.testBit_and] at hbit
    rw [BitVec.getLsbD_and, BitVec.getLsbD_not, BitVec.getLsbD_ofNat, BitVec.getLsbD_ofNat]
    cases h1 : a.testBit i
    · simp
    · rw [h1] at hbit
      have : b.testBit i = true := by simpa using hbit
      simp [this, hi]
  rw [this]; rfl

theorem andNotW_ne {a b : Nat} (ha : a < 2 ^ 16) (h : ¬ a &&& b = a) : ¬ bits .andNot .u16 (a : Int) (b : Int) = 0 := by
  rw [andNotW_nat a b]
  intro e
  apply h
  have e' : (BitVec.ofNat 16 a) &&& ~~~(BitVec.ofNat 16 b) = 0#16 := by
    apply BitVec.eq_of_toNat_eq
    simpa using (by exact_mod_cast e : ((BitVec.ofNat 16 a) &&& ~~~(BitVec.ofNat 16 b)).toNat = 0)
  apply Nat.eq_of_testBit_eq
  intro i
  rw [Nat.testBit_and]
  by_cases hi : i < 16
  · have := congrArg (fun x => BitVec.getLsbD x i) e'
    rw [BitVec.getLsbD_and, BitVec.getLsbD_not, BitVec.getLsbD_ofNat, BitVec.getLsbD_ofNat] at this
    cases h1 : a.testBit i
    · rfl
    · rw [h1] at this
      cases h2 : b.testBit i
      · rw [h2] at this; simp [hi] at this
      · rfl
  · rw [Nat.testBit_lt_two_pow (Nat.lt_of_lt_of_le ha (Nat.pow_le_pow_right (by decide) (by omega)))]; rfl


theorem meetW_yes {a m : Nat} (ha : a < 2 ^ 16) (hm : m < 2 ^ 16) (h : a &&& m ≠ 0) : (bits .and .u16 (a : Int) (m : Int) != 0) = true := by
  rw [and_u16 a m ha hm]; simpa using h
theorem meetW_no {a m : Nat} (ha : a < 2 ^ 16) (hm : m < 2 ^ 16) (h : a &&& m = 0) : (bits .and .u16 (a : Int) (m : Int) != 0) = false := by
  rw [and_u16 a m ha hm, h]; rfl
theorem lessW_yes {a m : Nat} (ha : a < 2 ^ 16) (h : ¬ a &&& m = a) : (bits .andNot .u16 (a : Int) (m : Int) != 0) = true := by
  simpa using andNotW_ne ha h
theorem lessW_no {a m : Nat} (h : a &&& m = a) : (bits .andNot .u16 (a : Int) (m : Int) != 0) = false := by
  rw [andNotW_zero h]; rfl

/-- What can be come to, as bits. -/
noncomputable def rchM (A B : Nat → List Int) (n : Nat) (s : Int) : Nat := maskL (nums2 (rchB A B n s) 16)

theorem nums2_mem {f : Nat → Bool} {k : Nat} {x : Int} (h : x ∈ nums2 f k) : 0 ≤ x ∧ x < (k : Int) ∧ f x.toNat = true := by
  unfold nums2 at h
  rw [List.mem_map] at h
  obtain ⟨i, hi, rfl⟩ := h
  rw [List.mem_filter, List.mem_range] at hi
  exact ⟨by omega, by omega, by simpa using hi.2⟩

theorem nums2_in {f : Nat → Bool} {k i : Nat} : ((i : Int)) ∈ nums2 f k ↔ i < k ∧ f i = true := by
  constructor
  · intro h; have := nums2_mem h; simp at this; exact ⟨by omega, this.2⟩
  · intro h; unfold nums2; rw [List.mem_map]; exact ⟨i, by simp [h.1, h.2], rfl⟩

theorem rchM_lt (A B : Nat → List Int) (n : Nat) (s : Int) : rchM A B n s < 2 ^ 16 := maskL_lt _ fun _ hx => (nums2_mem hx).2.1

theorem rchM_bit {A B : Nat → List Int} {n : Nat} {s : Int} (hB : Small B n) (hs : 0 ≤ s ∧ s < 16) (i : Nat) : (rchM A B n s).testBit i = rchB A B n s i := by
  unfold rchM
  rw [maskL_bit _ _ fun x hx => (nums2_mem hx).1]
  rw [Bool.eq_iff_iff, decide_eq_true_iff, nums2_in]
  constructor
  · exact fun h => h.2
  · intro h
    have := (rchB_iff.mp h).small hB hs
    exact ⟨by omega, h⟩

theorem rchM_eq {A B : Nat → List Int} {n : Nat} {s : Int} {m : Nat} (hB : Small B n) (hs : 0 ≤ s ∧ s < 16) (h : ∀ i, m.testBit i = rchB A B n s i) : m = rchM A B n s :=
  Nat.eq_of_testBit_eq fun i => by rw [h, rchM_bit hB hs]
end Go.Proofs.Ytdhnhpjcoeglmaa


/- What can be come to, as the specification marks it: l3Forward and l3Back. -/
namespace Go.Proofs.Ytdhnhpjcoeglmaa
open Go.RowKit
set_option maxRecDepth 10000

/-- A block of n truths. -/
def BoolRow (w : World) (b n : Nat) (f : Nat → Bool) : Prop :=
  ∃ C : Array Value, w.heap[b]? = some (.cells C 4 (0, 0)) ∧ C.size = n ∧ ∀ i, i < n → C[i]? = some (.bool (f i))

theorem BoolRow.grow {w w' : World} {b n : Nat} {f : Nat → Bool} (h : BoolRow w b n f) (hb : Below w.heap.size w w') : BoolRow w' b n f := by
  obtain ⟨C, h1, h2, h3⟩ := h
  exact ⟨C, (hb.block b (Array.getElem?_eq_some_iff.mp h1).1).trans h1, h2, h3⟩

theorem BoolRow.cell {w : World} {b n i : Nat} {f : Nat → Bool} (h : BoolRow w b n f) (hi : i < n) : w.cell? ⟨b, i, none⟩ = some (.bool (f i)) ∧ w.frozen? ⟨b, i, none⟩ = false := by
  obtain ⟨C, h1, h2, h3⟩ := h
  exact ⟨(cell_of_row w b i C _ _ h1).trans (h3 i hi), frozen_of_row w b i C _ h1⟩

theorem BoolRow.lt {w : World} {b n : Nat} {f : Nat → Bool} (h : BoolRow w b n f) : b < w.heap.size := by
  obtain ⟨C, h1, _⟩ := h
  exact (Array.getElem?_eq_some_iff.mp h1).1

theorem BoolRow.other {w : World} {b n g o : Nat} {f : Nat → Bool} (h : BoolRow w b n f) (hg : b ≠ g) (v : Value) : BoolRow (w.setCell ⟨g, o, none⟩ v) b n f := by
  obtain ⟨C, h1, h2, h3⟩ := h
  exact ⟨C, (Below.heap_setCell _ _ _ _ hg).trans h1, h2, h3⟩

/-- The place i is marked. -/
def markB (f : Nat → Bool) (i j : Nat) : Bool := f j || decide (j = i)

theorem BoolRow.set {w : World} {b n i : Nat} {f : Nat → Bool} (h : BoolRow w b n f) (hi : i < n) : BoolRow (w.setCell ⟨b, i, none⟩ (.bool true)) b n (markB f i) := by
  obtain ⟨C, h1, h2, h3⟩ := h
  refine ⟨C.setIfInBounds i (.bool true), ?_, by simp [h2], fun j hj => ?_⟩
  · exact heap_setCell_same _ _ _ _ _ _ h1
  · rw [Array.getElem?_setIfInBounds]
    unfold markB
    by_cases e : i = j
    · subst e; simp [h2, hi]
    · rw [if_neg e, h3 j hj]; simp [show ¬ j = i by omega]

theorem made_bool (w : World) (n : Nat) : BoolRow (w.alloc (.cells (madeCells #[.bool false] n) 4)) w.heap.size n (fun _ => false) := by
  refine ⟨_, heap_alloc_new _ _, by rw [size_madeCells], fun i hi => ?_⟩
  simp [madeCells, hi, Nat.mod_one]

theorem Try.info4w : (Try.prog.info? 4).map (fun i => (i.zero, i.size, i.bytes)) = some (some (.bool false), 1, 1) := by kernel_rfl

/-- How many of the n truths in block b are so. -/
def cntW (w : World) (b n : Nat) : Nat := ((List.range n).filter fun i => match w.cell? ⟨b, i, none⟩ with | some (.bool true) => true | _ => false).length
def cntB (g : Nat → Bool) (n : Nat) : Nat := ((List.range n).filter g).length

theorem cntW_eq {w : World} {b n : Nat} {g : Nat → Bool} (h : BoolRow w b n g) : cntW w b n = cntB g n := by
  unfold cntW cntB
  congr 1
  apply List.filter_congr
  intro i hi
  rw [(h.cell (by simpa using hi)).1]
  cases g i <;> rfl

theorem cntB_le (g : Nat → Bool) (n : Nat) : cntB g n ≤ n := by
  unfold cntB
  have := List.length_filter_le g (List.range n)
  simpa using this

theorem cntB_mark {g : Nat → Bool} {n k : Nat} (hk : k < n) (h : g k = false) : cntB g n < cntB (markB g k) n := by
  unfold cntB
  induction n with
  | zero => omega
  | succ n ih =>
    rw [List.range_succ, List.filter_append, List.filter_append, List.length_append, List.length_append]
    by_cases e : k = n
    · subst e
      have h1 : (List.range k).filter (markB g k) = (List.range k).filter g := by
        apply List.filter_congr
        intro i hi
        have : i < k := by simpa using hi
        unfold markB; simp [show ¬ i = k by omega]
      rw [h1]; simp [h, markB]
    · have := ih (by omega)
      have h2 : [n].filter (markB g k) = [n].filter g := by
        have : markB g k n = g n := by unfold markB; simp [show ¬ n = k by omega]
        simp [List.filter, this]
      rw [h2]; omega

/-- The places of a list are marked. -/
def markL (f : Nat → Bool) (xs : List Int) (i : Nat) : Bool := f i || decide ((i : Int) ∈ xs)

theorem markL_nil (f : Nat → Bool) : markL f [] = f := by funext i; simp [markL]
theorem markL_snoc {f : Nat → Bool} {xs : List Int} {j : Nat} : markB (markL f xs) j = markL f (xs ++ [(j : Int)]) := by
  funext i
  unfold markB markL
  rw [Bool.or_assoc]
  congr 1
  rw [Bool.eq_iff_iff]
  simp only [Bool.or_eq_true, decide_eq_true_iff, List.mem_append, List.mem_singleton]
  constructor
  · rintro (h | h)
    · exact .inl h
    · exact .inr (by omega)
  · rintro (h | h)
    · exact .inl h
    · exact .inr (by omega)

/-- What the marks are like. -/
structure FwM (A D : Nat → List Int) (p n : Nat) (s : Int) (f g : Nat → Bool) : Prop where
  has : f s.toNat = true
  only : ∀ i, i < p → f i = true → Rch A D n s (i : Int)
  tra : ∀ k, k < n → g k = true → (∃ x ∈ A k, f x.toNat = true) ∧ ∀ q ∈ D k, f q.toNat = true

def Within (A : Nat → List Int) (p n : Nat) : Prop := ∀ k, k < n → ∀ x ∈ A k, 0 ≤ x ∧ x < (p : Int)

theorem FwM.more {A D : Nat → List Int} {p n k : Nat} {s : Int} {f g : Nat → Bool} (h : FwM A D p n s f g) (hA : Within A p n) (hD : Within D p n) (hk : k < n) {x : Int} (hx : x ∈ A k) (hf : f x.toNat = true) : FwM A D p n s (markL f (D k)) (markB g k) := by
  have up : ∀ i, f i = true → markL f (D k) i = true := fun i hi => by unfold markL; rw [hi]; rfl
  have hxr := hA k hk x hx
  refine ⟨up _ h.has, fun i hi hm => ?_, fun j hj hg => ?_⟩
  · unfold markL at hm
    rw [Bool.or_eq_true, decide_eq_true_iff] at hm
    rcases hm with hm | hm
    · exact h.only i hi hm
    · refine .step (p := x) ?_ hk hx hm
      have := h.only x.toNat (by omega) hf
      rwa [show ((x.toNat : Nat) : Int) = x by omega] at this
  · unfold markB at hg
    rw [Bool.or_eq_true, decide_eq_true_iff] at hg
    rcases hg with hg | rfl
    · obtain ⟨⟨y, hy, hfy⟩, h2⟩ := h.tra j hj hg
      exact ⟨⟨y, hy, up _ hfy⟩, fun q hq => up _ (h2 q hq)⟩
    · refine ⟨⟨x, hx, up _ hf⟩, fun q hq => ?_⟩
      unfold markL
      have hq0 := hD j hj q hq
      simp [show max q 0 = q by omega, hq]

/-- Nothing more can be marked by k. -/
def Rest (A : Nat → List Int) (f g : Nat → Bool) (k : Nat) : Prop := g k = true ∨ ∀ x ∈ A k, f x.toNat = false

noncomputable def rchT (A D : Nat → List Int) (n : Nat) (s : Int) (k : Nat) : Bool := (A k).any fun x => rchB A D n s x.toNat

theorem FwM.done {A D : Nat → List Int} {p n : Nat} {s : Int} {f g : Nat → Bool} (h : FwM A D p n s f g) (hA : Within A p n) (hD : Within D p n) (hs : 0 ≤ s ∧ s < (p : Int)) (hr : ∀ k, k < n → Rest A f g k) :
    (∀ i, i < p → f i = rchB A D n s i) ∧ ∀ k, k < n → g k = rchT A D n s k := by
  have h1 : ∀ i, (decide (i < p) && f i) = rchB A D n s i := by
    refine rch_all ?_ ?_ ?_
    · simp [h.has]; omega
    · intro i hi
      rw [Bool.and_eq_true, decide_eq_true_iff] at hi
      exact h.only i hi.1 hi.2
    · intro k hk x hx hf q hq
      rw [Bool.and_eq_true, decide_eq_true_iff] at hf
      have hq' := hD k hk q hq
      rcases hr k hk with hg | hg
      · simp [(h.tra k hk hg).2 q hq]; omega
      · rw [hg x hx] at hf; simp at hf
  have h2 : ∀ i, i < p → f i = rchB A D n s i := fun i hi => by rw [← h1 i]; simp [hi]
  refine ⟨h2, fun k hk => ?_⟩
  rw [Bool.eq_iff_iff]
  unfold rchT
  rw [List.any_eq_true]
  constructor
  · intro hg
    obtain ⟨⟨x, hx, hf⟩, _⟩ := h.tra k hk hg
    have := hA k hk x hx
    exact ⟨x, hx, by rw [← h2 _ (by omega)]; exact hf⟩
  · rintro ⟨x, hx, hf⟩
    have := hA k hk x hx
    rw [← h2 _ (by omega)] at hf
    rcases hr k hk with hg | hg
    · exact hg
    · rw [hg x hx] at hf; simp at hf

theorem FwM.start {A D : Nat → List Int} {p n : Nat} {s : Int} (hs : 0 ≤ s) : FwM A D p n s (markB (fun _ => false) s.toNat) (fun _ => false) := by
  refine ⟨by simp [markB], fun i _ hi => ?_, fun k _ hk => by simp at hk⟩
  simp [markB] at hi
  rw [show ((i : Nat) : Int) = s by omega]; exact .base

/-- What l3Forward and l3Back keep in mind. -/
structure FwInv (w wr : World) (p : Nat) (a : Option Addr) (n c : Nat) (f g : Nat → Bool) : Prop where
  par : wr.heap[w.heap.size]? = some (.cells #[.int .i64 (p : Int), .slice a n c] 26 (0, 0))
  pl : BoolRow wr (w.heap.size + 1) p f
  tr : BoolRow wr (w.heap.size + 1 + 1) n g
  bel : Below w.heap.size w wr

theorem FwInv.grow {w wr v : World} {p n c : Nat} {a : Option Addr} {f g : Nat → Bool} (h : FwInv w wr p a n c f g) (hb : Below wr.heap.size wr v) : FwInv w v p a n c f g :=
  ⟨keep h.par hb, h.pl.grow hb, h.tr.grow hb, h.bel.trans (hb.mono h.bel.size)⟩

theorem FwInv.setP {w wr : World} {p n c i : Nat} {a : Option Addr} {f g : Nat → Bool} (h : FwInv w wr p a n c f g) (hi : i < p) : FwInv w (wr.setCell ⟨w.heap.size + 1, i, none⟩ (.bool true)) p a n c (markB f i) g :=
  ⟨(Below.heap_setCell _ _ _ _ (by simp)).trans h.par, h.pl.set hi, h.tr.other (by omega) _, h.bel.setCell (by simp) _⟩

theorem FwInv.setT {w wr : World} {p n c i : Nat} {a : Option Addr} {f g : Nat → Bool} (h : FwInv w wr p a n c f g) (hi : i < n) : FwInv w (wr.setCell ⟨w.heap.size + 1 + 1, i, none⟩ (.bool true)) p a n c f (markB g i) :=
  ⟨(Below.heap_setCell _ _ _ _ (by simp; omega)).trans h.par, h.pl.other (by omega) _, h.tr.set hi, h.bel.setCell (by simp; omega) _⟩

theorem made_boolS (w : World) (n s : Nat) (hs : s < n) : BoolRow (w.alloc (.cells ((madeCells #[.bool false] n).setIfInBounds s (.bool true)) 4)) w.heap.size n (markB (fun _ => false) s) := by
  refine ⟨_, heap_alloc_new _ _, by simp [size_madeCells], fun i hi => ?_⟩
  rw [Array.getElem?_setIfInBounds]
  unfold markB
  by_cases e : s = i
  · subst e; simp [size_madeCells, hs]
  · rw [if_neg e]; simp [madeCells, hi, Nat.mod_one]; omega

theorem FwInv.start (w : World) (p n c s : Nat) (a : Option Addr) (hs : s < p) : FwInv w (((w.alloc (.cells #[.int .i64 (p : Int), .slice a n c] 26)).alloc (.cells ((madeCells #[.bool false] p).setIfInBounds s (.bool true)) 4)).alloc (.cells (madeCells #[.bool false] n) 4)) p a n c (markB (fun _ => false) s) (fun _ => false) := by
  have h1 := made_boolS (w.alloc (.cells #[.int .i64 (p : Int), .slice a n c] 26)) p s hs
  have h2 := made_bool ((w.alloc (.cells #[.int .i64 (p : Int), .slice a n c] 26)).alloc (.cells ((madeCells #[.bool false] p).setIfInBounds s (.bool true)) 4)) n
  rw [show (w.alloc (.cells #[.int .i64 (p : Int), .slice a n c] 26)).heap.size = w.heap.size + 1 by simp] at h1
  rw [show ((w.alloc (.cells #[.int .i64 (p : Int), .slice a n c] 26)).alloc (.cells ((madeCells #[.bool false] p).setIfInBounds s (.bool true)) 4)).heap.size = w.heap.size + 1 + 1 by simp] at h2
  refine ⟨?_, h1.grow (below_al _ _), h2, ?_⟩
  · exact keep (keep (heap_alloc_new _ _) (below_al _ _)) (below_al _ _)
  · exact ((below_al w _).alloc (by simp) _).alloc (by simp; omega) _

/-- How l3Forward and l3Back end. -/
def FwEnd (F : Nat → Bool) (G : Nat → Bool) (p n : Nat) (w : World) (e : Ending) (w' : World) : Prop :=
  ∃ b1 b2, e = .returned (.tuple #[.slice (some ⟨b1, 0, none⟩) p p, .slice (some ⟨b2, 0, none⟩) n n]) ∧ BoolRow w' b1 p F ∧ BoolRow w' b2 n G ∧ Below w.heap.size w w'

theorem BoolRow.same {w : World} {b n : Nat} {f g : Nat → Bool} (h : BoolRow w b n f) (e : ∀ i, i < n → f i = g i) : BoolRow w b n g := by
  obtain ⟨C, h1, h2, h3⟩ := h
  exact ⟨C, h1, h2, fun i hi => by rw [← e i hi]; exact h3 i hi⟩
end Go.Proofs.Ytdhnhpjcoeglmaa


/- l3Forward and l3Back of the specification. -/
namespace Go.Proofs.Ytdhnhpjcoeglmaa
open Go.RowKit
set_option maxRecDepth 10000

theorem ret_2b {b1 b2 p n : Nat} {F G : Nat → Bool} {w w' : World} (h1 : BoolRow w' b1 p F) (h2 : BoolRow w' b2 n G) (hb : Below w.heap.size w w') : FwEnd F G p n w (.returned (.tuple #[.slice (some ⟨b1, 0, none⟩) p p, .slice (some ⟨b2, 0, none⟩) n n])) w' :=
  ⟨b1, b2, rfl, h1, h2, hb⟩

def moreOf : Value → Nat | .bool true => 1 | _ => 0

theorem any_take {f : Nat → Bool} {xs : List Int} {k : Nat} {x : Int} (h : xs[k]? = some x) : (xs.take (k + 1)).any (fun x => f x.toNat) = ((xs.take k).any (fun x => f x.toNat) || f x.toNat) := by
  rw [List.take_add_one, h, List.any_append]; simp

set_option maxHeartbeats 8000000 in
theorem forward_any (A D : Nat → List Int) (p s : Nat) (a : Option Addr) (n c : Nat) (L : List (List Int)) (w : World) (h : Lists w a (3 * n) L) (hn : n ≤ 24) (hp : p ≤ 16) (hs : s < p) (hz : sizeN n L ≤ 1048576)
    (hA : Within A p n) (hD : Within D p n) (eA : ∀ k, A k = L.getD (3 * k) []) (eD : ∀ k, D k = L.getD (3 * k + 1) []) :
    Calls Try.prog 185 #[.agg #[.int .i64 (p : Int), .slice a n c], .int .i64 (s : Int)] w fun e w' => FwEnd (rchB A D n (s : Int)) (rchT A D n (s : Int)) p n w e w' := by
  have hmk1 := run_make_many (P := Try.prog) 126 4 _ 1 1 Try.underlying126 Try.info4w .i64 .i64 p (by omega) (by omega)
  have hmk2 := run_make_many (P := Try.prog) 126 4 _ 1 1 Try.underlying126 Try.info4w .i64 .i64 n (by omega) (by omega)
  simp only [Value.cells, Nat.mul_one] at hmk1 hmk2
  have HL := hide h
  have HA := hide hA
  have HD := hide hD
  have EA := hide eA
  have ED := hide eD
  have HI1 := hide (FwInv.start w p n c s a hs)
  have HM0 := hide (FwM.start (A := A) (D := D) (p := p) (n := n) (s := (s : Int)) (by omega))
  have hz' : n + sizeL L ≤ 1048576 := hz
  clear h hA hD eA eD hz
  have hat : (madeCells #[.bool false] p)[s]? = some (.bool false) := by simp [madeCells, hs, Nat.mod_one]
  go_enter Try.func185, Try.ntmps185
  go_wp2_with fail
  obtain ⟨V, hV⟩ : ∃ V, Hid (((w.alloc (.cells #[.int .i64 (p : Int), .slice a n c] 26)).alloc (.cells ((madeCells #[.bool false] p).setIfInBounds s (.bool true)) 4)).alloc (.cells (madeCells #[.bool false] n) 4) = V) := ⟨_, rfl⟩
  rw [hV.out] at HI1 ⊢
  clear hmk1 hmk2 hat hV
  go_loopw [8] (fun m wr => ∃ (b : Bool) (f g : Nat → Bool), m = .bool b ∧ Hid (FwInv w wr p a n c f g) ∧ Hid (FwM A D p n (s : Int) f g) ∧ Hid (b = false → ∀ k, k < n → Rest A f g k)) (fun m wr => 2 * (n - cntW wr (w.heap.size + 1 + 1) n) + moreOf m)
  case atStart => exact ⟨true, _, _, rfl, HI1, HM0, fun e => by simp at e⟩
  case round =>
    obtain ⟨b, f, g, rfl, hin, hm, hr⟩ := hrel
    clear HI1 HM0
    cases b
    · have HF := hide (hm.out.done HA.out HD.out ⟨by omega, by omega⟩ (hr.out rfl))
      have HE := hide (ret_2b (hin.out.pl.same HF.out.1) (hin.out.tr.same HF.out.2) hin.out.bel)
      go_wp2_with fail
      go_ret2
      exact HE.out
    have HCNT := hide (cntW_eq hin.out.tr)
    obtain ⟨hc0, hc1⟩ := cells2 hin.out.par
    generalize wr = v0 at *
    go_wp2_with fail
    clear hc0 hc1 hr
    go_loopw [8, 30] (fun m i wr => ∃ (b : Bool) (k : Nat) (f' g' : Nat → Bool), k ≤ n ∧ i = .int .i64 k ∧ m = .bool b ∧ Hid (FwInv w wr p a n c f' g') ∧ Hid (FwM A D p n (s : Int) f' g') ∧ Hid (b = false → cntB g n = cntB g' n ∧ ∀ j, j < k → Rest A f' g' j) ∧ Hid (b = true → cntB g n < cntB g' n)) (fun _ i _ => n - (intOf i).toNat)
    case atStart => exact ⟨false, 0, f, g, Nat.zero_le _, rfl, rfl, hin, hm, fun _ => ⟨rfl, fun j hj => absurd hj (by omega)⟩, fun e => by simp at e⟩
    case round =>
      clear hin hm
      obtain ⟨b, k, f', g', hk, rfl, rfl, hin, hm, hr0, hr1⟩ := hrel
      by_cases hlt : k < n
      rotate_left
      · have hk' : k = n := by omega
        subst hk'
        have HC2 := hide (cntW_eq hin.out.tr)
        have hle := cntB_le g' k
        have hle0 := cntB_le g k
        go_wp2_with fail
        go_roundw
        case rel => exact ⟨b, f', g', rfl, hin, hm, fun e => (hr0.out e).2⟩
        case measure =>
          rw [HCNT.out, HC2.out]
          cases b
          · have := (hr0.out rfl).1; simp [moreOf]; omega
          · have := hr1.out rfl; simp [moreOf]; omega
      obtain ⟨b0, off, a0, n0, c0, a1, n1, c1, a2, n2, c2, rfl, hb, hrg, m0, m1, m2, r0, r1, r2⟩ := HL.out.tri hlt
      obtain ⟨hw0, hw1, hw2⟩ := rangeAt_cells3 hrg
      have hc0 := (hin.out.bel.cell (p := ⟨b0, off + k * 3, none⟩) hb).trans hw0
      have hc1 := (hin.out.bel.cell (p := ⟨b0, off + k * 3 + 1, none⟩) hb).trans hw1
      have hc2 := (hin.out.bel.cell (p := ⟨b0, off + k * 3 + 2, none⟩) hb).trans hw2
      have hbw : b0 < wr.heap.size := Nat.lt_of_lt_of_le hb hin.out.bel.size
      have hvl := hin.out.tr.lt
      have hln := len_le L (3 * k)
      have hln2 := len_le L (3 * k + 1)
      rw [← EA.out k] at hln r0
      rw [← ED.out k] at hln2 r1
      have hA1 := below_al wr (.cells #[.slice a0 n0 c0, .slice a1 n1 c1, .slice a2 n2 c2] 78)
      have HI1 := hide (hin.out.grow hA1)
      have RA := hide r0
      have RD := hide r1
      have q0 : n0 ≤ 1048576 := by have := r0.1; omega
      have q1 : n1 ≤ 1048576 := by have := r1.1; omega
      have HX := hide (heap_alloc_new wr (.cells #[.slice a0 n0 c0, .slice a1 n1 c1, .slice a2 n2 c2] 78))
      clear hin hrg r0 r1 r2 m0 m1 m2 hln hln2 hA1 hb hw0 hw1 hw2
      generalize wr = v1 at *
      go_wp2_with fail
      obtain ⟨v2, hv2⟩ : ∃ v, Hid (v1.alloc (.cells #[.slice a0 n0 c0, .slice a1 n1 c1, .slice a2 n2 c2] 78) = v) := ⟨_, rfl⟩
      rw [hv2.out] at HI1 HX ⊢
      clear hv2 hc0 hc1 hc2
      go_loop [11, 38] (fun cm i => ∃ j : Nat, j ≤ n0 ∧ i = .int .i64 j ∧ cm = .bool (((A k).take j).any (fun x => f' x.toNat))) (fun _ i => n0 - (intOf i).toNat)
      case atStart => exact ⟨0, Nat.zero_le _, rfl, rfl⟩
      case round =>
        obtain ⟨j, hj, rfl, rfl⟩ := hrel
        by_cases hjl : j < n0
        · obtain ⟨b1, o1, x, rfl, hl1, hc1, H1⟩ := (RA.out.below HI1.out.bel).at hjl
          obtain ⟨hx0, hx1⟩ := HA.out k hlt x (List.mem_of_getElem? H1.out)
          obtain ⟨q, rfl⟩ : ∃ q : Nat, x = (q : Int) := ⟨x.toNat, by omega⟩
          have hqp : q < p := by omega
          obtain ⟨hcq, hfq⟩ := HI1.out.pl.cell hqp
          have HT := hide (any_take (f := f') H1.out)
          rw [Int.toNat_natCast] at HT
          clear H1 hx0 hx1 hfq
          cases hcm : ((A k).take j).any (fun x => f' x.toNat)
          · rw [hcm, Bool.false_or] at HT
            go_wp2_with fail
            go_round
            case rel => exact ⟨j + 1, by omega, by go_num, by rw [HT.out]⟩
            case measure => simp [intOf]; omega
          · rw [hcm, Bool.true_or] at HT
            go_wp2_with fail
            go_round
            case rel => exact ⟨j + 1, by omega, by go_num, by rw [HT.out]⟩
            case measure => simp [intOf]; omega
        have hj' : j = n0 := by omega
        subst hj'
        rw [List.take_of_length_le (by have := RA.out.1; omega)]
        obtain ⟨hck, hfk⟩ := HI1.out.tr.cell hlt
        have HI2 := hide (HI1.out.setT hlt)
        cases hcm : (A k).any (fun x => f' x.toNat)
        · have HRE : Hid (b = false → cntB g n = cntB g' n ∧ ∀ j, j < k + 1 → Rest A f' g' j) := fun e => ⟨(hr0.out e).1, fun j hj => if h : j < k then (hr0.out e).2 j h else (by rw [show j = k by omega]; exact .inr fun x hx => by have := List.any_eq_false.mp hcm x hx; simpa using this)⟩
          clear hr0 hcm HI2
          go_wp2_with fail
          go_roundw
          case rel => exact ⟨b, k + 1, f', g', by omega, by go_num, rfl, HI1, hm, HRE, hr1⟩
          case measure => simp [intOf]; omega
        cases hgk : g' k
        rotate_left
        · have HRE : Hid (b = false → cntB g n = cntB g' n ∧ ∀ j, j < k + 1 → Rest A f' g' j) := fun e => ⟨(hr0.out e).1, fun j hj => if h : j < k then (hr0.out e).2 j h else (by rw [show j = k by omega]; exact .inl hgk)⟩
          rw [hgk] at hck
          clear hr0 hcm HI2 hgk
          go_wp2_with fail
          go_roundw
          case rel => exact ⟨b, k + 1, f', g', by omega, by go_num, rfl, HI1, hm, HRE, hr1⟩
          case measure => simp [intOf]; omega
        have HM2 : Hid (FwM A D p n (s : Int) (markL f' (D k)) (markB g' k)) := by
          obtain ⟨x, hx, hf⟩ := List.any_eq_true.mp hcm
          exact hm.out.more HA.out HD.out hlt hx hf
        have HC2 : Hid (cntB g n < cntB (markB g' k) n) := by
          show _ < _
          have h1 := cntB_mark hlt hgk
          cases b
          · have := (hr0.out rfl).1; omega
          · have := hr1.out rfl; omega
        rw [hgk] at hck
        have hXc := cell_of_row v2 _ 0 _ _ _ HX.out
        have hXd := cell_of_row v2 _ 1 _ _ _ HX.out
        have hXe := cell_of_row v2 _ 2 _ _ _ HX.out
        simp at hXc hXd hXe
        clear hr0 hr1 hcm hgk hm HI1
        go_wp2_with fail
        clear hXc hXd hXe HX hck hfk
        go_loopw [64] (fun i wr => ∃ j : Nat, j ≤ n1 ∧ i = .int .i64 j ∧ Hid (FwInv w wr p (some ⟨b0, off, none⟩) n c (markL f' ((D k).take j)) (markB g' k))) (fun i _ => n1 - (intOf i).toNat)
        case atStart => exact ⟨0, Nat.zero_le _, rfl, by rw [List.take_zero, markL_nil]; exact HI2⟩
        case round =>
          obtain ⟨j, hj, rfl, hin⟩ := hrel
          by_cases hjl : j < n1
          · obtain ⟨b1, o1, x, rfl, hl1, hc1, H1⟩ := (RD.out.below hin.out.bel).at hjl
            obtain ⟨hx0, hx1⟩ := HD.out k hlt x (List.mem_of_getElem? H1.out)
            obtain ⟨q, rfl⟩ : ∃ q : Nat, x = (q : Int) := ⟨x.toNat, by omega⟩
            have hqp : q < p := by omega
            obtain ⟨hcq, hfq⟩ := hin.out.pl.cell hqp
            have HI3 := hide (hin.out.setP hqp)
            rw [markL_snoc, show (D k).take j ++ [(q : Int)] = (D k).take (j + 1) by rw [List.take_add_one, H1.out]; rfl] at HI3
            clear H1 hx0 hx1 hin
            go_wp2_with fail
            go_roundw
            case rel => exact ⟨j + 1, by omega, by go_num, HI3⟩
            case measure => simp [intOf]; omega
          have hj' : j = n1 := by omega
          subst hj'
          rw [List.take_of_length_le (by have := RD.out.1; omega)] at hin
          go_wp2_with fail
          go_roundw
          case rel => exact ⟨true, k + 1, _, _, by omega, by go_num, rfl, hin, HM2, (fun e => by simp at e), fun _ => HC2.out⟩
          case measure => simp [intOf]; omega

set_option maxHeartbeats 8000000 in
theorem backW_any (A D : Nat → List Int) (p s : Nat) (a : Option Addr) (n c : Nat) (L : List (List Int)) (w : World) (h : Lists w a (3 * n) L) (hn : n ≤ 24) (hp : p ≤ 16) (hs : s < p) (hz : sizeN n L ≤ 1048576)
    (hA : Within A p n) (hD : Within D p n) (eA : ∀ k, A k = L.getD (3 * k + 1) []) (eD : ∀ k, D k = L.getD (3 * k) []) :
    Calls Try.prog 186 #[.agg #[.int .i64 (p : Int), .slice a n c], .int .i64 (s : Int)] w fun e w' => FwEnd (rchB A D n (s : Int)) (rchT A D n (s : Int)) p n w e w' := by
  have hmk1 := run_make_many (P := Try.prog) 126 4 _ 1 1 Try.underlying126 Try.info4w .i64 .i64 p (by omega) (by omega)
  have hmk2 := run_make_many (P := Try.prog) 126 4 _ 1 1 Try.underlying126 Try.info4w .i64 .i64 n (by omega) (by omega)
  simp only [Value.cells, Nat.mul_one] at hmk1 hmk2
  have HL := hide h
  have HA := hide hA
  have HD := hide hD
  have EA := hide eA
  have ED := hide eD
  have HI1 := hide (FwInv.start w p n c s a hs)
  have HM0 := hide (FwM.start (A := A) (D := D) (p := p) (n := n) (s := (s : Int)) (by omega))
  have hz' : n + sizeL L ≤ 1048576 := hz
  clear h hA hD eA eD hz
  have hat : (madeCells #[.bool false] p)[s]? = some (.bool false) := by simp [madeCells, hs, Nat.mod_one]
  go_enter Try.func186, Try.ntmps186
  go_wp2_with fail
  obtain ⟨V, hV⟩ : ∃ V, Hid (((w.alloc (.cells #[.int .i64 (p : Int), .slice a n c] 26)).alloc (.cells ((madeCells #[.bool false] p).setIfInBounds s (.bool true)) 4)).alloc (.cells (madeCells #[.bool false] n) 4) = V) := ⟨_, rfl⟩
  rw [hV.out] at HI1 ⊢
  clear hmk1 hmk2 hat hV
  go_loopw [8] (fun m wr => ∃ (b : Bool) (f g : Nat → Bool), m = .bool b ∧ Hid (FwInv w wr p a n c f g) ∧ Hid (FwM A D p n (s : Int) f g) ∧ Hid (b = false → ∀ k, k < n → Rest A f g k)) (fun m wr => 2 * (n - cntW wr (w.heap.size + 1 + 1) n) + moreOf m)
  case atStart => exact ⟨true, _, _, rfl, HI1, HM0, fun e => by simp at e⟩
  case round =>
    obtain ⟨b, f, g, rfl, hin, hm, hr⟩ := hrel
    clear HI1 HM0
    cases b
    · have HF := hide (hm.out.done HA.out HD.out ⟨by omega, by omega⟩ (hr.out rfl))
      have HE := hide (ret_2b (hin.out.pl.same HF.out.1) (hin.out.tr.same HF.out.2) hin.out.bel)
      go_wp2_with fail
      go_ret2
      exact HE.out
    have HCNT := hide (cntW_eq hin.out.tr)
    obtain ⟨hc0, hc1⟩ := cells2 hin.out.par
    generalize wr = v0 at *
    go_wp2_with fail
    clear hc0 hc1 hr
    go_loopw [8, 30] (fun m i wr => ∃ (b : Bool) (k : Nat) (f' g' : Nat → Bool), k ≤ n ∧ i = .int .i64 k ∧ m = .bool b ∧ Hid (FwInv w wr p a n c f' g') ∧ Hid (FwM A D p n (s : Int) f' g') ∧ Hid (b = false → cntB g n = cntB g' n ∧ ∀ j, j < k → Rest A f' g' j) ∧ Hid (b = true → cntB g n < cntB g' n)) (fun _ i _ => n - (intOf i).toNat)
    case atStart => exact ⟨false, 0, f, g, Nat.zero_le _, rfl, rfl, hin, hm, fun _ => ⟨rfl, fun j hj => absurd hj (by omega)⟩, fun e => by simp at e⟩
    case round =>
      clear hin hm
      obtain ⟨b, k, f', g', hk, rfl, rfl, hin, hm, hr0, hr1⟩ := hrel
      by_cases hlt : k < n
      rotate_left
      · have hk' : k = n := by omega
        subst hk'
        have HC2 := hide (cntW_eq hin.out.tr)
        have hle := cntB_le g' k
        have hle0 := cntB_le g k
        go_wp2_with fail
        go_roundw
        case rel => exact ⟨b, f', g', rfl, hin, hm, fun e => (hr0.out e).2⟩
        case measure =>
          rw [HCNT.out, HC2.out]
          cases b
          · have := (hr0.out rfl).1; simp [moreOf]; omega
          · have := hr1.out rfl; simp [moreOf]; omega
      obtain ⟨b0, off, a0, n0, c0, a1, n1, c1, a2, n2, c2, rfl, hb, hrg, m0, m1, m2, r0, r1, r2⟩ := HL.out.tri hlt
      obtain ⟨hw0, hw1, hw2⟩ := rangeAt_cells3 hrg
      have hc0 := (hin.out.bel.cell (p := ⟨b0, off + k * 3, none⟩) hb).trans hw0
      have hc1 := (hin.out.bel.cell (p := ⟨b0, off + k * 3 + 1, none⟩) hb).trans hw1
      have hc2 := (hin.out.bel.cell (p := ⟨b0, off + k * 3 + 2, none⟩) hb).trans hw2
      have hbw : b0 < wr.heap.size := Nat.lt_of_lt_of_le hb hin.out.bel.size
      have hvl := hin.out.tr.lt
      have hln := len_le L (3 * k + 1)
      have hln2 := len_le L (3 * k)
      rw [← EA.out k] at hln r1
      rw [← ED.out k] at hln2 r0
      have hA1 := below_al wr (.cells #[.slice a0 n0 c0, .slice a1 n1 c1, .slice a2 n2 c2] 78)
      have HI1 := hide (hin.out.grow hA1)
      have RA := hide r1
      have RD := hide r0
      have q0 : n1 ≤ 1048576 := by have := r1.1; omega
      have q1 : n0 ≤ 1048576 := by have := r0.1; omega
      have HX := hide (heap_alloc_new wr (.cells #[.slice a0 n0 c0, .slice a1 n1 c1, .slice a2 n2 c2] 78))
      clear hin hrg r0 r1 r2 m0 m1 m2 hln hln2 hA1 hb hw0 hw1 hw2
      generalize wr = v1 at *
      go_wp2_with fail
      obtain ⟨v2, hv2⟩ : ∃ v, Hid (v1.alloc (.cells #[.slice a0 n0 c0, .slice a1 n1 c1, .slice a2 n2 c2] 78) = v) := ⟨_, rfl⟩
      rw [hv2.out] at HI1 HX ⊢
      clear hv2 hc0 hc1 hc2
      go_loop [11, 38] (fun cm i => ∃ j : Nat, j ≤ n1 ∧ i = .int .i64 j ∧ cm = .bool (((A k).take j).any (fun x => f' x.toNat))) (fun _ i => n1 - (intOf i).toNat)
      case atStart => exact ⟨0, Nat.zero_le _, rfl, rfl⟩
      case round =>
        obtain ⟨j, hj, rfl, rfl⟩ := hrel
        by_cases hjl : j < n1
        · obtain ⟨b1, o1, x, rfl, hl1, hc1, H1⟩ := (RA.out.below HI1.out.bel).at hjl
          obtain ⟨hx0, hx1⟩ := HA.out k hlt x (List.mem_of_getElem? H1.out)
          obtain ⟨q, rfl⟩ : ∃ q : Nat, x = (q : Int) := ⟨x.toNat, by omega⟩
          have hqp : q < p := by omega
          obtain ⟨hcq, hfq⟩ := HI1.out.pl.cell hqp
          have HT := hide (any_take (f := f') H1.out)
          rw [Int.toNat_natCast] at HT
          clear H1 hx0 hx1 hfq
          cases hcm : ((A k).take j).any (fun x => f' x.toNat)
          · rw [hcm, Bool.false_or] at HT
            go_wp2_with fail
            go_round
            case rel => exact ⟨j + 1, by omega, by go_num, by rw [HT.out]⟩
            case measure => simp [intOf]; omega
          · rw [hcm, Bool.true_or] at HT
            go_wp2_with fail
            go_round
            case rel => exact ⟨j + 1, by omega, by go_num, by rw [HT.out]⟩
            case measure => simp [intOf]; omega
        have hj' : j = n1 := by omega
        subst hj'
        rw [List.take_of_length_le (by have := RA.out.1; omega)]
        obtain ⟨hck, hfk⟩ := HI1.out.tr.cell hlt
        have HI2 := hide (HI1.out.setT hlt)
        cases hcm : (A k).any (fun x => f' x.toNat)
        · have HRE : Hid (b = false → cntB g n = cntB g' n ∧ ∀ j, j < k + 1 → Rest A f' g' j) := fun e => ⟨(hr0.out e).1, fun j hj => if h : j < k then (hr0.out e).2 j h else (by rw [show j = k by omega]; exact .inr fun x hx => by have := List.any_eq_false.mp hcm x hx; simpa using this)⟩
          clear hr0 hcm HI2
          go_wp2_with fail
          go_roundw
          case rel => exact ⟨b, k + 1, f', g', by omega, by go_num, rfl, HI1, hm, HRE, hr1⟩
          case measure => simp [intOf]; omega
        cases hgk : g' k
        rotate_left
        · have HRE : Hid (b = false → cntB g n = cntB g' n ∧ ∀ j, j < k + 1 → Rest A f' g' j) := fun e => ⟨(hr0.out e).1, fun j hj => if h : j < k then (hr0.out e).2 j h else (by rw [show j = k by omega]; exact .inl hgk)⟩
          rw [hgk] at hck
          clear hr0 hcm HI2 hgk
          go_wp2_with fail
          go_roundw
          case rel => exact ⟨b, k + 1, f', g', by omega, by go_num, rfl, HI1, hm, HRE, hr1⟩
          case measure => simp [intOf]; omega
        have HM2 : Hid (FwM A D p n (s : Int) (markL f' (D k)) (markB g' k)) := by
          obtain ⟨x, hx, hf⟩ := List.any_eq_true.mp hcm
          exact hm.out.more HA.out HD.out hlt hx hf
        have HC2 : Hid (cntB g n < cntB (markB g' k) n) := by
          show _ < _
          have h1 := cntB_mark hlt hgk
          cases b
          · have := (hr0.out rfl).1; omega
          · have := hr1.out rfl; omega
        rw [hgk] at hck
        have hXc := cell_of_row v2 _ 0 _ _ _ HX.out
        have hXd := cell_of_row v2 _ 1 _ _ _ HX.out
        have hXe := cell_of_row v2 _ 2 _ _ _ HX.out
        simp at hXc hXd hXe
        clear hr0 hr1 hcm hgk hm HI1
        go_wp2_with fail
        clear hXc hXd hXe HX hck hfk
        go_loopw [64] (fun i wr => ∃ j : Nat, j ≤ n0 ∧ i = .int .i64 j ∧ Hid (FwInv w wr p (some ⟨b0, off, none⟩) n c (markL f' ((D k).take j)) (markB g' k))) (fun i _ => n0 - (intOf i).toNat)
        case atStart => exact ⟨0, Nat.zero_le _, rfl, by rw [List.take_zero, markL_nil]; exact HI2⟩
        case round =>
          obtain ⟨j, hj, rfl, hin⟩ := hrel
          by_cases hjl : j < n0
          · obtain ⟨b1, o1, x, rfl, hl1, hc1, H1⟩ := (RD.out.below hin.out.bel).at hjl
            obtain ⟨hx0, hx1⟩ := HD.out k hlt x (List.mem_of_getElem? H1.out)
            obtain ⟨q, rfl⟩ : ∃ q : Nat, x = (q : Int) := ⟨x.toNat, by omega⟩
            have hqp : q < p := by omega
            obtain ⟨hcq, hfq⟩ := hin.out.pl.cell hqp
            have HI3 := hide (hin.out.setP hqp)
            rw [markL_snoc, show (D k).take j ++ [(q : Int)] = (D k).take (j + 1) by rw [List.take_add_one, H1.out]; rfl] at HI3
            clear H1 hx0 hx1 hin
            go_wp2_with fail
            go_roundw
            case rel => exact ⟨j + 1, by omega, by go_num, HI3⟩
            case measure => simp [intOf]; omega
          have hj' : j = n0 := by omega
          subst hj'
          rw [List.take_of_length_le (by have := RD.out.1; omega)] at hin
          go_wp2_with fail
          go_roundw
          case rel => exact ⟨true, k + 1, _, _, by omega, by go_num, rfl, hin, HM2, (fun e => by simp at e), fun _ => HC2.out⟩
          case measure => simp [intOf]; omega

end Go.Proofs.Ytdhnhpjcoeglmaa


/- walk of the program: the places that can be come to, by a goto. -/
namespace Go.Proofs.Ytdhnhpjcoeglmaa
open Go.RowKit
set_option maxRecDepth 10000

theorem PartS.atW {w : World} {B n k : Nat} {L : List (List Int)} (h : PartS w B (3 * n) (3 * n) L) (hk : k < n) :
    w.cell? ⟨B, k * 3, none⟩ = some (.int .u16 (maskL (L.getD (3 * k) []) : Int)) ∧ w.cell? ⟨B, k * 3 + 1, none⟩ = some (.int .u16 (maskL (L.getD (3 * k + 1) []) : Int)) ∧ w.cell? ⟨B, k * 3 + 2, none⟩ = some (.int .u16 (maskL (L.getD (3 * k + 2) []) : Int)) := by
  obtain ⟨C, h1, h2, h3⟩ := h
  refine ⟨?_, ?_, ?_⟩
  · rw [cell_of_row w B _ C _ _ h1, Nat.mul_comm]; exact h3 _ (by omega)
  · rw [cell_of_row w B _ C _ _ h1, Nat.mul_comm]; exact h3 _ (by omega)
  · rw [cell_of_row w B _ C _ _ h1, Nat.mul_comm]; exact h3 _ (by omega)

theorem wp_scope_jumps2 {P : Program} {a : Act} {w : World} {Q : Exit → Act → World → Prop} {c rest : Code} (l : Nat) (J : Act → World → Prop) (μ : Act → World → Nat) (hf : findLabel c l = some (Code.skip.seq rest))
    (first : c.wp P (Exit.jump l J Q) a w)
    (pass : ∀ a w, J a w → rest.wp P (Exit.jump l (fun a' w' => J a' w' ∧ μ a' w' < μ a w) Q) a w) : (Code.scope c).wp P Q a w :=
  wp_scope_jumps l J μ hf first fun a w h => wp_seq (wp_skip (pass a w h))

theorem ret_u16 {a b : Nat} (h : a = b) : Ending.returned (.int .u16 (a : Int)) = .returned (.int .u16 (b : Int)) := by rw [h]

/-- What walk keeps in mind at the label. -/
structure WkInv (w wr : World) (p : Int) (B n m : Nat) (A D : Nat → List Int) (s : Int) : Prop where
  par : wr.heap[w.heap.size]? = some (.cells #[.int .i64 p, .slice (some ⟨B, 0, none⟩) n n] 82 (0, 0))
  bel : Below w.heap.size w wr
  come : Come A D n s m

end Go.Proofs.Ytdhnhpjcoeglmaa
